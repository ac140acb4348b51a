/-
  DERIVED. GIVEN WITH THE SEED: THE CARDS: each row of YtchifnaafboefabDoorRows.lean that lists a variable, with what it lists TIED to the program's text (the seventh form; the later family's looks); each row that meets fmt, with fmt's text TOLD by the authors' own Lean function (tested against real Go, not proved from fmt's source: count such statements apart). THE CARD IS WHAT COUNTS. Prove the row's statement (the work); the ties are given (YtchifnaafboefabDoorTie.lean); close each card by the builder's one call (the guide's Derived/Test/ToyasCard.lean, 'card_holds'). Laid BY PROGRAM, IN A SANDBOX (cutbox-door.mjs). By AI agents, Wed Nov 11 2026. No macro, syntax, notation, axiom, sorry.
-/
import Derived.Test.YtchifnaafboefabDoorRows
import GoSem.ClaimSeven
namespace Go.Proofs.YtchifnaafboefabDoor
namespace Rows

/-- THE TIED CARD OF 'cantuslaw2.PitchTurns'. -/
def pitchTurnsCard : Claim7 := { stood := { row := pitchTurnsRow, standIns := [], harness := (true, "d15d7e8bdd7cfafbdad91a6882f2304d409c330cf866832a611366ffc2658ab7"), looks := true }, kinds := [], alts := [], laidByText := true, laidKinds := [.data, .data, .data, .sentinel, .sentinel, .data, .data], laidTests := true, laidLooks := .later }
def PitchTurnsCardSaid : Prop := Claim7.holds Tryd.pinned (.plain (OpenSpec.ofChange pitchTurnsSpec)) pitchTurnsCard

/-- THE TIED CARD OF 'cantuslaw2.PitchTorsor'. -/
def pitchTorsorCard : Claim7 := { stood := { row := pitchTorsorRow, standIns := [], harness := (true, "d15d7e8bdd7cfafbdad91a6882f2304d409c330cf866832a611366ffc2658ab7"), looks := true }, kinds := [], alts := [], laidByText := true, laidKinds := [.data], laidTests := true, laidLooks := .later }
def PitchTorsorCardSaid : Prop := Claim7.holds Tryd.pinned (.plain (OpenSpec.ofChange pitchTorsorSpec)) pitchTorsorCard

/-- THE TIED CARD OF 'cantuslaw2.PitchMirror'. -/
def pitchMirrorCard : Claim7 := { stood := { row := pitchMirrorRow, standIns := [], harness := (true, "d15d7e8bdd7cfafbdad91a6882f2304d409c330cf866832a611366ffc2658ab7"), looks := true }, kinds := [], alts := [], laidByText := true, laidKinds := [.data], laidTests := true, laidLooks := .later }
def PitchMirrorCardSaid : Prop := Claim7.holds Tryd.pinned (.plain (OpenSpec.ofChange pitchMirrorSpec)) pitchMirrorCard

/-- THE SECOND FORM's CARD OF 'cantuslaw2.PitchTurns'. -/
def pitchTurnsUptoCard : Claim7 := { stood := { row := pitchTurnsUptoRow, standIns := [], harness := (true, "d15d7e8bdd7cfafbdad91a6882f2304d409c330cf866832a611366ffc2658ab7"), looks := true }, kinds := [], alts := [], laidByText := true, laidKinds := [.data, .data, .data, .sentinel, .sentinel, .data, .data], laidTests := true, laidLooks := .later }
def PitchTurnsUptoCardSaid : Prop := Claim7.holds Tryd.pinned (.plain (OpenSpec.upto pitchTurnsSpec)) pitchTurnsUptoCard

/-- THE SECOND FORM's CARD OF 'cantuslaw2.PitchTorsor'. -/
def pitchTorsorUptoCard : Claim7 := { stood := { row := pitchTorsorUptoRow, standIns := [], harness := (true, "d15d7e8bdd7cfafbdad91a6882f2304d409c330cf866832a611366ffc2658ab7"), looks := true }, kinds := [], alts := [], laidByText := true, laidKinds := [.data], laidTests := true, laidLooks := .later }
def PitchTorsorUptoCardSaid : Prop := Claim7.holds Tryd.pinned (.plain (OpenSpec.upto pitchTorsorSpec)) pitchTorsorUptoCard

/-- THE SECOND FORM's CARD OF 'cantuslaw2.PitchMirror'. -/
def pitchMirrorUptoCard : Claim7 := { stood := { row := pitchMirrorUptoRow, standIns := [], harness := (true, "d15d7e8bdd7cfafbdad91a6882f2304d409c330cf866832a611366ffc2658ab7"), looks := true }, kinds := [], alts := [], laidByText := true, laidKinds := [.data], laidTests := true, laidLooks := .later }
def PitchMirrorUptoCardSaid : Prop := Claim7.holds Tryd.pinned (.plain (OpenSpec.upto pitchMirrorSpec)) pitchMirrorUptoCard
end Rows
end Go.Proofs.YtchifnaafboefabDoor
