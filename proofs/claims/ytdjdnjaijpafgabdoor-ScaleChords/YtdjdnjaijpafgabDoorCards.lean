/-
  DERIVED. GIVEN WITH THE SEED: THE CARDS: each row of YtdjdnjaijpafgabDoorRows.lean that lists a variable, with what it lists TIED to the program's text (the seventh form; the later family's looks); each row that meets fmt, with fmt's text TOLD by the authors' own Lean function (tested against real Go, not proved from fmt's source: count such statements apart). THE CARD IS WHAT COUNTS. Prove the row's statement (the work); the ties are given (YtdjdnjaijpafgabDoorTie.lean); close each card by the builder's one call (the guide's Derived/Test/ToyasCard.lean, 'card_holds'). Laid BY PROGRAM, IN A SANDBOX (cutbox-door.mjs). By AI agents, Wed Nov 11 2026. No macro, syntax, notation, axiom, sorry.
-/
import Derived.Test.YtdjdnjaijpafgabDoorRows
import GoSem.ClaimSeven
namespace Go.Proofs.YtdjdnjaijpafgabDoor
namespace Rows

/-- THE TIED CARD OF 'cantuslaw2.PitchTurns'. -/
def pitchTurnsCard : Claim7 := { stood := { row := pitchTurnsRow, standIns := [], harness := (true, "06d7d61b58ec548363eb844a96b4a10645cdccbfe4ecebd922091eb1fcca41cc"), looks := true }, kinds := [], alts := [], laidByText := true, laidKinds := [.data, .data, .data, .sentinel, .sentinel, .data, .data], laidTests := true, laidLooks := .later }
def PitchTurnsCardSaid : Prop := Claim7.holds Tryd.pinned (.plain (OpenSpec.ofChange pitchTurnsSpec)) pitchTurnsCard

/-- THE TIED CARD OF 'cantuslaw2.PitchTorsor'. -/
def pitchTorsorCard : Claim7 := { stood := { row := pitchTorsorRow, standIns := [], harness := (true, "06d7d61b58ec548363eb844a96b4a10645cdccbfe4ecebd922091eb1fcca41cc"), looks := true }, kinds := [], alts := [], laidByText := true, laidKinds := [.data], laidTests := true, laidLooks := .later }
def PitchTorsorCardSaid : Prop := Claim7.holds Tryd.pinned (.plain (OpenSpec.ofChange pitchTorsorSpec)) pitchTorsorCard

/-- THE TIED CARD OF 'cantuslaw2.PitchMirror'. -/
def pitchMirrorCard : Claim7 := { stood := { row := pitchMirrorRow, standIns := [], harness := (true, "06d7d61b58ec548363eb844a96b4a10645cdccbfe4ecebd922091eb1fcca41cc"), looks := true }, kinds := [], alts := [], laidByText := true, laidKinds := [.data], laidTests := true, laidLooks := .later }
def PitchMirrorCardSaid : Prop := Claim7.holds Tryd.pinned (.plain (OpenSpec.ofChange pitchMirrorSpec)) pitchMirrorCard

/-- THE TIED CARD OF 'cantuslaw3.ScaleKeys'. -/
def scaleKeysCard : Claim7 := { stood := { row := scaleKeysRow, standIns := [], harness := (true, "06d7d61b58ec548363eb844a96b4a10645cdccbfe4ecebd922091eb1fcca41cc"), looks := true }, kinds := [], alts := [], laidByText := true, laidKinds := [.data, .data, .data], laidTests := true, laidLooks := .later }
def ScaleKeysCardSaid : Prop := Claim7.holds Tryd.pinned (.plain (OpenSpec.ofChange scaleKeysSpec)) scaleKeysCard

/-- THE TIED CARD OF 'cantuslaw3.ScaleChords'. -/
def scaleChordsCard : Claim7 := { stood := { row := scaleChordsRow, standIns := [], harness := (true, "06d7d61b58ec548363eb844a96b4a10645cdccbfe4ecebd922091eb1fcca41cc"), looks := true }, kinds := [], alts := [], laidByText := true, laidKinds := [.data, .data], laidTests := true, laidLooks := .later }
def ScaleChordsCardSaid : Prop := Claim7.holds Tryd.pinned (.plain (OpenSpec.ofChange scaleChordsSpec)) scaleChordsCard

/-- THE TIED CARD OF 'cantuslaw3.ScaleSteps'. -/
def scaleStepsCard : Claim7 := { stood := { row := scaleStepsRow, standIns := [], harness := (true, "06d7d61b58ec548363eb844a96b4a10645cdccbfe4ecebd922091eb1fcca41cc"), looks := true }, kinds := [], alts := [], laidByText := true, laidKinds := [.data, .data], laidTests := true, laidLooks := .later }
def ScaleStepsCardSaid : Prop := Claim7.holds Tryd.pinned (.plain (OpenSpec.ofChange scaleStepsSpec)) scaleStepsCard

/-- THE SECOND FORM's CARD OF 'cantuslaw2.PitchTurns'. -/
def pitchTurnsUptoCard : Claim7 := { stood := { row := pitchTurnsUptoRow, standIns := [], harness := (true, "06d7d61b58ec548363eb844a96b4a10645cdccbfe4ecebd922091eb1fcca41cc"), looks := true }, kinds := [], alts := [], laidByText := true, laidKinds := [.data, .data, .data, .sentinel, .sentinel, .data, .data], laidTests := true, laidLooks := .later }
def PitchTurnsUptoCardSaid : Prop := Claim7.holds Tryd.pinned (.plain (OpenSpec.upto pitchTurnsSpec)) pitchTurnsUptoCard

/-- THE SECOND FORM's CARD OF 'cantuslaw2.PitchTorsor'. -/
def pitchTorsorUptoCard : Claim7 := { stood := { row := pitchTorsorUptoRow, standIns := [], harness := (true, "06d7d61b58ec548363eb844a96b4a10645cdccbfe4ecebd922091eb1fcca41cc"), looks := true }, kinds := [], alts := [], laidByText := true, laidKinds := [.data], laidTests := true, laidLooks := .later }
def PitchTorsorUptoCardSaid : Prop := Claim7.holds Tryd.pinned (.plain (OpenSpec.upto pitchTorsorSpec)) pitchTorsorUptoCard

/-- THE SECOND FORM's CARD OF 'cantuslaw2.PitchMirror'. -/
def pitchMirrorUptoCard : Claim7 := { stood := { row := pitchMirrorUptoRow, standIns := [], harness := (true, "06d7d61b58ec548363eb844a96b4a10645cdccbfe4ecebd922091eb1fcca41cc"), looks := true }, kinds := [], alts := [], laidByText := true, laidKinds := [.data], laidTests := true, laidLooks := .later }
def PitchMirrorUptoCardSaid : Prop := Claim7.holds Tryd.pinned (.plain (OpenSpec.upto pitchMirrorSpec)) pitchMirrorUptoCard

/-- THE SECOND FORM's CARD OF 'cantuslaw3.ScaleKeys'. -/
def scaleKeysUptoCard : Claim7 := { stood := { row := scaleKeysUptoRow, standIns := [], harness := (true, "06d7d61b58ec548363eb844a96b4a10645cdccbfe4ecebd922091eb1fcca41cc"), looks := true }, kinds := [], alts := [], laidByText := true, laidKinds := [.data, .data, .data], laidTests := true, laidLooks := .later }
def ScaleKeysUptoCardSaid : Prop := Claim7.holds Tryd.pinned (.plain (OpenSpec.upto scaleKeysSpec)) scaleKeysUptoCard

/-- THE SECOND FORM's CARD OF 'cantuslaw3.ScaleChords'. -/
def scaleChordsUptoCard : Claim7 := { stood := { row := scaleChordsUptoRow, standIns := [], harness := (true, "06d7d61b58ec548363eb844a96b4a10645cdccbfe4ecebd922091eb1fcca41cc"), looks := true }, kinds := [], alts := [], laidByText := true, laidKinds := [.data, .data], laidTests := true, laidLooks := .later }
def ScaleChordsUptoCardSaid : Prop := Claim7.holds Tryd.pinned (.plain (OpenSpec.upto scaleChordsSpec)) scaleChordsUptoCard

/-- THE SECOND FORM's CARD OF 'cantuslaw3.ScaleSteps'. -/
def scaleStepsUptoCard : Claim7 := { stood := { row := scaleStepsUptoRow, standIns := [], harness := (true, "06d7d61b58ec548363eb844a96b4a10645cdccbfe4ecebd922091eb1fcca41cc"), looks := true }, kinds := [], alts := [], laidByText := true, laidKinds := [.data, .data], laidTests := true, laidLooks := .later }
def ScaleStepsUptoCardSaid : Prop := Claim7.holds Tryd.pinned (.plain (OpenSpec.upto scaleStepsSpec)) scaleStepsUptoCard
end Rows
end Go.Proofs.YtdjdnjaijpafgabDoor
