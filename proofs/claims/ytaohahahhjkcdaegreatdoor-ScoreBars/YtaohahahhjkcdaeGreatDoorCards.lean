/-
  DERIVED. GIVEN WITH THE SEED: THE CARDS: each row of YtaohahahhjkcdaeGreatDoorRows.lean that lists a variable, with what it lists TIED to the program's text (the seventh form; the later family's looks); each row that meets fmt, with fmt's text TOLD by the authors' own Lean function (tested against real Go, not proved from fmt's source: count such statements apart). THE CARD IS WHAT COUNTS. Prove the row's statement (the work); the ties are given (YtaohahahhjkcdaeGreatDoorTie.lean); close each card by the builder's one call (the guide's Derived/Test/ToyasCard.lean, 'card_holds'). Laid BY PROGRAM, IN A SANDBOX (cutbox-door.mjs). By AI agents, Wed Nov 11 2026. No macro, syntax, notation, axiom, sorry.
-/
import Derived.Test.YtaohahahhjkcdaeGreatDoorRows
import GoSem.ClaimSeven
namespace Go.Proofs.YtaohahahhjkcdaeGreatDoor
namespace Rows

/-- THE TIED CARD OF 'cantuslaw6.ScoreBars'. -/
def scoreBarsCard : Claim7 := { stood := { row := scoreBarsRow, standIns := [], harness := (true, "3cb8570b48280e06e5203fb11b3db1c71e1bbc24e0aa4ef1067695784d3e1271"), looks := true }, kinds := [], alts := [], laidByText := true, laidKinds := [.data, .data, .data, .data, .sentinel, .sentinel, .data, .pinned], laidTests := true, laidLooks := .later }
def ScoreBarsCardSaid : Prop := Claim7.holds Tryz.pinned (.plain (OpenSpec.ofChange scoreBarsSpec)) scoreBarsCard

/-- THE SECOND FORM's CARD OF 'cantuslaw6.ScoreBars'. -/
def scoreBarsUptoCard : Claim7 := { stood := { row := scoreBarsUptoRow, standIns := [], harness := (true, "3cb8570b48280e06e5203fb11b3db1c71e1bbc24e0aa4ef1067695784d3e1271"), looks := true }, kinds := [], alts := [], laidByText := true, laidKinds := [.data, .data, .data, .data, .sentinel, .sentinel, .data, .pinned], laidTests := true, laidLooks := .later }
def ScoreBarsUptoCardSaid : Prop := Claim7.holds Tryz.pinned (.plain (OpenSpec.upto scoreBarsSpec)) scoreBarsUptoCard
end Rows
end Go.Proofs.YtaohahahhjkcdaeGreatDoor
