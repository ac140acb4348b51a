/-
  DERIVED. GIVEN WITH THE SEED: THE CARDS: each row of YtmccbokjigjpnaaDoorRows.lean that lists a variable, with what it lists TIED to the program's text (the seventh form; the later family's looks); each row that meets fmt, with fmt's text TOLD by the authors' own Lean function (tested against real Go, not proved from fmt's source: count such statements apart). THE CARD IS WHAT COUNTS. Prove the row's statement (the work); the ties are given (YtmccbokjigjpnaaDoorTie.lean); close each card by the builder's one call (the guide's Derived/Test/ToyasCard.lean, 'card_holds'). Laid BY PROGRAM, IN A SANDBOX (cutbox-door.mjs). By AI agents, Wed Nov 11 2026. No macro, syntax, notation, axiom, sorry.
-/
import Derived.Test.YtmccbokjigjpnaaDoorRows
import GoSem.ClaimSeven
namespace Go.Proofs.YtmccbokjigjpnaaDoor
namespace Rows

/-- THE TIED CARD OF 'cantuslaw2.PitchMoves'. -/
def pitchMovesCard : Claim7 := { stood := { row := pitchMovesRow, standIns := [], harness := (true, "262a1dbd17c7db57a58f89292ac6a0309093d7a9ca009ad4487212436bd569b1"), looks := true }, kinds := [], alts := [], laidByText := true, laidKinds := [.data], laidTests := true, laidLooks := .later }
def PitchMovesCardSaid : Prop := Claim7.holds Tryd.pinned (.plain (OpenSpec.ofChange pitchMovesSpec)) pitchMovesCard

/-- THE TIED CARD OF 'cantuslaw2.PitchTexts'. -/
def pitchTextsCard : Claim7 := { stood := { row := pitchTextsRow, standIns := [], harness := (true, "262a1dbd17c7db57a58f89292ac6a0309093d7a9ca009ad4487212436bd569b1"), looks := true }, kinds := [], alts := [], laidByText := true, laidKinds := [.data, .data, .data, .sentinel, .sentinel, .data, .data], laidTests := true, laidLooks := .later }
def PitchTextsCardSaid : Prop := Claim7.holds Tryd.pinned (.plain (OpenSpec.ofChange pitchTextsSpec)) pitchTextsCard

/-- THE SECOND FORM's CARD OF 'cantuslaw2.PitchMoves'. -/
def pitchMovesUptoCard : Claim7 := { stood := { row := pitchMovesUptoRow, standIns := [], harness := (true, "262a1dbd17c7db57a58f89292ac6a0309093d7a9ca009ad4487212436bd569b1"), looks := true }, kinds := [], alts := [], laidByText := true, laidKinds := [.data], laidTests := true, laidLooks := .later }
def PitchMovesUptoCardSaid : Prop := Claim7.holds Tryd.pinned (.plain (OpenSpec.upto pitchMovesSpec)) pitchMovesUptoCard

/-- THE SECOND FORM's CARD OF 'cantuslaw2.PitchTexts'. -/
def pitchTextsUptoCard : Claim7 := { stood := { row := pitchTextsUptoRow, standIns := [], harness := (true, "262a1dbd17c7db57a58f89292ac6a0309093d7a9ca009ad4487212436bd569b1"), looks := true }, kinds := [], alts := [], laidByText := true, laidKinds := [.data, .data, .data, .sentinel, .sentinel, .data, .data], laidTests := true, laidLooks := .later }
def PitchTextsUptoCardSaid : Prop := Claim7.holds Tryd.pinned (.plain (OpenSpec.upto pitchTextsSpec)) pitchTextsUptoCard
end Rows
end Go.Proofs.YtmccbokjigjpnaaDoor
