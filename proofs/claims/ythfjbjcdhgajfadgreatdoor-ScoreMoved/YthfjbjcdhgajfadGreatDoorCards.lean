/-
  DERIVED. GIVEN WITH THE SEED: THE CARDS: each row of YthfjbjcdhgajfadGreatDoorRows.lean that lists a variable, with what it lists TIED to the program's text (the seventh form; the later family's looks); each row that meets fmt, with fmt's text TOLD by the authors' own Lean function (tested against real Go, not proved from fmt's source: count such statements apart). THE CARD IS WHAT COUNTS. Prove the row's statement (the work); the ties are given (YthfjbjcdhgajfadGreatDoorTie.lean); close each card by the builder's one call (the guide's Derived/Test/ToyasCard.lean, 'card_holds'). Laid BY PROGRAM, IN A SANDBOX (cutbox-door.mjs). By AI agents, Wed Nov 11 2026. No macro, syntax, notation, axiom, sorry.
-/
import Derived.Test.YthfjbjcdhgajfadGreatDoorRows
import GoSem.ClaimSeven
namespace Go.Proofs.YthfjbjcdhgajfadGreatDoor
namespace Rows

/-- THE TIED CARD OF 'cantuslaw6.ScoreReads'. -/
def scoreReadsCard : Claim7 := { stood := { row := scoreReadsRow, standIns := [], harness := (true, "ec2f9fab02d923dd5fd36f05e2ec0ccced9613c32daa57d80247d7479ac9ba62"), looks := true }, kinds := [], alts := [], laidByText := true, laidKinds := [.data, .data, .data, .data, .sentinel, .sentinel, .data, .pinned], laidTests := true, laidLooks := .later }
def ScoreReadsCardSaid : Prop := Claim7.holds Tryz.pinned (.plain (OpenSpec.ofChange scoreReadsSpec)) scoreReadsCard

/-- THE TIED CARD OF 'cantuslaw6.ScoreNotes'. -/
def scoreNotesCard : Claim7 := { stood := { row := scoreNotesRow, standIns := [], harness := (true, "ec2f9fab02d923dd5fd36f05e2ec0ccced9613c32daa57d80247d7479ac9ba62"), looks := true }, kinds := [], alts := [], laidByText := true, laidKinds := [.data, .data, .data, .data, .data, .data, .pinned], laidTests := true, laidLooks := .later }
def ScoreNotesCardSaid : Prop := Claim7.holds Tryz.pinned (.plain (OpenSpec.ofChange scoreNotesSpec)) scoreNotesCard

/-- THE TIED CARD OF 'cantuslaw6.ScoreTurns'. -/
def scoreTurnsCard : Claim7 := { stood := { row := scoreTurnsRow, standIns := [], harness := (true, "ec2f9fab02d923dd5fd36f05e2ec0ccced9613c32daa57d80247d7479ac9ba62"), looks := true }, kinds := [], alts := [], laidByText := true, laidKinds := [.data, .data, .data, .data, .sentinel, .sentinel, .data, .data, .pinned], laidTests := true, laidLooks := .later }
def ScoreTurnsCardSaid : Prop := Claim7.holds Tryz.pinned (.plain (OpenSpec.ofChange scoreTurnsSpec)) scoreTurnsCard

/-- THE TIED CARD OF 'cantuslaw6.ScoreMoved'. -/
def scoreMovedCard : Claim7 := { stood := { row := scoreMovedRow, standIns := [], harness := (true, "ec2f9fab02d923dd5fd36f05e2ec0ccced9613c32daa57d80247d7479ac9ba62"), looks := true }, kinds := [], alts := [], laidByText := true, laidKinds := [.data, .data, .data, .data, .sentinel, .sentinel, .data, .pinned], laidTests := true, laidLooks := .later }
def ScoreMovedCardSaid : Prop := Claim7.holds Tryz.pinned (.plain (OpenSpec.ofChange scoreMovedSpec)) scoreMovedCard

/-- THE SECOND FORM's CARD OF 'cantuslaw6.ScoreReads'. -/
def scoreReadsUptoCard : Claim7 := { stood := { row := scoreReadsUptoRow, standIns := [], harness := (true, "ec2f9fab02d923dd5fd36f05e2ec0ccced9613c32daa57d80247d7479ac9ba62"), looks := true }, kinds := [], alts := [], laidByText := true, laidKinds := [.data, .data, .data, .data, .sentinel, .sentinel, .data, .pinned], laidTests := true, laidLooks := .later }
def ScoreReadsUptoCardSaid : Prop := Claim7.holds Tryz.pinned (.plain (OpenSpec.upto scoreReadsSpec)) scoreReadsUptoCard

/-- THE SECOND FORM's CARD OF 'cantuslaw6.ScoreNotes'. -/
def scoreNotesUptoCard : Claim7 := { stood := { row := scoreNotesUptoRow, standIns := [], harness := (true, "ec2f9fab02d923dd5fd36f05e2ec0ccced9613c32daa57d80247d7479ac9ba62"), looks := true }, kinds := [], alts := [], laidByText := true, laidKinds := [.data, .data, .data, .data, .data, .data, .pinned], laidTests := true, laidLooks := .later }
def ScoreNotesUptoCardSaid : Prop := Claim7.holds Tryz.pinned (.plain (OpenSpec.upto scoreNotesSpec)) scoreNotesUptoCard

/-- THE SECOND FORM's CARD OF 'cantuslaw6.ScoreTurns'. -/
def scoreTurnsUptoCard : Claim7 := { stood := { row := scoreTurnsUptoRow, standIns := [], harness := (true, "ec2f9fab02d923dd5fd36f05e2ec0ccced9613c32daa57d80247d7479ac9ba62"), looks := true }, kinds := [], alts := [], laidByText := true, laidKinds := [.data, .data, .data, .data, .sentinel, .sentinel, .data, .data, .pinned], laidTests := true, laidLooks := .later }
def ScoreTurnsUptoCardSaid : Prop := Claim7.holds Tryz.pinned (.plain (OpenSpec.upto scoreTurnsSpec)) scoreTurnsUptoCard

/-- THE SECOND FORM's CARD OF 'cantuslaw6.ScoreMoved'. -/
def scoreMovedUptoCard : Claim7 := { stood := { row := scoreMovedUptoRow, standIns := [], harness := (true, "ec2f9fab02d923dd5fd36f05e2ec0ccced9613c32daa57d80247d7479ac9ba62"), looks := true }, kinds := [], alts := [], laidByText := true, laidKinds := [.data, .data, .data, .data, .sentinel, .sentinel, .data, .pinned], laidTests := true, laidLooks := .later }
def ScoreMovedUptoCardSaid : Prop := Claim7.holds Tryz.pinned (.plain (OpenSpec.upto scoreMovedSpec)) scoreMovedUptoCard
end Rows
end Go.Proofs.YthfjbjcdhgajfadGreatDoor
