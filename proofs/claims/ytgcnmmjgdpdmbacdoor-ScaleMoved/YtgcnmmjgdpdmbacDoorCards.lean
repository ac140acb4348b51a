/-
  DERIVED. GIVEN WITH THE SEED: THE CARDS: each row of YtgcnmmjgdpdmbacDoorRows.lean that lists a variable, with what it lists TIED to the program's text (the seventh form; the later family's looks); each row that meets fmt, with fmt's text TOLD by the authors' own Lean function (tested against real Go, not proved from fmt's source: count such statements apart). THE CARD IS WHAT COUNTS. Prove the row's statement (the work); the ties are given (YtgcnmmjgdpdmbacDoorTie.lean); close each card by the builder's one call (the guide's Derived/Test/ToyasCard.lean, 'card_holds'). Laid BY PROGRAM, IN A SANDBOX (cutbox-door.mjs). By AI agents, Wed Nov 11 2026. No macro, syntax, notation, axiom, sorry.
-/
import Derived.Test.YtgcnmmjgdpdmbacDoorRows
import GoSem.ClaimSeven
namespace Go.Proofs.YtgcnmmjgdpdmbacDoor
namespace Rows

/-- THE TIED CARD OF 'cantuslaw3.ScaleMoved'. -/
def scaleMovedCard : Claim7 := { stood := { row := scaleMovedRow, standIns := [], harness := (true, "27c143f53b1621ce32cd8dd2d80004e1d36994cf9547b2ec90bb22ce7b12f421"), looks := false }, kinds := [], alts := [], laidByText := true, laidKinds := [.data, .data, .data], laidTests := true, laidLooks := .later }
def ScaleMovedCardSaid : Prop := Claim7.holds Tryd.pinned (.plain (OpenSpec.ofChange scaleMovedSpec)) scaleMovedCard

/-- THE TIED CARD OF 'cantuslaw4.TuneSwings'. -/
def tuneSwingsCard : Claim7 := { stood := { row := tuneSwingsRow, standIns := [], harness := (true, "27c143f53b1621ce32cd8dd2d80004e1d36994cf9547b2ec90bb22ce7b12f421"), looks := false }, kinds := [], alts := [], laidByText := true, laidKinds := [.data, .called], laidTests := true, laidLooks := .later }
def TuneSwingsCardSaid : Prop := Claim7.holds Tryd.pinned (.plain (OpenSpec.ofChange tuneSwingsSpec)) tuneSwingsCard

/-- THE TIED CARD OF 'cantuslaw4.TuneRises'. -/
def tuneRisesCard : Claim7 := { stood := { row := tuneRisesRow, standIns := [], harness := (true, "27c143f53b1621ce32cd8dd2d80004e1d36994cf9547b2ec90bb22ce7b12f421"), looks := false }, kinds := [], alts := [], laidByText := true, laidKinds := [.data, .called], laidTests := true, laidLooks := .later }
def TuneRisesCardSaid : Prop := Claim7.holds Tryd.pinned (.plain (OpenSpec.ofChange tuneRisesSpec)) tuneRisesCard

/-- THE SECOND FORM's CARD OF 'cantuslaw3.ScaleMoved'. -/
def scaleMovedUptoCard : Claim7 := { stood := { row := scaleMovedUptoRow, standIns := [], harness := (true, "27c143f53b1621ce32cd8dd2d80004e1d36994cf9547b2ec90bb22ce7b12f421"), looks := false }, kinds := [], alts := [], laidByText := true, laidKinds := [.data, .data, .data], laidTests := true, laidLooks := .later }
def ScaleMovedUptoCardSaid : Prop := Claim7.holds Tryd.pinned (.plain (OpenSpec.upto scaleMovedSpec)) scaleMovedUptoCard

/-- THE SECOND FORM's CARD OF 'cantuslaw4.TuneSwings'. -/
def tuneSwingsUptoCard : Claim7 := { stood := { row := tuneSwingsUptoRow, standIns := [], harness := (true, "27c143f53b1621ce32cd8dd2d80004e1d36994cf9547b2ec90bb22ce7b12f421"), looks := false }, kinds := [], alts := [], laidByText := true, laidKinds := [.data, .called], laidTests := true, laidLooks := .later }
def TuneSwingsUptoCardSaid : Prop := Claim7.holds Tryd.pinned (.plain (OpenSpec.upto tuneSwingsSpec)) tuneSwingsUptoCard

/-- THE SECOND FORM's CARD OF 'cantuslaw4.TuneRises'. -/
def tuneRisesUptoCard : Claim7 := { stood := { row := tuneRisesUptoRow, standIns := [], harness := (true, "27c143f53b1621ce32cd8dd2d80004e1d36994cf9547b2ec90bb22ce7b12f421"), looks := false }, kinds := [], alts := [], laidByText := true, laidKinds := [.data, .called], laidTests := true, laidLooks := .later }
def TuneRisesUptoCardSaid : Prop := Claim7.holds Tryd.pinned (.plain (OpenSpec.upto tuneRisesSpec)) tuneRisesUptoCard
end Rows
end Go.Proofs.YtgcnmmjgdpdmbacDoor
