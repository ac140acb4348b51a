/-
  DERIVED. GIVEN WITH THE SEED: THE PROGRAM's TIES (one call each: nine closed facts by the kernel) AND EACH ROW's TIE, after the 31st guide's Derived/Test/Toyas{Tie, Card}.lean. No idea stands in it: it is a product of the set-up. Laid BY PROGRAM, IN A SANDBOX (cutbox-door.mjs). By AI agents, Wed Nov 11 2026. No macro, syntax, notation, axiom, sorry.
-/
import Derived.Test.YtgcnmmjgdpdmbacDoorRows
import Derived.LaidByTextLater
import Derived.SevenTiedAt
import Derived.LaidSub
import Derived.LaidOnce
namespace Go.Proofs.YtgcnmmjgdpdmbacDoor
open Go
set_option maxRecDepth 100000
theorem seatTie1 : Tryd.prog.laidByTextLater [("cantus/pitch.aboveC", Rows.laid_cantus_pitch_aboveC), ("cantus/scale.overRoot", Rows.laid_cantus_scale_overRoot), ("cantus/scale.fifths", Rows.laid_cantus_scale_fifths), ("cantus/tune.table", Rows.laid_cantus_tune_table)] [.data, .data, .data, .called] true :=
  Program.laidByTextLater_by_one 367 8 31 (by kernel_rfl) (by kernel_rfl) (by kernel_rfl) (by kernel_rfl) (by kernel_rfl) (by kernel_rfl) (fun _ _ => by kernel_rfl)
theorem noOwnUnsafe : Tryd.pinned.checked.prog.headLifts.contains "ownunsafe" = false := by kernel_rfl
theorem tie : Tryd.prog.laidByTextLater [("cantus/pitch.aboveC", Rows.laid_cantus_pitch_aboveC), ("cantus/scale.overRoot", Rows.laid_cantus_scale_overRoot), ("cantus/scale.fifths", Rows.laid_cantus_scale_fifths)] [.data, .data, .data] true :=
  Program.laidByTextLater.sub seatTie1 ["cantus/pitch.aboveC", "cantus/scale.overRoot", "cantus/scale.fifths"] (by kernel_rfl) (by kernel_rfl)
theorem scaleMoved_row_tie : Rows.scaleMovedRow.laidByTextAt .later Tryd.pinned [.data, .data, .data] true :=
  OpenClaim.laidByTextAt_later rfl rfl tie noOwnUnsafe
theorem tie2 : Tryd.prog.laidByTextLater [("cantus/pitch.aboveC", Rows.laid_cantus_pitch_aboveC), ("cantus/tune.table", Rows.laid_cantus_tune_table)] [.data, .called] true :=
  Program.laidByTextLater.sub seatTie1 ["cantus/pitch.aboveC", "cantus/tune.table"] (by kernel_rfl) (by kernel_rfl)
theorem tuneSwings_row_tie : Rows.tuneSwingsRow.laidByTextAt .later Tryd.pinned [.data, .called] true :=
  OpenClaim.laidByTextAt_later rfl rfl tie2 noOwnUnsafe
theorem tuneRises_row_tie : Rows.tuneRisesRow.laidByTextAt .later Tryd.pinned [.data, .called] true :=
  OpenClaim.laidByTextAt_later rfl rfl tie2 noOwnUnsafe
theorem scaleMovedUpto_row_tie : Rows.scaleMovedUptoRow.laidByTextAt .later Tryd.pinned [.data, .data, .data] true :=
  OpenClaim.laidByTextAt_later rfl rfl tie noOwnUnsafe
theorem tuneSwingsUpto_row_tie : Rows.tuneSwingsUptoRow.laidByTextAt .later Tryd.pinned [.data, .called] true :=
  OpenClaim.laidByTextAt_later rfl rfl tie2 noOwnUnsafe
theorem tuneRisesUpto_row_tie : Rows.tuneRisesUptoRow.laidByTextAt .later Tryd.pinned [.data, .called] true :=
  OpenClaim.laidByTextAt_later rfl rfl tie2 noOwnUnsafe
end Go.Proofs.YtgcnmmjgdpdmbacDoor
