/- What ScaleMoved's row says of its three variables, and what the walks ask of them. -/
import Derived.Test.YtgcnmmjgdpdmbacDoorSTab3
import Derived.Test.YtgcnmmjgdpdmbacDoorS4
namespace Go.Proofs.YtgcnmmjgdpdmbacDoor
open Go.ChangeShapes Go.WideShapes Go.ChangeAt Go.WideMaps Go.WideElems Go.RowKit

def movedList : List (String × DataW Unit) := [("cantus/pitch.aboveC", Rows.laid_cantus_pitch_aboveC), ("cantus/scale.overRoot", Rows.laid_cantus_scale_overRoot), ("cantus/scale.fifths", Rows.laid_cantus_scale_fifths)]
theorem gFif5 : Tryd.prog.globalNamed "cantus/scale.fifths" = some 4 := by kernel_rfl
theorem tFif5 : (Tryd.prog.globals[4]?).map (·.type) = some 62 := by kernel_rfl
theorem fifs_of5 {W : World} {rest : List (String × DataW Unit)} (h : laidMet Tryd.prog (("cantus/scale.fifths", Rows.laid_cantus_scale_fifths) :: rest) W) : Fifs W := by
  have hT : Lib.TabIs Tryd.prog W "cantus/scale.fifths" .i64 [0, 2, 4, -1, 1, 3, 5] :=
    Lib.tabIs_of_head (rest := rest) gFif5 tFif5 Tryd.underlying62 Tryd.underlying3 (by kernel_rfl) (by kernel_rfl) h
  have c := fun i hi => Lib.TabIs.cell hT gFif5 i hi
  refine ⟨block_lt_of_cell (c 0 (by decide)), fun k hk => ?_⟩
  rcases (show k = 0 ∨ k = 1 ∨ k = 2 ∨ k = 3 ∨ k = 4 ∨ k = 5 ∨ k = 6 by omega) with rfl | rfl | rfl | rfl | rfl | rfl | rfl
  · exact c 0 (by decide)
  · exact c 1 (by decide)
  · exact c 2 (by decide)
  · exact c 3 (by decide)
  · exact c 4 (by decide)
  · exact c 5 (by decide)
  · exact c 6 (by decide)
theorem moved_of_laid {W : World} (h : laidMetH Tryd.prog movedList W) : Tab W ∧ Over W ∧ Fifs W := by
  rw [MakeChecks.laidMetH_plain _ _ _ (by kernel_rfl)] at h
  exact ⟨tab_of5 h, over_of h.tail, fifs_of5 h.tail.tail⟩
/-- The door's own heap meets the condition. -/
theorem door_met7 (os : Os) (args : Array Value) : laidMetH Tryd.prog movedList ((World.doorLaid Tryd.prog 400 os).forCall (fun _ _ => 0) ⟨#[], args, []⟩).memory :=
  laidMetH_of_parts3 (fuel := 8) (laidMet_of_run' 8 (by kernel_rfl) (by kernel_rfl)) (by kernel_rfl) (by kernel_rfl)
end Go.Proofs.YtgcnmmjgdpdmbacDoor
