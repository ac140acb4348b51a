/- What ScaleSteps' row says of its two variables, and what the walks ask of them. -/
import Derived.Test.YtffhegfapefnfabDoorQTab
import Derived.Test.YtffhegfapefnfabDoorS4
import Derived.Lib.LaidTab
import Derived.Stop.LaidErr
namespace Go.Proofs.YtffhegfapefnfabDoor
open Go.ChangeShapes Go.WideShapes Go.ChangeAt Go.WideMaps Go.WideElems Go.RowKit

def stepsList : List (String × DataW Unit) := [("cantus/pitch.aboveC", Rows.laid_cantus_pitch_aboveC), ("cantus/scale.fifths", Rows.laid_cantus_scale_fifths)]

theorem tab_of3 {W : World} {rest : List (String × DataW Unit)} (h : laidMet Tryd.prog (("cantus/pitch.aboveC", Rows.laid_cantus_pitch_aboveC) :: rest) W) : Tab W := by
  have hT : Lib.TabIs Tryd.prog W "cantus/pitch.aboveC" .i64 [0, 2, 4, 5, 7, 9, 11] :=
    Lib.tabIs_of_head (rest := rest) gTab tTab Tryd.underlying89 Tryd.underlying3 (by kernel_rfl) (by kernel_rfl) h
  have c := fun i hi => Lib.TabIs.cell hT gTab i hi
  exact ⟨block_lt_of_cell (c 0 (by decide)), c 0 (by decide), c 1 (by decide), c 2 (by decide), c 3 (by decide), c 4 (by decide), c 5 (by decide), c 6 (by decide)⟩
theorem gFif : Tryd.prog.globalNamed "cantus/scale.fifths" = some 1 := by kernel_rfl
theorem tFif : (Tryd.prog.globals[1]?).map (·.type) = some 89 := by kernel_rfl
theorem fifs_of {W : World} {rest : List (String × DataW Unit)} (h : laidMet Tryd.prog (("cantus/scale.fifths", Rows.laid_cantus_scale_fifths) :: rest) W) : Fifs W := by
  have hT : Lib.TabIs Tryd.prog W "cantus/scale.fifths" .i64 [0, 2, 4, -1, 1, 3, 5] :=
    Lib.tabIs_of_head (rest := rest) gFif tFif Tryd.underlying89 Tryd.underlying3 (by kernel_rfl) (by kernel_rfl) h
  have c := fun i hi => Lib.TabIs.cell hT gFif i hi
  refine ⟨block_lt_of_cell (c 0 (by decide)), fun k hk => ?_⟩
  rcases (show k = 0 ∨ k = 1 ∨ k = 2 ∨ k = 3 ∨ k = 4 ∨ k = 5 ∨ k = 6 by omega) with rfl | rfl | rfl | rfl | rfl | rfl | rfl
  · exact c 0 (by decide)
  · exact c 1 (by decide)
  · exact c 2 (by decide)
  · exact c 3 (by decide)
  · exact c 4 (by decide)
  · exact c 5 (by decide)
  · exact c 6 (by decide)

theorem sw_of_laid {W : World} (h : laidMetH Tryd.prog stepsList W) : SW W := by
  rw [MakeChecks.laidMetH_plain _ _ _ (by kernel_rfl)] at h
  exact ⟨tab_of3 h, fifs_of h.tail⟩

/-- The door's own heap meets the condition. -/
theorem door_met3 (os : Os) (args : Array Value) : laidMetH Tryd.prog stepsList ((World.doorLaid Tryd.prog 400 os).forCall (fun _ _ => 0) ⟨#[], args, []⟩).memory :=
  laidMetH_of_parts3 (fuel := 8) (laidMet_of_run' 8 (by kernel_rfl) (by kernel_rfl)) (by kernel_rfl) (by kernel_rfl)
end Go.Proofs.YtffhegfapefnfabDoor
