/- What ScaleKeys' row says of its three variables, and what the walks ask of them. -/
import Derived.Test.YtffhegfapefnfabDoorSTab
import Derived.Test.YtffhegfapefnfabDoorS9
namespace Go.Proofs.YtffhegfapefnfabDoor
open Go.ChangeShapes Go.WideShapes Go.ChangeAt Go.WideMaps Go.WideElems Go.RowKit

def keysList : List (String × DataW Unit) := [("cantus/pitch.aboveC", Rows.laid_cantus_pitch_aboveC), ("cantus/scale.fifths", Rows.laid_cantus_scale_fifths), ("cantus/scale.ados", Rows.laid_cantus_scale_ados)]

theorem gAdo : Tryd.prog.globalNamed "cantus/scale.ados" = some 2 := by kernel_rfl
theorem tAdo : (Tryd.prog.globals[2]?).map (·.type) = some 96 := by kernel_rfl
theorem ados_of {W : World} {rest : List (String × DataW Unit)} (h : laidMet Tryd.prog (("cantus/scale.ados", Rows.laid_cantus_scale_ados) :: rest) W) : Ados W := by
  have hT : Lib.TabIs Tryd.prog W "cantus/scale.ados" .i64 [0, 1, -1, 2, -2] :=
    Lib.tabIs_of_head (rest := rest) gAdo tAdo Tryd.underlying96 Tryd.underlying3 (by kernel_rfl) (by kernel_rfl) h
  have c := fun i hi => Lib.TabIs.cell hT gAdo i hi
  exact ⟨block_lt_of_cell (c 0 (by decide)), c 0 (by decide), c 1 (by decide), c 2 (by decide), c 3 (by decide), c 4 (by decide)⟩

theorem keys_of_laid {W : World} (h : laidMetH Tryd.prog keysList W) : SW W ∧ Ados W := by
  rw [MakeChecks.laidMetH_plain _ _ _ (by kernel_rfl)] at h
  exact ⟨⟨tab_of3 h, fifs_of h.tail⟩, ados_of h.tail.tail⟩

/-- The door's own heap meets the condition. -/
theorem door_met4 (os : Os) (args : Array Value) : laidMetH Tryd.prog keysList ((World.doorLaid Tryd.prog 400 os).forCall (fun _ _ => 0) ⟨#[], args, []⟩).memory :=
  laidMetH_of_parts3 (fuel := 8) (laidMet_of_run' 8 (by kernel_rfl) (by kernel_rfl)) (by kernel_rfl) (by kernel_rfl)
end Go.Proofs.YtffhegfapefnfabDoor
