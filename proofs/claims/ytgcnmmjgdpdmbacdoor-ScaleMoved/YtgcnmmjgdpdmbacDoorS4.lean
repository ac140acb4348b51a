/- The law's own small function: the scale of G major answers. -/
import Derived.Test.YtgcnmmjgdpdmbacDoorS3
import Derived.Test.YtgcnmmjgdpdmbacDoorQW5
namespace Go.Proofs.YtgcnmmjgdpdmbacDoor
open Go.RowKit
set_option linter.unusedSimpArgs false

/-- Both tables. -/
structure SW (w : World) : Prop where
  tab : Tab w
  fifs : Fifs w
theorem SW.step {w w' : World} (h : SW w) (hb : Below w.heap.size w w') : SW w' := ⟨h.tab.step hb, h.fifs.step hb⟩

theorem alive3_any (w : World) (ht : Fifs w) :
    Calls Tryd.prog 6 #[] w fun e w' => e = .returned (.bool true) ∧ Below w.heap.size w w' := by
  have hS := Scale_yes 4 0 0
  rw [show ((4 : Nat) : Int) = 4 from rfl, show M.zr 4 0 0 = 1 from rfl] at hS
  go_enter Tryd.func6, Tryd.ntmps6
  go_wp2_with fail
  refine (hS _ ht (by decide) (by omega)).mono ?_
  rintro e w1 ⟨b, hb, rfl, hb1, hrow⟩
  have c := hrow.don 6 (by omega)
  have c0 : w1.cell? ⟨b, 12, none⟩ = some (.int .i64 3) := c.1
  have c1 : w1.cell? ⟨b, 13, none⟩ = some (.int .i64 1) := c.2
  have hl := hrow.lt
  clear c hrow
  go_wp2_with fail
  go_ret
  exact ⟨rfl, hb1⟩

end Go.Proofs.YtgcnmmjgdpdmbacDoor
