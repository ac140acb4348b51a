/- The law's first question: a program that answers. -/
import Derived.Test.YtchifnaafboefabDoorQW5
import Derived.Deep.DeepCutAuto
namespace Go.Proofs.YtchifnaafboefabDoor
open Go.RowKit
attribute [local go_sem ↓] Go.wp_at_zero Go.wp_at_succ
set_option linter.unusedSimpArgs false


theorem alive_any (w : World) (ht : Tab w) :
    Calls Tryd.prog 6 #[] w fun e w' => e = .returned (.bool true) ∧ Below w.heap.size w w' := by
  have hr : M.rt 0 0 4 = true := by decide
  have e1 : M.kn 0 0 4 = 60 := by rw [M.kn_yes hr]; rfl
  have e2 : M.ke 0 0 4 = 0 := M.ke_yes hr
  go_enter Tryd.func6, Tryd.ntmps6
  go_wp2_with fail
  refine (Key_any 0 0 4 _ ht).mono ?_
  rintro e w1 ⟨rfl, hb1⟩
  rw [e1, e2]
  go_wp2_with fail
  go_ret
  exact ⟨rfl, hb1⟩

end Go.Proofs.YtchifnaafboefabDoor
