/- What the program's Move and Mirror come to. -/
import Derived.Test.YtgcnmmjgdpdmbacDoorQW4
import Derived.Deep.DeepCutAuto
namespace Go.Proofs.YtgcnmmjgdpdmbacDoor
open Go.RowKit
attribute [local go_sem ↓] Go.wp_at_zero Go.wp_at_succ
set_option linter.unusedSimpArgs false


theorem Move_any (l a o s h : Int) (w : World) (ht : Tab w) :
    Calls Tryd.prog 9 #[.agg #[.int .i64 l, .int .i64 a, .int .i64 o], .agg #[.int .i64 s, .int .i64 h]] w fun e w' => e = .returned (.tuple #[.agg #[.int .i64 (M.ml l a o s h), .int .i64 (M.ma l a o s h), .int .i64 (M.mo l a o s h)], .int .i64 (M.me l a o s h)]) ∧ Below w.heap.size w w' := by
  cases hr : M.rt l a o
  · rw [M.ml_no (M.mk_form hr), M.ma_no (M.mk_form hr), M.mo_no (M.mk_form hr), M.me_form hr]; exact Move_form l a o s h w hr
  · cases hi : M.inb s h
    · rw [M.ml_no (M.mk_range hi), M.ma_no (M.mk_range hi), M.mo_no (M.mk_range hi), M.me_no (M.mk_range hi) hr]; exact Move_range l a o s h w hr hi
    · exact Move_in l a o s h w ht hr hi

end Go.Proofs.YtgcnmmjgdpdmbacDoor
