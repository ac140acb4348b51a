/- What the program's Move and Mirror come to. -/
import Derived.Test.YtjakaceckmhjiafDoorQW4
import Derived.Deep.DeepCutAuto
namespace Go.Proofs.YtjakaceckmhjiafDoor
open Go.RowKit
attribute [local go_sem ↓] Go.wp_at_zero Go.wp_at_succ
set_option linter.unusedSimpArgs false


theorem Move_any (l a o s h : Int) (w : World) (ht : Tab w) :
    Calls Tryd.prog 50 #[.agg #[.int .i64 l, .int .i64 a, .int .i64 o], .agg #[.int .i64 s, .int .i64 h]] w fun e w' => e = .returned (.tuple #[.agg #[.int .i64 (M.ml l a o s h), .int .i64 (M.ma l a o s h), .int .i64 (M.mo l a o s h)], .int .i64 (M.me l a o s h)]) ∧ Below w.heap.size w w' := by
  cases hr : M.rt l a o
  · rw [M.ml_no (M.mk_form hr), M.ma_no (M.mk_form hr), M.mo_no (M.mk_form hr), M.me_form hr]; exact Move_form l a o s h w hr
  · cases hi : M.inb s h
    · rw [M.ml_no (M.mk_range hi), M.ma_no (M.mk_range hi), M.mo_no (M.mk_range hi), M.me_no (M.mk_range hi) hr]; exact Move_range l a o s h w hr hi
    · exact Move_in l a o s h w ht hr hi

set_option maxHeartbeats 1000000 in
theorem Mirror_any (l a o l' a' o' : Int) (w : World) (ht : Tab w) :
    Calls Tryd.prog 52 #[.agg #[.int .i64 l, .int .i64 a, .int .i64 o], .agg #[.int .i64 l', .int .i64 a', .int .i64 o']] w fun e w' => e = .returned (.tuple #[.agg #[.int .i64 (M.rl l a o l' a' o'), .int .i64 (M.ra l a o l' a' o'), .int .i64 (M.ro l a o l' a' o')], .int .i64 (M.re l a o l' a' o')]) ∧ Below w.heap.size w w' := by
  cases hk : M.bk l a o l' a' o'
  · rw [M.rl_no hk, M.ra_no hk, M.ro_no hk, M.re_no hk]
    go_enter Tryd.func52, Tryd.ntmps52
    go_wp2_with fail
    refine (Between_any l a o l' a' o' _ (ht.step (by go_grown))).mono ?_
    rintro e w1 ⟨rfl, hb1⟩
    have hz := hb1.size
    simp at hz
    have hb01 : Below w.heap.size w w1 := Below.trans (by go_grown) (hb1.mono (by simp; omega))
    have q0 : w1.cell? ⟨w.heap.size + 1, 0, none⟩ = some (.int .i64 l') := keepC hb1 (by simp) (by simp [go_sem])
    have q1 : w1.cell? ⟨w.heap.size + 1, 1, none⟩ = some (.int .i64 a') := keepC hb1 (by simp) (by simp [go_sem])
    have q2 : w1.cell? ⟨w.heap.size + 1, 2, none⟩ = some (.int .i64 o') := keepC hb1 (by simp) (by simp [go_sem])
    have d0 : w1.cell? ⟨w.heap.size + 1 + 1, 0, none⟩ = some (.int .i64 0) := keepC hb1 (by simp) (by simp [go_sem])
    have d1 : w1.cell? ⟨w.heap.size + 1 + 1, 1, none⟩ = some (.int .i64 0) := keepC hb1 (by simp) (by simp [go_sem])
    have d2 : w1.cell? ⟨w.heap.size + 1 + 1, 2, none⟩ = some (.int .i64 0) := keepC hb1 (by simp) (by simp [go_sem])
    have f0 : w1.frozen? ⟨w.heap.size + 1 + 1, 0, none⟩ = false := keepF hb1 (by simp) (by simp [go_sem])
    have f1 : w1.frozen? ⟨w.heap.size + 1 + 1, 1, none⟩ = false := keepF hb1 (by simp) (by simp [go_sem])
    have f2 : w1.frozen? ⟨w.heap.size + 1 + 1, 2, none⟩ = false := keepF hb1 (by simp) (by simp [go_sem])
    have s1 : w.heap.size + 1 + 1 < w1.heap.size := by omega
    have s0 : w.heap.size + 1 < w1.heap.size := by omega
    rw [M.bs_no hk, M.bh_no hk, M.be_no hk]
    go_wp2_with fail
    refine bodyPost_ret (v := .tuple #[.agg #[.int .i64 0, .int .i64 0, .int .i64 0], .int .i64 2]) (by simp [results, Tryd.results52, go_sem, d0, d1, d2, s1]) rfl ⟨rfl, ?_⟩
    have hX := (((hb01.setCell (p := ⟨w.heap.size + 1 + 1, 0, none⟩) (show w.heap.size ≤ w.heap.size + 1 + 1 by omega) (.int .i64 0)).setCell (p := ⟨w.heap.size + 1 + 1, 1, none⟩) (show w.heap.size ≤ w.heap.size + 1 + 1 by omega) (.int .i64 0)).setCell (p := ⟨w.heap.size + 1 + 1, 2, none⟩) (show w.heap.size ≤ w.heap.size + 1 + 1 by omega) (.int .i64 0))
    exact hX.alloc hX.size _
  · rw [M.rl_yes hk, M.ra_yes hk, M.ro_yes hk, M.re_yes hk]
    go_enter Tryd.func52, Tryd.ntmps52
    go_wp2_with fail
    refine (Between_any l a o l' a' o' _ (ht.step (by go_grown))).mono ?_
    rintro e w1 ⟨rfl, hb1⟩
    have hz := hb1.size
    simp at hz
    have hb01 : Below w.heap.size w w1 := Below.trans (by go_grown) (hb1.mono (by simp; omega))
    have q0 : w1.cell? ⟨w.heap.size + 1, 0, none⟩ = some (.int .i64 l') := keepC hb1 (by simp) (by simp [go_sem])
    have q1 : w1.cell? ⟨w.heap.size + 1, 1, none⟩ = some (.int .i64 a') := keepC hb1 (by simp) (by simp [go_sem])
    have q2 : w1.cell? ⟨w.heap.size + 1, 2, none⟩ = some (.int .i64 o') := keepC hb1 (by simp) (by simp [go_sem])
    have d0 : w1.cell? ⟨w.heap.size + 1 + 1, 0, none⟩ = some (.int .i64 0) := keepC hb1 (by simp) (by simp [go_sem])
    have d1 : w1.cell? ⟨w.heap.size + 1 + 1, 1, none⟩ = some (.int .i64 0) := keepC hb1 (by simp) (by simp [go_sem])
    have d2 : w1.cell? ⟨w.heap.size + 1 + 1, 2, none⟩ = some (.int .i64 0) := keepC hb1 (by simp) (by simp [go_sem])
    have f0 : w1.frozen? ⟨w.heap.size + 1 + 1, 0, none⟩ = false := keepF hb1 (by simp) (by simp [go_sem])
    have f1 : w1.frozen? ⟨w.heap.size + 1 + 1, 1, none⟩ = false := keepF hb1 (by simp) (by simp [go_sem])
    have f2 : w1.frozen? ⟨w.heap.size + 1 + 1, 2, none⟩ = false := keepF hb1 (by simp) (by simp [go_sem])
    have s1 : w.heap.size + 1 + 1 < w1.heap.size := by omega
    have s0 : w.heap.size + 1 < w1.heap.size := by omega
    rw [M.bs_yes hk, M.bh_yes hk, M.be_yes hk]
    go_wp2_with fail
    refine (Move_any l' a' o' (M.st l' o' - M.st l o) (M.hv l' a' o' - M.hv l a o) _ ((ht.step hb01).step (by go_grown))).mono ?_
    rintro e w2 ⟨rfl, hb2⟩
    have hb12 : Below w1.heap.size w1 w2 := Below.trans (by go_grown) (hb2.mono (by simp))
    have hz2 := hb12.size
    have hb02 := hb01.trans (hb12.mono (by omega))
    replace d0 := keepC hb12 (by omega) d0
    replace d1 := keepC hb12 (by omega) d1
    replace d2 := keepC hb12 (by omega) d2
    replace f0 := keepF hb12 (by omega) f0
    replace f1 := keepF hb12 (by omega) f1
    replace f2 := keepF hb12 (by omega) f2
    go_wp2_with fail
    refine bodyPost_ret (v := .tuple #[.agg #[.int .i64 (M.ml l' a' o' (M.st l' o' - M.st l o) (M.hv l' a' o' - M.hv l a o)), .int .i64 (M.ma l' a' o' (M.st l' o' - M.st l o) (M.hv l' a' o' - M.hv l a o)), .int .i64 (M.mo l' a' o' (M.st l' o' - M.st l o) (M.hv l' a' o' - M.hv l a o))], .int .i64 (M.me l' a' o' (M.st l' o' - M.st l o) (M.hv l' a' o' - M.hv l a o))]) (by simp [results, Tryd.results52, go_sem, d0, d1, d2]) rfl ⟨rfl, ?_⟩
    exact (((hb02.setCell (by simp; omega) _).setCell (by simp; omega) _).setCell (by simp; omega) _)

end Go.Proofs.YtjakaceckmhjiafDoor
