/- What the document's Key, Between and Sum come to. -/
import Derived.Test.YtdjdnjaijpafgabDoorQR2
namespace Go.Proofs.YtdjdnjaijpafgabDoor
open Go.RowKit
attribute [local go_sem ↓] Go.wp_at_zero Go.wp_at_succ
set_option linter.unusedSimpArgs false

theorem refKey_any (l a o : Int) (w : World) (a1 : -9223372036854775808 ≤ a) (a2 : a ≤ 9223372036854775807) :
    Calls Tryd.prog 59 #[.agg #[.int .i64 l, .int .i64 a, .int .i64 o]] w fun e w' => e = .returned (.tuple #[.int .i64 (M.kn l a o), .int .i64 (M.ke l a o)]) ∧ Below w.heap.size w w' := by
  cases hr : M.rt l a o
  · rw [M.kn_no hr, M.ke_no hr]
    go_enter Tryd.func59, Tryd.ntmps59
    go_wp2_with fail
    refine (refRight_any l a o _ a1 a2).mono ?_
    rintro e w1 ⟨rfl, hb1⟩
    rw [hr]
    go_wp2_with fail
    go_returns
    exact ⟨rfl, ((Below.refl _ _).alloc (Nat.le_refl _) _).trans (hb1.mono (by simp))⟩
  · rw [M.kn_yes hr, M.ke_yes hr]
    have hh := M.rt_yes hr
    have hv := M.hv_bd hr
    go_enter Tryd.func59, Tryd.ntmps59
    go_wp2_with fail
    refine (refRight_any l a o _ a1 a2).mono ?_
    rintro e w1 ⟨rfl, hb1⟩
    rw [hr]
    have c0 : w1.cell? ⟨w.heap.size, 0, none⟩ = some (.int .i64 l) := keepC hb1 (by simp) (by simp)
    have c1 : w1.cell? ⟨w.heap.size, 1, none⟩ = some (.int .i64 a) := keepC hb1 (by simp) (by simp)
    have c2 : w1.cell? ⟨w.heap.size, 2, none⟩ = some (.int .i64 o) := keepC hb1 (by simp) (by simp)
    have hb01 : Below w.heap.size w w1 := ((Below.refl _ _).alloc (Nat.le_refl _) _).trans (hb1.mono (by simp))
    go_wp2_with fail
    refine (Halves_any l a o _ (by omega) (by omega) (by omega) (by omega) (by omega) (by omega)).mono ?_
    rintro e w2 ⟨rfl, hb2⟩
    go_wp2_with fail
    go_returns
    exact ⟨rfl, hb01.trans (hb2.mono hb01.size)⟩

end Go.Proofs.YtdjdnjaijpafgabDoor
