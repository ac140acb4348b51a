/- What the document's Key, Between and Sum come to. -/
import Derived.Test.YtjakaceckmhjiafDoorQR2
namespace Go.Proofs.YtjakaceckmhjiafDoor
open Go.RowKit
attribute [local go_sem ↓] Go.wp_at_zero Go.wp_at_succ
set_option linter.unusedSimpArgs false

theorem refBetween_no (l a o l' a' o' : Int) (w : World) (a1 : -9223372036854775808 ≤ a) (a2 : a ≤ 9223372036854775807) (a3 : -9223372036854775808 ≤ a') (a4 : a' ≤ 9223372036854775807) (hk : M.bk l a o l' a' o' = false) :
    Calls Tryd.prog 31 #[.agg #[.int .i64 l, .int .i64 a, .int .i64 o], .agg #[.int .i64 l', .int .i64 a', .int .i64 o']] w fun e w' => e = .returned (.tuple #[.agg #[.int .i64 0, .int .i64 0], .int .i64 2]) ∧ Below w.heap.size w w' := by
  cases hr : M.rt l a o
  · go_enter Tryd.func31, Tryd.ntmps31
    go_wp2_with fail
    refine (refRight_any l a o _ a1 a2).mono ?_
    rintro e w1 ⟨rfl, hb1⟩
    rw [hr]
    have hz := hb1.size
    simp at hz
    have d0 : w1.cell? ⟨w.heap.size + 1 + 1, 0, none⟩ = some (.int .i64 0) := keepC hb1 (by simp) (by simp [go_sem])
    have d1 : w1.cell? ⟨w.heap.size + 1 + 1, 1, none⟩ = some (.int .i64 0) := keepC hb1 (by simp) (by simp [go_sem])
    have f0 : w1.frozen? ⟨w.heap.size + 1 + 1, 0, none⟩ = false := keepF hb1 (by simp) (by simp [go_sem])
    have f1 : w1.frozen? ⟨w.heap.size + 1 + 1, 1, none⟩ = false := keepF hb1 (by simp) (by simp [go_sem])
    have hb01 : Below w.heap.size w w1 := Below.trans (by go_grown) (hb1.mono (by simp; omega))
    go_wp2_with fail
    refine bodyPost_ret (v := .tuple #[.agg #[.int .i64 0, .int .i64 0], .int .i64 2]) (by simp [results, Tryd.results31, go_sem, d0, d1]) rfl ⟨rfl, ?_⟩
    exact (hb01.setCell (by simp; omega) _).setCell (by simp; omega) _
  · cases hq : M.rt l' a' o'
    · go_enter Tryd.func31, Tryd.ntmps31
      go_wp2_with fail
      refine (refRight_any l a o _ a1 a2).mono ?_
      rintro e w1 ⟨rfl, hb1⟩
      rw [hr]
      have hz := hb1.size
      simp at hz
      have q0 : w1.cell? ⟨w.heap.size + 1, 0, none⟩ = some (.int .i64 l') := keepC hb1 (by simp) (by simp [go_sem])
      have q1 : w1.cell? ⟨w.heap.size + 1, 1, none⟩ = some (.int .i64 a') := keepC hb1 (by simp) (by simp [go_sem])
      have q2 : w1.cell? ⟨w.heap.size + 1, 2, none⟩ = some (.int .i64 o') := keepC hb1 (by simp) (by simp [go_sem])
      have d0 : w1.cell? ⟨w.heap.size + 1 + 1, 0, none⟩ = some (.int .i64 0) := keepC hb1 (by simp) (by simp [go_sem])
      have d1 : w1.cell? ⟨w.heap.size + 1 + 1, 1, none⟩ = some (.int .i64 0) := keepC hb1 (by simp) (by simp [go_sem])
      have f0 : w1.frozen? ⟨w.heap.size + 1 + 1, 0, none⟩ = false := keepF hb1 (by simp) (by simp [go_sem])
      have f1 : w1.frozen? ⟨w.heap.size + 1 + 1, 1, none⟩ = false := keepF hb1 (by simp) (by simp [go_sem])
      have hb01 : Below w.heap.size w w1 := Below.trans (by go_grown) (hb1.mono (by simp; omega))
      go_wp2_with fail
      refine (refRight_any l' a' o' _ a3 a4).mono ?_
      rintro e w2 ⟨rfl, hb2⟩
      rw [hq]
      have hz2 := hb2.size
      replace d0 := keepC hb2 (by omega) d0
      replace d1 := keepC hb2 (by omega) d1
      replace f0 := keepF hb2 (by omega) f0
      replace f1 := keepF hb2 (by omega) f1
      go_wp2_with fail
      refine bodyPost_ret (v := .tuple #[.agg #[.int .i64 0, .int .i64 0], .int .i64 2]) (by simp [results, Tryd.results31, go_sem, d0, d1]) rfl ⟨rfl, ?_⟩
      exact ((hb01.trans (hb2.mono hb01.size)).setCell (by simp; omega) _).setCell (by simp; omega) _
    · exact absurd hk (by unfold M.bk; rw [hr, hq]; decide)

set_option maxHeartbeats 4000000 in
theorem refBetween_yes (l a o l' a' o' : Int) (w : World) (a1 : -9223372036854775808 ≤ a) (a2 : a ≤ 9223372036854775807) (a3 : -9223372036854775808 ≤ a') (a4 : a' ≤ 9223372036854775807) (hk : M.bk l a o l' a' o' = true) :
    Calls Tryd.prog 31 #[.agg #[.int .i64 l, .int .i64 a, .int .i64 o], .agg #[.int .i64 l', .int .i64 a', .int .i64 o']] w fun e w' => e = .returned (.tuple #[.agg #[.int .i64 (M.st l' o' - M.st l o), .int .i64 (M.hv l' a' o' - M.hv l a o)], .int .i64 0]) ∧ Below w.heap.size w w' := by
  obtain ⟨hr, hq⟩ := M.bk_yes hk
  have hv1 := M.hv_bd hr
  have hv2 := M.hv_bd hq
  obtain ⟨x1, x2, x3, x4, x5, x6⟩ := M.rt_yes hr
  obtain ⟨y1, y2, y3, y4, y5, y6⟩ := M.rt_yes hq
  go_enter Tryd.func31, Tryd.ntmps31
  go_wp2_with fail
  refine (refRight_any l a o _ a1 a2).mono ?_
  rintro e w1 ⟨rfl, hb1⟩
  rw [hr]
  have hz := hb1.size
  simp at hz
  have p0 : w1.cell? ⟨w.heap.size, 0, none⟩ = some (.int .i64 l) := keepC hb1 (by simp; omega) (by simp [go_sem])
  have p1 : w1.cell? ⟨w.heap.size, 1, none⟩ = some (.int .i64 a) := keepC hb1 (by simp; omega) (by simp [go_sem])
  have p2 : w1.cell? ⟨w.heap.size, 2, none⟩ = some (.int .i64 o) := keepC hb1 (by simp; omega) (by simp [go_sem])
  have q0 : w1.cell? ⟨w.heap.size + 1, 0, none⟩ = some (.int .i64 l') := keepC hb1 (by simp) (by simp [go_sem])
  have q1 : w1.cell? ⟨w.heap.size + 1, 1, none⟩ = some (.int .i64 a') := keepC hb1 (by simp) (by simp [go_sem])
  have q2 : w1.cell? ⟨w.heap.size + 1, 2, none⟩ = some (.int .i64 o') := keepC hb1 (by simp) (by simp [go_sem])
  have d0 : w1.cell? ⟨w.heap.size + 1 + 1, 0, none⟩ = some (.int .i64 0) := keepC hb1 (by simp) (by simp [go_sem])
  have d1 : w1.cell? ⟨w.heap.size + 1 + 1, 1, none⟩ = some (.int .i64 0) := keepC hb1 (by simp) (by simp [go_sem])
  have f0 : w1.frozen? ⟨w.heap.size + 1 + 1, 0, none⟩ = false := keepF hb1 (by simp) (by simp [go_sem])
  have f1 : w1.frozen? ⟨w.heap.size + 1 + 1, 1, none⟩ = false := keepF hb1 (by simp) (by simp [go_sem])
  have hb01 : Below w.heap.size w w1 := Below.trans (by go_grown) (hb1.mono (by simp; omega))
  go_wp2_with fail
  refine (refRight_any l' a' o' _ a3 a4).mono ?_
  rintro e w2 ⟨rfl, hb2⟩
  rw [hq]
  have hz2 := hb2.size
  replace p0 := keepC hb2 (by omega) p0
  replace p1 := keepC hb2 (by omega) p1
  replace p2 := keepC hb2 (by omega) p2
  replace q0 := keepC hb2 (by omega) q0
  replace q1 := keepC hb2 (by omega) q1
  replace q2 := keepC hb2 (by omega) q2
  replace d0 := keepC hb2 (by omega) d0
  replace d1 := keepC hb2 (by omega) d1
  replace f0 := keepF hb2 (by omega) f0
  replace f1 := keepF hb2 (by omega) f1
  have hb02 := hb01.trans (hb2.mono hb01.size)
  have s2 : w.heap.size + 1 + 1 < w2.heap.size := by omega
  have mkS : ∀ w', Below w2.heap.size w2 w' → (Below w.heap.size w w' ∧ w'.cell? ⟨w.heap.size, 0, none⟩ = some (.int .i64 l) ∧ w'.cell? ⟨w.heap.size, 1, none⟩ = some (.int .i64 a) ∧ w'.cell? ⟨w.heap.size, 2, none⟩ = some (.int .i64 o) ∧ w'.cell? ⟨w.heap.size + 1, 0, none⟩ = some (.int .i64 l') ∧ w'.cell? ⟨w.heap.size + 1, 1, none⟩ = some (.int .i64 a') ∧ w'.cell? ⟨w.heap.size + 1, 2, none⟩ = some (.int .i64 o')
      ∧ w.heap.size + 1 + 1 < w'.heap.size ∧ w'.cell? ⟨w.heap.size + 1 + 1, 0, none⟩ = some (cv w' (w.heap.size + 1 + 1) 0) ∧ w'.cell? ⟨w.heap.size + 1 + 1, 1, none⟩ = some (cv w' (w.heap.size + 1 + 1) 1) ∧ w'.frozen? ⟨w.heap.size + 1 + 1, 0, none⟩ = false ∧ w'.frozen? ⟨w.heap.size + 1 + 1, 1, none⟩ = false) := fun w' h =>
    ⟨hb02.trans (h.mono (by omega)), keepC h (by omega) p0, keepC h (by omega) p1, keepC h (by omega) p2, keepC h (by omega) q0, keepC h (by omega) q1, keepC h (by omega) q2, by have := h.size; omega, cv_some (keepC h (by omega) d0), cv_some (keepC h (by omega) d1), keepF h (by omega) f0, keepF h (by omega) f1⟩
  clear p0 p1 p2 q0 q1 q2 d0 d1 f0 f1
  go_wp2_with fail
  go_region_held3 (fun w' => Below w.heap.size w w' ∧ w'.cell? ⟨w.heap.size, 0, none⟩ = some (.int .i64 l) ∧ w'.cell? ⟨w.heap.size, 1, none⟩ = some (.int .i64 a) ∧ w'.cell? ⟨w.heap.size, 2, none⟩ = some (.int .i64 o) ∧ w'.cell? ⟨w.heap.size + 1, 0, none⟩ = some (.int .i64 l') ∧ w'.cell? ⟨w.heap.size + 1, 1, none⟩ = some (.int .i64 a') ∧ w'.cell? ⟨w.heap.size + 1, 2, none⟩ = some (.int .i64 o')
      ∧ w.heap.size + 1 + 1 < w'.heap.size ∧ w'.cell? ⟨w.heap.size + 1 + 1, 0, none⟩ = some (cv w' (w.heap.size + 1 + 1) 0) ∧ w'.cell? ⟨w.heap.size + 1 + 1, 1, none⟩ = some (cv w' (w.heap.size + 1 + 1) 1) ∧ w'.frozen? ⟨w.heap.size + 1 + 1, 0, none⟩ = false ∧ w'.frozen? ⟨w.heap.size + 1 + 1, 1, none⟩ = false)
    (first | exact mkS _ hbn | exact setPQ2 _ _ (by assumption) | (refine mkS _ ?_; (solve | go_grown)))
    (first
      | (go_at_call 42; refine (Steps_any _ _ _ _ ?_ ?_ ?_ ?_).mono ?_; (all_goals first | omega | skip); rintro e wa ⟨rfl, hba⟩; first | have hbn := hbn.trans (hba.mono hbn.size) | have hbn : Below w2.heap.size w2 wa := Below.trans (by go_grown) (hba.mono (by simp)))
      | (go_at_call 43; refine (Halves_any _ _ _ _ ?_ ?_ ?_ ?_ ?_ ?_).mono ?_; (all_goals first | omega | skip); rintro e wa ⟨rfl, hba⟩; have hbn := hbn.trans (hba.mono hbn.size)))
  go_wp2_with fail
  obtain ⟨hbw, _, _, _, _, _, _, hsz, d0, d1, _, _⟩ := mkS _ hbn
  rw [wid (show -9223372036854775808 ≤ M.st l' o' - M.st l o by omega) (by omega), wid (show -9223372036854775808 ≤ M.hv l' a' o' - M.hv l a o by omega) (by omega)]
  refine bodyPost_ret (v := .tuple #[.agg #[.int .i64 (M.st l' o' - M.st l o), .int .i64 (M.hv l' a' o' - M.hv l a o)], .int .i64 0]) (by simp [results, Tryd.results31, go_sem, d0, d1]) rfl ⟨rfl, ?_⟩
  exact (hbw.setCell (by simp; omega) _).setCell (by simp; omega) _

theorem refBetween_any (l a o l' a' o' : Int) (w : World) (a1 : -9223372036854775808 ≤ a) (a2 : a ≤ 9223372036854775807) (a3 : -9223372036854775808 ≤ a') (a4 : a' ≤ 9223372036854775807) :
    Calls Tryd.prog 31 #[.agg #[.int .i64 l, .int .i64 a, .int .i64 o], .agg #[.int .i64 l', .int .i64 a', .int .i64 o']] w fun e w' => e = .returned (.tuple #[.agg #[.int .i64 (M.bs l a o l' a' o'), .int .i64 (M.bh l a o l' a' o')], .int .i64 (M.be l a o l' a' o')]) ∧ Below w.heap.size w w' := by
  cases hk : M.bk l a o l' a' o'
  · rw [M.bs_no hk, M.bh_no hk, M.be_no hk]; exact refBetween_no l a o l' a' o' w a1 a2 a3 a4 hk
  · rw [M.bs_yes hk, M.bh_yes hk, M.be_yes hk]; exact refBetween_yes l a o l' a' o' w a1 a2 a3 a4 hk


end Go.Proofs.YtjakaceckmhjiafDoor
