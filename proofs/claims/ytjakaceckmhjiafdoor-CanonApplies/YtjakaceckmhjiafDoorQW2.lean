/- What the program's Between, Sum, Move and Mirror come to. -/
import Derived.Test.YtjakaceckmhjiafDoorQW1
import Derived.Deep.RegionHeld3
import Derived.Deep.DrawnRows
namespace Go.Proofs.YtjakaceckmhjiafDoor
open Go.RowKit
attribute [local go_sem ↓] Go.wp_at_zero Go.wp_at_succ

theorem Between_no (l a o l' a' o' : Int) (w : World) (hk : M.bk l a o l' a' o' = false) :
    Calls Tryd.prog 29 #[.agg #[.int .i64 l, .int .i64 a, .int .i64 o], .agg #[.int .i64 l', .int .i64 a', .int .i64 o']] w fun e w' => e = .returned (.tuple #[.agg #[.int .i64 0, .int .i64 0], .int .i64 2]) ∧ Below w.heap.size w w' := by
  cases hr : M.rt l a o
  · go_enter Tryd.func29, Tryd.ntmps29
    go_wp2_with fail
    refine (Right_any l a o _).mono ?_
    rintro e w1 ⟨rfl, hb1⟩
    rw [hr]
    have hz := hb1.size
    simp at hz
    have d0 : w1.cell? ⟨w.heap.size + 1 + 1, 0, none⟩ = some (.int .i64 0) := keepC hb1 (by simp) (by simp [go_sem])
    have d1 : w1.cell? ⟨w.heap.size + 1 + 1, 1, none⟩ = some (.int .i64 0) := keepC hb1 (by simp) (by simp [go_sem])
    have f0 : w1.frozen? ⟨w.heap.size + 1 + 1, 0, none⟩ = false := keepF hb1 (by simp) (by simp [go_sem])
    have f1 : w1.frozen? ⟨w.heap.size + 1 + 1, 1, none⟩ = false := keepF hb1 (by simp) (by simp [go_sem])
    have hb01 : Below w.heap.size w w1 := Below.trans (by go_grown) (hb1.mono (by simp; omega))
    go_wp2_with fail
    refine bodyPost_ret (v := .tuple #[.agg #[.int .i64 0, .int .i64 0], .int .i64 2]) (by simp [results, Tryd.results29, go_sem, d0, d1]) rfl ⟨rfl, ?_⟩
    exact (hb01.setCell (by simp; omega) _).setCell (by simp; omega) _
  · cases hq : M.rt l' a' o'
    · go_enter Tryd.func29, Tryd.ntmps29
      go_wp2_with fail
      refine (Right_any l a o _).mono ?_
      rintro e w1 ⟨rfl, hb1⟩
      rw [hr]
      have hz := hb1.size
      simp at hz
      have q0 : w1.cell? ⟨w.heap.size + 1, 0, none⟩ = some (.int .i64 l') := keepC hb1 (by simp) (by simp [go_sem])
      have q1 : w1.cell? ⟨w.heap.size + 1, 1, none⟩ = some (.int .i64 a') := keepC hb1 (by simp) (by simp [go_sem])
      have q2 : w1.cell? ⟨w.heap.size + 1, 2, none⟩ = some (.int .i64 o') := keepC hb1 (by simp) (by simp [go_sem])
      have d0 : w1.cell? ⟨w.heap.size + 1 + 1, 0, none⟩ = some (.int .i64 0) := keepC hb1 (by simp) (by simp [go_sem])
      have d1 : w1.cell? ⟨w.heap.size + 1 + 1, 1, none⟩ = some (.int .i64 0) := keepC hb1 (by simp) (by simp [go_sem])
      have f0 : w1.frozen? ⟨w.heap.size + 1 + 1, 0, none⟩ = false := keepF hb1 (by simp) (by simp [go_sem])
      have f1 : w1.frozen? ⟨w.heap.size + 1 + 1, 1, none⟩ = false := keepF hb1 (by simp) (by simp [go_sem])
      have hb01 : Below w.heap.size w w1 := Below.trans (by go_grown) (hb1.mono (by simp; omega))
      go_wp2_with fail
      refine (Right_any l' a' o' _).mono ?_
      rintro e w2 ⟨rfl, hb2⟩
      rw [hq]
      have hz2 := hb2.size
      replace d0 := keepC hb2 (by omega) d0
      replace d1 := keepC hb2 (by omega) d1
      replace f0 := keepF hb2 (by omega) f0
      replace f1 := keepF hb2 (by omega) f1
      go_wp2_with fail
      refine bodyPost_ret (v := .tuple #[.agg #[.int .i64 0, .int .i64 0], .int .i64 2]) (by simp [results, Tryd.results29, go_sem, d0, d1]) rfl ⟨rfl, ?_⟩
      exact ((hb01.trans (hb2.mono hb01.size)).setCell (by simp; omega) _).setCell (by simp; omega) _
    · exact absurd hk (by unfold M.bk; rw [hr, hq]; decide)

theorem wid {x : Int} (h1 : -9223372036854775808 ≤ x) (h2 : x ≤ 9223372036854775807) : IntKind.i64.wrap x = x := by
  rw [IntKind.wrap_i64]; omega
/-- What a cell holds, whatever it is. -/
def cv (w : World) (b o : Nat) : Value := (w.cell? ⟨b, o, none⟩).getD (.bool false)
theorem cv_some {w : World} {b o : Nat} {v : Value} (h : w.cell? ⟨b, o, none⟩ = some v) : w.cell? ⟨b, o, none⟩ = some (cv w b o) := by unfold cv; rw [h]; rfl
theorem setPQ2 {w W : World} {l a o l' a' o' : Int} (u0 u1 : Value) (h : Below w.heap.size w W ∧ W.cell? ⟨w.heap.size, 0, none⟩ = some (.int .i64 l) ∧ W.cell? ⟨w.heap.size, 1, none⟩ = some (.int .i64 a) ∧ W.cell? ⟨w.heap.size, 2, none⟩ = some (.int .i64 o) ∧ W.cell? ⟨w.heap.size + 1, 0, none⟩ = some (.int .i64 l') ∧ W.cell? ⟨w.heap.size + 1, 1, none⟩ = some (.int .i64 a') ∧ W.cell? ⟨w.heap.size + 1, 2, none⟩ = some (.int .i64 o') ∧ w.heap.size + 1 + 1 < W.heap.size ∧ W.cell? ⟨w.heap.size + 1 + 1, 0, none⟩ = some (cv W (w.heap.size + 1 + 1) 0) ∧ W.cell? ⟨w.heap.size + 1 + 1, 1, none⟩ = some (cv W (w.heap.size + 1 + 1) 1) ∧ W.frozen? ⟨w.heap.size + 1 + 1, 0, none⟩ = false ∧ W.frozen? ⟨w.heap.size + 1 + 1, 1, none⟩ = false) :
    Below w.heap.size w ((W.setCell ⟨w.heap.size + 1 + 1, 0, none⟩ u0).setCell ⟨w.heap.size + 1 + 1, 1, none⟩ u1) ∧ ((W.setCell ⟨w.heap.size + 1 + 1, 0, none⟩ u0).setCell ⟨w.heap.size + 1 + 1, 1, none⟩ u1).cell? ⟨w.heap.size, 0, none⟩ = some (.int .i64 l) ∧ ((W.setCell ⟨w.heap.size + 1 + 1, 0, none⟩ u0).setCell ⟨w.heap.size + 1 + 1, 1, none⟩ u1).cell? ⟨w.heap.size, 1, none⟩ = some (.int .i64 a) ∧ ((W.setCell ⟨w.heap.size + 1 + 1, 0, none⟩ u0).setCell ⟨w.heap.size + 1 + 1, 1, none⟩ u1).cell? ⟨w.heap.size, 2, none⟩ = some (.int .i64 o) ∧ ((W.setCell ⟨w.heap.size + 1 + 1, 0, none⟩ u0).setCell ⟨w.heap.size + 1 + 1, 1, none⟩ u1).cell? ⟨w.heap.size + 1, 0, none⟩ = some (.int .i64 l') ∧ ((W.setCell ⟨w.heap.size + 1 + 1, 0, none⟩ u0).setCell ⟨w.heap.size + 1 + 1, 1, none⟩ u1).cell? ⟨w.heap.size + 1, 1, none⟩ = some (.int .i64 a') ∧ ((W.setCell ⟨w.heap.size + 1 + 1, 0, none⟩ u0).setCell ⟨w.heap.size + 1 + 1, 1, none⟩ u1).cell? ⟨w.heap.size + 1, 2, none⟩ = some (.int .i64 o') ∧ w.heap.size + 1 + 1 < ((W.setCell ⟨w.heap.size + 1 + 1, 0, none⟩ u0).setCell ⟨w.heap.size + 1 + 1, 1, none⟩ u1).heap.size ∧ ((W.setCell ⟨w.heap.size + 1 + 1, 0, none⟩ u0).setCell ⟨w.heap.size + 1 + 1, 1, none⟩ u1).cell? ⟨w.heap.size + 1 + 1, 0, none⟩ = some (cv ((W.setCell ⟨w.heap.size + 1 + 1, 0, none⟩ u0).setCell ⟨w.heap.size + 1 + 1, 1, none⟩ u1) (w.heap.size + 1 + 1) 0) ∧ ((W.setCell ⟨w.heap.size + 1 + 1, 0, none⟩ u0).setCell ⟨w.heap.size + 1 + 1, 1, none⟩ u1).cell? ⟨w.heap.size + 1 + 1, 1, none⟩ = some (cv ((W.setCell ⟨w.heap.size + 1 + 1, 0, none⟩ u0).setCell ⟨w.heap.size + 1 + 1, 1, none⟩ u1) (w.heap.size + 1 + 1) 1) ∧ ((W.setCell ⟨w.heap.size + 1 + 1, 0, none⟩ u0).setCell ⟨w.heap.size + 1 + 1, 1, none⟩ u1).frozen? ⟨w.heap.size + 1 + 1, 0, none⟩ = false ∧ ((W.setCell ⟨w.heap.size + 1 + 1, 0, none⟩ u0).setCell ⟨w.heap.size + 1 + 1, 1, none⟩ u1).frozen? ⟨w.heap.size + 1 + 1, 1, none⟩ = false := by
  obtain ⟨hb, p0, p1, p2, q0, q1, q2, hs, d0, d1, f0, f1⟩ := h
  have hb2 : Below (w.heap.size + 1 + 1) W ((W.setCell ⟨w.heap.size + 1 + 1, 0, none⟩ u0).setCell ⟨w.heap.size + 1 + 1, 1, none⟩ u1) := (((Below.refl (w.heap.size + 1 + 1) W).setCell (p := ⟨w.heap.size + 1 + 1, 0, none⟩) (Nat.le_refl _) u0).setCell (p := ⟨w.heap.size + 1 + 1, 1, none⟩) (Nat.le_refl _) u1)
  refine ⟨((hb.setCell (p := ⟨w.heap.size + 1 + 1, 0, none⟩) (show w.heap.size ≤ w.heap.size + 1 + 1 by omega) u0).setCell (p := ⟨w.heap.size + 1 + 1, 1, none⟩) (show w.heap.size ≤ w.heap.size + 1 + 1 by omega) u1), keepC hb2 (by omega) p0, keepC hb2 (by omega) p1, keepC hb2 (by omega) p2, keepC hb2 (by omega) q0, keepC hb2 (by omega) q1, keepC hb2 (by omega) q2, by have := hb2.size; omega, ?_, ?_, ?_, ?_⟩
  · exact cv_some (v := u0) (by simp [go_sem, d0])
  · exact cv_some (v := u1) (by simp [go_sem, d1])
  · simp [go_sem, f0]
  · simp [go_sem, f1]

set_option maxHeartbeats 4000000 in
theorem Between_yes (l a o l' a' o' : Int) (w : World) (ht : Tab w) (hk : M.bk l a o l' a' o' = true) :
    Calls Tryd.prog 29 #[.agg #[.int .i64 l, .int .i64 a, .int .i64 o], .agg #[.int .i64 l', .int .i64 a', .int .i64 o']] w fun e w' => e = .returned (.tuple #[.agg #[.int .i64 (M.st l' o' - M.st l o), .int .i64 (M.hv l' a' o' - M.hv l a o)], .int .i64 0]) ∧ Below w.heap.size w w' := by
  obtain ⟨hr, hq⟩ := M.bk_yes hk
  have hv1 := M.hv_bd hr
  have hv2 := M.hv_bd hq
  obtain ⟨x1, x2, x3, x4, x5, x6⟩ := M.rt_yes hr
  obtain ⟨y1, y2, y3, y4, y5, y6⟩ := M.rt_yes hq
  go_enter Tryd.func29, Tryd.ntmps29
  go_wp2_with fail
  refine (Right_any l a o _).mono ?_
  rintro e w1 ⟨rfl, hb1⟩
  rw [hr]
  have hz := hb1.size
  simp at hz
  have p0 : w1.cell? ⟨w.heap.size, 0, none⟩ = some (.int .i64 l) := keepC hb1 (by simp; omega) (by simp [go_sem])
  have p1 : w1.cell? ⟨w.heap.size, 1, none⟩ = some (.int .i64 a) := keepC hb1 (by simp; omega) (by simp [go_sem])
  have p2 : w1.cell? ⟨w.heap.size, 2, none⟩ = some (.int .i64 o) := keepC hb1 (by simp; omega) (by simp [go_sem])
  have q0 : w1.cell? ⟨w.heap.size + 1, 0, none⟩ = some (.int .i64 l') := keepC hb1 (by simp) (by simp [go_sem])
  have q1 : w1.cell? ⟨w.heap.size + 1, 1, none⟩ = some (.int .i64 a') := keepC hb1 (by simp) (by simp [go_sem])
  have q2 : w1.cell? ⟨w.heap.size + 1, 2, none⟩ = some (.int .i64 o') := keepC hb1 (by simp) (by simp [go_sem])
  have d0 : w1.cell? ⟨w.heap.size + 1 + 1, 0, none⟩ = some (.int .i64 0) := keepC hb1 (by simp) (by simp [go_sem])
  have d1 : w1.cell? ⟨w.heap.size + 1 + 1, 1, none⟩ = some (.int .i64 0) := keepC hb1 (by simp) (by simp [go_sem])
  have f0 : w1.frozen? ⟨w.heap.size + 1 + 1, 0, none⟩ = false := keepF hb1 (by simp) (by simp [go_sem])
  have f1 : w1.frozen? ⟨w.heap.size + 1 + 1, 1, none⟩ = false := keepF hb1 (by simp) (by simp [go_sem])
  have hb01 : Below w.heap.size w w1 := Below.trans (by go_grown) (hb1.mono (by simp; omega))
  go_wp2_with fail
  refine (Right_any l' a' o' _).mono ?_
  rintro e w2 ⟨rfl, hb2⟩
  rw [hq]
  have hz2 := hb2.size
  replace p0 := keepC hb2 (by omega) p0
  replace p1 := keepC hb2 (by omega) p1
  replace p2 := keepC hb2 (by omega) p2
  replace q0 := keepC hb2 (by omega) q0
  replace q1 := keepC hb2 (by omega) q1
  replace q2 := keepC hb2 (by omega) q2
  replace d0 := keepC hb2 (by omega) d0
  replace d1 := keepC hb2 (by omega) d1
  replace f0 := keepF hb2 (by omega) f0
  replace f1 := keepF hb2 (by omega) f1
  have hb02 := hb01.trans (hb2.mono hb01.size)
  have ht2 := ht.step hb02
  have s2 : w.heap.size + 1 + 1 < w2.heap.size := by omega
  have mkS : ∀ w', Below w2.heap.size w2 w' → (Below w.heap.size w w' ∧ w'.cell? ⟨w.heap.size, 0, none⟩ = some (.int .i64 l) ∧ w'.cell? ⟨w.heap.size, 1, none⟩ = some (.int .i64 a) ∧ w'.cell? ⟨w.heap.size, 2, none⟩ = some (.int .i64 o) ∧ w'.cell? ⟨w.heap.size + 1, 0, none⟩ = some (.int .i64 l') ∧ w'.cell? ⟨w.heap.size + 1, 1, none⟩ = some (.int .i64 a') ∧ w'.cell? ⟨w.heap.size + 1, 2, none⟩ = some (.int .i64 o')
      ∧ w.heap.size + 1 + 1 < w'.heap.size ∧ w'.cell? ⟨w.heap.size + 1 + 1, 0, none⟩ = some (cv w' (w.heap.size + 1 + 1) 0) ∧ w'.cell? ⟨w.heap.size + 1 + 1, 1, none⟩ = some (cv w' (w.heap.size + 1 + 1) 1) ∧ w'.frozen? ⟨w.heap.size + 1 + 1, 0, none⟩ = false ∧ w'.frozen? ⟨w.heap.size + 1 + 1, 1, none⟩ = false) := fun w' h =>
    ⟨hb02.trans (h.mono (by omega)), keepC h (by omega) p0, keepC h (by omega) p1, keepC h (by omega) p2, keepC h (by omega) q0, keepC h (by omega) q1, keepC h (by omega) q2, by have := h.size; omega, cv_some (keepC h (by omega) d0), cv_some (keepC h (by omega) d1), keepF h (by omega) f0, keepF h (by omega) f1⟩
  clear p0 p1 p2 q0 q1 q2 d0 d1 f0 f1
  go_wp2_with fail
  go_region_held3 (fun w' => Below w.heap.size w w' ∧ w'.cell? ⟨w.heap.size, 0, none⟩ = some (.int .i64 l) ∧ w'.cell? ⟨w.heap.size, 1, none⟩ = some (.int .i64 a) ∧ w'.cell? ⟨w.heap.size, 2, none⟩ = some (.int .i64 o) ∧ w'.cell? ⟨w.heap.size + 1, 0, none⟩ = some (.int .i64 l') ∧ w'.cell? ⟨w.heap.size + 1, 1, none⟩ = some (.int .i64 a') ∧ w'.cell? ⟨w.heap.size + 1, 2, none⟩ = some (.int .i64 o')
      ∧ w.heap.size + 1 + 1 < w'.heap.size ∧ w'.cell? ⟨w.heap.size + 1 + 1, 0, none⟩ = some (cv w' (w.heap.size + 1 + 1) 0) ∧ w'.cell? ⟨w.heap.size + 1 + 1, 1, none⟩ = some (cv w' (w.heap.size + 1 + 1) 1) ∧ w'.frozen? ⟨w.heap.size + 1 + 1, 0, none⟩ = false ∧ w'.frozen? ⟨w.heap.size + 1 + 1, 1, none⟩ = false)
    (first | exact mkS _ hbn | exact setPQ2 _ _ (by assumption) | (refine mkS _ ?_; (solve | go_grown)))
    (first
      | (go_at_call 45; refine (stepsOf_any _ _ _ _ ?_ ?_ ?_ ?_).mono ?_; (all_goals first | omega | skip); rintro e wa ⟨rfl, hba⟩; first | have hbn := hbn.trans (hba.mono hbn.size) | have hbn : Below w2.heap.size w2 wa := Below.trans (by go_grown) (hba.mono (by simp)))
      | (go_at_call 46; refine (halvesOf_any _ _ _ _ (ht2.step hbn) ?_ ?_ ?_ ?_ ?_ ?_).mono ?_; (all_goals first | omega | skip); rintro e wa ⟨rfl, hba⟩; have hbn := hbn.trans (hba.mono hbn.size)))
  go_wp2_with fail
  obtain ⟨hbw, _, _, _, _, _, _, hsz, d0, d1, _, _⟩ := mkS _ hbn
  rw [wid (show -9223372036854775808 ≤ M.st l' o' - M.st l o by omega) (by omega), wid (show -9223372036854775808 ≤ M.hv l' a' o' - M.hv l a o by omega) (by omega)]
  refine bodyPost_ret (v := .tuple #[.agg #[.int .i64 (M.st l' o' - M.st l o), .int .i64 (M.hv l' a' o' - M.hv l a o)], .int .i64 0]) (by simp [results, Tryd.results29, go_sem, d0, d1]) rfl ⟨rfl, ?_⟩
  exact (hbw.setCell (by simp; omega) _).setCell (by simp; omega) _

theorem Between_any (l a o l' a' o' : Int) (w : World) (ht : Tab w) :
    Calls Tryd.prog 29 #[.agg #[.int .i64 l, .int .i64 a, .int .i64 o], .agg #[.int .i64 l', .int .i64 a', .int .i64 o']] w fun e w' => e = .returned (.tuple #[.agg #[.int .i64 (M.bs l a o l' a' o'), .int .i64 (M.bh l a o l' a' o')], .int .i64 (M.be l a o l' a' o')]) ∧ Below w.heap.size w w' := by
  cases hk : M.bk l a o l' a' o'
  · rw [M.bs_no hk, M.bh_no hk, M.be_no hk]; exact Between_no l a o l' a' o' w hk
  · rw [M.bs_yes hk, M.bh_yes hk, M.be_yes hk]; exact Between_yes l a o l' a' o' w ht hk

end Go.Proofs.YtjakaceckmhjiafDoor
