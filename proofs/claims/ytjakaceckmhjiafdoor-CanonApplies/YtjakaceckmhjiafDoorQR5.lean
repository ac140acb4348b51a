/- What the document's Mirror comes to. -/
import Derived.Test.YtjakaceckmhjiafDoorQR4
import Derived.Test.YtjakaceckmhjiafDoorQMath2
namespace Go.Proofs.YtjakaceckmhjiafDoor
open Go.RowKit
attribute [local go_sem ↓] Go.wp_at_zero Go.wp_at_succ
set_option linter.unusedSimpArgs false

theorem refMirror_no (l a o l' a' o' : Int) (w : World) (a1 : -9223372036854775808 ≤ a) (a2 : a ≤ 9223372036854775807) (a3 : -9223372036854775808 ≤ a') (a4 : a' ≤ 9223372036854775807) (hk : M.bk l a o l' a' o' = false) :
    Calls Tryd.prog 26 #[.agg #[.int .i64 l, .int .i64 a, .int .i64 o], .agg #[.int .i64 l', .int .i64 a', .int .i64 o']] w fun e w' => e = .returned (.tuple #[.agg #[.int .i64 0, .int .i64 0, .int .i64 0], .int .i64 2]) ∧ Below w.heap.size w w' := by
  cases hr : M.rt l a o
  · go_enter Tryd.func26, Tryd.ntmps26
    go_wp2_with fail
    refine (refRight_any l a o _ a1 a2).mono ?_
    rintro e w1 ⟨rfl, hb1⟩
    rw [hr]
    have hz := hb1.size
    simp at hz
    have d0 : w1.cell? ⟨w.heap.size + 1 + 1, 0, none⟩ = some (.int .i64 0) := keepC hb1 (by simp) (by simp [go_sem])
    have d1 : w1.cell? ⟨w.heap.size + 1 + 1, 1, none⟩ = some (.int .i64 0) := keepC hb1 (by simp) (by simp [go_sem])
    have d2 : w1.cell? ⟨w.heap.size + 1 + 1, 2, none⟩ = some (.int .i64 0) := keepC hb1 (by simp) (by simp [go_sem])
    have f0 : w1.frozen? ⟨w.heap.size + 1 + 1, 0, none⟩ = false := keepF hb1 (by simp) (by simp [go_sem])
    have f1 : w1.frozen? ⟨w.heap.size + 1 + 1, 1, none⟩ = false := keepF hb1 (by simp) (by simp [go_sem])
    have f2 : w1.frozen? ⟨w.heap.size + 1 + 1, 2, none⟩ = false := keepF hb1 (by simp) (by simp [go_sem])
    have hb01 : Below w.heap.size w w1 := Below.trans (by go_grown) (hb1.mono (by simp; omega))
    go_wp2_with fail
    refine bodyPost_ret (v := .tuple #[.agg #[.int .i64 0, .int .i64 0, .int .i64 0], .int .i64 2]) (by simp [results, Tryd.results26, go_sem, d0, d1, d2]) rfl ⟨rfl, ?_⟩
    exact ((hb01.setCell (by simp; omega) _).setCell (by simp; omega) _).setCell (by simp; omega) _
  · cases hq : M.rt l' a' o'
    · go_enter Tryd.func26, Tryd.ntmps26
      go_wp2_with fail
      refine (refRight_any l a o _ a1 a2).mono ?_
      rintro e w1 ⟨rfl, hb1⟩
      rw [hr]
      have hz := hb1.size
      simp at hz
      have q0 : w1.cell? ⟨w.heap.size + 1, 0, none⟩ = some (.int .i64 l') := keepC hb1 (by simp) (by simp [go_sem])
      have q1 : w1.cell? ⟨w.heap.size + 1, 1, none⟩ = some (.int .i64 a') := keepC hb1 (by simp) (by simp [go_sem])
      have q2 : w1.cell? ⟨w.heap.size + 1, 2, none⟩ = some (.int .i64 o') := keepC hb1 (by simp) (by simp [go_sem])
      have d0 : w1.cell? ⟨w.heap.size + 1 + 1, 0, none⟩ = some (.int .i64 0) := keepC hb1 (by simp) (by simp [go_sem])
      have d1 : w1.cell? ⟨w.heap.size + 1 + 1, 1, none⟩ = some (.int .i64 0) := keepC hb1 (by simp) (by simp [go_sem])
      have d2 : w1.cell? ⟨w.heap.size + 1 + 1, 2, none⟩ = some (.int .i64 0) := keepC hb1 (by simp) (by simp [go_sem])
      have f0 : w1.frozen? ⟨w.heap.size + 1 + 1, 0, none⟩ = false := keepF hb1 (by simp) (by simp [go_sem])
      have f1 : w1.frozen? ⟨w.heap.size + 1 + 1, 1, none⟩ = false := keepF hb1 (by simp) (by simp [go_sem])
      have f2 : w1.frozen? ⟨w.heap.size + 1 + 1, 2, none⟩ = false := keepF hb1 (by simp) (by simp [go_sem])
      have hb01 : Below w.heap.size w w1 := Below.trans (by go_grown) (hb1.mono (by simp; omega))
      go_wp2_with fail
      refine (refRight_any l' a' o' _ a3 a4).mono ?_
      rintro e w2 ⟨rfl, hb2⟩
      rw [hq]
      have hz2 := hb2.size
      replace d0 := keepC hb2 (by omega) d0
      replace d1 := keepC hb2 (by omega) d1
      replace d2 := keepC hb2 (by omega) d2
      replace f0 := keepF hb2 (by omega) f0
      replace f1 := keepF hb2 (by omega) f1
      replace f2 := keepF hb2 (by omega) f2
      go_wp2_with fail
      refine bodyPost_ret (v := .tuple #[.agg #[.int .i64 0, .int .i64 0, .int .i64 0], .int .i64 2]) (by simp [results, Tryd.results26, go_sem, d0, d1, d2]) rfl ⟨rfl, ?_⟩
      exact (((hb01.trans (hb2.mono hb01.size)).setCell (by simp; omega) _).setCell (by simp; omega) _).setCell (by simp; omega) _
    · exact absurd hk (by unfold M.bk; rw [hr, hq]; decide)

set_option maxRecDepth 20000 in
set_option maxHeartbeats 4000000 in
theorem refMirror_yes (l a o l' a' o' : Int) (w : World) (a1 : -9223372036854775808 ≤ a) (a2 : a ≤ 9223372036854775807) (a3 : -9223372036854775808 ≤ a') (a4 : a' ≤ 9223372036854775807) (hk : M.bk l a o l' a' o' = true) :
    Calls Tryd.prog 26 #[.agg #[.int .i64 l, .int .i64 a, .int .i64 o], .agg #[.int .i64 l', .int .i64 a', .int .i64 o']] w fun e w' => e = .returned (.tuple #[.agg #[.int .i64 (M.rl l a o l' a' o'), .int .i64 (M.ra l a o l' a' o'), .int .i64 (M.ro l a o l' a' o')], .int .i64 (M.re l a o l' a' o')]) ∧ Below w.heap.size w w' := by
  have hk0 := hk
  obtain ⟨hr, hq⟩ := M.bk_yes hk
  have hin : M.inb (M.st l' o' - M.st l o) (M.hv l' a' o' - M.hv l a o) = true := M.inb_two hr hq
  replace hk := M.mk_on hq hin
  rw [show M.st l' o' + (M.st l' o' - M.st l o) = 2 * M.st l' o' - M.st l o by omega, show M.hv l' a' o' + (M.hv l' a' o' - M.hv l a o) = 2 * M.hv l' a' o' - M.hv l a o by omega] at hk
  have hv1 := M.hv_bd hr
  have hv2 := M.hv_bd hq
  obtain ⟨x1, x2, x3, x4, x5, x6⟩ := M.rt_yes hr
  obtain ⟨y1, y2, y3, y4, y5, y6⟩ := M.rt_yes hq
  go_enter Tryd.func26, Tryd.ntmps26
  go_wp2_with fail
  refine (refRight_any l a o _ a1 a2).mono ?_
  rintro e w1 ⟨rfl, hb1⟩
  rw [hr]
  have hz := hb1.size
  simp at hz
  have p0 : w1.cell? ⟨w.heap.size, 0, none⟩ = some (.int .i64 l) := keepC hb1 (by simp; omega) (by simp [go_sem])
  have p1 : w1.cell? ⟨w.heap.size, 1, none⟩ = some (.int .i64 a) := keepC hb1 (by simp; omega) (by simp [go_sem])
  have p2 : w1.cell? ⟨w.heap.size, 2, none⟩ = some (.int .i64 o) := keepC hb1 (by simp; omega) (by simp [go_sem])
  have q0 : w1.cell? ⟨w.heap.size + 1, 0, none⟩ = some (.int .i64 l') := keepC hb1 (by simp) (by simp [go_sem])
  have q1 : w1.cell? ⟨w.heap.size + 1, 1, none⟩ = some (.int .i64 a') := keepC hb1 (by simp) (by simp [go_sem])
  have q2 : w1.cell? ⟨w.heap.size + 1, 2, none⟩ = some (.int .i64 o') := keepC hb1 (by simp) (by simp [go_sem])
  have d0 : w1.cell? ⟨w.heap.size + 1 + 1, 0, none⟩ = some (.int .i64 0) := keepC hb1 (by simp) (by simp [go_sem])
  have d1 : w1.cell? ⟨w.heap.size + 1 + 1, 1, none⟩ = some (.int .i64 0) := keepC hb1 (by simp) (by simp [go_sem])
  have d2 : w1.cell? ⟨w.heap.size + 1 + 1, 2, none⟩ = some (.int .i64 0) := keepC hb1 (by simp) (by simp [go_sem])
  have f0 : w1.frozen? ⟨w.heap.size + 1 + 1, 0, none⟩ = false := keepF hb1 (by simp) (by simp [go_sem])
  have f1 : w1.frozen? ⟨w.heap.size + 1 + 1, 1, none⟩ = false := keepF hb1 (by simp) (by simp [go_sem])
  have f2 : w1.frozen? ⟨w.heap.size + 1 + 1, 2, none⟩ = false := keepF hb1 (by simp) (by simp [go_sem])
  have hb01 : Below w.heap.size w w1 := Below.trans (by go_grown) (hb1.mono (by simp; omega))
  go_wp2_with fail
  refine (refRight_any l' a' o' _ a3 a4).mono ?_
  rintro e w1x ⟨rfl, hb2⟩
  rw [hq]
  have hz2 := hb2.size
  replace p0 := keepC hb2 (by omega) p0
  replace p1 := keepC hb2 (by omega) p1
  replace p2 := keepC hb2 (by omega) p2
  replace q0 := keepC hb2 (by omega) q0
  replace q1 := keepC hb2 (by omega) q1
  replace q2 := keepC hb2 (by omega) q2
  replace d0 := keepC hb2 (by omega) d0
  replace d1 := keepC hb2 (by omega) d1
  replace d2 := keepC hb2 (by omega) d2
  replace f0 := keepF hb2 (by omega) f0
  replace f1 := keepF hb2 (by omega) f1
  replace f2 := keepF hb2 (by omega) f2
  have hb02 := hb01.trans (hb2.mono hb01.size)
  have s1x : w.heap.size + 1 + 1 < w1x.heap.size := by omega
  have mkS : ∀ w', Below w1x.heap.size w1x w' → (Below w1x.heap.size w1x w' ∧ w'.cell? ⟨w.heap.size, 0, none⟩ = some (.int .i64 l) ∧ w'.cell? ⟨w.heap.size, 1, none⟩ = some (.int .i64 a) ∧ w'.cell? ⟨w.heap.size, 2, none⟩ = some (.int .i64 o) ∧ w'.cell? ⟨w.heap.size + 1, 0, none⟩ = some (.int .i64 l') ∧ w'.cell? ⟨w.heap.size + 1, 1, none⟩ = some (.int .i64 a') ∧ w'.cell? ⟨w.heap.size + 1, 2, none⟩ = some (.int .i64 o')) := fun w' h => ⟨h, keepC h (by omega) p0, keepC h (by omega) p1, keepC h (by omega) p2, keepC h (by omega) q0, keepC h (by omega) q1, keepC h (by omega) q2⟩
  go_wp2_with fail
  go_region_held3 (fun w' => Below w1x.heap.size w1x w' ∧ w'.cell? ⟨w.heap.size, 0, none⟩ = some (.int .i64 l) ∧ w'.cell? ⟨w.heap.size, 1, none⟩ = some (.int .i64 a) ∧ w'.cell? ⟨w.heap.size, 2, none⟩ = some (.int .i64 o) ∧ w'.cell? ⟨w.heap.size + 1, 0, none⟩ = some (.int .i64 l') ∧ w'.cell? ⟨w.heap.size + 1, 1, none⟩ = some (.int .i64 a') ∧ w'.cell? ⟨w.heap.size + 1, 2, none⟩ = some (.int .i64 o'))
    (first | exact mkS _ hbn | (refine mkS _ ?_; (solve | go_grown)))
    (first
      | (go_at_call 42; refine (Steps_any _ _ _ _ ?_ ?_ ?_ ?_).mono ?_; (all_goals first | omega | skip); rintro e wa ⟨rfl, hba⟩; first | have hbn : Below w1x.heap.size w1x wa := hbn.trans (hba.mono hbn.size) | have hbn : Below w1x.heap.size w1x wa := Below.trans (by go_grown) (hba.mono (by simp)))
      | (go_at_call 43; refine (Halves_any _ _ _ _ ?_ ?_ ?_ ?_ ?_ ?_).mono ?_; (all_goals first | omega | skip); rintro e wa ⟨rfl, hba⟩; first | have hbn : Below w1x.heap.size w1x wa := hbn.trans (hba.mono hbn.size) | have hbn : Below w1x.heap.size w1x wa := Below.trans (by go_grown) (hba.mono (by simp)))
      | (go_at_call 41; rw [wid (show -9223372036854775808 ≤ M.st l' o' - M.st l o by omega) (by omega), wid (show -9223372036854775808 ≤ M.hv l' a' o' - M.hv l a o by omega) (by omega)]; refine (Within_any _ _ _).mono ?_; (all_goals first | omega | skip); rintro e wa ⟨rfl, hba⟩; first | have hbn : Below w1x.heap.size w1x wa := hbn.trans (hba.mono hbn.size) | have hbn : Below w1x.heap.size w1x wa := Below.trans (by go_grown) (hba.mono (by simp))))
  try rw [hin]
  clear mkS
  have hz3 := hbn.size
  replace p0 := keepC hbn (by omega) p0
  replace p1 := keepC hbn (by omega) p1
  replace p2 := keepC hbn (by omega) p2
  replace q0 := keepC hbn (by omega) q0
  replace q1 := keepC hbn (by omega) q1
  replace q2 := keepC hbn (by omega) q2
  replace d0 := keepC hbn (by omega) d0
  replace d1 := keepC hbn (by omega) d1
  replace d2 := keepC hbn (by omega) d2
  replace f0 := keepF hbn (by omega) f0
  replace f1 := keepF hbn (by omega) f1
  replace f2 := keepF hbn (by omega) f2
  have hb02 : Below w.heap.size w wa := hb02.trans (hbn.mono (by omega))
  generalize wa = w2 at *
  have s2 : w.heap.size + 1 + 1 < w2.heap.size := by omega
  clear hbn hba
  have mkS : ∀ w', Below w2.heap.size w2 w' → (Below w2.heap.size w2 w' ∧ w'.cell? ⟨w.heap.size, 0, none⟩ = some (.int .i64 l) ∧ w'.cell? ⟨w.heap.size, 1, none⟩ = some (.int .i64 a) ∧ w'.cell? ⟨w.heap.size, 2, none⟩ = some (.int .i64 o) ∧ w'.cell? ⟨w.heap.size + 1, 0, none⟩ = some (.int .i64 l') ∧ w'.cell? ⟨w.heap.size + 1, 1, none⟩ = some (.int .i64 a') ∧ w'.cell? ⟨w.heap.size + 1, 2, none⟩ = some (.int .i64 o')) := fun w' h => ⟨h, keepC h (by omega) p0, keepC h (by omega) p1, keepC h (by omega) p2, keepC h (by omega) q0, keepC h (by omega) q1, keepC h (by omega) q2⟩
  go_wp2_with fail
  go_cut [6, 7] (fun c q wx => ∃ b : Nat, c = .pointer (some ⟨b, 0, none⟩) ∧ q = .bool (M.onB (2 * M.st l' o' - M.st l o) (2 * M.hv l' a' o' - M.hv l a o)) ∧ w2.heap.size ≤ b ∧ b < wx.heap.size ∧ Below w2.heap.size w2 wx ∧ wx.cell? ⟨b, 0, none⟩ = some (.int .i64 ((2 * M.st l' o' - M.st l o) % 7)) ∧ wx.cell? ⟨b, 1, none⟩ = some (.int .i64 (2 * M.hv l' a' o' - M.hv l a o - M.wh (2 * M.st l' o' - M.st l o))) ∧ wx.cell? ⟨b, 2, none⟩ = some (.int .i64 ((2 * M.st l' o' - M.st l o) / 7)))
  case first =>
    go_region_held3 (fun w' => Below w2.heap.size w2 w' ∧ w'.cell? ⟨w.heap.size, 0, none⟩ = some (.int .i64 l) ∧ w'.cell? ⟨w.heap.size, 1, none⟩ = some (.int .i64 a) ∧ w'.cell? ⟨w.heap.size, 2, none⟩ = some (.int .i64 o) ∧ w'.cell? ⟨w.heap.size + 1, 0, none⟩ = some (.int .i64 l') ∧ w'.cell? ⟨w.heap.size + 1, 1, none⟩ = some (.int .i64 a') ∧ w'.cell? ⟨w.heap.size + 1, 2, none⟩ = some (.int .i64 o'))
      (first | exact mkS _ hbn | exact mkS _ (hbn.alloc hbn.size _) | exact mkS _ (((hbn.setCell hnl _).setCell hnl _).setCell hnl _) | (refine mkS _ ?_; (solve | go_grown)))
      (first
        | (go_at_call 42; refine (Steps_any _ _ _ _ ?_ ?_ ?_ ?_).mono ?_; (all_goals first | omega | skip); rintro e wa ⟨rfl, hba⟩
           first
             | (have hbn : Below w2.heap.size w2 wa := hbn.trans (hba.mono hbn.size); first | (have n0 := keepC hba hnz n0; have n1 := keepC hba hnz n1; have n2 := keepC hba hnz n2; have g0 := keepF hba hnz g0; have g1 := keepF hba hnz g1; have g2 := keepF hba hnz g2; have hnz := Nat.lt_of_lt_of_le hnz hba.size) | skip)
             | (have hnl := hbn.size; have nn := new_kept hba; obtain ⟨n0, n1, n2, g0, g1, g2, hnz⟩ := nn; have hbn : Below w2.heap.size w2 wa := (hbn.alloc hbn.size _).trans (hba.mono (Nat.le_trans hbn.size (by simp))))
             | (have hbn : Below w2.heap.size w2 wa := Below.trans (by go_grown) (hba.mono (by simp)); first | (have nn := new_kept_drew hba; obtain ⟨n0, n1, n2, g0, g1, g2, hnz⟩ := nn; have hnl := Nat.le_refl w2.heap.size) | skip))
        | (go_at_call 43; refine (Halves_any _ _ _ _ ?_ ?_ ?_ ?_ ?_ ?_).mono ?_; (all_goals first | omega | skip); rintro e wa ⟨rfl, hba⟩
           first
             | (have hbn : Below w2.heap.size w2 wa := hbn.trans (hba.mono hbn.size); first | (have n0 := keepC hba hnz n0; have n1 := keepC hba hnz n1; have n2 := keepC hba hnz n2; have g0 := keepF hba hnz g0; have g1 := keepF hba hnz g1; have g2 := keepF hba hnz g2; have hnz := Nat.lt_of_lt_of_le hnz hba.size) | skip)
             | (have hnl := hbn.size; have nn := new_kept hba; obtain ⟨n0, n1, n2, g0, g1, g2, hnz⟩ := nn; have hbn : Below w2.heap.size w2 wa := (hbn.alloc hbn.size _).trans (hba.mono (Nat.le_trans hbn.size (by simp))))
             | (have hbn : Below w2.heap.size w2 wa := Below.trans (by go_grown) (hba.mono (by simp)); first | (have nn := new_kept_drew hba; obtain ⟨n0, n1, n2, g0, g1, g2, hnz⟩ := nn; have hnl := Nat.le_refl w2.heap.size) | skip))
        | (go_at_call 44; rw [wid (show -9223372036854775808 ≤ 2 * M.st l' o' by omega) (by omega), wid (show -9223372036854775808 ≤ 2 * M.st l' o' - M.st l o by omega) (by omega), wid (show -9223372036854775808 ≤ 2 * M.hv l' a' o' by omega) (by omega), wid (show -9223372036854775808 ≤ 2 * M.hv l' a' o' - M.hv l a o by omega) (by omega)]; refine (At_any _ _ _ ?_ ?_ ?_ ?_).mono ?_; (all_goals first | omega | skip); rintro e wa ⟨rfl, hba⟩
           first
             | (have hbn : Below w2.heap.size w2 wa := hbn.trans (hba.mono hbn.size); first | (have n0 := keepC hba hnz n0; have n1 := keepC hba hnz n1; have n2 := keepC hba hnz n2; have g0 := keepF hba hnz g0; have g1 := keepF hba hnz g1; have g2 := keepF hba hnz g2; have hnz := Nat.lt_of_lt_of_le hnz hba.size) | skip)
             | (have hnl := hbn.size; have nn := new_kept hba; obtain ⟨n0, n1, n2, g0, g1, g2, hnz⟩ := nn; have hbn : Below w2.heap.size w2 wa := (hbn.alloc hbn.size _).trans (hba.mono (Nat.le_trans hbn.size (by simp))))
             | (have hbn : Below w2.heap.size w2 wa := Below.trans (by go_grown) (hba.mono (by simp)); first | (have nn := new_kept_drew hba; obtain ⟨n0, n1, n2, g0, g1, g2, hnz⟩ := nn; have hnl := Nat.le_refl w2.heap.size) | skip)))
    all_goals
      go_wp2_with fail
      go_meet
      case rel =>
        first
          | exact ⟨wa.heap.size, rfl, rfl, hbn.size, by simp, hbn.alloc hbn.size _, by simp [go_sem], by simp [go_sem], by simp [go_sem]⟩
          | exact ⟨_, rfl, rfl, hnl, by simpa [World.setCell] using hnz, ((hbn.setCell hnl _).setCell hnl _).setCell hnl _, by simp [go_sem, n0], by simp [go_sem, n1], by simp [go_sem, n2]⟩
  case rest =>
    obtain ⟨b, rfl, rfl, hb5, hb6, hbx, n0, n1, n2⟩ := hcut
    replace d0 := keepC hbx (by omega) d0
    replace d1 := keepC hbx (by omega) d1
    replace d2 := keepC hbx (by omega) d2
    replace f0 := keepF hbx (by omega) f0
    replace f1 := keepF hbx (by omega) f1
    replace f2 := keepF hbx (by omega) f2
    have hb0c := hb02.trans (hbx.mono (by omega))
    have s7 : w.heap.size + 1 + 1 < wc.heap.size := by omega
    cases hon : M.onB (2 * M.st l' o' - M.st l o) (2 * M.hv l' a' o' - M.hv l a o)
    · have HE : Hid (M.rl l a o l' a' o' = 0 ∧ M.ra l a o l' a' o' = 0 ∧ M.ro l a o l' a' o' = 0 ∧ M.re l a o l' a' o' = 3) := by
        rw [hon] at hk; exact ⟨by rw [M.rl_yes hk0, M.ml_no hk], by rw [M.ra_yes hk0, M.ma_no hk], by rw [M.ro_yes hk0, M.mo_no hk], by rw [M.re_yes hk0, M.me_no hk hq]⟩
      clear hk
      go_wp2_with fail
      refine bodyPost_ret (v := .tuple #[.agg #[.int .i64 0, .int .i64 0, .int .i64 0], .int .i64 3]) (by simp [results, Tryd.results26, go_sem, d0, d1, d2]) rfl ⟨by rw [HE.out.1, HE.out.2.1, HE.out.2.2.1, HE.out.2.2.2], ?_⟩
      exact ((hb0c.setCell (by simp; omega) _).setCell (by simp; omega) _).setCell (by simp; omega) _
    · have HE : Hid (M.rl l a o l' a' o' = (2 * M.st l' o' - M.st l o) % 7 ∧ M.ra l a o l' a' o' = 2 * M.hv l' a' o' - M.hv l a o - M.wh (2 * M.st l' o' - M.st l o) ∧ M.ro l a o l' a' o' = (2 * M.st l' o' - M.st l o) / 7 ∧ M.re l a o l' a' o' = 0) := by
        rw [hon] at hk; exact ⟨by rw [M.rl_yes hk0, M.ml_yes hk, show M.st l' o' + (M.st l' o' - M.st l o) = 2 * M.st l' o' - M.st l o by omega, show M.hv l' a' o' + (M.hv l' a' o' - M.hv l a o) = 2 * M.hv l' a' o' - M.hv l a o by omega, M.pl_yes hon], by rw [M.ra_yes hk0, M.ma_yes hk, show M.st l' o' + (M.st l' o' - M.st l o) = 2 * M.st l' o' - M.st l o by omega, show M.hv l' a' o' + (M.hv l' a' o' - M.hv l a o) = 2 * M.hv l' a' o' - M.hv l a o by omega, M.pa_yes hon], by rw [M.ro_yes hk0, M.mo_yes hk, show M.st l' o' + (M.st l' o' - M.st l o) = 2 * M.st l' o' - M.st l o by omega, show M.hv l' a' o' + (M.hv l' a' o' - M.hv l a o) = 2 * M.hv l' a' o' - M.hv l a o by omega, M.po_yes hon], by rw [M.re_yes hk0, M.me_yes hk]⟩
      clear hk
      go_wp2_with fail
      refine bodyPost_ret (v := .tuple #[.agg #[.int .i64 ((2 * M.st l' o' - M.st l o) % 7), .int .i64 (2 * M.hv l' a' o' - M.hv l a o - M.wh (2 * M.st l' o' - M.st l o)), .int .i64 ((2 * M.st l' o' - M.st l o) / 7)], .int .i64 0]) (by simp [results, Tryd.results26, go_sem, d0, d1, d2]) rfl ⟨by rw [HE.out.1, HE.out.2.1, HE.out.2.2.1, HE.out.2.2.2], ?_⟩
      exact ((hb0c.setCell (by simp; omega) _).setCell (by simp; omega) _).setCell (by simp; omega) _

theorem refMirror_any (l a o l' a' o' : Int) (w : World) (a1 : -9223372036854775808 ≤ a) (a2 : a ≤ 9223372036854775807) (a3 : -9223372036854775808 ≤ a') (a4 : a' ≤ 9223372036854775807) :
    Calls Tryd.prog 26 #[.agg #[.int .i64 l, .int .i64 a, .int .i64 o], .agg #[.int .i64 l', .int .i64 a', .int .i64 o']] w fun e w' => e = .returned (.tuple #[.agg #[.int .i64 (M.rl l a o l' a' o'), .int .i64 (M.ra l a o l' a' o'), .int .i64 (M.ro l a o l' a' o')], .int .i64 (M.re l a o l' a' o')]) ∧ Below w.heap.size w w' := by
  cases hk : M.bk l a o l' a' o'
  · rw [M.rl_no hk, M.ra_no hk, M.ro_no hk, M.re_no hk]; exact refMirror_no l a o l' a' o' w a1 a2 a3 a4 hk
  · exact refMirror_yes l a o l' a' o' w a1 a2 a3 a4 hk

end Go.Proofs.YtjakaceckmhjiafDoor
