/- What the document's Move and Mirror come to. -/
import Derived.Test.YtjakaceckmhjiafDoorQR3
namespace Go.Proofs.YtjakaceckmhjiafDoor
open Go.RowKit
attribute [local go_sem ↓] Go.wp_at_zero Go.wp_at_succ
set_option linter.unusedSimpArgs false

theorem new_kept {X w' : World} {v0 v1 v2 : Value} {t : TypeId} (hb : Below (X.alloc (Obj.cells #[v0, v1, v2] t)).heap.size (X.alloc (Obj.cells #[v0, v1, v2] t)) w') : w'.cell? ⟨X.heap.size, 0, none⟩ = some v0 ∧ w'.cell? ⟨X.heap.size, 1, none⟩ = some v1 ∧ w'.cell? ⟨X.heap.size, 2, none⟩ = some v2 ∧ w'.frozen? ⟨X.heap.size, 0, none⟩ = false ∧ w'.frozen? ⟨X.heap.size, 1, none⟩ = false ∧ w'.frozen? ⟨X.heap.size, 2, none⟩ = false ∧ X.heap.size < w'.heap.size :=
  ⟨keepC hb (by simp) (by simp [go_sem]), keepC hb (by simp) (by simp [go_sem]), keepC hb (by simp) (by simp [go_sem]), keepF hb (by simp) (by simp [go_sem]), keepF hb (by simp) (by simp [go_sem]), keepF hb (by simp) (by simp [go_sem]), by have := hb.size; simp at this; omega⟩
theorem new_kept_drew {X w' : World} {v0 v1 v2 : Value} {t : TypeId} (hb : Below (X.alloc (Obj.cells #[v0, v1, v2] t)).drew.heap.size (X.alloc (Obj.cells #[v0, v1, v2] t)).drew w') : w'.cell? ⟨X.heap.size, 0, none⟩ = some v0 ∧ w'.cell? ⟨X.heap.size, 1, none⟩ = some v1 ∧ w'.cell? ⟨X.heap.size, 2, none⟩ = some v2 ∧ w'.frozen? ⟨X.heap.size, 0, none⟩ = false ∧ w'.frozen? ⟨X.heap.size, 1, none⟩ = false ∧ w'.frozen? ⟨X.heap.size, 2, none⟩ = false ∧ X.heap.size < w'.heap.size :=
  ⟨keepC hb (by simp) (by simp [go_sem]), keepC hb (by simp) (by simp [go_sem]), keepC hb (by simp) (by simp [go_sem]), keepF hb (by simp) (by simp [go_sem]), keepF hb (by simp) (by simp [go_sem]), keepF hb (by simp) (by simp [go_sem]), by have := hb.size; simp at this; omega⟩

theorem refMove_form (l a o s h : Int) (w : World) (a1 : -9223372036854775808 ≤ a) (a2 : a ≤ 9223372036854775807) (hr : M.rt l a o = false) :
    Calls Tryd.prog 27 #[.agg #[.int .i64 l, .int .i64 a, .int .i64 o], .agg #[.int .i64 s, .int .i64 h]] w fun e w' => e = .returned (.tuple #[.agg #[.int .i64 0, .int .i64 0, .int .i64 0], .int .i64 2]) ∧ Below w.heap.size w w' := by
  go_enter Tryd.func27, Tryd.ntmps27
  go_wp2_with fail
  refine (refRight_any l a o _ a1 a2).mono ?_
  rintro e w1 ⟨rfl, hb1⟩
  rw [hr]
  have hz := hb1.size
  simp at hz
  have hb01 : Below w.heap.size w w1 := Below.trans (by go_grown) (hb1.mono (by simp; omega))
  have d0 : w1.cell? ⟨w.heap.size + 1 + 1, 0, none⟩ = some (.int .i64 0) := keepC hb1 (by simp) (by simp [go_sem])
  have d1 : w1.cell? ⟨w.heap.size + 1 + 1, 1, none⟩ = some (.int .i64 0) := keepC hb1 (by simp) (by simp [go_sem])
  have d2 : w1.cell? ⟨w.heap.size + 1 + 1, 2, none⟩ = some (.int .i64 0) := keepC hb1 (by simp) (by simp [go_sem])
  have f0 : w1.frozen? ⟨w.heap.size + 1 + 1, 0, none⟩ = false := keepF hb1 (by simp) (by simp [go_sem])
  have f1 : w1.frozen? ⟨w.heap.size + 1 + 1, 1, none⟩ = false := keepF hb1 (by simp) (by simp [go_sem])
  have f2 : w1.frozen? ⟨w.heap.size + 1 + 1, 2, none⟩ = false := keepF hb1 (by simp) (by simp [go_sem])
  go_wp2_with fail
  refine bodyPost_ret (v := .tuple #[.agg #[.int .i64 0, .int .i64 0, .int .i64 0], .int .i64 2]) (by simp [results, Tryd.results27, go_sem, d0, d1, d2]) rfl ⟨rfl, ?_⟩
  exact (((hb01.setCell (by simp; omega) _).setCell (by simp; omega) _).setCell (by simp; omega) _)

theorem refMove_range (l a o s h : Int) (w : World) (a1 : -9223372036854775808 ≤ a) (a2 : a ≤ 9223372036854775807) (hr : M.rt l a o = true) (hi : M.inb s h = false) :
    Calls Tryd.prog 27 #[.agg #[.int .i64 l, .int .i64 a, .int .i64 o], .agg #[.int .i64 s, .int .i64 h]] w fun e w' => e = .returned (.tuple #[.agg #[.int .i64 0, .int .i64 0, .int .i64 0], .int .i64 3]) ∧ Below w.heap.size w w' := by
  go_enter Tryd.func27, Tryd.ntmps27
  go_wp2_with fail
  refine (refRight_any l a o _ a1 a2).mono ?_
  rintro e w1 ⟨rfl, hb1⟩
  rw [hr]
  have hz := hb1.size
  simp at hz
  have hb01 : Below w.heap.size w w1 := Below.trans (by go_grown) (hb1.mono (by simp; omega))
  have p0 : w1.cell? ⟨w.heap.size, 0, none⟩ = some (.int .i64 l) := keepC hb1 (by simp; omega) (by simp [go_sem])
  have p1 : w1.cell? ⟨w.heap.size, 1, none⟩ = some (.int .i64 a) := keepC hb1 (by simp; omega) (by simp [go_sem])
  have p2 : w1.cell? ⟨w.heap.size, 2, none⟩ = some (.int .i64 o) := keepC hb1 (by simp; omega) (by simp [go_sem])
  have q0 : w1.cell? ⟨w.heap.size + 1, 0, none⟩ = some (.int .i64 s) := keepC hb1 (by simp) (by simp [go_sem])
  have q1 : w1.cell? ⟨w.heap.size + 1, 1, none⟩ = some (.int .i64 h) := keepC hb1 (by simp) (by simp [go_sem])
  have d0 : w1.cell? ⟨w.heap.size + 1 + 1, 0, none⟩ = some (.int .i64 0) := keepC hb1 (by simp) (by simp [go_sem])
  have d1 : w1.cell? ⟨w.heap.size + 1 + 1, 1, none⟩ = some (.int .i64 0) := keepC hb1 (by simp) (by simp [go_sem])
  have d2 : w1.cell? ⟨w.heap.size + 1 + 1, 2, none⟩ = some (.int .i64 0) := keepC hb1 (by simp) (by simp [go_sem])
  have f0 : w1.frozen? ⟨w.heap.size + 1 + 1, 0, none⟩ = false := keepF hb1 (by simp) (by simp [go_sem])
  have f1 : w1.frozen? ⟨w.heap.size + 1 + 1, 1, none⟩ = false := keepF hb1 (by simp) (by simp [go_sem])
  have f2 : w1.frozen? ⟨w.heap.size + 1 + 1, 2, none⟩ = false := keepF hb1 (by simp) (by simp [go_sem])
  go_wp2_with fail
  refine (Within_any s h _).mono ?_
  rintro e w2 ⟨rfl, hb2⟩
  rw [hi]
  have hz2 := hb2.size
  have hb02 := hb01.trans (hb2.mono hb01.size)
  replace p0 := keepC hb2 (by omega) p0
  replace p1 := keepC hb2 (by omega) p1
  replace p2 := keepC hb2 (by omega) p2
  replace q0 := keepC hb2 (by omega) q0
  replace q1 := keepC hb2 (by omega) q1
  replace d0 := keepC hb2 (by omega) d0
  replace d1 := keepC hb2 (by omega) d1
  replace d2 := keepC hb2 (by omega) d2
  replace f0 := keepF hb2 (by omega) f0
  replace f1 := keepF hb2 (by omega) f1
  replace f2 := keepF hb2 (by omega) f2
  have s2 : w.heap.size + 1 + 1 < w2.heap.size := by omega
  go_wp2_with fail
  refine bodyPost_ret (v := .tuple #[.agg #[.int .i64 0, .int .i64 0, .int .i64 0], .int .i64 3]) (by simp [results, Tryd.results27, go_sem, d0, d1, d2]) rfl ⟨rfl, ?_⟩
  exact (((hb02.setCell (by simp; omega) _).setCell (by simp; omega) _).setCell (by simp; omega) _)

set_option maxRecDepth 20000 in
set_option maxHeartbeats 4000000 in
theorem refMove_in (l a o s h : Int) (w : World) (a1 : -9223372036854775808 ≤ a) (a2 : a ≤ 9223372036854775807) (hr : M.rt l a o = true) (hi : M.inb s h = true) :
    Calls Tryd.prog 27 #[.agg #[.int .i64 l, .int .i64 a, .int .i64 o], .agg #[.int .i64 s, .int .i64 h]] w fun e w' => e = .returned (.tuple #[.agg #[.int .i64 (M.ml l a o s h), .int .i64 (M.ma l a o s h), .int .i64 (M.mo l a o s h)], .int .i64 (M.me l a o s h)]) ∧ Below w.heap.size w w' := by
  obtain ⟨x1, x2, x3, x4, x5, x6⟩ := M.rt_yes hr
  have hv := M.hv_bd hr
  have hi' := M.inb_yes hi
  have hk := M.mk_on (s := s) (h := h) hr hi
  go_enter Tryd.func27, Tryd.ntmps27
  go_wp2_with fail
  refine (refRight_any l a o _ a1 a2).mono ?_
  rintro e w1 ⟨rfl, hb1⟩
  rw [hr]
  have hz := hb1.size
  simp at hz
  have hb01 : Below w.heap.size w w1 := Below.trans (by go_grown) (hb1.mono (by simp; omega))
  have p0 : w1.cell? ⟨w.heap.size, 0, none⟩ = some (.int .i64 l) := keepC hb1 (by simp; omega) (by simp [go_sem])
  have p1 : w1.cell? ⟨w.heap.size, 1, none⟩ = some (.int .i64 a) := keepC hb1 (by simp; omega) (by simp [go_sem])
  have p2 : w1.cell? ⟨w.heap.size, 2, none⟩ = some (.int .i64 o) := keepC hb1 (by simp; omega) (by simp [go_sem])
  have q0 : w1.cell? ⟨w.heap.size + 1, 0, none⟩ = some (.int .i64 s) := keepC hb1 (by simp) (by simp [go_sem])
  have q1 : w1.cell? ⟨w.heap.size + 1, 1, none⟩ = some (.int .i64 h) := keepC hb1 (by simp) (by simp [go_sem])
  have d0 : w1.cell? ⟨w.heap.size + 1 + 1, 0, none⟩ = some (.int .i64 0) := keepC hb1 (by simp) (by simp [go_sem])
  have d1 : w1.cell? ⟨w.heap.size + 1 + 1, 1, none⟩ = some (.int .i64 0) := keepC hb1 (by simp) (by simp [go_sem])
  have d2 : w1.cell? ⟨w.heap.size + 1 + 1, 2, none⟩ = some (.int .i64 0) := keepC hb1 (by simp) (by simp [go_sem])
  have f0 : w1.frozen? ⟨w.heap.size + 1 + 1, 0, none⟩ = false := keepF hb1 (by simp) (by simp [go_sem])
  have f1 : w1.frozen? ⟨w.heap.size + 1 + 1, 1, none⟩ = false := keepF hb1 (by simp) (by simp [go_sem])
  have f2 : w1.frozen? ⟨w.heap.size + 1 + 1, 2, none⟩ = false := keepF hb1 (by simp) (by simp [go_sem])
  go_wp2_with fail
  refine (Within_any s h _).mono ?_
  rintro e w2 ⟨rfl, hb2⟩
  rw [hi]
  have hz2 := hb2.size
  have hb02 := hb01.trans (hb2.mono hb01.size)
  replace p0 := keepC hb2 (by omega) p0
  replace p1 := keepC hb2 (by omega) p1
  replace p2 := keepC hb2 (by omega) p2
  replace q0 := keepC hb2 (by omega) q0
  replace q1 := keepC hb2 (by omega) q1
  replace d0 := keepC hb2 (by omega) d0
  replace d1 := keepC hb2 (by omega) d1
  replace d2 := keepC hb2 (by omega) d2
  replace f0 := keepF hb2 (by omega) f0
  replace f1 := keepF hb2 (by omega) f1
  replace f2 := keepF hb2 (by omega) f2
  have s2 : w.heap.size + 1 + 1 < w2.heap.size := by omega
  have mkS : ∀ w', Below w2.heap.size w2 w' → (Below w2.heap.size w2 w' ∧ w'.cell? ⟨w.heap.size, 0, none⟩ = some (.int .i64 l) ∧ w'.cell? ⟨w.heap.size, 1, none⟩ = some (.int .i64 a) ∧ w'.cell? ⟨w.heap.size, 2, none⟩ = some (.int .i64 o) ∧ w'.cell? ⟨w.heap.size + 1, 0, none⟩ = some (.int .i64 s) ∧ w'.cell? ⟨w.heap.size + 1, 1, none⟩ = some (.int .i64 h)) := fun w' h => ⟨h, keepC h (by omega) p0, keepC h (by omega) p1, keepC h (by omega) p2, keepC h (by omega) q0, keepC h (by omega) q1⟩
  go_wp2_with fail
  go_cut [6, 7] (fun c q wx => ∃ b : Nat, c = .pointer (some ⟨b, 0, none⟩) ∧ q = .bool (M.onB (M.st l o + s) (M.hv l a o + h)) ∧ w2.heap.size ≤ b ∧ b < wx.heap.size ∧ Below w2.heap.size w2 wx ∧ wx.cell? ⟨b, 0, none⟩ = some (.int .i64 ((M.st l o + s) % 7)) ∧ wx.cell? ⟨b, 1, none⟩ = some (.int .i64 (M.hv l a o + h - M.wh (M.st l o + s))) ∧ wx.cell? ⟨b, 2, none⟩ = some (.int .i64 ((M.st l o + s) / 7)))
  case first =>
    go_region_held3 (fun w' => Below w2.heap.size w2 w' ∧ w'.cell? ⟨w.heap.size, 0, none⟩ = some (.int .i64 l) ∧ w'.cell? ⟨w.heap.size, 1, none⟩ = some (.int .i64 a) ∧ w'.cell? ⟨w.heap.size, 2, none⟩ = some (.int .i64 o) ∧ w'.cell? ⟨w.heap.size + 1, 0, none⟩ = some (.int .i64 s) ∧ w'.cell? ⟨w.heap.size + 1, 1, none⟩ = some (.int .i64 h))
      (first | exact mkS _ hbn | exact mkS _ (hbn.alloc hbn.size _) | exact mkS _ (((hbn.setCell hnl _).setCell hnl _).setCell hnl _) | (refine mkS _ ?_; (solve | go_grown)))
      (first
        | (go_at_call 42; refine (Steps_any _ _ _ _ ?_ ?_ ?_ ?_).mono ?_; (all_goals first | omega | skip); rintro e wa ⟨rfl, hba⟩
           first
             | (have hbn : Below w2.heap.size w2 wa := hbn.trans (hba.mono hbn.size); first | (have n0 := keepC hba hnz n0; have n1 := keepC hba hnz n1; have n2 := keepC hba hnz n2; have g0 := keepF hba hnz g0; have g1 := keepF hba hnz g1; have g2 := keepF hba hnz g2; have hnz := Nat.lt_of_lt_of_le hnz hba.size) | skip)
             | (have hnl := hbn.size; have nn := new_kept hba; obtain ⟨n0, n1, n2, g0, g1, g2, hnz⟩ := nn; have hbn : Below w2.heap.size w2 wa := (hbn.alloc hbn.size _).trans (hba.mono (Nat.le_trans hbn.size (by simp))))
             | (have hbn : Below w2.heap.size w2 wa := Below.trans (by go_grown) (hba.mono (by simp)); first | (have nn := new_kept_drew hba; obtain ⟨n0, n1, n2, g0, g1, g2, hnz⟩ := nn; have hnl := Nat.le_refl w2.heap.size) | skip))
        | (go_at_call 43; refine (Halves_any _ _ _ _ ?_ ?_ ?_ ?_ ?_ ?_).mono ?_; (all_goals first | omega | skip); rintro e wa ⟨rfl, hba⟩
           first
             | (have hbn : Below w2.heap.size w2 wa := hbn.trans (hba.mono hbn.size); first | (have n0 := keepC hba hnz n0; have n1 := keepC hba hnz n1; have n2 := keepC hba hnz n2; have g0 := keepF hba hnz g0; have g1 := keepF hba hnz g1; have g2 := keepF hba hnz g2; have hnz := Nat.lt_of_lt_of_le hnz hba.size) | skip)
             | (have hnl := hbn.size; have nn := new_kept hba; obtain ⟨n0, n1, n2, g0, g1, g2, hnz⟩ := nn; have hbn : Below w2.heap.size w2 wa := (hbn.alloc hbn.size _).trans (hba.mono (Nat.le_trans hbn.size (by simp))))
             | (have hbn : Below w2.heap.size w2 wa := Below.trans (by go_grown) (hba.mono (by simp)); first | (have nn := new_kept_drew hba; obtain ⟨n0, n1, n2, g0, g1, g2, hnz⟩ := nn; have hnl := Nat.le_refl w2.heap.size) | skip))
        | (go_at_call 44; rw [wid (show -9223372036854775808 ≤ M.st l o + s by omega) (by omega), wid (show -9223372036854775808 ≤ M.hv l a o + h by omega) (by omega)]; refine (At_any _ _ _ ?_ ?_ ?_ ?_).mono ?_; (all_goals first | omega | skip); rintro e wa ⟨rfl, hba⟩
           first
             | (have hbn : Below w2.heap.size w2 wa := hbn.trans (hba.mono hbn.size); first | (have n0 := keepC hba hnz n0; have n1 := keepC hba hnz n1; have n2 := keepC hba hnz n2; have g0 := keepF hba hnz g0; have g1 := keepF hba hnz g1; have g2 := keepF hba hnz g2; have hnz := Nat.lt_of_lt_of_le hnz hba.size) | skip)
             | (have hnl := hbn.size; have nn := new_kept hba; obtain ⟨n0, n1, n2, g0, g1, g2, hnz⟩ := nn; have hbn : Below w2.heap.size w2 wa := (hbn.alloc hbn.size _).trans (hba.mono (Nat.le_trans hbn.size (by simp))))
             | (have hbn : Below w2.heap.size w2 wa := Below.trans (by go_grown) (hba.mono (by simp)); first | (have nn := new_kept_drew hba; obtain ⟨n0, n1, n2, g0, g1, g2, hnz⟩ := nn; have hnl := Nat.le_refl w2.heap.size) | skip)))
    all_goals
      go_wp2_with fail
      go_meet
      case rel =>
        first
          | exact ⟨wa.heap.size, rfl, rfl, hbn.size, by simp, hbn.alloc hbn.size _, by simp [go_sem], by simp [go_sem], by simp [go_sem]⟩
          | exact ⟨_, rfl, rfl, hnl, by simpa [World.setCell] using hnz, ((hbn.setCell hnl _).setCell hnl _).setCell hnl _, by simp [go_sem, n0], by simp [go_sem, n1], by simp [go_sem, n2]⟩
  case rest =>
    obtain ⟨b, rfl, rfl, hb5, hb6, hbx, n0, n1, n2⟩ := hcut
    replace d0 := keepC hbx (by omega) d0
    replace d1 := keepC hbx (by omega) d1
    replace d2 := keepC hbx (by omega) d2
    replace f0 := keepF hbx (by omega) f0
    replace f1 := keepF hbx (by omega) f1
    replace f2 := keepF hbx (by omega) f2
    have hb0c := hb02.trans (hbx.mono (by omega))
    have s7 : w.heap.size + 1 + 1 < wc.heap.size := by omega
    cases hon : M.onB (M.st l o + s) (M.hv l a o + h)
    · have HE : Hid (M.ml l a o s h = 0 ∧ M.ma l a o s h = 0 ∧ M.mo l a o s h = 0 ∧ M.me l a o s h = 3) := by
        rw [hon] at hk; exact ⟨M.ml_no hk, M.ma_no hk, M.mo_no hk, M.me_no hk hr⟩
      clear hk
      go_wp2_with fail
      refine bodyPost_ret (v := .tuple #[.agg #[.int .i64 0, .int .i64 0, .int .i64 0], .int .i64 3]) (by simp [results, Tryd.results27, go_sem, d0, d1, d2]) rfl ⟨by rw [HE.out.1, HE.out.2.1, HE.out.2.2.1, HE.out.2.2.2], ?_⟩
      exact ((hb0c.setCell (by simp; omega) _).setCell (by simp; omega) _).setCell (by simp; omega) _
    · have HE : Hid (M.ml l a o s h = (M.st l o + s) % 7 ∧ M.ma l a o s h = M.hv l a o + h - M.wh (M.st l o + s) ∧ M.mo l a o s h = (M.st l o + s) / 7 ∧ M.me l a o s h = 0) := by
        rw [hon] at hk; exact ⟨by rw [M.ml_yes hk, M.pl_yes hon], by rw [M.ma_yes hk, M.pa_yes hon], by rw [M.mo_yes hk, M.po_yes hon], M.me_yes hk⟩
      clear hk
      go_wp2_with fail
      refine bodyPost_ret (v := .tuple #[.agg #[.int .i64 ((M.st l o + s) % 7), .int .i64 (M.hv l a o + h - M.wh (M.st l o + s)), .int .i64 ((M.st l o + s) / 7)], .int .i64 0]) (by simp [results, Tryd.results27, go_sem, d0, d1, d2]) rfl ⟨by rw [HE.out.1, HE.out.2.1, HE.out.2.2.1, HE.out.2.2.2], ?_⟩
      exact ((hb0c.setCell (by simp; omega) _).setCell (by simp; omega) _).setCell (by simp; omega) _

theorem refMove_any (l a o s h : Int) (w : World) (a1 : -9223372036854775808 ≤ a) (a2 : a ≤ 9223372036854775807) :
    Calls Tryd.prog 27 #[.agg #[.int .i64 l, .int .i64 a, .int .i64 o], .agg #[.int .i64 s, .int .i64 h]] w fun e w' => e = .returned (.tuple #[.agg #[.int .i64 (M.ml l a o s h), .int .i64 (M.ma l a o s h), .int .i64 (M.mo l a o s h)], .int .i64 (M.me l a o s h)]) ∧ Below w.heap.size w w' := by
  cases hr : M.rt l a o
  · rw [M.ml_no (M.mk_form hr), M.ma_no (M.mk_form hr), M.mo_no (M.mk_form hr), M.me_form hr]; exact refMove_form l a o s h w a1 a2 hr
  · cases hi : M.inb s h
    · rw [M.ml_no (M.mk_range hi), M.ma_no (M.mk_range hi), M.mo_no (M.mk_range hi), M.me_no (M.mk_range hi) hr]; exact refMove_range l a o s h w a1 a2 hr hi
    · exact refMove_in l a o s h w a1 a2 hr hi

end Go.Proofs.YtjakaceckmhjiafDoor
