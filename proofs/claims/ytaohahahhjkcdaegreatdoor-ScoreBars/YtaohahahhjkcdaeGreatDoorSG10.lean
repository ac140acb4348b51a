/- What the program's Sum, Move and Mirror come to, and the law's first question. -/
import Derived.Test.YtaohahahhjkcdaeGreatDoorSG8
import Derived.Deep.DeepCutAuto
namespace Go.Proofs.YtaohahahhjkcdaeGreatDoor
open Go.RowKit
attribute [local go_sem ↓] Go.wp_at_zero Go.wp_at_succ
set_option linter.unusedSimpArgs false

theorem Move_form (l a o s h : Int) (w : World) (hr : M.rt l a o = false) :
    Calls Tryz.prog 107 #[.agg #[.int .i64 l, .int .i64 a, .int .i64 o], .agg #[.int .i64 s, .int .i64 h]] w fun e w' => e = .returned (.tuple #[.agg #[.int .i64 0, .int .i64 0, .int .i64 0], .int .i64 2]) ∧ Below w.heap.size w w' := by
  go_enter Tryz.func107, Tryz.ntmps107
  go_wp2_with fail
  refine (Right_any l a o _).mono ?_
  rintro e w1 ⟨rfl, hb1⟩
  rw [hr]
  have hz := hb1.size
  simp at hz
  have hb01 : Below w.heap.size w w1 := Below.trans (by go_grown) (hb1.mono (by simp; omega))
  have d0 : w1.cell? ⟨w.heap.size + 1 + 1, 0, none⟩ = some (.int .i64 0) := keepC hb1 (by simp) (by simp [go_sem])
  have d1 : w1.cell? ⟨w.heap.size + 1 + 1, 1, none⟩ = some (.int .i64 0) := keepC hb1 (by simp) (by simp [go_sem])
  have d2 : w1.cell? ⟨w.heap.size + 1 + 1, 2, none⟩ = some (.int .i64 0) := keepC hb1 (by simp) (by simp [go_sem])
  have f0 : w1.frozen? ⟨w.heap.size + 1 + 1, 0, none⟩ = false := keepF hb1 (by simp) (by simp [go_sem])
  have f1 : w1.frozen? ⟨w.heap.size + 1 + 1, 1, none⟩ = false := keepF hb1 (by simp) (by simp [go_sem])
  have f2 : w1.frozen? ⟨w.heap.size + 1 + 1, 2, none⟩ = false := keepF hb1 (by simp) (by simp [go_sem])
  go_wp2_with fail
  refine bodyPost_ret (v := .tuple #[.agg #[.int .i64 0, .int .i64 0, .int .i64 0], .int .i64 2]) (by simp [results, Tryz.results107, go_sem, d0, d1, d2]) rfl ⟨rfl, ?_⟩
  exact (((hb01.setCell (by simp; omega) _).setCell (by simp; omega) _).setCell (by simp; omega) _)

theorem Move_range (l a o s h : Int) (w : World) (hr : M.rt l a o = true) (hi : M.inb s h = false) :
    Calls Tryz.prog 107 #[.agg #[.int .i64 l, .int .i64 a, .int .i64 o], .agg #[.int .i64 s, .int .i64 h]] w fun e w' => e = .returned (.tuple #[.agg #[.int .i64 0, .int .i64 0, .int .i64 0], .int .i64 3]) ∧ Below w.heap.size w w' := by
  go_enter Tryz.func107, Tryz.ntmps107
  go_wp2_with fail
  refine (Right_any l a o _).mono ?_
  rintro e w1 ⟨rfl, hb1⟩
  rw [hr]
  have hz := hb1.size
  simp at hz
  have hb01 : Below w.heap.size w w1 := Below.trans (by go_grown) (hb1.mono (by simp; omega))
  have p0 : w1.cell? ⟨w.heap.size, 0, none⟩ = some (.int .i64 l) := keepC hb1 (by simp; omega) (by simp [go_sem])
  have p1 : w1.cell? ⟨w.heap.size, 1, none⟩ = some (.int .i64 a) := keepC hb1 (by simp; omega) (by simp [go_sem])
  have p2 : w1.cell? ⟨w.heap.size, 2, none⟩ = some (.int .i64 o) := keepC hb1 (by simp; omega) (by simp [go_sem])
  have q0 : w1.cell? ⟨w.heap.size + 1, 0, none⟩ = some (.int .i64 s) := keepC hb1 (by simp) (by simp [go_sem])
  have q1 : w1.cell? ⟨w.heap.size + 1, 1, none⟩ = some (.int .i64 h) := keepC hb1 (by simp) (by simp [go_sem])
  have d0 : w1.cell? ⟨w.heap.size + 1 + 1, 0, none⟩ = some (.int .i64 0) := keepC hb1 (by simp) (by simp [go_sem])
  have d1 : w1.cell? ⟨w.heap.size + 1 + 1, 1, none⟩ = some (.int .i64 0) := keepC hb1 (by simp) (by simp [go_sem])
  have d2 : w1.cell? ⟨w.heap.size + 1 + 1, 2, none⟩ = some (.int .i64 0) := keepC hb1 (by simp) (by simp [go_sem])
  have f0 : w1.frozen? ⟨w.heap.size + 1 + 1, 0, none⟩ = false := keepF hb1 (by simp) (by simp [go_sem])
  have f1 : w1.frozen? ⟨w.heap.size + 1 + 1, 1, none⟩ = false := keepF hb1 (by simp) (by simp [go_sem])
  have f2 : w1.frozen? ⟨w.heap.size + 1 + 1, 2, none⟩ = false := keepF hb1 (by simp) (by simp [go_sem])
  go_wp2_with fail
  refine (bounded_any s h _).mono ?_
  rintro e w2 ⟨rfl, hb2⟩
  rw [hi]
  have hz2 := hb2.size
  have hb02 := hb01.trans (hb2.mono hb01.size)
  replace p0 := keepC hb2 (by omega) p0
  replace p1 := keepC hb2 (by omega) p1
  replace p2 := keepC hb2 (by omega) p2
  replace q0 := keepC hb2 (by omega) q0
  replace q1 := keepC hb2 (by omega) q1
  replace d0 := keepC hb2 (by omega) d0
  replace d1 := keepC hb2 (by omega) d1
  replace d2 := keepC hb2 (by omega) d2
  replace f0 := keepF hb2 (by omega) f0
  replace f1 := keepF hb2 (by omega) f1
  replace f2 := keepF hb2 (by omega) f2
  have s2 : w.heap.size + 1 + 1 < w2.heap.size := by omega
  go_wp2_with fail
  refine bodyPost_ret (v := .tuple #[.agg #[.int .i64 0, .int .i64 0, .int .i64 0], .int .i64 3]) (by simp [results, Tryz.results107, go_sem, d0, d1, d2]) rfl ⟨rfl, ?_⟩
  exact (((hb02.setCell (by simp; omega) _).setCell (by simp; omega) _).setCell (by simp; omega) _)

end Go.Proofs.YtaohahahhjkcdaeGreatDoor

/- What the program's Move comes to, within the bounds. -/
namespace Go.Proofs.YtaohahahhjkcdaeGreatDoor
open Go.RowKit
attribute [local go_sem ↓] Go.wp_at_zero Go.wp_at_succ
set_option linter.unusedSimpArgs false


set_option maxRecDepth 20000 in
set_option maxHeartbeats 4000000 in
theorem Move_in (l a o s h : Int) (w : World) (ht : Tab w) (hr : M.rt l a o = true) (hi : M.inb s h = true) :
    Calls Tryz.prog 107 #[.agg #[.int .i64 l, .int .i64 a, .int .i64 o], .agg #[.int .i64 s, .int .i64 h]] w fun e w' => e = .returned (.tuple #[.agg #[.int .i64 (M.ml l a o s h), .int .i64 (M.ma l a o s h), .int .i64 (M.mo l a o s h)], .int .i64 (M.me l a o s h)]) ∧ Below w.heap.size w w' := by
  obtain ⟨x1, x2, x3, x4, x5, x6⟩ := M.rt_yes hr
  have hv := M.hv_bd hr
  have hi' := M.inb_yes hi
  go_enter Tryz.func107, Tryz.ntmps107
  go_wp2_with fail
  refine (Right_any l a o _).mono ?_
  rintro e w1 ⟨rfl, hb1⟩
  rw [hr]
  have hz := hb1.size
  simp at hz
  have hb01 : Below w.heap.size w w1 := Below.trans (by go_grown) (hb1.mono (by simp; omega))
  have p0 : w1.cell? ⟨w.heap.size, 0, none⟩ = some (.int .i64 l) := keepC hb1 (by simp; omega) (by simp [go_sem])
  have p1 : w1.cell? ⟨w.heap.size, 1, none⟩ = some (.int .i64 a) := keepC hb1 (by simp; omega) (by simp [go_sem])
  have p2 : w1.cell? ⟨w.heap.size, 2, none⟩ = some (.int .i64 o) := keepC hb1 (by simp; omega) (by simp [go_sem])
  have q0 : w1.cell? ⟨w.heap.size + 1, 0, none⟩ = some (.int .i64 s) := keepC hb1 (by simp) (by simp [go_sem])
  have q1 : w1.cell? ⟨w.heap.size + 1, 1, none⟩ = some (.int .i64 h) := keepC hb1 (by simp) (by simp [go_sem])
  have d0 : w1.cell? ⟨w.heap.size + 1 + 1, 0, none⟩ = some (.int .i64 0) := keepC hb1 (by simp) (by simp [go_sem])
  have d1 : w1.cell? ⟨w.heap.size + 1 + 1, 1, none⟩ = some (.int .i64 0) := keepC hb1 (by simp) (by simp [go_sem])
  have d2 : w1.cell? ⟨w.heap.size + 1 + 1, 2, none⟩ = some (.int .i64 0) := keepC hb1 (by simp) (by simp [go_sem])
  have f0 : w1.frozen? ⟨w.heap.size + 1 + 1, 0, none⟩ = false := keepF hb1 (by simp) (by simp [go_sem])
  have f1 : w1.frozen? ⟨w.heap.size + 1 + 1, 1, none⟩ = false := keepF hb1 (by simp) (by simp [go_sem])
  have f2 : w1.frozen? ⟨w.heap.size + 1 + 1, 2, none⟩ = false := keepF hb1 (by simp) (by simp [go_sem])
  go_wp2_with fail
  refine (bounded_any s h _).mono ?_
  rintro e w2 ⟨rfl, hb2⟩
  rw [hi]
  have hz2 := hb2.size
  have hb02 := hb01.trans (hb2.mono hb01.size)
  replace p0 := keepC hb2 (by omega) p0
  replace p1 := keepC hb2 (by omega) p1
  replace p2 := keepC hb2 (by omega) p2
  replace q0 := keepC hb2 (by omega) q0
  replace q1 := keepC hb2 (by omega) q1
  replace d0 := keepC hb2 (by omega) d0
  replace d1 := keepC hb2 (by omega) d1
  replace d2 := keepC hb2 (by omega) d2
  replace f0 := keepF hb2 (by omega) f0
  replace f1 := keepF hb2 (by omega) f1
  replace f2 := keepF hb2 (by omega) f2
  have s2 : w.heap.size + 1 + 1 < w2.heap.size := by omega
  have ht2 := ht.step hb02
  have mkS : ∀ w', Below w2.heap.size w2 w' → (Below w2.heap.size w2 w' ∧ w'.cell? ⟨w.heap.size, 0, none⟩ = some (.int .i64 l) ∧ w'.cell? ⟨w.heap.size, 1, none⟩ = some (.int .i64 a) ∧ w'.cell? ⟨w.heap.size, 2, none⟩ = some (.int .i64 o) ∧ w'.cell? ⟨w.heap.size + 1, 0, none⟩ = some (.int .i64 s) ∧ w'.cell? ⟨w.heap.size + 1, 1, none⟩ = some (.int .i64 h)) := fun w' h => ⟨h, keepC h (by omega) p0, keepC h (by omega) p1, keepC h (by omega) p2, keepC h (by omega) q0, keepC h (by omega) q1⟩
  go_wp2_with fail
  go_cut [6] (fun c wx => ∃ b : Nat, c = .pointer (some ⟨b, 0, none⟩) ∧ w2.heap.size ≤ b ∧ b < wx.heap.size ∧ Below w2.heap.size w2 wx ∧ wx.cell? ⟨b, 0, none⟩ = some (.int .i64 ((M.st l o + s) % 7)) ∧ wx.cell? ⟨b, 1, none⟩ = some (.int .i64 0) ∧ wx.cell? ⟨b, 2, none⟩ = some (.int .i64 ((M.st l o + s) / 7)) ∧ wx.frozen? ⟨b, 0, none⟩ = false ∧ wx.frozen? ⟨b, 1, none⟩ = false ∧ wx.frozen? ⟨b, 2, none⟩ = false)
  case first =>
    go_region_held3 (fun w' => Below w2.heap.size w2 w' ∧ w'.cell? ⟨w.heap.size, 0, none⟩ = some (.int .i64 l) ∧ w'.cell? ⟨w.heap.size, 1, none⟩ = some (.int .i64 a) ∧ w'.cell? ⟨w.heap.size, 2, none⟩ = some (.int .i64 o) ∧ w'.cell? ⟨w.heap.size + 1, 0, none⟩ = some (.int .i64 s) ∧ w'.cell? ⟨w.heap.size + 1, 1, none⟩ = some (.int .i64 h))
      (first | exact mkS _ hbn | exact mkS _ (hbn.alloc hbn.size _) | (refine mkS _ ?_; (solve | go_grown)) | (refine mkS _ ?_; exact ((hbn.setCell (by (solve | simp | (simp; exact hbn0.size))) _).setCell (by (solve | simp | (simp; exact hbn0.size))) _).setCell (by (solve | simp | (simp; exact hbn0.size))) _) | (refine mkS _ ?_; exact hbn.setCell (by (solve | simp | (simp; exact hbn0.size))) _) | exact mkS _ (hbn1.setCell (by (solve | simp | (simp; exact hbn0.size))) _))
      (first
        | (go_at_call 125; refine (stepsOf_any _ _ _ _ ?_ ?_ ?_ ?_).mono ?_; (all_goals first | omega | skip); rintro e wa ⟨rfl, hba⟩; have hbn : Below w2.heap.size w2 wa := Below.trans (by go_grown) (hba.mono (by simp)); have hbn0 := hbn; first | (have n0 : wa.cell? ⟨w2.heap.size, 0, none⟩ = some (.int .i64 0) := keepC hba (by (solve | (simp; done) | (simp; omega) | omega)) (by (solve | simp [go_sem] | exact n0)); have g0 : wa.frozen? ⟨w2.heap.size, 0, none⟩ = false := keepF hba (by (solve | (simp; done) | (simp; omega) | omega)) (by (solve | simp [go_sem] | exact g0)); have n1 : wa.cell? ⟨w2.heap.size, 1, none⟩ = some (.int .i64 0) := keepC hba (by (solve | (simp; done) | (simp; omega) | omega)) (by (solve | simp [go_sem] | exact n1)); have g1 : wa.frozen? ⟨w2.heap.size, 1, none⟩ = false := keepF hba (by (solve | (simp; done) | (simp; omega) | omega)) (by (solve | simp [go_sem] | exact g1)); have n2 : wa.cell? ⟨w2.heap.size, 2, none⟩ = some (.int .i64 0) := keepC hba (by (solve | (simp; done) | (simp; omega) | omega)) (by (solve | simp [go_sem] | exact n2)); have g2 : wa.frozen? ⟨w2.heap.size, 2, none⟩ = false := keepF hba (by (solve | (simp; done) | (simp; omega) | omega)) (by (solve | simp [go_sem] | exact g2)); have hnz : w2.heap.size < wa.heap.size := by have := hba.size; (try simp at this); omega) | skip)
        | (go_at_call 118; rw [wid (show -9223372036854775808 ≤ M.st l o + s by omega) (by omega)]; refine (plainAt_any _ _ ?_ ?_).mono ?_; (all_goals first | omega | skip); rintro e wb ⟨rfl, hbb⟩
           first
             | (have hbn : Below w2.heap.size w2 wb := hbn.trans (hbb.mono hbn.size); first | (have n0 : wb.cell? ⟨w2.heap.size, 0, none⟩ = some (.int .i64 0) := keepC hbb (by (solve | (simp; done) | (simp; omega) | omega)) (by (solve | simp [go_sem] | exact n0)); have g0 : wb.frozen? ⟨w2.heap.size, 0, none⟩ = false := keepF hbb (by (solve | (simp; done) | (simp; omega) | omega)) (by (solve | simp [go_sem] | exact g0)); have n1 : wb.cell? ⟨w2.heap.size, 1, none⟩ = some (.int .i64 0) := keepC hbb (by (solve | (simp; done) | (simp; omega) | omega)) (by (solve | simp [go_sem] | exact n1)); have g1 : wb.frozen? ⟨w2.heap.size, 1, none⟩ = false := keepF hbb (by (solve | (simp; done) | (simp; omega) | omega)) (by (solve | simp [go_sem] | exact g1)); have n2 : wb.cell? ⟨w2.heap.size, 2, none⟩ = some (.int .i64 0) := keepC hbb (by (solve | (simp; done) | (simp; omega) | omega)) (by (solve | simp [go_sem] | exact n2)); have g2 : wb.frozen? ⟨w2.heap.size, 2, none⟩ = false := keepF hbb (by (solve | (simp; done) | (simp; omega) | omega)) (by (solve | simp [go_sem] | exact g2)); have hnz : w2.heap.size < wb.heap.size := by have := hbb.size; (try simp at this); omega) | skip)
             | (have hbn : Below w2.heap.size w2 wb := (hbn.alloc hbn.size _).trans (hbb.mono (by have := hbn.size; simp; omega)); have n0 : wb.cell? ⟨wa.heap.size, 0, none⟩ = some (.int .i64 0) := keepC hbb (by (solve | (simp; done) | (simp; omega) | omega)) (by (solve | simp [go_sem] | exact n0)); have g0 : wb.frozen? ⟨wa.heap.size, 0, none⟩ = false := keepF hbb (by (solve | (simp; done) | (simp; omega) | omega)) (by (solve | simp [go_sem] | exact g0)); have n1 : wb.cell? ⟨wa.heap.size, 1, none⟩ = some (.int .i64 0) := keepC hbb (by (solve | (simp; done) | (simp; omega) | omega)) (by (solve | simp [go_sem] | exact n1)); have g1 : wb.frozen? ⟨wa.heap.size, 1, none⟩ = false := keepF hbb (by (solve | (simp; done) | (simp; omega) | omega)) (by (solve | simp [go_sem] | exact g1)); have n2 : wb.cell? ⟨wa.heap.size, 2, none⟩ = some (.int .i64 0) := keepC hbb (by (solve | (simp; done) | (simp; omega) | omega)) (by (solve | simp [go_sem] | exact n2)); have g2 : wb.frozen? ⟨wa.heap.size, 2, none⟩ = false := keepF hbb (by (solve | (simp; done) | (simp; omega) | omega)) (by (solve | simp [go_sem] | exact g2)); have hnz : wa.heap.size < wb.heap.size := by have := hbb.size; (try simp at this); omega)))
    · go_wp2_with fail
      go_meet
      case rel => exact ⟨wb.heap.size, rfl, hbn.size, by simp, hbn.alloc hbn.size _, by simp [go_sem], by simp [go_sem], by simp [go_sem], by simp [go_sem], by simp [go_sem], by simp [go_sem]⟩
    · go_wp2_with fail
      go_meet
      case rel => exact ⟨wa.heap.size, rfl, hbn0.size, by simpa [World.setCell] using hnz, ((hbn.setCell hbn0.size _).setCell hbn0.size _).setCell hbn0.size _, by simp [go_sem, n0], by simp [go_sem, n1], by simp [go_sem, n2], by simp [go_sem, g0], by simp [go_sem, g1], by simp [go_sem, g2]⟩
    · go_wp2_with fail
      go_meet
      case rel => exact ⟨w2.heap.size, rfl, Nat.le_refl _, by simpa [World.setCell] using hnz, ((hbn.setCell (Nat.le_refl _) _).setCell (Nat.le_refl _) _).setCell (Nat.le_refl _) _, by simp [go_sem, n0], by simp [go_sem, n1], by simp [go_sem, n2], by simp [go_sem, g0], by simp [go_sem, g1], by simp [go_sem, g2]⟩
  case rest =>
    obtain ⟨b, rfl, hb5, hb6, hbx, n0, n1, n2, g0, g1, g2⟩ := hcut
    have hT : 0 ≤ (M.st l o + s) % 7 ∧ (M.st l o + s) % 7 ≤ 6 ∧ -1000 ≤ (M.st l o + s) / 7 ∧ (M.st l o + s) / 7 ≤ 1000 := by omega
    have hW := M.wh_bd (M.st l o + s)
    have e0 : M.hv ((M.st l o + s) % 7) 0 ((M.st l o + s) / 7) = M.wh (M.st l o + s) := by rw [M.hv_at]; omega
    replace p0 := keepC hbx (by omega) p0
    replace p1 := keepC hbx (by omega) p1
    replace p2 := keepC hbx (by omega) p2
    replace q0 := keepC hbx (by omega) q0
    replace q1 := keepC hbx (by omega) q1
    have sb : w.heap.size + 1 < wc.heap.size := by omega
    go_wp2_with fail
    go_cut [] (fun wx => Below w2.heap.size w2 wx ∧ b < wx.heap.size ∧ wx.cell? ⟨b, 0, none⟩ = some (.int .i64 ((M.st l o + s) % 7)) ∧ wx.cell? ⟨b, 1, none⟩ = some (.int .i64 (M.hv l a o + h - M.wh (M.st l o + s))) ∧ wx.cell? ⟨b, 2, none⟩ = some (.int .i64 ((M.st l o + s) / 7)))
    case first =>
     go_region_with (first
        | (go_at_call_of 117 (Value.agg #[Value.int IntKind.i64 l, Value.int IntKind.i64 a, Value.int IntKind.i64 o]); refine (halvesOf_any l a o _ (ht2.step (hbx.trans (show Below w2.heap.size wc wc.drew by go_grown))) ?_ ?_ ?_ ?_ ?_ ?_).mono ?_; (all_goals first | omega | skip); rintro e wa ⟨rfl, hba⟩; have hbm : Below wc.heap.size wc wa := Below.trans (by go_grown) (hba.mono (by simp)); have m0 := keepC hbm hb6 n0; have m1 := keepC hbm hb6 n1; have m2 := keepC hbm hb6 n2; have v1 := keepF hbm hb6 g1; have r1 := keepC hbm sb q1; have mz : b < wa.heap.size := by have := hbm.size; omega)
        | (go_at_call 117; refine (halvesOf_any ((M.st l o + s) % 7) 0 ((M.st l o + s) / 7) _ (ht2.step (hbx.trans (hbm.mono hbx.size))) ?_ ?_ ?_ ?_ ?_ ?_).mono ?_; (all_goals first | omega | skip); rintro e wd ⟨rfl, hbd⟩; have m1 := keepC hbd mz m1; have v1 := keepF hbd mz v1; have mz : b < wd.heap.size := Nat.lt_of_lt_of_le mz hbd.size; have hbm : Below wc.heap.size wc wd := hbm.trans (hbd.mono hbm.size); have r1 := keepC hbm sb q1))
     all_goals
      go_wp2_with fail
      go_meet
      case rel =>
        rw [wid (show -9223372036854775808 ≤ M.hv l a o + h by omega) (by omega), wid (show -9223372036854775808 ≤ M.hv l a o + h - M.wh (M.st l o + s) by omega) (by omega)]
        exact ⟨(hbx.trans (hbm.mono hbx.size)).setCell hb5 _, by simpa [World.setCell] using mz, by simp [go_sem, keepC hbm hb6 n0], by simp [go_sem, m1], by simp [go_sem, keepC hbm hb6 n2]⟩
    case rest =>
      clear n0 n1 n2 g0 g1 g2 p0 p1 p2 q0 q1 hbx
      obtain ⟨hby, hb7, n0, n1, n2⟩ := hcut
      replace d0 := keepC hby (by omega) d0
      replace d1 := keepC hby (by omega) d1
      replace d2 := keepC hby (by omega) d2
      replace f0 := keepF hby (by omega) f0
      replace f1 := keepF hby (by omega) f1
      replace f2 := keepF hby (by omega) f2
      have s7 : w.heap.size + 1 + 1 < wc.heap.size := by have := hby.size; omega
      go_wp2_with fail
      refine (Right_any ((M.st l o + s) % 7) (M.hv l a o + h - M.wh (M.st l o + s)) ((M.st l o + s) / 7) _).mono ?_
      rintro e w8 ⟨rfl, hb8⟩
      rw [M.rt_on]
      have hk := M.mk_on (s := s) (h := h) hr hi
      have z8 := hb8.size
      replace d0 := keepC hb8 (by omega) d0
      replace d1 := keepC hb8 (by omega) d1
      replace d2 := keepC hb8 (by omega) d2
      replace f0 := keepF hb8 (by omega) f0
      replace f1 := keepF hb8 (by omega) f1
      replace f2 := keepF hb8 (by omega) f2
      replace n0 := keepC hb8 (by omega) n0
      replace n1 := keepC hb8 (by omega) n1
      replace n2 := keepC hb8 (by omega) n2
      have hb08 : Below w.heap.size w w8 := (hb02.trans (hby.mono (by omega))).trans (hb8.mono (by omega))
      have s8 : w.heap.size + 1 + 1 < w8.heap.size := by omega
      have s9 : b < w8.heap.size := by omega
      cases hon : M.onB (M.st l o + s) (M.hv l a o + h)
      · rw [hon] at hk
        have HE : Hid (M.ml l a o s h = 0 ∧ M.ma l a o s h = 0 ∧ M.mo l a o s h = 0 ∧ M.me l a o s h = 3) := ⟨M.ml_no hk, M.ma_no hk, M.mo_no hk, M.me_no hk hr⟩
        clear hk
        go_wp2_with fail
        refine bodyPost_ret (v := .tuple #[.agg #[.int .i64 0, .int .i64 0, .int .i64 0], .int .i64 3]) (by simp [results, Tryz.results107, go_sem, d0, d1, d2]) rfl ⟨by rw [HE.out.1, HE.out.2.1, HE.out.2.2.1, HE.out.2.2.2], ?_⟩
        exact ((hb08.setCell (by simp; omega) _).setCell (by simp; omega) _).setCell (by simp; omega) _
      · rw [hon] at hk
        have HE : Hid (M.ml l a o s h = (M.st l o + s) % 7 ∧ M.ma l a o s h = M.hv l a o + h - M.wh (M.st l o + s) ∧ M.mo l a o s h = (M.st l o + s) / 7 ∧ M.me l a o s h = 0) := ⟨by rw [M.ml_yes hk, M.pl_yes hon], by rw [M.ma_yes hk, M.pa_yes hon], by rw [M.mo_yes hk, M.po_yes hon], M.me_yes hk⟩
        clear hk
        go_wp2_with fail
        refine bodyPost_ret (v := .tuple #[.agg #[.int .i64 ((M.st l o + s) % 7), .int .i64 (M.hv l a o + h - M.wh (M.st l o + s)), .int .i64 ((M.st l o + s) / 7)], .int .i64 0]) (by simp [results, Tryz.results107, go_sem, d0, d1, d2]) rfl ⟨by rw [HE.out.1, HE.out.2.1, HE.out.2.2.1, HE.out.2.2.2], ?_⟩
        exact ((hb08.setCell (by simp; omega) _).setCell (by simp; omega) _).setCell (by simp; omega) _

end Go.Proofs.YtaohahahhjkcdaeGreatDoor

/- What the document's Halves and At come to. -/
namespace Go.Proofs.YtaohahahhjkcdaeGreatDoor
open Go.RowKit
attribute [local go_sem ↓] Go.wp_at_zero Go.wp_at_succ
set_option linter.unusedSimpArgs false

theorem at_set {w W : World} {s h : Int} (u0 u1 u2 : Value) (k : Below w.heap.size w W ∧ W.cell? ⟨w.heap.size + 1, 0, none⟩ = some (.int .i64 (s % 7)) ∧ W.cell? ⟨w.heap.size + 1, 1, none⟩ = some (.int .i64 (h - M.wh s)) ∧ W.cell? ⟨w.heap.size + 1, 2, none⟩ = some (.int .i64 (s / 7)) ∧ w.heap.size + 1 < W.heap.size ∧ w.heap.size < W.heap.size ∧ W.cell? ⟨w.heap.size, 0, none⟩ = some (cv W w.heap.size 0) ∧ W.cell? ⟨w.heap.size, 1, none⟩ = some (cv W w.heap.size 1) ∧ W.cell? ⟨w.heap.size, 2, none⟩ = some (cv W w.heap.size 2) ∧ W.frozen? ⟨w.heap.size, 0, none⟩ = false ∧ W.frozen? ⟨w.heap.size, 1, none⟩ = false ∧ W.frozen? ⟨w.heap.size, 2, none⟩ = false) :
    Below w.heap.size w (((W.setCell ⟨w.heap.size, 0, none⟩ u0).setCell ⟨w.heap.size, 1, none⟩ u1).setCell ⟨w.heap.size, 2, none⟩ u2) ∧ (((W.setCell ⟨w.heap.size, 0, none⟩ u0).setCell ⟨w.heap.size, 1, none⟩ u1).setCell ⟨w.heap.size, 2, none⟩ u2).cell? ⟨w.heap.size + 1, 0, none⟩ = some (.int .i64 (s % 7)) ∧ (((W.setCell ⟨w.heap.size, 0, none⟩ u0).setCell ⟨w.heap.size, 1, none⟩ u1).setCell ⟨w.heap.size, 2, none⟩ u2).cell? ⟨w.heap.size + 1, 1, none⟩ = some (.int .i64 (h - M.wh s)) ∧ (((W.setCell ⟨w.heap.size, 0, none⟩ u0).setCell ⟨w.heap.size, 1, none⟩ u1).setCell ⟨w.heap.size, 2, none⟩ u2).cell? ⟨w.heap.size + 1, 2, none⟩ = some (.int .i64 (s / 7)) ∧ w.heap.size + 1 < (((W.setCell ⟨w.heap.size, 0, none⟩ u0).setCell ⟨w.heap.size, 1, none⟩ u1).setCell ⟨w.heap.size, 2, none⟩ u2).heap.size ∧ w.heap.size < (((W.setCell ⟨w.heap.size, 0, none⟩ u0).setCell ⟨w.heap.size, 1, none⟩ u1).setCell ⟨w.heap.size, 2, none⟩ u2).heap.size ∧ (((W.setCell ⟨w.heap.size, 0, none⟩ u0).setCell ⟨w.heap.size, 1, none⟩ u1).setCell ⟨w.heap.size, 2, none⟩ u2).cell? ⟨w.heap.size, 0, none⟩ = some (cv (((W.setCell ⟨w.heap.size, 0, none⟩ u0).setCell ⟨w.heap.size, 1, none⟩ u1).setCell ⟨w.heap.size, 2, none⟩ u2) w.heap.size 0) ∧ (((W.setCell ⟨w.heap.size, 0, none⟩ u0).setCell ⟨w.heap.size, 1, none⟩ u1).setCell ⟨w.heap.size, 2, none⟩ u2).cell? ⟨w.heap.size, 1, none⟩ = some (cv (((W.setCell ⟨w.heap.size, 0, none⟩ u0).setCell ⟨w.heap.size, 1, none⟩ u1).setCell ⟨w.heap.size, 2, none⟩ u2) w.heap.size 1) ∧ (((W.setCell ⟨w.heap.size, 0, none⟩ u0).setCell ⟨w.heap.size, 1, none⟩ u1).setCell ⟨w.heap.size, 2, none⟩ u2).cell? ⟨w.heap.size, 2, none⟩ = some (cv (((W.setCell ⟨w.heap.size, 0, none⟩ u0).setCell ⟨w.heap.size, 1, none⟩ u1).setCell ⟨w.heap.size, 2, none⟩ u2) w.heap.size 2) ∧ (((W.setCell ⟨w.heap.size, 0, none⟩ u0).setCell ⟨w.heap.size, 1, none⟩ u1).setCell ⟨w.heap.size, 2, none⟩ u2).frozen? ⟨w.heap.size, 0, none⟩ = false ∧ (((W.setCell ⟨w.heap.size, 0, none⟩ u0).setCell ⟨w.heap.size, 1, none⟩ u1).setCell ⟨w.heap.size, 2, none⟩ u2).frozen? ⟨w.heap.size, 1, none⟩ = false ∧ (((W.setCell ⟨w.heap.size, 0, none⟩ u0).setCell ⟨w.heap.size, 1, none⟩ u1).setCell ⟨w.heap.size, 2, none⟩ u2).frozen? ⟨w.heap.size, 2, none⟩ = false := by
  obtain ⟨hb, p0, p1, p2, s1, s0, d0, d1, d2, f0, f1, f2⟩ := k
  refine ⟨((hb.setCell (p := ⟨w.heap.size, 0, none⟩) (Nat.le_refl _) u0).setCell (p := ⟨w.heap.size, 1, none⟩) (Nat.le_refl _) u1).setCell (p := ⟨w.heap.size, 2, none⟩) (Nat.le_refl _) u2, by simp [go_sem, p0], by simp [go_sem, p1], by simp [go_sem, p2], by simpa [World.setCell] using s1, by simpa [World.setCell] using s0, cv_some (v := u0) (by simp [go_sem, d0]), cv_some (v := u1) (by simp [go_sem, d1]), cv_some (v := u2) (by simp [go_sem, d2]), by simp [go_sem, f0], by simp [go_sem, f1], by simp [go_sem, f2]⟩

end Go.Proofs.YtaohahahhjkcdaeGreatDoor

/- What the document's Key, Between and Sum come to. -/
namespace Go.Proofs.YtaohahahhjkcdaeGreatDoor
open Go.RowKit
attribute [local go_sem ↓] Go.wp_at_zero Go.wp_at_succ
set_option linter.unusedSimpArgs false

end Go.Proofs.YtaohahahhjkcdaeGreatDoor

/- What the document's Move and Mirror come to. -/
namespace Go.Proofs.YtaohahahhjkcdaeGreatDoor
open Go.RowKit
attribute [local go_sem ↓] Go.wp_at_zero Go.wp_at_succ
set_option linter.unusedSimpArgs false

theorem new_kept {X w' : World} {v0 v1 v2 : Value} {t : TypeId} (hb : Below (X.alloc (Obj.cells #[v0, v1, v2] t)).heap.size (X.alloc (Obj.cells #[v0, v1, v2] t)) w') : w'.cell? ⟨X.heap.size, 0, none⟩ = some v0 ∧ w'.cell? ⟨X.heap.size, 1, none⟩ = some v1 ∧ w'.cell? ⟨X.heap.size, 2, none⟩ = some v2 ∧ w'.frozen? ⟨X.heap.size, 0, none⟩ = false ∧ w'.frozen? ⟨X.heap.size, 1, none⟩ = false ∧ w'.frozen? ⟨X.heap.size, 2, none⟩ = false ∧ X.heap.size < w'.heap.size :=
  ⟨keepC hb (by simp) (by simp [go_sem]), keepC hb (by simp) (by simp [go_sem]), keepC hb (by simp) (by simp [go_sem]), keepF hb (by simp) (by simp [go_sem]), keepF hb (by simp) (by simp [go_sem]), keepF hb (by simp) (by simp [go_sem]), by have := hb.size; simp at this; omega⟩
theorem new_kept_drew {X w' : World} {v0 v1 v2 : Value} {t : TypeId} (hb : Below (X.alloc (Obj.cells #[v0, v1, v2] t)).drew.heap.size (X.alloc (Obj.cells #[v0, v1, v2] t)).drew w') : w'.cell? ⟨X.heap.size, 0, none⟩ = some v0 ∧ w'.cell? ⟨X.heap.size, 1, none⟩ = some v1 ∧ w'.cell? ⟨X.heap.size, 2, none⟩ = some v2 ∧ w'.frozen? ⟨X.heap.size, 0, none⟩ = false ∧ w'.frozen? ⟨X.heap.size, 1, none⟩ = false ∧ w'.frozen? ⟨X.heap.size, 2, none⟩ = false ∧ X.heap.size < w'.heap.size :=
  ⟨keepC hb (by simp) (by simp [go_sem]), keepC hb (by simp) (by simp [go_sem]), keepC hb (by simp) (by simp [go_sem]), keepF hb (by simp) (by simp [go_sem]), keepF hb (by simp) (by simp [go_sem]), keepF hb (by simp) (by simp [go_sem]), by have := hb.size; simp at this; omega⟩

end Go.Proofs.YtaohahahhjkcdaeGreatDoor
