/- What the document's Above and Notes come to. -/
import Derived.Test.YtdjdnjaijpafgabDoorC6
import Derived.Test.YtdjdnjaijpafgabDoorS3
namespace Go.Proofs.YtdjdnjaijpafgabDoor
open Go.RowKit
attribute [local go_sem ↓] Go.wp_at_zero Go.wp_at_succ
set_option linter.unusedSimpArgs false

theorem White_low (s : Int) (w : World) (h1 : -1000 ≤ s) (h2 : s ≤ 1000) :
    Calls Tryd.prog 90 #[.int .i64 s] w fun e w' => e = .returned (.int .i64 (M.wh s)) ∧ Below w.heap.size w w' :=
  (White_any s w h1 h2).mono fun e w' ⟨h1, h2⟩ => ⟨h1, by rw [h2]; exact Below.refl _ _⟩
theorem M.wh_ab {l : Int} (h1 : 0 ≤ l) (h2 : l ≤ 6) : M.wh l = M.ab l := by unfold M.wh; rw [show l / 7 = 0 by omega, show l % 7 = l by omega]; omega

set_option maxRecDepth 20000 in
set_option maxHeartbeats 4000000 in
theorem Above_any (l a s h : Int) (w : World) (h1 : 0 ≤ l) (h2 : l ≤ 6) (h3 : -3 ≤ a) (h4 : a ≤ 3) (h5 : 0 ≤ s) (h6 : s ≤ 10) (h7 : 0 ≤ h) (h8 : h ≤ 20) :
    Calls Tryd.prog 69 #[.agg #[.int .i64 l, .int .i64 a], .int .i64 s, .int .i64 h] w fun e w' => e = .returned (.agg #[.int .i64 ((l + s) % 7), .int .i64 (M.hv l a 0 + h - M.wh (l + s))]) ∧ Below w.heap.size w w' := by
  have hab := M.ab_bd l
  have hwl := M.wh_ab h1 h2
  have hhv : M.hv l a 0 = M.wh l + a := by rw [hwl]; unfold M.hv; omega
  have hwb := M.wh_bd (l + s)
  have hwb0 : 0 ≤ M.wh l ∧ M.wh l ≤ 11 := by rw [hwl]; exact hab
  rw [hhv]
  have hWh := fun w => White_low l w (by omega) (by omega)
  clear hwl hhv hab
  obtain ⟨X, hX⟩ : ∃ X, M.wh l = X := ⟨_, rfl⟩
  rw [hX] at hwb0
  simp only [hX] at hWh
  rw [hX]
  clear hX
  have v1 : IntKind.i64.wrap (l + s) = l + s := wid (by omega) (by omega)
  have v2 : IntKind.i64.wrap (X + a) = X + a := wid (by omega) (by omega)
  have v3 : IntKind.i64.wrap (X + a + h) = X + a + h := wid (by omega) (by omega)
  have hAt := fun w => At_any (l + s) (X + a + h) w (by omega) (by omega) (by omega) (by omega)
  obtain ⟨P, hP⟩ : ∃ P, (l + s) % 7 = P := ⟨_, rfl⟩
  obtain ⟨Q, hQ⟩ : ∃ Q, X + a + h - M.wh (l + s) = Q := ⟨_, rfl⟩
  obtain ⟨Z, hZ⟩ : ∃ Z, (l + s) / 7 = Z := ⟨_, rfl⟩
  obtain ⟨T, hT⟩ : ∃ T, M.onB (l + s) (X + a + h) = T := ⟨_, rfl⟩
  simp only [hP, hQ, hZ, hT] at hAt
  rw [hP, hQ]
  clear hP hQ hZ hT hwb
  go_enter Tryd.func69, Tryd.ntmps69
  go_wp2_with fail
  have c0 : ((w.alloc (Obj.cells #[.int .i64 l, .int .i64 a] 47)).alloc (Obj.cells #[.int .i64 0, .int .i64 0] 47)).cell? ⟨w.heap.size, 0, none⟩ = some (.int .i64 l) := by simp [go_sem]
  have c1 : ((w.alloc (Obj.cells #[.int .i64 l, .int .i64 a] 47)).alloc (Obj.cells #[.int .i64 0, .int .i64 0] 47)).cell? ⟨w.heap.size, 1, none⟩ = some (.int .i64 a) := by simp [go_sem]
  have d0 : ((w.alloc (Obj.cells #[.int .i64 l, .int .i64 a] 47)).alloc (Obj.cells #[.int .i64 0, .int .i64 0] 47)).cell? ⟨w.heap.size + 1, 0, none⟩ = some (.int .i64 0) := by simp [go_sem]
  have d1 : ((w.alloc (Obj.cells #[.int .i64 l, .int .i64 a] 47)).alloc (Obj.cells #[.int .i64 0, .int .i64 0] 47)).cell? ⟨w.heap.size + 1, 1, none⟩ = some (.int .i64 0) := by simp [go_sem]
  have f0 : ((w.alloc (Obj.cells #[.int .i64 l, .int .i64 a] 47)).alloc (Obj.cells #[.int .i64 0, .int .i64 0] 47)).frozen? ⟨w.heap.size + 1, 0, none⟩ = false := by simp [go_sem]
  have f1 : ((w.alloc (Obj.cells #[.int .i64 l, .int .i64 a] 47)).alloc (Obj.cells #[.int .i64 0, .int .i64 0] 47)).frozen? ⟨w.heap.size + 1, 1, none⟩ = false := by simp [go_sem]
  have h0 : Below w.heap.size w ((w.alloc (Obj.cells #[.int .i64 l, .int .i64 a] 47)).alloc (Obj.cells #[.int .i64 0, .int .i64 0] 47)) := by go_grown
  have z0 : ((w.alloc (Obj.cells #[.int .i64 l, .int .i64 a] 47)).alloc (Obj.cells #[.int .i64 0, .int .i64 0] 47)).heap.size = w.heap.size + 2 := by simp
  generalize (w.alloc (Obj.cells #[.int .i64 l, .int .i64 a] 47)).alloc (Obj.cells #[.int .i64 0, .int .i64 0] 47) = w1 at *
  have sz : w.heap.size < w1.heap.size := by omega
  have mkS : ∀ W, Below w1.heap.size w1 W → (Below w1.heap.size w1 W ∧ W.cell? ⟨w.heap.size, 0, none⟩ = some (.int .i64 l) ∧ W.cell? ⟨w.heap.size, 1, none⟩ = some (.int .i64 a)) := fun W h => ⟨h, keepC h (by omega) c0, keepC h (by omega) c1⟩
  have z1 : w1.heap.size = w.heap.size + 2 := z0
  have Z1 : Hid (w1.heap.size = w.heap.size + 2) := z1
  clear z0 z1
  go_cut [7] (fun c wx => ∃ b : Nat, c = .pointer (some ⟨b, 0, none⟩) ∧ w1.heap.size ≤ b ∧ b < wx.heap.size ∧ Below w1.heap.size w1 wx ∧ wx.cell? ⟨b, 0, none⟩ = some (.int .i64 P) ∧ wx.cell? ⟨b, 1, none⟩ = some (.int .i64 Q) ∧ wx.cell? ⟨b, 2, none⟩ = some (.int .i64 Z))
  case first =>
    go_region_held3 (fun W => Below w1.heap.size w1 W ∧ W.cell? ⟨w.heap.size, 0, none⟩ = some (.int .i64 l) ∧ W.cell? ⟨w.heap.size, 1, none⟩ = some (.int .i64 a))
      (first | exact mkS _ hbn | exact mkS _ (hbn.alloc hbn.size _) | exact mkS _ (((hbn.setCell hnl _).setCell hnl _).setCell hnl _) | (refine mkS _ ?_; (solve | go_grown)))
      (first
        | (go_at_call 90; refine (hWh _).mono ?_; (all_goals first | omega | skip); rintro e wa ⟨rfl, hba⟩
           first
             | (have hbn : Below w1.heap.size w1 wa := hbn.trans (hba.mono hbn.size); first | (have n0 := keepC hba hnz n0; have n1 := keepC hba hnz n1; have n2 := keepC hba hnz n2; have g0 := keepF hba hnz g0; have g1 := keepF hba hnz g1; have g2 := keepF hba hnz g2; have hnz := Nat.lt_of_lt_of_le hnz hba.size) | skip)
             | (have hnl := hbn.size; have nn := snew_kept hba; obtain ⟨n0, n1, n2, g0, g1, g2, hnz⟩ := nn; have hbn : Below w1.heap.size w1 wa := (hbn.alloc hbn.size _).trans (hba.mono (Nat.le_trans hbn.size (by simp))))
             | (have hbn : Below w1.heap.size w1 wa := Below.trans (by go_grown) (hba.mono (by simp)); first | (have nn := snew_kept_drew hba; obtain ⟨n0, n1, n2, g0, g1, g2, hnz⟩ := nn; have hnl := Nat.le_refl w1.heap.size) | skip))
        | (go_at_call 61; refine (hAt _).mono ?_; (all_goals first | omega | skip); rintro e wa ⟨rfl, hba⟩
           first
             | (have hbn : Below w1.heap.size w1 wa := hbn.trans (hba.mono hbn.size); first | (have n0 := keepC hba hnz n0; have n1 := keepC hba hnz n1; have n2 := keepC hba hnz n2; have g0 := keepF hba hnz g0; have g1 := keepF hba hnz g1; have g2 := keepF hba hnz g2; have hnz := Nat.lt_of_lt_of_le hnz hba.size) | skip)
             | (have hnl := hbn.size; have nn := snew_kept hba; obtain ⟨n0, n1, n2, g0, g1, g2, hnz⟩ := nn; have hbn : Below w1.heap.size w1 wa := (hbn.alloc hbn.size _).trans (hba.mono (Nat.le_trans hbn.size (by simp))))
             | (have hbn : Below w1.heap.size w1 wa := Below.trans (by go_grown) (hba.mono (by simp)); first | (have nn := snew_kept_drew hba; obtain ⟨n0, n1, n2, g0, g1, g2, hnz⟩ := nn; have hnl := Nat.le_refl w1.heap.size) | skip)))
    all_goals
      go_wp2_with fail
      go_meet
      case rel =>
        first
          | exact ⟨wa.heap.size, rfl, hbn.size, by simp, hbn.alloc hbn.size _, by simp [go_sem], by simp [go_sem], by simp [go_sem]⟩
          | exact ⟨_, rfl, hnl, by simpa [World.setCell] using hnz, ((hbn.setCell hnl _).setCell hnl _).setCell hnl _, by simp [go_sem, n0], by simp [go_sem, n1], by simp [go_sem, n2]⟩
  case rest =>
    obtain ⟨b, rfl, hb5, hb6, hbx, n0, n1, n2⟩ := hcut
    have z1 := Z1.out
    have d0' := keepC hbx (by omega) d0
    have d1' := keepC hbx (by omega) d1
    have f0' := keepF hbx (by omega) f0
    have f1' := keepF hbx (by omega) f1
    have h0c := h0.trans (hbx.mono (by omega))
    have s7 : w.heap.size + 1 < wc.heap.size := by omega
    clear z1 d0 d1 f0 f1
    go_wp2_with fail
    refine bodyPost_ret (v := .agg #[.int .i64 P, .int .i64 Q]) (by simp [results, Tryd.results69, go_sem, d0', d1', s7]) rfl ⟨rfl, ?_⟩
    exact (h0c.setCell (p := ⟨w.heap.size + 1, 0, none⟩) (show w.heap.size ≤ w.heap.size + 1 by omega) _).setCell (p := ⟨w.heap.size + 1, 1, none⟩) (show w.heap.size ≤ w.heap.size + 1 by omega) _

end Go.Proofs.YtdjdnjaijpafgabDoor
