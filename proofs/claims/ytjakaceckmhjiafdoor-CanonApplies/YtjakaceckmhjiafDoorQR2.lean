/- What the document's Halves and At come to. -/
import Derived.Test.YtjakaceckmhjiafDoorQR1
import Derived.Deep.DeepCutAuto
namespace Go.Proofs.YtjakaceckmhjiafDoor
open Go.RowKit
attribute [local go_sem ↓] Go.wp_at_zero Go.wp_at_succ
set_option linter.unusedSimpArgs false

theorem Halves_any (l a o : Int) (w : World) (h1 : 0 ≤ l) (h2 : l ≤ 6) (h3 : -100000 ≤ a) (h4 : a ≤ 100000) (h5 : -100 ≤ o) (h6 : o ≤ 100) :
    Calls Tryd.prog 43 #[.agg #[.int .i64 l, .int .i64 a, .int .i64 o]] w fun e w' => e = .returned (.int .i64 (M.hv l a o)) ∧ Below w.heap.size w w' := by
  have hst : -1000 ≤ M.st l o ∧ M.st l o ≤ 1000 := by unfold M.st; omega
  have hw := M.wh_range (M.st l o) (by omega) (by omega)
  have HE : Hid (M.hv l a o = M.wh (M.st l o) + a) := M.hv_wh l a o h1 h2
  go_enter Tryd.func43, Tryd.ntmps43
  go_wp2_with fail
  have mkS : ∀ w', Below (w.heap.size + 1) (w.alloc (Obj.cells #[.int .i64 l, .int .i64 a, .int .i64 o] 24)) w' → (Below w.heap.size w w' ∧ w'.cell? ⟨w.heap.size, 0, none⟩ = some (.int .i64 l) ∧ w'.cell? ⟨w.heap.size, 1, none⟩ = some (.int .i64 a) ∧ w'.cell? ⟨w.heap.size, 2, none⟩ = some (.int .i64 o)) := fun w' h =>
    ⟨Below.trans (by go_grown) (h.mono (by omega)), keepC h (by omega) (by simp [go_sem]), keepC h (by omega) (by simp [go_sem]), keepC h (by omega) (by simp [go_sem])⟩
  have hd : Below (w.heap.size + 1) (w.alloc (Obj.cells #[.int .i64 l, .int .i64 a, .int .i64 o] 24)) (w.alloc (Obj.cells #[.int .i64 l, .int .i64 a, .int .i64 o] 24)).drew := (Below.refl _ _).drew
  go_region_held3 (fun w' => Below w.heap.size w w' ∧ w'.cell? ⟨w.heap.size, 0, none⟩ = some (.int .i64 l) ∧ w'.cell? ⟨w.heap.size, 1, none⟩ = some (.int .i64 a) ∧ w'.cell? ⟨w.heap.size, 2, none⟩ = some (.int .i64 o))
    (first | exact mkS _ hbn | exact mkS _ hd)
    (first
      | (go_at_call 42; refine (Steps_any _ _ _ _ ?_ ?_ ?_ ?_).mono ?_; (all_goals first | omega | skip); rintro e wa ⟨rfl, hba⟩; have hbn : Below (w.heap.size + 1) (w.alloc (Obj.cells #[.int .i64 l, .int .i64 a, .int .i64 o] 24)) wa := hd.trans (hba.mono (by simp)))
      | (go_at_call 63; refine (White_any _ _ ?_ ?_).mono ?_; (all_goals first | omega | skip); rintro e wb ⟨rfl, rfl⟩))
  go_wp2_with fail
  go_ret
  exact ⟨ret_int (by rw [HE.out]; first | rfl | exact wid (by omega) (by omega)), (mkS _ hbn).1⟩

theorem at_set {w W : World} {s h : Int} (u0 u1 u2 : Value) (k : Below w.heap.size w W ∧ W.cell? ⟨w.heap.size + 1, 0, none⟩ = some (.int .i64 (s % 7)) ∧ W.cell? ⟨w.heap.size + 1, 1, none⟩ = some (.int .i64 (h - M.wh s)) ∧ W.cell? ⟨w.heap.size + 1, 2, none⟩ = some (.int .i64 (s / 7)) ∧ w.heap.size + 1 < W.heap.size ∧ w.heap.size < W.heap.size ∧ W.cell? ⟨w.heap.size, 0, none⟩ = some (cv W w.heap.size 0) ∧ W.cell? ⟨w.heap.size, 1, none⟩ = some (cv W w.heap.size 1) ∧ W.cell? ⟨w.heap.size, 2, none⟩ = some (cv W w.heap.size 2) ∧ W.frozen? ⟨w.heap.size, 0, none⟩ = false ∧ W.frozen? ⟨w.heap.size, 1, none⟩ = false ∧ W.frozen? ⟨w.heap.size, 2, none⟩ = false) :
    Below w.heap.size w (((W.setCell ⟨w.heap.size, 0, none⟩ u0).setCell ⟨w.heap.size, 1, none⟩ u1).setCell ⟨w.heap.size, 2, none⟩ u2) ∧ (((W.setCell ⟨w.heap.size, 0, none⟩ u0).setCell ⟨w.heap.size, 1, none⟩ u1).setCell ⟨w.heap.size, 2, none⟩ u2).cell? ⟨w.heap.size + 1, 0, none⟩ = some (.int .i64 (s % 7)) ∧ (((W.setCell ⟨w.heap.size, 0, none⟩ u0).setCell ⟨w.heap.size, 1, none⟩ u1).setCell ⟨w.heap.size, 2, none⟩ u2).cell? ⟨w.heap.size + 1, 1, none⟩ = some (.int .i64 (h - M.wh s)) ∧ (((W.setCell ⟨w.heap.size, 0, none⟩ u0).setCell ⟨w.heap.size, 1, none⟩ u1).setCell ⟨w.heap.size, 2, none⟩ u2).cell? ⟨w.heap.size + 1, 2, none⟩ = some (.int .i64 (s / 7)) ∧ w.heap.size + 1 < (((W.setCell ⟨w.heap.size, 0, none⟩ u0).setCell ⟨w.heap.size, 1, none⟩ u1).setCell ⟨w.heap.size, 2, none⟩ u2).heap.size ∧ w.heap.size < (((W.setCell ⟨w.heap.size, 0, none⟩ u0).setCell ⟨w.heap.size, 1, none⟩ u1).setCell ⟨w.heap.size, 2, none⟩ u2).heap.size ∧ (((W.setCell ⟨w.heap.size, 0, none⟩ u0).setCell ⟨w.heap.size, 1, none⟩ u1).setCell ⟨w.heap.size, 2, none⟩ u2).cell? ⟨w.heap.size, 0, none⟩ = some (cv (((W.setCell ⟨w.heap.size, 0, none⟩ u0).setCell ⟨w.heap.size, 1, none⟩ u1).setCell ⟨w.heap.size, 2, none⟩ u2) w.heap.size 0) ∧ (((W.setCell ⟨w.heap.size, 0, none⟩ u0).setCell ⟨w.heap.size, 1, none⟩ u1).setCell ⟨w.heap.size, 2, none⟩ u2).cell? ⟨w.heap.size, 1, none⟩ = some (cv (((W.setCell ⟨w.heap.size, 0, none⟩ u0).setCell ⟨w.heap.size, 1, none⟩ u1).setCell ⟨w.heap.size, 2, none⟩ u2) w.heap.size 1) ∧ (((W.setCell ⟨w.heap.size, 0, none⟩ u0).setCell ⟨w.heap.size, 1, none⟩ u1).setCell ⟨w.heap.size, 2, none⟩ u2).cell? ⟨w.heap.size, 2, none⟩ = some (cv (((W.setCell ⟨w.heap.size, 0, none⟩ u0).setCell ⟨w.heap.size, 1, none⟩ u1).setCell ⟨w.heap.size, 2, none⟩ u2) w.heap.size 2) ∧ (((W.setCell ⟨w.heap.size, 0, none⟩ u0).setCell ⟨w.heap.size, 1, none⟩ u1).setCell ⟨w.heap.size, 2, none⟩ u2).frozen? ⟨w.heap.size, 0, none⟩ = false ∧ (((W.setCell ⟨w.heap.size, 0, none⟩ u0).setCell ⟨w.heap.size, 1, none⟩ u1).setCell ⟨w.heap.size, 2, none⟩ u2).frozen? ⟨w.heap.size, 1, none⟩ = false ∧ (((W.setCell ⟨w.heap.size, 0, none⟩ u0).setCell ⟨w.heap.size, 1, none⟩ u1).setCell ⟨w.heap.size, 2, none⟩ u2).frozen? ⟨w.heap.size, 2, none⟩ = false := by
  obtain ⟨hb, p0, p1, p2, s1, s0, d0, d1, d2, f0, f1, f2⟩ := k
  refine ⟨((hb.setCell (p := ⟨w.heap.size, 0, none⟩) (Nat.le_refl _) u0).setCell (p := ⟨w.heap.size, 1, none⟩) (Nat.le_refl _) u1).setCell (p := ⟨w.heap.size, 2, none⟩) (Nat.le_refl _) u2, by simp [go_sem, p0], by simp [go_sem, p1], by simp [go_sem, p2], by simpa [World.setCell] using s1, by simpa [World.setCell] using s0, cv_some (v := u0) (by simp [go_sem, d0]), cv_some (v := u1) (by simp [go_sem, d1]), cv_some (v := u2) (by simp [go_sem, d2]), by simp [go_sem, f0], by simp [go_sem, f1], by simp [go_sem, f2]⟩

set_option maxHeartbeats 2000000 in
theorem At_any (s h : Int) (w : World) (h1 : -1000 ≤ s) (h2 : s ≤ 1000) (h3 : -100000 ≤ h) (h4 : h ≤ 100000) :
    Calls Tryd.prog 44 #[.int .i64 s, .int .i64 h] w fun e w' => e = .returned (.tuple #[.agg #[.int .i64 (s % 7), .int .i64 (h - M.wh s), .int .i64 (s / 7)], .bool (M.onB s h)]) ∧ Below w.heap.size w w' := by
  have hw := M.wh_range s (by omega) (by omega)
  have HR : Hid (M.rt (s % 7) (h - M.wh s) (s / 7) = M.onB s h) := M.rt_on s h
  go_enter Tryd.func44, Tryd.ntmps44
  go_wp2_with fail
  go_loop [7, 6] (fun p q => ∃ x y : Int, p = .int .i64 x ∧ q = .int .i64 y ∧ 7 * y + x = s ∧ -1000 ≤ x ∧ x ≤ 1000 ∧ -1000 ≤ y ∧ y ≤ 0) (fun p _ => (-(intOf p)).toNat)
  case atStart => exact ⟨s, 0, rfl, rfl, by omega, by omega, by omega, by omega, by omega⟩
  case round =>
    obtain ⟨x, y, rfl, rfl, e1, x1, x2, y1, y2⟩ := hrel
    by_cases hx : x < 0
    · have y3 : -999 ≤ y := by omega
      go_wp2_with fail
      go_round
      case rel => exact ⟨x + 7, y - 1, rfl, rfl, by omega, by omega, by omega, by omega, by omega⟩
      case measure => simp only [intOf]; omega
    · have HX : Hid (7 * y + x = s) := e1
      clear e1
      go_wp2_with fail
      go_loop [7, 6] (fun p q => ∃ u v : Int, p = .int .i64 u ∧ q = .int .i64 v ∧ Hid (7 * v + u = s) ∧ 0 ≤ u ∧ u ≤ 1000 ∧ -1000 ≤ v ∧ v ≤ 1000) (fun p _ => (intOf p).toNat)
      case atStart => exact ⟨x, y, rfl, rfl, HX, by omega, by omega, by omega, by omega⟩
      case round =>
        clear hx HX
        obtain ⟨u, v, rfl, rfl, e2, u1, u2, v1, v2⟩ := hrel
        by_cases hu : 6 < u
        · have e3 : Hid (7 * (v + 1) + (u - 7) = s) := by have := e2.out; show _ = _; omega
          have v3 : v ≤ 999 := by have := e2.out; omega
          go_wp2_with fail
          go_round
          case rel => exact ⟨u - 7, v + 1, rfl, rfl, e3, by omega, by omega, by omega, by omega⟩
          case measure => simp only [intOf]; omega
        · obtain ⟨i1, i2⟩ := M.at_letter s u v e2.out (by omega) (by omega)
          clear e2
          subst i1 i2
          have hu' : ¬ 6 < s % 7 := hu
          go_wp2_with (go_at_call 63; refine (White_any _ _ (by omega) (by omega)).mono ?_; rintro e w' ⟨rfl, rfl⟩)
          have hW0 : Below (w.heap.size + 1 + 1) ((w.alloc (Obj.cells #[.int .i64 0, .int .i64 0, .int .i64 0] 24)).alloc (Obj.cells #[.int .i64 (s % 7), .int .i64 (h - M.wh s), .int .i64 (s / 7)] 24)) ((w.alloc (Obj.cells #[.int .i64 0, .int .i64 0, .int .i64 0] 24)).alloc (Obj.cells #[.int .i64 (s % 7), .int .i64 (h - M.wh s), .int .i64 (s / 7)] 24)).drew := (Below.refl _ _).drew
          have mkS : ∀ w', Below (w.heap.size + 1 + 1) ((w.alloc (Obj.cells #[.int .i64 0, .int .i64 0, .int .i64 0] 24)).alloc (Obj.cells #[.int .i64 (s % 7), .int .i64 (h - M.wh s), .int .i64 (s / 7)] 24)) w' → (Below w.heap.size w w' ∧ w'.cell? ⟨w.heap.size + 1, 0, none⟩ = some (.int .i64 (s % 7)) ∧ w'.cell? ⟨w.heap.size + 1, 1, none⟩ = some (.int .i64 (h - M.wh s)) ∧ w'.cell? ⟨w.heap.size + 1, 2, none⟩ = some (.int .i64 (s / 7)) ∧ w.heap.size + 1 < w'.heap.size ∧ w.heap.size < w'.heap.size ∧ w'.cell? ⟨w.heap.size, 0, none⟩ = some (cv w' w.heap.size 0) ∧ w'.cell? ⟨w.heap.size, 1, none⟩ = some (cv w' w.heap.size 1) ∧ w'.cell? ⟨w.heap.size, 2, none⟩ = some (cv w' w.heap.size 2) ∧ w'.frozen? ⟨w.heap.size, 0, none⟩ = false ∧ w'.frozen? ⟨w.heap.size, 1, none⟩ = false ∧ w'.frozen? ⟨w.heap.size, 2, none⟩ = false) := fun w' k =>
            ⟨Below.trans (by go_grown) (k.mono (by omega)), keepC k (by omega) (by simp [go_sem]), keepC k (by omega) (by simp [go_sem]), keepC k (by omega) (by simp [go_sem]), by have := k.size; simp at this; omega, by have := k.size; simp at this; omega, cv_some (keepC k (by omega) (v := .int .i64 0) (by simp [go_sem])), cv_some (keepC k (by omega) (v := .int .i64 0) (by simp [go_sem])), cv_some (keepC k (by omega) (v := .int .i64 0) (by simp [go_sem])), keepF k (by omega) (by simp [go_sem]), keepF k (by omega) (by simp [go_sem]), keepF k (by omega) (by simp [go_sem])⟩
          go_region_held3 (fun w' => Below w.heap.size w w' ∧ w'.cell? ⟨w.heap.size + 1, 0, none⟩ = some (.int .i64 (s % 7)) ∧ w'.cell? ⟨w.heap.size + 1, 1, none⟩ = some (.int .i64 (h - M.wh s)) ∧ w'.cell? ⟨w.heap.size + 1, 2, none⟩ = some (.int .i64 (s / 7)) ∧ w.heap.size + 1 < w'.heap.size ∧ w.heap.size < w'.heap.size ∧ w'.cell? ⟨w.heap.size, 0, none⟩ = some (cv w' w.heap.size 0) ∧ w'.cell? ⟨w.heap.size, 1, none⟩ = some (cv w' w.heap.size 1) ∧ w'.cell? ⟨w.heap.size, 2, none⟩ = some (cv w' w.heap.size 2) ∧ w'.frozen? ⟨w.heap.size, 0, none⟩ = false ∧ w'.frozen? ⟨w.heap.size, 1, none⟩ = false ∧ w'.frozen? ⟨w.heap.size, 2, none⟩ = false)
            (first | exact mkS _ hbn | exact at_set _ _ _ (by assumption) | exact mkS _ hW0)
            (first | (go_at_call 22; refine (refRight_any _ _ _ _ ?_ ?_).mono ?_; (all_goals first | omega | skip); rintro e wa ⟨rfl, hba⟩; have hbn : Below (w.heap.size + 1 + 1) ((w.alloc (Obj.cells #[.int .i64 0, .int .i64 0, .int .i64 0] 24)).alloc (Obj.cells #[.int .i64 (s % 7), .int .i64 (h - M.wh s), .int .i64 (s / 7)] 24)) wa := hW0.trans (hba.mono (by simp))))
          rw [HR.out]
          obtain ⟨hbw, _, _, _, _, hsz, d0, d1, d2, _, _, _⟩ := mkS _ hbn
          go_wp2_with fail
          refine bodyPost_ret (v := .tuple #[.agg #[.int .i64 (s % 7), .int .i64 (h - M.wh s), .int .i64 (s / 7)], .bool (M.onB s h)]) (by simp [results, Tryd.results44, go_sem, d0, d1, d2]) rfl ⟨rfl, ?_⟩
          exact ((hbw.setCell (Nat.le_refl _) _).setCell (Nat.le_refl _) _).setCell (Nat.le_refl _) _
end Go.Proofs.YtjakaceckmhjiafDoor
