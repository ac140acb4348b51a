/- What the program's Between, Sum, Move and Mirror come to. -/
import Derived.Test.YthfjbjcdhgajfadGreatDoorSM6
import Derived.Test.YthfjbjcdhgajfadGreatDoorSM1
import Derived.Deep.RegionHeld3
import Derived.Deep.DrawnRows
namespace Go.Proofs.YthfjbjcdhgajfadGreatDoor
open Go.RowKit
attribute [local go_sem ↓] Go.wp_at_zero Go.wp_at_succ

theorem wid {x : Int} (h1 : -9223372036854775808 ≤ x) (h2 : x ≤ 9223372036854775807) : IntKind.i64.wrap x = x := by
  rw [IntKind.wrap_i64]; omega
/-- What a cell holds, whatever it is. -/
def cv (w : World) (b o : Nat) : Value := (w.cell? ⟨b, o, none⟩).getD (.bool false)
theorem cv_some {w : World} {b o : Nat} {v : Value} (h : w.cell? ⟨b, o, none⟩ = some v) : w.cell? ⟨b, o, none⟩ = some (cv w b o) := by unfold cv; rw [h]; rfl
theorem setPQ2 {w W : World} {l a o l' a' o' : Int} (u0 u1 : Value) (h : Below w.heap.size w W ∧ W.cell? ⟨w.heap.size, 0, none⟩ = some (.int .i64 l) ∧ W.cell? ⟨w.heap.size, 1, none⟩ = some (.int .i64 a) ∧ W.cell? ⟨w.heap.size, 2, none⟩ = some (.int .i64 o) ∧ W.cell? ⟨w.heap.size + 1, 0, none⟩ = some (.int .i64 l') ∧ W.cell? ⟨w.heap.size + 1, 1, none⟩ = some (.int .i64 a') ∧ W.cell? ⟨w.heap.size + 1, 2, none⟩ = some (.int .i64 o') ∧ w.heap.size + 1 + 1 < W.heap.size ∧ W.cell? ⟨w.heap.size + 1 + 1, 0, none⟩ = some (cv W (w.heap.size + 1 + 1) 0) ∧ W.cell? ⟨w.heap.size + 1 + 1, 1, none⟩ = some (cv W (w.heap.size + 1 + 1) 1) ∧ W.frozen? ⟨w.heap.size + 1 + 1, 0, none⟩ = false ∧ W.frozen? ⟨w.heap.size + 1 + 1, 1, none⟩ = false) :
    Below w.heap.size w ((W.setCell ⟨w.heap.size + 1 + 1, 0, none⟩ u0).setCell ⟨w.heap.size + 1 + 1, 1, none⟩ u1) ∧ ((W.setCell ⟨w.heap.size + 1 + 1, 0, none⟩ u0).setCell ⟨w.heap.size + 1 + 1, 1, none⟩ u1).cell? ⟨w.heap.size, 0, none⟩ = some (.int .i64 l) ∧ ((W.setCell ⟨w.heap.size + 1 + 1, 0, none⟩ u0).setCell ⟨w.heap.size + 1 + 1, 1, none⟩ u1).cell? ⟨w.heap.size, 1, none⟩ = some (.int .i64 a) ∧ ((W.setCell ⟨w.heap.size + 1 + 1, 0, none⟩ u0).setCell ⟨w.heap.size + 1 + 1, 1, none⟩ u1).cell? ⟨w.heap.size, 2, none⟩ = some (.int .i64 o) ∧ ((W.setCell ⟨w.heap.size + 1 + 1, 0, none⟩ u0).setCell ⟨w.heap.size + 1 + 1, 1, none⟩ u1).cell? ⟨w.heap.size + 1, 0, none⟩ = some (.int .i64 l') ∧ ((W.setCell ⟨w.heap.size + 1 + 1, 0, none⟩ u0).setCell ⟨w.heap.size + 1 + 1, 1, none⟩ u1).cell? ⟨w.heap.size + 1, 1, none⟩ = some (.int .i64 a') ∧ ((W.setCell ⟨w.heap.size + 1 + 1, 0, none⟩ u0).setCell ⟨w.heap.size + 1 + 1, 1, none⟩ u1).cell? ⟨w.heap.size + 1, 2, none⟩ = some (.int .i64 o') ∧ w.heap.size + 1 + 1 < ((W.setCell ⟨w.heap.size + 1 + 1, 0, none⟩ u0).setCell ⟨w.heap.size + 1 + 1, 1, none⟩ u1).heap.size ∧ ((W.setCell ⟨w.heap.size + 1 + 1, 0, none⟩ u0).setCell ⟨w.heap.size + 1 + 1, 1, none⟩ u1).cell? ⟨w.heap.size + 1 + 1, 0, none⟩ = some (cv ((W.setCell ⟨w.heap.size + 1 + 1, 0, none⟩ u0).setCell ⟨w.heap.size + 1 + 1, 1, none⟩ u1) (w.heap.size + 1 + 1) 0) ∧ ((W.setCell ⟨w.heap.size + 1 + 1, 0, none⟩ u0).setCell ⟨w.heap.size + 1 + 1, 1, none⟩ u1).cell? ⟨w.heap.size + 1 + 1, 1, none⟩ = some (cv ((W.setCell ⟨w.heap.size + 1 + 1, 0, none⟩ u0).setCell ⟨w.heap.size + 1 + 1, 1, none⟩ u1) (w.heap.size + 1 + 1) 1) ∧ ((W.setCell ⟨w.heap.size + 1 + 1, 0, none⟩ u0).setCell ⟨w.heap.size + 1 + 1, 1, none⟩ u1).frozen? ⟨w.heap.size + 1 + 1, 0, none⟩ = false ∧ ((W.setCell ⟨w.heap.size + 1 + 1, 0, none⟩ u0).setCell ⟨w.heap.size + 1 + 1, 1, none⟩ u1).frozen? ⟨w.heap.size + 1 + 1, 1, none⟩ = false := by
  obtain ⟨hb, p0, p1, p2, q0, q1, q2, hs, d0, d1, f0, f1⟩ := h
  have hb2 : Below (w.heap.size + 1 + 1) W ((W.setCell ⟨w.heap.size + 1 + 1, 0, none⟩ u0).setCell ⟨w.heap.size + 1 + 1, 1, none⟩ u1) := (((Below.refl (w.heap.size + 1 + 1) W).setCell (p := ⟨w.heap.size + 1 + 1, 0, none⟩) (Nat.le_refl _) u0).setCell (p := ⟨w.heap.size + 1 + 1, 1, none⟩) (Nat.le_refl _) u1)
  refine ⟨((hb.setCell (p := ⟨w.heap.size + 1 + 1, 0, none⟩) (show w.heap.size ≤ w.heap.size + 1 + 1 by omega) u0).setCell (p := ⟨w.heap.size + 1 + 1, 1, none⟩) (show w.heap.size ≤ w.heap.size + 1 + 1 by omega) u1), keepC hb2 (by omega) p0, keepC hb2 (by omega) p1, keepC hb2 (by omega) p2, keepC hb2 (by omega) q0, keepC hb2 (by omega) q1, keepC hb2 (by omega) q2, by have := hb2.size; omega, ?_, ?_, ?_, ?_⟩
  · exact cv_some (v := u0) (by simp [go_sem, d0])
  · exact cv_some (v := u1) (by simp [go_sem, d1])
  · simp [go_sem, f0]
  · simp [go_sem, f1]

end Go.Proofs.YthfjbjcdhgajfadGreatDoor

/- What the document's small functions on pitches come to. -/
namespace Go.Proofs.YthfjbjcdhgajfadGreatDoor
open Go.RowKit
set_option linter.unusedSimpArgs false

theorem refAbs_any (n : Int) (w : World) (h0 : -9223372036854775807 ≤ n) (h : n ≤ 9223372036854775807) :
    Calls Tryz.prog 72 #[.int .i64 n] w fun e w' => e = .returned (.int .i64 (n.natAbs : Nat)) ∧ w' = w := by
  by_cases c : n < 0
  all_goals
    go_enter Tryz.func72, Tryz.ntmps72
    go_wp2
    go_ret
    exact ⟨ret_int (by omega), rfl⟩
theorem refAbs_least (w : World) :
    Calls Tryz.prog 72 #[.int .i64 (-9223372036854775808)] w fun e w' => e = .returned (.int .i64 (-9223372036854775808)) ∧ w' = w := by
  go_enter Tryz.func72, Tryz.ntmps72
  go_wp2
  go_ret
  exact ⟨ret_int (by simp [wrap64]), rfl⟩

theorem Up_any (l : Int) (w : World) :
    Calls Tryz.prog 102 #[.int .i64 l] w fun e w' => e = .returned (.int .i64 (M.up1 l)) ∧ w' = w := by
  by_cases c : l = 2
  · subst c
    go_enter Tryz.func102, Tryz.ntmps102
    go_wp2
    go_ret
    exact ⟨rfl, rfl⟩
  · by_cases c2 : l = 6
    · subst c2
      go_enter Tryz.func102, Tryz.ntmps102
      go_wp2
      go_ret
      exact ⟨rfl, rfl⟩
    · have e1 : (l == 2) = false := by simp [c]
      have e2 : (l == 6) = false := by simp [c2]
      have e3 : M.up1 l = 2 := by unfold M.up1; rw [if_neg (by omega)]
      rw [e3]
      go_enter Tryz.func102, Tryz.ntmps102
      go_wp2
      go_ret
      exact ⟨rfl, rfl⟩

set_option maxHeartbeats 1000000 in
theorem White_any (s : Int) (w : World) (h1 : -1000 ≤ s) (h2 : s ≤ 1000) :
    Calls Tryz.prog 73 #[.int .i64 s] w fun e w' => e = .returned (.int .i64 (M.wh s)) ∧ w' = w := by
  go_enter Tryz.func73, Tryz.ntmps73
  go_wp2
  go_loop [0, 3, 4] (fun p q r => ∃ x k : Int, p = .int .i64 x ∧ q = .int .i64 (M.wh k) ∧ r = .int .i64 (k % 7) ∧ k + x = s ∧ 0 ≤ k ∧ k ≤ 1000 ∧ (x ≤ 0 → k = 0 ∨ x = 0)) (fun p _ _ => (intOf p).toNat)
  case atStart => exact ⟨s, 0, rfl, rfl, rfl, by omega, by omega, by omega, by omega⟩
  case round =>
    obtain ⟨x, k, rfl, rfl, rfl, e1, k1, k2, k3⟩ := hrel
    by_cases hx : 0 < x
    · have hr := M.wh_range k (by omega) (by omega)
      have hu := M.up1_bd (k % 7)
      have HN : Hid (M.wh (k + 1) = M.wh k + M.up1 (k % 7)) := M.wh_next k
      have hm : (k % 7 + 1) % 7 = (k + 1) % 7 := by omega
      have hm7 : 0 ≤ k % 7 := by omega
      have hm8 : k % 7 < 7 := by omega
      clear k3
      go_wp2_with (go_at_call 102; refine (Up_any _ _).mono ?_; rintro e w' ⟨rfl, rfl⟩)
      go_round
      case rel => exact ⟨x - 1, k + 1, rfl, by rw [HN.out], by rw [hm], by omega, by omega, by omega, by omega⟩
      case measure => simp only [intOf]; omega
    · have hk0 : k = 0 ∨ x = 0 := k3 (by omega)
      have HS : Hid (k + x = s) := e1
      have HK : Hid (k = 0 ∨ x = 0) := hk0
      have hx0 : ¬ 0 < x := hx
      go_wp2_with fail
      go_loop [0, 3, 4] (fun p q r => ∃ y j : Int, p = .int .i64 y ∧ q = .int .i64 (M.wh j) ∧ r = .int .i64 (j % 7) ∧ j + y = s ∧ y ≤ 0 ∧ -1000 ≤ j ∧ j ≤ 1000 ∧ -1000 ≤ y) (fun p _ _ => (-(intOf p)).toNat)
      case atStart => exact ⟨x, k, rfl, rfl, rfl, by omega, by omega, by omega, by omega, by have := HK.out; omega⟩
      case round =>
        obtain ⟨y, j, rfl, rfl, rfl, f1, y1, j1, j2, y2⟩ := hrel
        clear hk0 k3 hx hx0 e1
        by_cases hy : y < 0
        · have hr := M.wh_range j (by omega) (by omega)
          have hu := M.up1_bd ((j - 1) % 7)
          have HN : Hid (M.wh (j - 1) = M.wh j - M.up1 ((j - 1) % 7)) := M.wh_last j
          have hm : (j % 7 + 6) % 7 = (j - 1) % 7 := by omega
          have hm7 : 0 ≤ j % 7 := by omega
          have hm8 : j % 7 < 7 := by omega
          go_wp2_with (go_at_call 102; rw [hm]; refine (Up_any _ _).mono ?_; rintro e w' ⟨rfl, rfl⟩)
          go_round
          case rel => exact ⟨y + 1, j - 1, rfl, by rw [HN.out], by first | rfl | rw [hm], by omega, by omega, by omega, by omega, by omega⟩
          case measure => simp only [intOf]; omega
        · have hy0 : y = 0 := by omega
          subst hy0
          have HJ : j = s := by omega
          go_wp2_with fail
          go_ret
          exact ⟨ret_int (by first | rfl | rw [HJ]), rfl⟩

theorem Steps_any (l a o : Int) (w : World) (h1 : 0 ≤ l) (h2 : l ≤ 6) (h5 : -1000 ≤ o) (h6 : o ≤ 1000) :
    Calls Tryz.prog 44 #[.agg #[.int .i64 l, .int .i64 a, .int .i64 o]] w fun e w' => e = .returned (.int .i64 (M.st l o)) ∧ Below w.heap.size w w' := by
  go_enter Tryz.func44, Tryz.ntmps44
  go_wp2
  go_ret
  exact ⟨ret_int rfl, by go_grown⟩

theorem Within_any (s h : Int) (w : World) :
    Calls Tryz.prog 42 #[.agg #[.int .i64 s, .int .i64 h]] w fun e w' => e = .returned (.bool (M.inb s h)) ∧ Below w.heap.size w w' := by
  by_cases c1 : -200 ≤ s
  · by_cases c2 : s ≤ 200
    · by_cases c3 : -4096 ≤ h
      · by_cases c4 : h ≤ 4096
        · rw [M.inb_mk ⟨c1, c2, c3, c4⟩]
          go_enter Tryz.func42, Tryz.ntmps42
          go_wp2
          go_ret
          exact ⟨rfl, by go_grown⟩
        · rw [M.inb_mkn (by omega)]
          go_enter Tryz.func42, Tryz.ntmps42
          go_wp2
          go_ret
          exact ⟨rfl, by go_grown⟩
      · rw [M.inb_mkn (by omega)]
        go_enter Tryz.func42, Tryz.ntmps42
        go_wp2
        go_ret
        exact ⟨rfl, by go_grown⟩
    · rw [M.inb_mkn (by omega)]
      go_enter Tryz.func42, Tryz.ntmps42
      go_wp2
      go_ret
      exact ⟨rfl, by go_grown⟩
  · rw [M.inb_mkn (by omega)]
    go_enter Tryz.func42, Tryz.ntmps42
    go_wp2
    go_ret
    exact ⟨rfl, by go_grown⟩

/-- The document's Right: the least number of all is its own opposite, and is parted by the last test. -/
theorem refRight_any (l a o : Int) (w : World) (b1 : -9223372036854775808 ≤ a) (b2 : a ≤ 9223372036854775807) :
    Calls Tryz.prog 41 #[.agg #[.int .i64 l, .int .i64 a, .int .i64 o]] w fun e w' => e = .returned (.bool (M.rt l a o)) ∧ Below w.heap.size w w' := by
  by_cases c1 : 0 ≤ l
  · by_cases c2 : l ≤ 6
    · by_cases c0 : a = -9223372036854775808
      · subst c0
        rw [M.rt_mkn (by omega)]
        by_cases c4 : -12 ≤ o
        · by_cases c5 : o ≤ 12
          all_goals
            go_enter Tryz.func41, Tryz.ntmps41
            go_wp2_with (go_at_call 72; refine (refAbs_least _).mono ?_; rintro e w' ⟨rfl, rfl⟩)
            go_ret
            exact ⟨rfl, by go_grown⟩
        · go_enter Tryz.func41, Tryz.ntmps41
          go_wp2_with (go_at_call 72; refine (refAbs_least _).mono ?_; rintro e w' ⟨rfl, rfl⟩)
          go_ret
          exact ⟨rfl, by go_grown⟩
      · by_cases c3 : (a.natAbs : Int) ≤ 3
        · by_cases c4 : -12 ≤ o
          · by_cases c5 : o ≤ 12
            · have c6 : -3 ≤ a := by omega
              rw [M.rt_mk (by omega)]
              go_enter Tryz.func41, Tryz.ntmps41
              go_wp2_with (go_at_call 72; refine (refAbs_any _ _ (by omega) (by omega)).mono ?_; rintro e w' ⟨rfl, rfl⟩)
              go_ret
              exact ⟨rfl, by go_grown⟩
            · rw [M.rt_mkn (by omega)]
              go_enter Tryz.func41, Tryz.ntmps41
              go_wp2_with (go_at_call 72; refine (refAbs_any _ _ (by omega) (by omega)).mono ?_; rintro e w' ⟨rfl, rfl⟩)
              go_ret
              exact ⟨rfl, by go_grown⟩
          · rw [M.rt_mkn (by omega)]
            go_enter Tryz.func41, Tryz.ntmps41
            go_wp2_with (go_at_call 72; refine (refAbs_any _ _ (by omega) (by omega)).mono ?_; rintro e w' ⟨rfl, rfl⟩)
            go_ret
            exact ⟨rfl, by go_grown⟩
        · rw [M.rt_mkn (by omega)]
          go_enter Tryz.func41, Tryz.ntmps41
          go_wp2_with (go_at_call 72; refine (refAbs_any _ _ (by omega) (by omega)).mono ?_; rintro e w' ⟨rfl, rfl⟩)
          go_ret
          exact ⟨rfl, by go_grown⟩
    · rw [M.rt_mkn (by omega)]
      go_enter Tryz.func41, Tryz.ntmps41
      go_wp2_with fail
      go_ret
      exact ⟨rfl, by go_grown⟩
  · rw [M.rt_mkn (by omega)]
    go_enter Tryz.func41, Tryz.ntmps41
    go_wp2_with fail
    go_ret
    exact ⟨rfl, by go_grown⟩

end Go.Proofs.YthfjbjcdhgajfadGreatDoor
