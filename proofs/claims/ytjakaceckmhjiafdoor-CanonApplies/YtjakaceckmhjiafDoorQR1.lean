/- What the document's small functions on pitches come to. -/
import Derived.Test.YtjakaceckmhjiafDoorQW2
import Derived.Test.YtjakaceckmhjiafDoorQMath4
namespace Go.Proofs.YtjakaceckmhjiafDoor
open Go.RowKit
set_option linter.unusedSimpArgs false

theorem refAbs_any (n : Int) (w : World) (h0 : -9223372036854775807 ≤ n) (h : n ≤ 9223372036854775807) :
    Calls Tryd.prog 36 #[.int .i64 n] w fun e w' => e = .returned (.int .i64 (n.natAbs : Nat)) ∧ w' = w := by
  by_cases c : n < 0
  all_goals
    go_enter Tryd.func36, Tryd.ntmps36
    go_wp2
    go_ret
    exact ⟨ret_int (by omega), rfl⟩
theorem refAbs_least (w : World) :
    Calls Tryd.prog 36 #[.int .i64 (-9223372036854775808)] w fun e w' => e = .returned (.int .i64 (-9223372036854775808)) ∧ w' = w := by
  go_enter Tryd.func36, Tryd.ntmps36
  go_wp2
  go_ret
  exact ⟨ret_int (by simp [wrap64]), rfl⟩

theorem Up_any (l : Int) (w : World) :
    Calls Tryd.prog 70 #[.int .i64 l] w fun e w' => e = .returned (.int .i64 (M.up1 l)) ∧ w' = w := by
  by_cases c : l = 2
  · subst c
    go_enter Tryd.func70, Tryd.ntmps70
    go_wp2
    go_ret
    exact ⟨rfl, rfl⟩
  · by_cases c2 : l = 6
    · subst c2
      go_enter Tryd.func70, Tryd.ntmps70
      go_wp2
      go_ret
      exact ⟨rfl, rfl⟩
    · have e1 : (l == 2) = false := by simp [c]
      have e2 : (l == 6) = false := by simp [c2]
      have e3 : M.up1 l = 2 := by unfold M.up1; rw [if_neg (by omega)]
      rw [e3]
      go_enter Tryd.func70, Tryd.ntmps70
      go_wp2
      go_ret
      exact ⟨rfl, rfl⟩

set_option maxHeartbeats 1000000 in
theorem White_any (s : Int) (w : World) (h1 : -1000 ≤ s) (h2 : s ≤ 1000) :
    Calls Tryd.prog 63 #[.int .i64 s] w fun e w' => e = .returned (.int .i64 (M.wh s)) ∧ w' = w := by
  go_enter Tryd.func63, Tryd.ntmps63
  go_wp2
  go_loop [0, 3, 4] (fun p q r => ∃ x k : Int, p = .int .i64 x ∧ q = .int .i64 (M.wh k) ∧ r = .int .i64 (k % 7) ∧ k + x = s ∧ 0 ≤ k ∧ k ≤ 1000 ∧ (x ≤ 0 → k = 0 ∨ x = 0)) (fun p _ _ => (intOf p).toNat)
  case atStart => exact ⟨s, 0, rfl, rfl, rfl, by omega, by omega, by omega, by omega⟩
  case round =>
    obtain ⟨x, k, rfl, rfl, rfl, e1, k1, k2, k3⟩ := hrel
    by_cases hx : 0 < x
    · have hr := M.wh_range k (by omega) (by omega)
      have hu := M.up1_bd (k % 7)
      have HN : Hid (M.wh (k + 1) = M.wh k + M.up1 (k % 7)) := M.wh_next k
      have hm : (k % 7 + 1) % 7 = (k + 1) % 7 := by omega
      have hm7 : 0 ≤ k % 7 := by omega
      have hm8 : k % 7 < 7 := by omega
      clear k3
      go_wp2_with (go_at_call 70; refine (Up_any _ _).mono ?_; rintro e w' ⟨rfl, rfl⟩)
      go_round
      case rel => exact ⟨x - 1, k + 1, rfl, by rw [HN.out], by rw [hm], by omega, by omega, by omega, by omega⟩
      case measure => simp only [intOf]; omega
    · have hk0 : k = 0 ∨ x = 0 := k3 (by omega)
      have HS : Hid (k + x = s) := e1
      have HK : Hid (k = 0 ∨ x = 0) := hk0
      have hx0 : ¬ 0 < x := hx
      go_wp2_with fail
      go_loop [0, 3, 4] (fun p q r => ∃ y j : Int, p = .int .i64 y ∧ q = .int .i64 (M.wh j) ∧ r = .int .i64 (j % 7) ∧ j + y = s ∧ y ≤ 0 ∧ -1000 ≤ j ∧ j ≤ 1000 ∧ -1000 ≤ y) (fun p _ _ => (-(intOf p)).toNat)
      case atStart => exact ⟨x, k, rfl, rfl, rfl, by omega, by omega, by omega, by omega, by have := HK.out; omega⟩
      case round =>
        obtain ⟨y, j, rfl, rfl, rfl, f1, y1, j1, j2, y2⟩ := hrel
        clear hk0 k3 hx hx0 e1
        by_cases hy : y < 0
        · have hr := M.wh_range j (by omega) (by omega)
          have hu := M.up1_bd ((j - 1) % 7)
          have HN : Hid (M.wh (j - 1) = M.wh j - M.up1 ((j - 1) % 7)) := M.wh_last j
          have hm : (j % 7 + 6) % 7 = (j - 1) % 7 := by omega
          have hm7 : 0 ≤ j % 7 := by omega
          have hm8 : j % 7 < 7 := by omega
          go_wp2_with (go_at_call 70; rw [hm]; refine (Up_any _ _).mono ?_; rintro e w' ⟨rfl, rfl⟩)
          go_round
          case rel => exact ⟨y + 1, j - 1, rfl, by rw [HN.out], by first | rfl | rw [hm], by omega, by omega, by omega, by omega, by omega⟩
          case measure => simp only [intOf]; omega
        · have hy0 : y = 0 := by omega
          subst hy0
          have HJ : j = s := by omega
          go_wp2_with fail
          go_ret
          exact ⟨ret_int (by first | rfl | rw [HJ]), rfl⟩

theorem Steps_any (l a o : Int) (w : World) (h1 : 0 ≤ l) (h2 : l ≤ 6) (h5 : -1000 ≤ o) (h6 : o ≤ 1000) :
    Calls Tryd.prog 42 #[.agg #[.int .i64 l, .int .i64 a, .int .i64 o]] w fun e w' => e = .returned (.int .i64 (M.st l o)) ∧ Below w.heap.size w w' := by
  go_enter Tryd.func42, Tryd.ntmps42
  go_wp2
  go_ret
  exact ⟨ret_int rfl, by go_grown⟩

theorem Within_any (s h : Int) (w : World) :
    Calls Tryd.prog 41 #[.agg #[.int .i64 s, .int .i64 h]] w fun e w' => e = .returned (.bool (M.inb s h)) ∧ Below w.heap.size w w' := by
  by_cases c1 : -200 ≤ s
  · by_cases c2 : s ≤ 200
    · by_cases c3 : -4096 ≤ h
      · by_cases c4 : h ≤ 4096
        · rw [M.inb_mk ⟨c1, c2, c3, c4⟩]
          go_enter Tryd.func41, Tryd.ntmps41
          go_wp2
          go_ret
          exact ⟨rfl, by go_grown⟩
        · rw [M.inb_mkn (by omega)]
          go_enter Tryd.func41, Tryd.ntmps41
          go_wp2
          go_ret
          exact ⟨rfl, by go_grown⟩
      · rw [M.inb_mkn (by omega)]
        go_enter Tryd.func41, Tryd.ntmps41
        go_wp2
        go_ret
        exact ⟨rfl, by go_grown⟩
    · rw [M.inb_mkn (by omega)]
      go_enter Tryd.func41, Tryd.ntmps41
      go_wp2
      go_ret
      exact ⟨rfl, by go_grown⟩
  · rw [M.inb_mkn (by omega)]
    go_enter Tryd.func41, Tryd.ntmps41
    go_wp2
    go_ret
    exact ⟨rfl, by go_grown⟩

/-- The document's Right: the least number of all is its own opposite, and is parted by the last test. -/
theorem refRight_any (l a o : Int) (w : World) (b1 : -9223372036854775808 ≤ a) (b2 : a ≤ 9223372036854775807) :
    Calls Tryd.prog 22 #[.agg #[.int .i64 l, .int .i64 a, .int .i64 o]] w fun e w' => e = .returned (.bool (M.rt l a o)) ∧ Below w.heap.size w w' := by
  by_cases c1 : 0 ≤ l
  · by_cases c2 : l ≤ 6
    · by_cases c0 : a = -9223372036854775808
      · subst c0
        rw [M.rt_mkn (by omega)]
        by_cases c4 : -12 ≤ o
        · by_cases c5 : o ≤ 12
          all_goals
            go_enter Tryd.func22, Tryd.ntmps22
            go_wp2_with (go_at_call 36; refine (refAbs_least _).mono ?_; rintro e w' ⟨rfl, rfl⟩)
            go_ret
            exact ⟨rfl, by go_grown⟩
        · go_enter Tryd.func22, Tryd.ntmps22
          go_wp2_with (go_at_call 36; refine (refAbs_least _).mono ?_; rintro e w' ⟨rfl, rfl⟩)
          go_ret
          exact ⟨rfl, by go_grown⟩
      · by_cases c3 : (a.natAbs : Int) ≤ 3
        · by_cases c4 : -12 ≤ o
          · by_cases c5 : o ≤ 12
            · have c6 : -3 ≤ a := by omega
              rw [M.rt_mk (by omega)]
              go_enter Tryd.func22, Tryd.ntmps22
              go_wp2_with (go_at_call 36; refine (refAbs_any _ _ (by omega) (by omega)).mono ?_; rintro e w' ⟨rfl, rfl⟩)
              go_ret
              exact ⟨rfl, by go_grown⟩
            · rw [M.rt_mkn (by omega)]
              go_enter Tryd.func22, Tryd.ntmps22
              go_wp2_with (go_at_call 36; refine (refAbs_any _ _ (by omega) (by omega)).mono ?_; rintro e w' ⟨rfl, rfl⟩)
              go_ret
              exact ⟨rfl, by go_grown⟩
          · rw [M.rt_mkn (by omega)]
            go_enter Tryd.func22, Tryd.ntmps22
            go_wp2_with (go_at_call 36; refine (refAbs_any _ _ (by omega) (by omega)).mono ?_; rintro e w' ⟨rfl, rfl⟩)
            go_ret
            exact ⟨rfl, by go_grown⟩
        · rw [M.rt_mkn (by omega)]
          go_enter Tryd.func22, Tryd.ntmps22
          go_wp2_with (go_at_call 36; refine (refAbs_any _ _ (by omega) (by omega)).mono ?_; rintro e w' ⟨rfl, rfl⟩)
          go_ret
          exact ⟨rfl, by go_grown⟩
    · rw [M.rt_mkn (by omega)]
      go_enter Tryd.func22, Tryd.ntmps22
      go_wp2_with fail
      go_ret
      exact ⟨rfl, by go_grown⟩
  · rw [M.rt_mkn (by omega)]
    go_enter Tryd.func22, Tryd.ntmps22
    go_wp2_with fail
    go_ret
    exact ⟨rfl, by go_grown⟩

end Go.Proofs.YtjakaceckmhjiafDoor
