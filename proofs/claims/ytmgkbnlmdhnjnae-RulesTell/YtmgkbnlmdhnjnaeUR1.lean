/- The document's Abs, Sound, most and Wrong. -/
import Derived.Test.YtmgkbnlmdhnjnaeU14
namespace Go.Proofs.Ytmgkbnlmdhnjnae.U
open Go.RowKit Go.Maps Go.Sort
set_option linter.unusedVariables false
set_option linter.unusedSimpArgs false

theorem Abs_any (x : Int) (w : World) (h1 : -1000 ≤ x) (h2 : x ≤ 1000) :
    Calls Try.prog 54 #[.int .i64 x] w fun e w' => e = .returned (.int .i64 (if x < 0 then -x else x)) ∧ w' = w := by
  by_cases c : x < 0
  · rw [if_pos c]
    go_enter Try.func54, Try.ntmps54
    go_wp2_with fail
    go_ret
    exact ⟨rfl, rfl⟩
  · rw [if_neg c]
    go_enter Try.func54, Try.ntmps54
    go_wp2_with fail
    go_ret
    exact ⟨rfl, rfl⟩
theorem Abs_ap (a b : Int) (w : World) (h1 : -1 ≤ a) (h2 : a ≤ 127) (h3 : -1 ≤ b) (h4 : b ≤ 127) :
    Calls Try.prog 54 #[.int .i64 (a - b)] w fun e w' => e = .returned (.int .i64 (M.ap a b)) ∧ w' = w := by
  have := Abs_any (a - b) w (by omega) (by omega)
  have e : (if a - b < 0 then -(a - b) else a - b) = M.ap a b := by
    unfold M.ap
    by_cases c : a ≤ b
    · rw [if_pos c]; split <;> omega
    · rw [if_neg c, if_neg (by omega)]
  rw [e] at this
  exact this
theorem refSound_any (a b : Int) (w : World) (h1 : -1 ≤ a) (h2 : a ≤ 127) (h3 : -1 ≤ b) (h4 : b ≤ 127) :
    Calls Try.prog 52 #[.int .i64 a, .int .i64 b] w fun e w' => e = .returned (.int .i64 (M.so a b)) ∧ w' = w := by
  have hap : 0 ≤ M.ap a b ∧ M.ap a b ≤ 128 := by unfold M.ap; split <;> omega
  have HE : Hid (M.so a b = M.ap a b % 12) := rfl
  have HC := Abs_ap a b w h1 h2 h3 h4
  generalize M.ap a b = A at *
  go_enter Try.func52, Try.ntmps52
  go_wp2_with fail
  refine HC.mono ?_
  rintro e w1 ⟨rfl, hw⟩
  rw [hw]
  go_wp2_with fail
  go_ret
  exact ⟨ret_int (by rw [HE.out]), rfl⟩
theorem most_any (x : Int) (w : World) :
    Calls Try.prog 58 #[.int .i64 x] w fun e w' => e = .returned (.int .i64 (min x 1000000000)) ∧ w' = w := by
  by_cases c : 1000000000 < x
  · rw [show min x 1000000000 = 1000000000 by omega]
    go_enter Try.func58, Try.ntmps58
    go_wp2_with fail
    go_ret
    exact ⟨rfl, rfl⟩
  · rw [show min x 1000000000 = x by omega]
    go_enter Try.func58, Try.ntmps58
    go_wp2_with fail
    go_ret
    exact ⟨rfl, rfl⟩

set_option maxHeartbeats 4000000 in
theorem refWrong_any (r : M.Ru) (ao : Option Addr) (n c : Nat) (g : Nat → Int) (w : World) (hp : LI w ao n g) (hc : n ≤ c) (hcm : c ≤ 9223372036854775807) :
    Calls Try.prog 18 #[.agg #[.int .i64 r.low, .int .i64 r.high, .bool r.above, .int .i64 r.leap, .int .i64 r.classes], .slice ao n c] w fun e w' => e = .returned (.int .i64 (M.wr r g n)) ∧ Below w.heap.size w w' := by
  by_cases hz : n = 0
  · rw [M.wr_many (Or.inl hz)]
    subst hz
    go_enter Try.func18, Try.ntmps18
    go_wp2_with fail
    go_returns
    exact ⟨rfl, by go_grown⟩
  by_cases hm : 64 < n
  · rw [M.wr_many (Or.inr hm)]
    have hm' : (64 : Int) < n := by omega
    have hz1 : ¬ (n : Int) < 1 := by omega
    go_enter Try.func18, Try.ntmps18
    go_wp2_with fail
    go_returns
    exact ⟨rfl, by go_grown⟩
  have hn : ¬ (n = 0 ∨ 64 < n) := by omega
  have hm' : ¬ (64 : Int) < n := by omega
  have hz1 : ¬ (n : Int) < 1 := by omega
  have HY : Hid ((∀ j, j < n → 0 ≤ g j ∧ g j ≤ 127) → r.Ok → M.wr r g n = 0) := fun h1 h2 => M.wr_ok hn ⟨M.ks_iff.2 h1, h2⟩
  have HN : Hid (¬ r.Ok → M.wr r g n = 3) := fun h => M.wr_range hn (by simp [h])
  have HK : Hid (∀ j, j < n → (g j < 0 ∨ 127 < g j) → M.wr r g n = 3) := fun j hj h => M.wr_range hn (by simp [M.ks_no hj h])
  generalize M.wr r g n = V at *
  obtain ⟨b, off, rfl, hbl, q⟩ := hp.at' (by omega)
  clear hp
  go_enter Try.func18, Try.ntmps18
  go_wp2_with fail
  obtain ⟨W, hW⟩ : ∃ x, x = w.alloc (.cells #[.int .i64 r.low, .int .i64 r.high, .bool r.above, .int .i64 r.leap, .int .i64 r.classes] 38) := ⟨_, rfl⟩
  rw [← hW]
  have hbW : Below w.heap.size w W := by rw [hW]; go_grown
  have sW : w.heap.size < W.heap.size := by rw [hW]; simp
  have q0 : W.cell? ⟨w.heap.size, 0, none⟩ = some (.int .i64 r.low) := by rw [hW]; simp [go_sem]
  have q1 : W.cell? ⟨w.heap.size, 1, none⟩ = some (.int .i64 r.high) := by rw [hW]; simp [go_sem]
  have q3 : W.cell? ⟨w.heap.size, 3, none⟩ = some (.int .i64 r.leap) := by rw [hW]; simp [go_sem]
  have q4 : W.cell? ⟨w.heap.size, 4, none⟩ = some (.int .i64 r.classes) := by rw [hW]; simp [go_sem]
  clear hW
  go_loopw [17] (fun i wr => ∃ k : Nat, k ≤ n ∧ i = .int .i64 k ∧ Hid (∀ j, j < k → 0 ≤ g j ∧ g j ≤ 127) ∧ wr = W) (fun i _ => n - (intOf i).toNat)
  case atStart => exact ⟨0, by omega, rfl, fun j hj => by omega, rfl⟩
  case round =>
    obtain ⟨k, hkn, rfl, hk, hw⟩ := hrel
    subst hw
    by_cases hlt : k < n
    · have r0 := keepC hbW hbl (q k hlt)
      have zb : b < wr.heap.size := by omega
      by_cases c1 : g k < 0
      · have hV : V = 3 := HK.out k hlt (Or.inl c1)
        subst hV
        clear q HN HY HK
        go_wp2_with fail
        go_returns
        exact ⟨rfl, hbW⟩
      by_cases c2 : 127 < g k
      · have hV : V = 3 := HK.out k hlt (Or.inr c2)
        subst hV
        clear q HN HY HK
        go_wp2_with fail
        go_returns
        exact ⟨rfl, hbW⟩
      have w3 : IntKind.i64.wrap ((k : Int) + 1) = (k : Int) + 1 := wid (by omega) (by omega)
      have hk2 : Hid (∀ j, j < k + 1 → 0 ≤ g j ∧ g j ≤ 127) := fun j hj => by
        rcases Nat.lt_succ_iff_lt_or_eq.1 hj with h1 | rfl
        · exact hk.out j h1
        · omega
      clear q HN HY HK
      go_wp2_with fail
      go_roundw
      case rel => exact ⟨k + 1, by omega, by push_cast; rfl, hk2, by first | rfl | trivial⟩
      case measure => simp [intOf]; omega
    · have hk' : Hid (∀ j, j < n → 0 ≤ g j ∧ g j ≤ 127) := fun j hj => hk.out j (by omega)
      clear hk q HK
      by_cases c1 : r.low < 0
      · have hV : V = 3 := HN.out (fun h => by have := h.l0; omega)
        subst hV; clear HN HY
        go_wp2_with fail
        go_returns
        exact ⟨rfl, hbW⟩
      by_cases c2 : r.high < r.low
      · have hV : V = 3 := HN.out (fun h => by have := h.lh; omega)
        subst hV; clear HN HY
        go_wp2_with fail
        go_returns
        exact ⟨rfl, hbW⟩
      by_cases c3 : 127 < r.high
      · have hV : V = 3 := HN.out (fun h => by have := h.hm; omega)
        subst hV; clear HN HY
        go_wp2_with fail
        go_returns
        exact ⟨rfl, hbW⟩
      by_cases c4 : r.leap < 0
      · have hV : V = 3 := HN.out (fun h => by have := h.lp; omega)
        subst hV; clear HN HY
        go_wp2_with fail
        go_returns
        exact ⟨rfl, hbW⟩
      by_cases c5 : r.classes < 0
      · have hV : V = 3 := HN.out (fun h => by have := h.c0; omega)
        subst hV; clear HN HY
        go_wp2_with fail
        go_returns
        exact ⟨rfl, hbW⟩
      by_cases c6 : 4095 < r.classes
      · have hV : V = 3 := HN.out (fun h => by have := h.cm; omega)
        subst hV; clear HN HY
        go_wp2_with fail
        go_returns
        exact ⟨rfl, hbW⟩
      have hV : V = 0 := HY.out hk'.out ⟨by omega, by omega, by omega, by omega, by omega, by omega⟩
      subst hV; clear HN HY
      go_wp2_with fail
      go_returns
      exact ⟨rfl, hbW⟩
end Go.Proofs.Ytmgkbnlmdhnjnae.U
