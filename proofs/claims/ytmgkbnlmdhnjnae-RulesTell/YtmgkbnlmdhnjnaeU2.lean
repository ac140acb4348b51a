/- What the program's allKeys and Wrong come to. -/
import Derived.Test.YtmgkbnlmdhnjnaeU1
namespace Go.Proofs.Ytmgkbnlmdhnjnae.U
open Go.RowKit
set_option linter.unusedVariables false
set_option linter.unusedSimpArgs false

theorem allKeys_any (ao : Option Addr) (n c : Nat) (g : Nat → Int) (w : World) (hp : LI w ao n g) (hc : n ≤ c) (hcm : c ≤ 9223372036854775807) :
    Calls Try.prog 34 #[.slice ao n c] w fun e w' => e = .returned (.bool (M.ks g n)) ∧ w' = w := by
  have HY : Hid ((∀ j, j < n → 0 ≤ g j ∧ g j ≤ 127) → M.ks g n = true) := M.ks_iff.2
  have HN : Hid (∀ j, j < n → (g j < 0 ∨ 127 < g j) → M.ks g n = false) := fun j => M.ks_no
  generalize M.ks g n = V at *
  by_cases hz : n = 0
  · subst hz
    have hV : V = true := HY.out (fun j hj => by omega)
    subst hV
    go_enter Try.func34, Try.ntmps34
    go_wp2_with fail
    refine wp_loop_rounds 1 ?_
    rw [rounds_succ]
    go_wp2_with fail
    go_ret
    exact ⟨rfl, rfl⟩
  obtain ⟨b, off, rfl, hbl, q⟩ := hp.at' (by omega)
  clear hp
  go_enter Try.func34, Try.ntmps34
  go_wp2_with fail
  go_loopw [7] (fun i wr => ∃ k : Nat, k ≤ n ∧ i = .int .i64 k ∧ Hid (∀ j, j < k → 0 ≤ g j ∧ g j ≤ 127) ∧ wr = w) (fun i _ => n - (intOf i).toNat)
  case atStart => exact ⟨0, by omega, rfl, fun j hj => by omega, rfl⟩
  case round =>
    obtain ⟨k, hkn, rfl, hk, hw⟩ := hrel
    subst hw
    by_cases hlt : k < n
    · have r0 := q k hlt
      by_cases c1 : g k < 0
      · have hV : V = false := HN.out k hlt (Or.inl c1)
        subst hV
        clear q HN HY
        go_wp2_with fail
        go_ret
        exact ⟨rfl, rfl⟩
      by_cases c2 : 127 < g k
      · have hV : V = false := HN.out k hlt (Or.inr c2)
        subst hV
        clear q HN HY
        go_wp2_with fail
        go_ret
        exact ⟨rfl, rfl⟩
      have w3 : IntKind.i64.wrap ((k : Int) + 1) = (k : Int) + 1 := wid (by omega) (by omega)
      have hk2 : Hid (∀ j, j < k + 1 → 0 ≤ g j ∧ g j ≤ 127) := fun j hj => by
        rcases Nat.lt_succ_iff_lt_or_eq.1 hj with h1 | rfl
        · exact hk.out j h1
        · omega
      clear q HN HY
      go_wp2_with fail
      go_round
      case rel => exact ⟨k + 1, by omega, by push_cast; rfl, hk2, by first | rfl | trivial⟩
      case measure => simp [intOf]; omega
    · have hke : k = n := by omega
      have hV : V = true := HY.out (fun j hj => hk.out j (by omega))
      subst hV
      clear q HN HY
      go_wp2_with fail
      go_ret
      exact ⟨rfl, rfl⟩

theorem M.wr_many {r : M.Ru} {g : Nat → Int} {n : Nat} (h : n = 0 ∨ 64 < n) : M.wr r g n = 5 := by unfold M.wr; rw [if_pos h]
theorem M.wr_range {r : M.Ru} {g : Nat → Int} {n : Nat} (h : ¬ (n = 0 ∨ 64 < n)) (h2 : ¬ (M.ks g n = true ∧ r.Ok)) : M.wr r g n = 3 := by unfold M.wr; rw [if_neg h, if_neg (fun x => h2 ⟨x.1, M.ok_iff.2 x.2⟩)]
theorem M.wr_ok {r : M.Ru} {g : Nat → Int} {n : Nat} (h : ¬ (n = 0 ∨ 64 < n)) (h2 : M.ks g n = true ∧ r.Ok) : M.wr r g n = 0 := by unfold M.wr; rw [if_neg h, if_pos ⟨h2.1, M.ok_iff.1 h2.2⟩]

set_option maxHeartbeats 2000000 in
theorem Wrong_any (r : M.Ru) (ao : Option Addr) (n c : Nat) (g : Nat → Int) (w : World) (hp : LI w ao n g) (hc : n ≤ c) (hcm : c ≤ 9223372036854775807) :
    Calls Try.prog 17 #[.agg #[.int .i64 r.low, .int .i64 r.high, .bool r.above, .int .i64 r.leap, .int .i64 r.classes], .slice ao n c] w fun e w' => e = .returned (.int .i64 (M.wr r g n)) ∧ Below w.heap.size w w' := by
  by_cases hz : n = 0
  · rw [M.wr_many (Or.inl hz)]
    subst hz
    go_enter Try.func17, Try.ntmps17
    go_wp2_with fail
    go_returns
    exact ⟨rfl, by go_grown⟩
  by_cases hm : 64 < n
  · rw [M.wr_many (Or.inr hm)]
    have hm' : (64 : Int) < n := by omega
    have hzb : ((n : Int) == 0) = false := by simp; omega
    go_enter Try.func17, Try.ntmps17
    go_wp2_with fail
    go_returns
    exact ⟨rfl, by go_grown⟩
  have hn : ¬ (n = 0 ∨ 64 < n) := by omega
  have hm' : ¬ (64 : Int) < n := by omega
  have hzb : ((n : Int) == 0) = false := by simp; omega
  have HK := fun w hp => allKeys_any ao n c g w hp hc hcm
  cases hk : M.ks g n
  · rw [M.wr_range hn (by simp [hk])]
    rw [hk] at HK
    go_enter Try.func17, Try.ntmps17
    go_wp2_with fail
    refine (HK _ (hp.step (by go_grown))).mono ?_
    rintro e w1 ⟨rfl, hw⟩
    rw [hw]
    go_wp2_with fail
    go_returns
    exact ⟨rfl, by go_grown⟩
  rw [hk] at HK
  have HY : Hid (r.Ok → M.wr r g n = 0) := fun h => M.wr_ok hn ⟨hk, h⟩
  have HN : Hid (¬ r.Ok → M.wr r g n = 3) := fun h => M.wr_range hn (by simp [h])
  generalize M.wr r g n = V at *
  by_cases c1 : r.low < 0
  · have hV : V = 3 := HN.out (fun h => by have := h.l0; omega)
    subst hV
    go_enter Try.func17, Try.ntmps17
    go_wp2_with fail
    refine (HK _ (hp.step (by go_grown))).mono ?_
    rintro e w1 ⟨rfl, hw⟩
    rw [hw]
    go_wp2_with fail
    go_returns
    exact ⟨rfl, by go_grown⟩
  by_cases c2 : r.high < r.low
  · have hV : V = 3 := HN.out (fun h => by have := h.lh; omega)
    subst hV
    go_enter Try.func17, Try.ntmps17
    go_wp2_with fail
    refine (HK _ (hp.step (by go_grown))).mono ?_
    rintro e w1 ⟨rfl, hw⟩
    rw [hw]
    go_wp2_with fail
    go_returns
    exact ⟨rfl, by go_grown⟩
  by_cases c3 : 127 < r.high
  · have hV : V = 3 := HN.out (fun h => by have := h.hm; omega)
    subst hV
    go_enter Try.func17, Try.ntmps17
    go_wp2_with fail
    refine (HK _ (hp.step (by go_grown))).mono ?_
    rintro e w1 ⟨rfl, hw⟩
    rw [hw]
    go_wp2_with fail
    go_returns
    exact ⟨rfl, by go_grown⟩
  by_cases c4 : r.leap < 0
  · have hV : V = 3 := HN.out (fun h => by have := h.lp; omega)
    subst hV
    go_enter Try.func17, Try.ntmps17
    go_wp2_with fail
    refine (HK _ (hp.step (by go_grown))).mono ?_
    rintro e w1 ⟨rfl, hw⟩
    rw [hw]
    go_wp2_with fail
    go_returns
    exact ⟨rfl, by go_grown⟩
  by_cases c5 : r.classes < 0
  · have hV : V = 3 := HN.out (fun h => by have := h.c0; omega)
    subst hV
    go_enter Try.func17, Try.ntmps17
    go_wp2_with fail
    refine (HK _ (hp.step (by go_grown))).mono ?_
    rintro e w1 ⟨rfl, hw⟩
    rw [hw]
    go_wp2_with fail
    go_returns
    exact ⟨rfl, by go_grown⟩
  by_cases c6 : 4096 ≤ r.classes
  · have hV : V = 3 := HN.out (fun h => by have := h.cm; omega)
    subst hV
    go_enter Try.func17, Try.ntmps17
    go_wp2_with fail
    refine (HK _ (hp.step (by go_grown))).mono ?_
    rintro e w1 ⟨rfl, hw⟩
    rw [hw]
    go_wp2_with fail
    go_returns
    exact ⟨rfl, by go_grown⟩
  have hV : V = 0 := HY.out ⟨by omega, by omega, by omega, by omega, by omega, by omega⟩
  subst hV
  go_enter Try.func17, Try.ntmps17
  go_wp2_with fail
  refine (HK _ (hp.step (by go_grown))).mono ?_
  rintro e w1 ⟨rfl, hw⟩
  rw [hw]
  go_wp2_with fail
  go_returns
  exact ⟨rfl, by go_grown⟩
end Go.Proofs.Ytmgkbnlmdhnjnae.U
