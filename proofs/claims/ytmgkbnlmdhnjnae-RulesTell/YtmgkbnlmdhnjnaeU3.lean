/- What the program's breaksAlone comes to. -/
import Derived.Test.YtmgkbnlmdhnjnaeU1
import Derived.Laws.BitsLemmas
namespace Go.Proofs.Ytmgkbnlmdhnjnae.U
open Go.RowKit
set_option linter.unusedVariables false
set_option linter.unusedSimpArgs false

theorem M.so_bd {a b : Int} : 0 ≤ M.so a b ∧ M.so a b < 12 := by unfold M.so; omega
theorem i64_and1 (n : Int) : bits .and .i64 n 1 = n % 2 := by
  have h127 : (BitVec.ofInt 64 1).toNat = 2 ^ 1 - 1 := by decide
  have key : (BitVec.ofInt 64 n &&& BitVec.ofInt 64 1).toNat = (n % ((2 ^ 64 : Nat) : Int)).toNat % 2 ^ 1 := by
    rw [BitVec.toNat_and, BitVec.toNat_ofInt, h127, Nat.and_two_pow_sub_one_eq_mod]
  show IntKind.i64.wrap ((BitVec.ofInt 64 n &&& BitVec.ofInt 64 1).toNat : Nat) = n % 2
  rw [key, IntKind.wrap_i64]
  omega

theorem M.ba_range {r : M.Ru} {g : Nat → Int} {n i : Nat} {k : Int} (h : k < r.low ∨ r.high < k ∨ M.bit r.classes k = 0) : M.ba r g n i k = 1 := by
  unfold M.ba; rw [if_pos h]
theorem M.ba_cross {r : M.Ru} {g : Nat → Int} {n i : Nat} {k : Int} (h : ¬ (k < r.low ∨ r.high < k ∨ M.bit r.classes k = 0)) (h2 : r.above = true ∧ k < g i) : M.ba r g n i k = 2 := by
  unfold M.ba; rw [if_neg h, if_pos h2]
theorem M.ba_sound {r : M.Ru} {g : Nat → Int} {n i : Nat} {k : Int} (h : ¬ (k < r.low ∨ r.high < k ∨ M.bit r.classes k = 0)) (h2 : ¬ (r.above = true ∧ k < g i)) (h3 : M.hs (M.so k (g i)) = true) : M.ba r g n i k = 3 := by
  unfold M.ba; rw [if_neg h, if_neg h2, if_pos h3]
theorem M.ba_ends {r : M.Ru} {g : Nat → Int} {n i : Nat} {k : Int} (h : ¬ (k < r.low ∨ r.high < k ∨ M.bit r.classes k = 0)) (h2 : ¬ (r.above = true ∧ k < g i)) (h3 : ¬ M.hs (M.so k (g i)) = true)
    (h4 : (i = 0 ∧ M.pf (M.so k (g i)) = false) ∨ (i + 1 = n ∧ M.so k (g i) ≠ 0)) : M.ba r g n i k = 4 := by
  unfold M.ba; rw [if_neg h, if_neg h2, if_neg h3, if_pos h4]
theorem M.ba_none {r : M.Ru} {g : Nat → Int} {n i : Nat} {k : Int} (h : ¬ (k < r.low ∨ r.high < k ∨ M.bit r.classes k = 0)) (h2 : ¬ (r.above = true ∧ k < g i)) (h3 : ¬ M.hs (M.so k (g i)) = true)
    (h4 : ¬ ((i = 0 ∧ M.pf (M.so k (g i)) = false) ∨ (i + 1 = n ∧ M.so k (g i) ≠ 0))) : M.ba r g n i k = 0 := by
  unfold M.ba; rw [if_neg h, if_neg h2, if_neg h3, if_neg h4]

set_option maxHeartbeats 8000000 in
theorem breaksAlone_any (r : M.Ru) (ao : Option Addr) (n c i : Nat) (g : Nat → Int) (k : Int) (w : World) (hp : LI w ao n g) (hc : n ≤ c) (hcm : c ≤ 9223372036854775807)
    (hr : r.Ok) (hk0 : 0 ≤ k) (hkm : k ≤ 127) (hi : i < n) (hn : n ≤ 64) (hg : ∀ j, j < n → 0 ≤ g j ∧ g j ≤ 127) :
    Calls Try.prog 36 #[.agg #[.int .i64 r.low, .int .i64 r.high, .bool r.above, .int .i64 r.leap, .int .i64 r.classes], .slice ao n c, .int .i64 (i : Int), .int .i64 k] w fun e w' => e = .returned (.int .i64 (M.ba r g n i k)) ∧ Below w.heap.size w w' := by
  obtain ⟨b, off, rfl, hbl, q⟩ := hp.at' (by omega)
  have gi := hg i hi
  have r0 := q i hi
  have HS := fun w => sound_any k (g i) w (by omega) (by omega) (by omega) (by omega)
  have hr1 := hr.c0
  have hr2 := hr.cm
  have hb0 : bits BinOp.and IntKind.i64 (r.classes / 2 ^ (k % 12).toNat) 1 = M.bit r.classes k := i64_and1 _
  have H1 : Hid ((k < r.low ∨ r.high < k ∨ M.bit r.classes k = 0) → M.ba r g n i k = 1) := M.ba_range
  have H2 : Hid (¬ (k < r.low ∨ r.high < k ∨ M.bit r.classes k = 0) → (r.above = true ∧ k < g i) → M.ba r g n i k = 2) := M.ba_cross
  have H3 : Hid (¬ (k < r.low ∨ r.high < k ∨ M.bit r.classes k = 0) → ¬ (r.above = true ∧ k < g i) → M.hs (M.so k (g i)) = true → M.ba r g n i k = 3) := M.ba_sound
  have H4 : Hid (¬ (k < r.low ∨ r.high < k ∨ M.bit r.classes k = 0) → ¬ (r.above = true ∧ k < g i) → ¬ M.hs (M.so k (g i)) = true → ((i = 0 ∧ M.pf (M.so k (g i)) = false) ∨ (i + 1 = n ∧ M.so k (g i) ≠ 0)) → M.ba r g n i k = 4) := M.ba_ends
  have H5 : Hid (¬ (k < r.low ∨ r.high < k ∨ M.bit r.classes k = 0) → ¬ (r.above = true ∧ k < g i) → ¬ M.hs (M.so k (g i)) = true → ¬ ((i = 0 ∧ M.pf (M.so k (g i)) = false) ∨ (i + 1 = n ∧ M.so k (g i) ≠ 0)) → M.ba r g n i k = 0) := M.ba_none
  clear hg q hp hr
  generalize M.ba r g n i k = V at *
  generalize hS : M.so k (g i) = S at *
  clear hS
  generalize M.bit r.classes k = B at *
  have HH := fun w => harsh_any S w
  have HP := fun w => perfect_any S w
  generalize M.hs S = X at *
  generalize M.pf S = Y at *
  by_cases c1 : k < r.low
  · have hV : V = 1 := H1.out (Or.inl c1)
    subst hV
    clear H1 H2 H3 H4 H5
    go_enter Try.func36, Try.ntmps36
    go_wp2_with fail
    refine (HS _).mono ?_
    rintro e w1 ⟨rfl, hw⟩
    rw [hw]
    go_wp2_with fail
    go_returns
    exact ⟨rfl, by go_grown⟩
  by_cases c2 : r.high < k
  · have hV : V = 1 := H1.out (Or.inr (Or.inl c2))
    subst hV
    clear H1 H2 H3 H4 H5
    go_enter Try.func36, Try.ntmps36
    go_wp2_with fail
    refine (HS _).mono ?_
    rintro e w1 ⟨rfl, hw⟩
    rw [hw]
    go_wp2_with fail
    go_returns
    exact ⟨rfl, by go_grown⟩
  by_cases c3 : B = 0
  · have hV : V = 1 := H1.out (Or.inr (Or.inr c3))
    subst hV
    subst c3
    clear H1 H2 H3 H4 H5
    go_enter Try.func36, Try.ntmps36
    go_wp2_with fail
    refine (HS _).mono ?_
    rintro e w1 ⟨rfl, hw⟩
    rw [hw]
    go_wp2_with fail
    go_returns
    exact ⟨rfl, by go_grown⟩
  have G1 : Hid (¬ (k < r.low ∨ r.high < k ∨ B = 0)) := fun h => by omega
  have c3' : (B == 0) = false := by simp [c3]
  by_cases c4 : r.above = true ∧ k < g i
  · have hV : V = 2 := H2.out G1.out c4
    subst hV
    have d1 := c4.1
    have d2 := c4.2
    clear H1 H2 H3 H4 H5 c3 c4 G1
    rw [d1]
    clear d1
    go_enter Try.func36, Try.ntmps36
    go_wp2_with fail
    refine (HS _).mono ?_
    rintro e w1 ⟨rfl, hw⟩
    rw [hw]
    go_wp2_with fail
    go_returns
    exact ⟨rfl, by go_grown⟩
  have G2 : Hid (¬ (r.above = true ∧ k < g i)) := c4
  have d1 : (r.above && decide (k < g i)) = false := by
    cases h : r.above
    · rfl
    · simp only [h, true_and] at c4; simp [c4]
  cases X
  rotate_left
  · have hV : V = 3 := H3.out G1.out G2.out rfl
    subst hV
    clear H1 H2 H3 H4 H5 c3 c4 G1 G2
    go_enter Try.func36, Try.ntmps36
    go_wp2_with fail
    refine (HS _).mono ?_
    rintro e w1 ⟨rfl, hw⟩
    rw [hw]
    go_wp2_with fail
    all_goals try (exfalso; simp_all; done)
    all_goals
      refine (HH _).mono ?_
      rintro e w2 ⟨rfl, hw2⟩
      rw [hw2]
      go_wp2_with fail
      go_returns
      exact ⟨rfl, by go_grown⟩
  have G3 : Hid (¬ (false = true)) := fun h => by cases h
  by_cases e1 : i = 0
  · have e1' : ((i : Int) == 0) = true := by simp [e1]
    have E1 : Hid (i = 0) := e1
    clear e1
    cases Y
    · have hV : V = 4 := H4.out G1.out G2.out G3.out (Or.inl ⟨E1.out, rfl⟩)
      subst hV
      clear H1 H2 H3 H4 H5 c3 c4 G1 G2 G3
      go_enter Try.func36, Try.ntmps36
      go_wp2_with fail
      refine (HS _).mono ?_
      rintro e w1 ⟨rfl, hw⟩
      rw [hw]
      go_wp2_with fail
      all_goals try (exfalso; simp_all; done)
      all_goals
        refine (HH _).mono ?_
        rintro e w2 ⟨rfl, hw2⟩
        rw [hw2]
        go_wp2_with fail
        refine (HP _).mono ?_
        rintro e w3 ⟨rfl, hw3⟩
        rw [hw3]
        go_wp2_with fail
        go_returns
        exact ⟨rfl, by go_grown⟩

    by_cases e2 : i + 1 = n
    · have e2' : ((i : Int) == (n : Int) - 1) = true := by simp; omega
      by_cases e3 : S = 0
      · have hV : V = 0 := H5.out G1.out G2.out G3.out (fun h => by
          rcases h with h | h
          · cases h.2
          · exact h.2 e3)
        have e3' : (S != 0) = false := by simp [e3]
        subst hV
        clear H1 H2 H3 H4 H5 c3 c4 G1 G2 G3 e2 e3
        go_enter Try.func36, Try.ntmps36
        go_wp2_with fail
        refine (HS _).mono ?_
        rintro e w1 ⟨rfl, hw⟩
        rw [hw]
        go_wp2_with fail
        all_goals try (exfalso; simp_all; done)
        all_goals
          refine (HH _).mono ?_
          rintro e w2 ⟨rfl, hw2⟩
          rw [hw2]
          go_wp2_with fail
          refine (HP _).mono ?_
          rintro e w3 ⟨rfl, hw3⟩
          rw [hw3]
          go_wp2_with fail
          go_returns
          exact ⟨rfl, by go_grown⟩

      · have hV : V = 4 := H4.out G1.out G2.out G3.out (Or.inr ⟨e2, e3⟩)
        have e3' : (S != 0) = true := by simp [e3]
        subst hV
        clear H1 H2 H3 H4 H5 c3 c4 G1 G2 G3 e2 e3
        go_enter Try.func36, Try.ntmps36
        go_wp2_with fail
        refine (HS _).mono ?_
        rintro e w1 ⟨rfl, hw⟩
        rw [hw]
        go_wp2_with fail
        all_goals try (exfalso; simp_all; done)
        all_goals
          refine (HH _).mono ?_
          rintro e w2 ⟨rfl, hw2⟩
          rw [hw2]
          go_wp2_with fail
          refine (HP _).mono ?_
          rintro e w3 ⟨rfl, hw3⟩
          rw [hw3]
          go_wp2_with fail
          go_returns
          exact ⟨rfl, by go_grown⟩

    · have e2' : ((i : Int) == (n : Int) - 1) = false := by simp; omega
      have hV : V = 0 := H5.out G1.out G2.out G3.out (fun h => by
        rcases h with h | h
        · cases h.2
        · exact e2 h.1)
      subst hV
      clear H1 H2 H3 H4 H5 c3 c4 G1 G2 G3 e2
      go_enter Try.func36, Try.ntmps36
      go_wp2_with fail
      refine (HS _).mono ?_
      rintro e w1 ⟨rfl, hw⟩
      rw [hw]
      go_wp2_with fail
      all_goals try (exfalso; simp_all; done)
      all_goals
        refine (HH _).mono ?_
        rintro e w2 ⟨rfl, hw2⟩
        rw [hw2]
        go_wp2_with fail
        refine (HP _).mono ?_
        rintro e w3 ⟨rfl, hw3⟩
        rw [hw3]
        go_wp2_with fail
        go_returns
        exact ⟨rfl, by go_grown⟩

  have e1' : ((i : Int) == 0) = false := by simp; omega
  by_cases e2 : i + 1 = n
  · have e2' : ((i : Int) == (n : Int) - 1) = true := by simp; omega
    by_cases e3 : S = 0
    · have hV : V = 0 := H5.out G1.out G2.out G3.out (fun h => by
        rcases h with h | h
        · exact e1 h.1
        · exact h.2 e3)
      have e3' : (S != 0) = false := by simp [e3]
      subst hV
      clear H1 H2 H3 H4 H5 c3 c4 G1 G2 G3 e2 e3
      go_enter Try.func36, Try.ntmps36
      go_wp2_with fail
      refine (HS _).mono ?_
      rintro e w1 ⟨rfl, hw⟩
      rw [hw]
      go_wp2_with fail
      all_goals try (exfalso; simp_all; done)
      all_goals
        refine (HH _).mono ?_
        rintro e w2 ⟨rfl, hw2⟩
        rw [hw2]
        go_wp2_with fail
        go_returns
        exact ⟨rfl, by go_grown⟩

    · have hV : V = 4 := H4.out G1.out G2.out G3.out (Or.inr ⟨e2, e3⟩)
      have e3' : (S != 0) = true := by simp [e3]
      subst hV
      clear H1 H2 H3 H4 H5 c3 c4 G1 G2 G3 e2 e3
      go_enter Try.func36, Try.ntmps36
      go_wp2_with fail
      refine (HS _).mono ?_
      rintro e w1 ⟨rfl, hw⟩
      rw [hw]
      go_wp2_with fail
      all_goals try (exfalso; simp_all; done)
      all_goals
        refine (HH _).mono ?_
        rintro e w2 ⟨rfl, hw2⟩
        rw [hw2]
        go_wp2_with fail
        go_returns
        exact ⟨rfl, by go_grown⟩

  · have e2' : ((i : Int) == (n : Int) - 1) = false := by simp; omega
    have hV : V = 0 := H5.out G1.out G2.out G3.out (fun h => by
      rcases h with h | h
      · exact e1 h.1
      · exact e2 h.1)
    subst hV
    clear H1 H2 H3 H4 H5 c3 c4 G1 G2 G3 e2
    go_enter Try.func36, Try.ntmps36
    go_wp2_with fail
    refine (HS _).mono ?_
    rintro e w1 ⟨rfl, hw⟩
    rw [hw]
    go_wp2_with fail
    all_goals try (exfalso; simp_all; done)
    all_goals
      refine (HH _).mono ?_
      rintro e w2 ⟨rfl, hw2⟩
      rw [hw2]
      go_wp2_with fail
      go_returns
      exact ⟨rfl, by go_grown⟩
end Go.Proofs.Ytmgkbnlmdhnjnae.U
