/- Doubles in plain words: whole numbers out of them, in two ways; what is written of a number of few digits. -/
import Derived.Test.YtdlcnbfiklbiiaaDb1
namespace Go.Proofs.Ytdlcnbfiklbiiaa.Db
open Ieee
set_option linter.unusedVariables false
set_option linter.unusedSimpArgs false

theorem gap_cases (n d : Nat) : (d ≤ n.log2 + 2 ∧ 1 <<< min d (n.log2 + 2) = 2 ^ d) ∨ (2 * n < 1 <<< min d (n.log2 + 2) ∧ 2 * n < 2 ^ d) := by
  by_cases c : d ≤ n.log2 + 2
  · refine .inl ⟨c, ?_⟩
    rw [Nat.min_eq_left c, Nat.shiftLeft_eq, Nat.one_mul]
  · refine .inr ?_
    rw [Nat.min_eq_right (by omega), Nat.shiftLeft_eq, Nat.one_mul]
    have h1 : 2 * n < 2 ^ (n.log2 + 2) := by
      have : n < 2 ^ (n.log2 + 1) := by
        by_cases h0 : n = 0
        · subst h0; exact Nat.two_pow_pos _
        · exact (Nat.log2_lt h0).1 (by omega)
      rw [Nat.pow_succ]; omega
    have h2 : 2 ^ (n.log2 + 2) ≤ 2 ^ d := Nat.pow_le_pow_right (by omega) (by omega)
    exact ⟨h1, by omega⟩
/-- To the nearest, of two to the even one. -/
theorem cut_even (neg : Bool) (n d : Nat) : Toward.even.cut neg n d = n / 2 ^ d + (if 2 ^ d < 2 * (n % 2 ^ d) ∨ (2 ^ d = 2 * (n % 2 ^ d) ∧ n / 2 ^ d % 2 = 1) then 1 else 0) := by
  unfold Toward.cut
  rcases gap_cases n d with ⟨_, h⟩ | ⟨h1, h2⟩
  · rw [h]
    by_cases c : 2 ^ d < 2 * (n % 2 ^ d) ∨ (2 ^ d = 2 * (n % 2 ^ d) ∧ n / 2 ^ d % 2 = 1)
    · rw [if_pos c]
      have e : (decide (2 ^ d < 2 * (n % 2 ^ d)) || 2 ^ d == 2 * (n % 2 ^ d) && n / 2 ^ d % 2 == 1) = true := by
        rcases c with c | ⟨c, c2⟩
        · simp [c]
        · rw [← c, c2]; simp
      simp only [e]; rfl
    · rw [if_neg c]
      have e : (decide (2 ^ d < 2 * (n % 2 ^ d)) || 2 ^ d == 2 * (n % 2 ^ d) && n / 2 ^ d % 2 == 1) = false := by
        have c1 : ¬ 2 ^ d < 2 * (n % 2 ^ d) := fun h => c (.inl h)
        have c2 : ¬ (2 ^ d = 2 * (n % 2 ^ d) ∧ n / 2 ^ d % 2 = 1) := fun h => c (.inr h)
        rw [decide_eq_false c1, Bool.false_or]
        rw [Bool.eq_false_iff]
        intro q
        simp only [Bool.and_eq_true, beq_iff_eq] at q
        exact c2 q
      simp only [e]; rfl
  · generalize 1 <<< min d (n.log2 + 2) = G at *
    have d1 : n / G = 0 := Nat.div_eq_of_lt (by omega)
    have d2 : n % G = n := Nat.mod_eq_of_lt (by omega)
    have d3 : n / 2 ^ d = 0 := Nat.div_eq_of_lt (by omega)
    have d4 : n % 2 ^ d = n := Nat.mod_eq_of_lt (by omega)
    simp only [d1, d2, d3, d4]
    have e : (decide (G < 2 * n) || G == 2 * n && (0 : Nat) % 2 == 1) = false := by simp; omega
    rw [if_neg (by omega)]
    simp only [e]; rfl
/-- Down. -/
theorem cut_down (neg : Bool) (n d : Nat) : Toward.down.cut neg n d = n / 2 ^ d + (if neg = true ∧ n % 2 ^ d ≠ 0 then 1 else 0) := by
  unfold Toward.cut
  rcases gap_cases n d with ⟨_, h⟩ | ⟨h1, h2⟩
  · rw [h]
    cases neg
    · simp
    · by_cases c : n % 2 ^ d = 0
      · simp [c]
      · simp [c]
  · generalize 1 <<< min d (n.log2 + 2) = G at *
    have d1 : n / G = 0 := Nat.div_eq_of_lt (by omega)
    have d2 : n % G = n := Nat.mod_eq_of_lt (by omega)
    have d3 : n / 2 ^ d = 0 := Nat.div_eq_of_lt (by omega)
    have d4 : n % 2 ^ d = n := Nat.mod_eq_of_lt (by omega)
    simp only [d1, d2, d3, d4]
    cases neg
    · simp
    · by_cases c : n = 0
      · simp [c]
      · simp [c]
/-- The two ways meet: the nearest one, and the one below made greater by one where that is nearer. -/
theorem ways_up (n d : Nat) : Toward.even.cut false n d = Toward.down.cut false n d + (if 2 ^ d < 2 * (n % 2 ^ d) ∨ (2 * (n % 2 ^ d) = 2 ^ d ∧ Toward.down.cut false n d % 2 = 1) then 1 else 0) := by
  rw [cut_even, cut_down, if_neg (show ¬ (false = true ∧ n % 2 ^ d ≠ 0) by simp), Nat.add_zero]
  by_cases c : 2 ^ d < 2 * (n % 2 ^ d) ∨ (2 ^ d = 2 * (n % 2 ^ d) ∧ n / 2 ^ d % 2 = 1)
  · rw [if_pos c, if_pos (by rcases c with c | ⟨c, c2⟩; exact .inl c; exact .inr ⟨c.symm, c2⟩)]
  · rw [if_neg c, if_neg (by rintro (h | ⟨h, h2⟩); exact c (.inl h); exact c (.inr ⟨h.symm, h2⟩))]
theorem ways_down (n d : Nat) (h : n % 2 ^ d ≠ 0) : Toward.even.cut true n d + (if 2 ^ d < 2 * (2 ^ d - n % 2 ^ d) ∨ (2 * (2 ^ d - n % 2 ^ d) = 2 ^ d ∧ Toward.down.cut true n d % 2 = 1) then 1 else 0) = Toward.down.cut true n d := by
  have hr := Nat.mod_lt n (Nat.two_pow_pos d)
  rw [cut_even, cut_down, if_pos (show (true = true ∧ n % 2 ^ d ≠ 0) from ⟨rfl, h⟩)]
  generalize n % 2 ^ d = r at *
  generalize n / 2 ^ d = lo at *
  generalize 2 ^ d = g at *
  split <;> split <;> omega
theorem ways_even (n d : Nat) (h : n % 2 ^ d = 0) : Toward.even.cut true n d = Toward.down.cut true n d := by
  have hp := Nat.two_pow_pos d
  rw [cut_even, cut_down, if_neg (show ¬ (true = true ∧ n % 2 ^ d ≠ 0) from fun q => q.2 h), if_neg (by rw [h]; omega)]
/-- A number of at most 53 digits is written as it is. -/
theorem read_nearest (neg : Bool) (T : Nat) (e : Int) (h0 : T ≠ 0) (h2 : T < 9007199254740992) (he1 : -1074 ≤ e) (he2 : e + T.log2 ≤ 1023) :
    ∃ j : Nat, Format.read double (Format.nearest double neg T e) = .number neg (T * 2 ^ j) (e - j) := by
  have hl : T.log2 ≤ 52 := by
    have b := (Nat.log2_lt h0 (k := 53)).2 (by omega)
    omega
  have hlo : 2 ^ T.log2 ≤ T := (Nat.le_log2 h0).1 (Nat.le_refl _)
  have hhi : T < 2 ^ (T.log2 + 1) := (Nat.log2_lt h0).1 (by omega)
  obtain ⟨L, hL⟩ : ∃ L, L = T.log2 := ⟨_, rfl⟩
  rw [← hL] at hl hlo hhi he2
  by_cases c : e + (L : Int) - 52 ≥ -1074
  · obtain ⟨j, hj⟩ : ∃ j, j = 52 - L := ⟨_, rfl⟩
    refine ⟨j, ?_⟩
    have hM1 : 4503599627370496 ≤ T * 2 ^ j := by
      have : 2 ^ L * 2 ^ j ≤ T * 2 ^ j := Nat.mul_le_mul_right _ hlo
      rw [← Nat.pow_add, show L + j = 52 by omega] at this
      omega
    have hM2 : T * 2 ^ j < 9007199254740992 := by
      have : T * 2 ^ j < 2 ^ (L + 1) * 2 ^ j := (Nat.mul_lt_mul_right (Nat.two_pow_pos j)).2 hhi
      rw [← Nat.pow_add, show L + 1 + j = 53 by omega] at this
      omega
    rw [← read_normal neg (T * 2 ^ j) (e - j) hM1 hM2 (by omega) (by omega)]
    congr 1
    unfold Format.nearest
    rw [if_neg h0, ← hL, least, infR, binR, fracR]
    have e1 : max (e + (L : Int) - ((52 : Nat) : Int)) (-1074) = e - j := by omega
    simp only [e1]
    have e2 : (e - (e - (j : Int))).toNat = j := by omega
    have e3 : (e - (j : Int) - e).toNat = 0 := by omega
    have e5 := cut_exact .even neg (T * 2 ^ j) 0
    rw [Nat.pow_zero, Nat.mul_one] at e5
    rw [e2, e3, Nat.shiftLeft_eq, e5]
    have e4 : (e - (j : Int) - -1074).toNat = (e - (j : Int) + 1074).toNat := by congr 1
    rw [e4, Nat.min_eq_left (by omega)]
  · obtain ⟨j, hj⟩ : ∃ j, j = (e + 1074).toNat := ⟨_, rfl⟩
    refine ⟨j, ?_⟩
    have hM2 : T * 2 ^ j < 4503599627370496 := by
      have : T * 2 ^ j < 2 ^ (L + 1) * 2 ^ j := (Nat.mul_lt_mul_right (Nat.two_pow_pos j)).2 hhi
      rw [← Nat.pow_add] at this
      have h3 : 2 ^ (L + 1 + j) ≤ 2 ^ 52 := Nat.pow_le_pow_right (by omega) (by omega)
      omega
    have e0 : e - (j : Int) = -1074 := by omega
    rw [e0, ← read_small neg (T * 2 ^ j) hM2]
    congr 1
    unfold Format.nearest
    rw [if_neg h0, ← hL, least, infR, binR, fracR]
    have e1 : max (e + (L : Int) - ((52 : Nat) : Int)) (-1074) = -1074 := by omega
    simp only [e1]
    have e2 : (e - -1074).toNat = j := by omega
    have e3 : ((-1074 : Int) - e).toNat = 0 := by omega
    have e5 := cut_exact .even neg (T * 2 ^ j) 0
    rw [Nat.pow_zero, Nat.mul_one] at e5
    rw [e2, e3, Nat.shiftLeft_eq, e5]
    have e4 : ((-1074 : Int) - -1074).toNat = 0 := by omega
    rw [e4, Nat.zero_mul, Nat.zero_add, Nat.min_eq_left (by omega)]
end Go.Proofs.Ytdlcnbfiklbiiaa.Db
