/- Doubles in plain words: what is written exactly. -/
import Ieee.Arith
namespace Go.Proofs.Ytdlcnbfiklbiiaa.Db
open Ieee
set_option linter.unusedVariables false
set_option linter.unusedSimpArgs false

theorem cut_zero (way : Toward) (neg : Bool) (d : Nat) : way.cut neg 0 d = 0 := by
  unfold Toward.cut
  have h : 1 <<< min d (Nat.log2 0 + 2) ≠ 0 := by rw [Nat.shiftLeft_eq]; have := Nat.two_pow_pos (min d (Nat.log2 0 + 2)); omega
  cases way <;> simp [h]
/-- Nothing is left over. -/
theorem cut_exact (way : Toward) (neg : Bool) (m d : Nat) : way.cut neg (m * 2 ^ d) d = m := by
  by_cases h0 : m = 0
  · subst h0; rw [Nat.zero_mul]; exact cut_zero way neg d
  have hn : m * 2 ^ d ≠ 0 := Nat.mul_ne_zero h0 (Nat.ne_of_gt (Nat.two_pow_pos d))
  have hl : d ≤ (m * 2 ^ d).log2 := (Nat.le_log2 hn).2 (Nat.le_mul_of_pos_left _ (by omega))
  unfold Toward.cut
  rw [Nat.min_eq_left (by omega), Nat.shiftLeft_eq, Nat.one_mul]
  have hp := Nat.two_pow_pos d
  have e1 : m * 2 ^ d / 2 ^ d = m := Nat.mul_div_cancel _ hp
  have e2 : m * 2 ^ d % 2 ^ d = 0 := Nat.mul_mod_left _ _
  simp only [e1, e2]
  have h : (2 ^ d == 0) = false := by simp
  cases way <;> simp [h]
theorem log2_shift (m t : Nat) (h : m ≠ 0) : (m * 2 ^ t).log2 = m.log2 + t := by
  have hn : m * 2 ^ t ≠ 0 := Nat.mul_ne_zero h (Nat.ne_of_gt (Nat.two_pow_pos t))
  refine Nat.le_antisymm ?_ ?_
  · have := (Nat.log2_lt hn (k := m.log2 + t + 1)).2 (by
      rw [show m.log2 + t + 1 = (m.log2 + 1) + t by omega, Nat.pow_add]
      exact (Nat.mul_lt_mul_right (Nat.two_pow_pos t)).2 ((Nat.log2_lt h).1 (by omega)))
    omega
  · exact (Nat.le_log2 hn).2 (by rw [Nat.pow_add]; exact Nat.mul_le_mul_right _ ((Nat.le_log2 h).1 (Nat.le_refl _)))
theorem least : Format.leastPlace double = -1074 := by decide
theorem infR : Format.infRung double = 2047 * 4503599627370496 := by decide
theorem binR : Format.binade double = 4503599627370496 := by decide
theorem fracR : double.fractionBits = 52 := rfl
theorem signR : Format.signWeight double = 9223372036854775808 := by decide
/-- A normal number is written as it is. -/
theorem nearest_normal (neg : Bool) (m t : Nat) (e : Int) (h1 : 4503599627370496 ≤ m) (h2 : m < 9007199254740992) (he1 : -1074 ≤ e) (he2 : e ≤ 971) :
    Format.nearest double neg (m * 2 ^ t) (e - t) = Format.word double neg ((e + 1074).toNat * 4503599627370496 + m) := by
  have hm0 : m ≠ 0 := by omega
  have hn : m * 2 ^ t ≠ 0 := Nat.mul_ne_zero hm0 (Nat.ne_of_gt (Nat.two_pow_pos t))
  have hl : m.log2 = 52 := by
    have a := (Nat.le_log2 hm0 (k := 52)).2 (by omega)
    have b := (Nat.log2_lt hm0 (k := 53)).2 (by omega)
    omega
  unfold Format.nearest
  rw [if_neg hn, log2_shift _ _ hm0, hl, least, infR, binR, fracR]
  have e1 : max (e - (t : Int) + ((52 + t : Nat) : Int) - ((52 : Nat) : Int)) (-1074) = e := by omega
  simp only [e1]
  have e2 : (e - (t : Int) - e).toNat = 0 := by omega
  have e3 : (e - (e - (t : Int))).toNat = t := by omega
  rw [e2, e3, Nat.shiftLeft_zero, cut_exact]
  have e4 : (e - -1074).toNat = (e + 1074).toNat := by congr 1
  rw [e4, Nat.min_eq_left (by omega)]
/-- A small number is written as it is. -/
theorem nearest_small (neg : Bool) (m t : Nat) (h2 : m < 9007199254740992) :
    Format.nearest double neg (m * 2 ^ t) (-1074 - (t : Int)) = Format.word double neg m := by
  by_cases hm0 : m = 0
  · subst hm0; rw [Nat.zero_mul]; unfold Format.nearest; rw [if_pos rfl]
  have hn : m * 2 ^ t ≠ 0 := Nat.mul_ne_zero hm0 (Nat.ne_of_gt (Nat.two_pow_pos t))
  have hl : m.log2 ≤ 52 := by
    have b := (Nat.log2_lt hm0 (k := 53)).2 (by omega)
    omega
  unfold Format.nearest
  rw [if_neg hn, log2_shift _ _ hm0, least, infR, binR, fracR]
  have e1 : max (-1074 - (t : Int) + ((m.log2 + t : Nat) : Int) - ((52 : Nat) : Int)) (-1074) = -1074 := by omega
  simp only [e1]
  have e2 : (-1074 - (t : Int) - -1074).toNat = 0 := by omega
  have e3 : (-1074 - (-1074 - (t : Int))).toNat = t := by omega
  rw [e2, e3, Nat.shiftLeft_zero, cut_exact]
  have e4 : ((-1074 : Int) - -1074).toNat = 0 := by omega
  rw [e4, Nat.zero_mul, Nat.zero_add, Nat.min_eq_left (by omega)]
/-- What is read of what was written. -/
theorem read_normal (neg : Bool) (m : Nat) (e : Int) (h1 : 4503599627370496 ≤ m) (h2 : m < 9007199254740992) (he1 : -1074 ≤ e) (he2 : e ≤ 971) :
    Format.read double (Format.word double neg ((e + 1074).toNat * 4503599627370496 + m)) = .number neg m e := by
  obtain ⟨k, hk⟩ : ∃ k, k = (e + 1074).toNat := ⟨_, rfl⟩
  have hk2 : k ≤ 2045 := by omega
  rw [← hk]
  have hw : ∀ r, r = k * 4503599627370496 + m → Format.word double neg r / 9223372036854775808 % 2 = neg.toNat ∧ Format.word double neg r % 9223372036854775808 = r := by
    intro r hr
    unfold Format.word
    rw [signR]
    cases neg
    · simp; omega
    · simp; omega
  obtain ⟨w1, w2⟩ := hw _ rfl
  unfold Format.read
  simp only [signR, binR, infR, least, w1, w2]
  rw [if_neg (by omega), if_pos (by omega)]
  have d1 : (k * 4503599627370496 + m) % 4503599627370496 = m - 4503599627370496 := by omega
  have d2 : (k * 4503599627370496 + m) / 4503599627370496 = k + 1 := by omega
  rw [d1, d2]
  have d3 : (-1074 : Int) + ((k + 1 - 1 : Nat) : Int) = e := by omega
  rw [d3, show 4503599627370496 + (m - 4503599627370496) = m by omega]
  cases neg <;> rfl
theorem read_small (neg : Bool) (m : Nat) (h2 : m < 4503599627370496) :
    Format.read double (Format.word double neg m) = .number neg m (-1074) := by
  have hw : Format.word double neg m / 9223372036854775808 % 2 = neg.toNat ∧ Format.word double neg m % 9223372036854775808 = m := by
    unfold Format.word
    rw [signR]
    cases neg
    · simp; omega
    · simp; omega
  obtain ⟨w1, w2⟩ := hw
  unfold Format.read
  simp only [signR, binR, infR, least, w1, w2]
  rw [if_pos h2]
  cases neg <;> rfl
end Go.Proofs.Ytdlcnbfiklbiiaa.Db
