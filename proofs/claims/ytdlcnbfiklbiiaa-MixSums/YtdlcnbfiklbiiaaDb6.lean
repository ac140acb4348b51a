/- Doubles in plain words: below nought. -/
import Derived.Test.YtdlcnbfiklbiiaaDb5
namespace Go.Proofs.Ytdlcnbfiklbiiaa.Db
open Ieee
set_option linter.unusedVariables false
set_option linter.unusedSimpArgs false

/-- Close to one: what is written is a half or more. -/
theorem far_half (T t d : Nat) (h1 : 2 ^ (d - 1) ≤ T) (h2 : T < 2 ^ d) (hd : 54 ≤ d) (hd2 : d ≤ 1074) :
    ∃ c, double.order (Format.nearest double false (T * 2 ^ t) (-(d : Int) - (t : Int))) 4602678819172646912 = some c ∧ (c = .gt ∨ c = .eq) := by
  have hp := Nat.two_pow_pos (d - 1)
  have h0 : T ≠ 0 := by omega
  have hn : T * 2 ^ t ≠ 0 := Nat.mul_ne_zero h0 (Nat.ne_of_gt (Nat.two_pow_pos t))
  have hl : T.log2 = d - 1 := by
    have a := (Nat.le_log2 h0 (k := d - 1)).2 h1
    have b := (Nat.log2_lt h0 (k := d)).2 h2
    omega
  obtain ⟨g, hg⟩ : ∃ g, g = d + t - 53 := ⟨_, rfl⟩
  obtain ⟨K, hK⟩ : ∃ K, K = Toward.even.cut false (T * 2 ^ t) g := ⟨_, rfl⟩
  have hlow : 4503599627370496 * 2 ^ g ≤ T * 2 ^ t := by
    have : 2 ^ (d - 1) * 2 ^ t ≤ T * 2 ^ t := Nat.mul_le_mul_right _ h1
    rw [← Nat.pow_add, show d - 1 + t = 52 + g by omega, Nat.pow_add] at this
    exact this
  have hhigh : T * 2 ^ t < 9007199254740992 * 2 ^ g := by
    have : T * 2 ^ t < 2 ^ d * 2 ^ t := (Nat.mul_lt_mul_right (Nat.two_pow_pos t)).2 h2
    rw [← Nat.pow_add, show d + t = 53 + g by omega, Nat.pow_add] at this
    exact this
  have hgp := Nat.two_pow_pos g
  have hK1 : 4503599627370496 ≤ K ∧ K ≤ 9007199254740992 := by
    rw [hK, cut_even]
    have a : 4503599627370496 ≤ T * 2 ^ t / 2 ^ g := (Nat.le_div_iff_mul_le hgp).2 hlow
    have b : T * 2 ^ t / 2 ^ g < 9007199254740992 := (Nat.div_lt_iff_lt_mul hgp).2 hhigh
    split <;> omega
  have hnear : Format.nearest double false (T * 2 ^ t) (-(d : Int) - (t : Int)) = Format.word double false (min (1021 * 4503599627370496 + K) (2047 * 4503599627370496)) := by
    unfold Format.nearest
    rw [if_neg hn, log2_shift _ _ h0, hl, least, infR, binR, fracR]
    have e1 : max (-(d : Int) - (t : Int) + ((d - 1 + t : Nat) : Int) - ((52 : Nat) : Int)) (-1074) = -53 := by omega
    simp only [e1]
    rw [show (-(d : Int) - (t : Int) - -53).toNat = 0 by omega, show (-53 - (-(d : Int) - (t : Int))).toNat = g by omega, Nat.shiftLeft_zero, ← hK]
    rfl
  rw [hnear, Nat.min_eq_left (by omega)]
  by_cases c : K < 9007199254740992
  · have r := read_normal false K (-53) hK1.1 c (by omega) (by omega)
    have r' : Format.read double (Format.word double false (1021 * 4503599627370496 + K)) = .number false K (-53) := r
    refine ⟨compare (K : Int) ((4503599627370496 : Nat) : Int), ?_, ?_⟩
    · unfold Format.order
      rw [r', read_half]
      unfold Datum.order
      simp only [Int.min_self]
      rw [show (-53 - -53 : Int).toNat = 0 from rfl, signed_eq, signed_eq, Nat.pow_zero, Nat.mul_one, Nat.mul_one]
      rfl
    · rcases Nat.lt_or_ge 4503599627370496 K with q | q
      · exact .inl (Int.compare_eq_gt.2 (by omega))
      · exact .inr (Int.compare_eq_eq.2 (by omega))
  · have hKe : K = 9007199254740992 := by omega
    have r := read_normal false 4503599627370496 (-52) (by omega) (by omega) (by omega) (by omega)
    have r' : Format.read double (Format.word double false (1021 * 4503599627370496 + K)) = .number false 4503599627370496 (-52) := by rw [hKe]; exact r
    refine ⟨.gt, ?_, .inl rfl⟩
    unfold Format.order
    rw [r', read_half]
    decide +kernel
/-- Below nought: the number less the whole number below it. -/
theorem sub_down (y f m d j k : Nat) (hy : Format.read double y = .number true m (-(d : Int))) (hf : Format.read double f = .number true (k * 2 ^ j) (-(j : Int))) (hk : k = m / 2 ^ d + (if m % 2 ^ d ≠ 0 then 1 else 0)) (hm : m < 9007199254740992) (hd : d ≤ 1074) (hd2 : 38 ≤ d) :
    ∃ z c, double.sub y f = some z ∧ double.order z 4602678819172646912 = some c ∧ ((c = .gt ∨ (c = .eq ∧ k % 2 = 1)) ↔ (2 ^ (d - 1) < k * 2 ^ d - m ∨ (k * 2 ^ d - m = 2 ^ (d - 1) ∧ k % 2 = 1))) := by
  obtain ⟨J, hJ⟩ : ∃ J, J = max d j := ⟨_, rfl⟩
  have hdp := Nat.two_pow_pos d
  have hdm := Nat.div_add_mod m (2 ^ d)
  have hml := Nat.mod_lt m hdp
  have hkm : m ≤ k * 2 ^ d ∧ k * 2 ^ d < m + 2 ^ d := by
    rw [hk, Nat.add_mul, Nat.mul_comm (m / 2 ^ d)]
    by_cases c : m % 2 ^ d ≠ 0
    · rw [if_pos c, Nat.one_mul]; omega
    · rw [if_neg c, Nat.zero_mul]; omega
  obtain ⟨T, hT⟩ : ∃ T, T = k * 2 ^ d - m := ⟨_, rfl⟩
  have hz : double.sub y f = some (Format.nearest double false (T * 2 ^ (J - d)) (-(d : Int) - ((J - d : Nat) : Int))) := by
    unfold Format.sub
    rw [hy, hf]
    unfold Datum.opposite Datum.sum
    have b1 : min (-(d : Int)) (-(j : Int)) = -(J : Int) := by omega
    simp only [b1]
    rw [show (-(d : Int) - -(J : Int)).toNat = J - d by omega, show (-(j : Int) - -(J : Int)).toNat = J - j by omega]
    have s2 := signed_place (!true) k j J (by omega)
    rw [s2, signed_eq]
    have e3 : -((m * 2 ^ (J - d) : Nat) : Int) + (k : Int) * ((2 ^ J : Nat) : Int) = ((T * 2 ^ (J - d) : Nat) : Int) := by
      have h2 : 2 ^ J = 2 ^ d * 2 ^ (J - d) := by rw [← Nat.pow_add]; congr 1; omega
      have h3 : k * 2 ^ J = m * 2 ^ (J - d) + T * 2 ^ (J - d) := by
        rw [h2, ← Nat.mul_assoc, ← Nat.add_mul, hT, show m + (k * 2 ^ d - m) = k * 2 ^ d by omega]
      rw [← Int.natCast_mul, h3, Int.natCast_add]; omega
    have e4 : (if true = true then -((m * 2 ^ (J - d) : Nat) : Int) else ((m * 2 ^ (J - d) : Nat) : Int)) = -((m * 2 ^ (J - d) : Nat) : Int) := rfl
    have e5 : (if (!true) = true then -((k : Nat) : Int) else ((k : Nat) : Int)) = ((k : Nat) : Int) := rfl
    rw [e4, e5, e3]
    obtain ⟨V, hV⟩ : ∃ V, V = T * 2 ^ (J - d) := ⟨_, rfl⟩
    rw [← hV]
    have hs : (if ((V : Nat) : Int) = 0 then true && !true else decide (((V : Nat) : Int) < 0)) = false := by
      split
      · rfl
      · simp
    rw [hs, Int.natAbs_natCast, show -(d : Int) - ((J - d : Nat) : Int) = -(J : Int) by omega]
    rfl
  rw [← hT]
  by_cases c53 : d ≤ 53
  · have hT2 : T < 9007199254740992 := by
      have : 2 ^ d ≤ 2 ^ 53 := Nat.pow_le_pow_right (by omega) c53
      omega
    obtain ⟨i, hi⟩ := read_parts T (J - d) d hT2 hd hd2
    refine ⟨_, _, hz, ord_half _ T i d (by omega) hi, ?_⟩
    rw [Int.compare_eq_gt, Int.compare_eq_eq]
    constructor
    · rintro (h | ⟨h, h'⟩)
      · exact .inl (by omega)
      · exact .inr ⟨by omega, h'⟩
    · rintro (h | ⟨h, h'⟩)
      · exact .inl (by omega)
      · exact .inr ⟨by omega, h'⟩
  · have hbig : 9007199254740992 ≤ 2 ^ (d - 1) := by
      have : 2 ^ 53 ≤ 2 ^ (d - 1) := Nat.pow_le_pow_right (by omega) (by omega)
      omega
    have hdd : 2 ^ d = 2 * 2 ^ (d - 1) := by rw [← Nat.pow_succ']; congr 1; omega
    have hq : m / 2 ^ d = 0 := Nat.div_eq_of_lt (by omega)
    have hr : m % 2 ^ d = m := Nat.mod_eq_of_lt (by omega)
    by_cases cm : m = 0
    · have hk0 : k = 0 := by rw [hk, hq, hr, if_neg (by omega)]
      have hT0 : T = 0 := by rw [hT, hk0, Nat.zero_mul]; omega
      obtain ⟨i, hi⟩ := read_parts T (J - d) d (by omega) hd hd2
      refine ⟨_, _, hz, ord_half _ T i d (by omega) hi, ?_⟩
      rw [Int.compare_eq_gt, Int.compare_eq_eq]
      constructor
      · rintro (h | ⟨h, h'⟩) <;> omega
      · rintro (h | ⟨h, h'⟩) <;> omega
    · have hk1 : k = 1 := by rw [hk, hq, hr, if_pos cm]
      have hT1 : T = 2 ^ d - m := by rw [hT, hk1, Nat.one_mul]
      obtain ⟨c, h1, h2⟩ := far_half T (J - d) d (by omega) (by omega) (by omega) hd
      refine ⟨_, c, hz, h1, ?_⟩
      constructor
      · intro _; exact .inl (by omega)
      · intro _
        rcases h2 with h | h
        · exact .inl h
        · exact .inr ⟨h, by omega⟩
end Go.Proofs.Ytdlcnbfiklbiiaa.Db
