/- Doubles in plain words: how far a number is from the whole number below it, against a half. -/
import Derived.Test.YtdlcnbfiklbiiaaDb3
namespace Go.Proofs.Ytdlcnbfiklbiiaa.Db
open Ieee
set_option linter.unusedVariables false
set_option linter.unusedSimpArgs false

theorem read_half : Format.read double 4602678819172646912 = .number false 4503599627370496 (-53) := by decide +kernel
theorem ord_half (z T i d : Nat) (hd : 1 ≤ d) (hz : Format.read double z = .number false (T * 2 ^ i) (-(d : Int) - (i : Int))) : double.order z 4602678819172646912 = some (compare (T : Int) ((2 ^ (d - 1) : Nat) : Int)) := by
  unfold Format.order
  rw [hz, read_half]
  unfold Datum.order
  obtain ⟨J, hJ⟩ : ∃ J, J = max (d + i) 53 := ⟨_, rfl⟩
  have b1 : min (-(d : Int) - (i : Int)) (-53) = -(J : Int) := by omega
  simp only [b1]
  rw [show (-(d : Int) - (i : Int) - -(J : Int)).toNat = J - d - i by omega, show (-53 - -(J : Int)).toNat = J - 53 by omega, signed_eq, signed_eq]
  have e1 : T * 2 ^ i * 2 ^ (J - d - i) = T * 2 ^ (J - d) := by rw [Nat.mul_assoc, ← Nat.pow_add]; congr 2; omega
  have e2 : 4503599627370496 * 2 ^ (J - 53) = 2 ^ (d - 1) * 2 ^ (J - d) := by
    rw [show (4503599627370496 : Nat) = 2 ^ 52 by omega, ← Nat.pow_add, ← Nat.pow_add]; congr 1; omega
  rw [e1, e2]
  have c := compare_mul (T : Int) ((2 ^ (d - 1) : Nat) : Int) (2 ^ (J - d)) (Nat.two_pow_pos _)
  rw [← Int.natCast_mul, ← Int.natCast_mul] at c
  exact congrArg some c
/-- What is written of so many parts of 2^d is read so. -/
theorem read_parts (T t d : Nat) (h2 : T < 9007199254740992) (hd : d ≤ 1074) (hd2 : 38 ≤ d) : ∃ i : Nat, Format.read double (Format.nearest double false (T * 2 ^ t) (-(d : Int) - (t : Int))) = .number false (T * 2 ^ i) (-(d : Int) - (i : Int)) := by
  by_cases h0 : T = 0
  · subst h0
    refine ⟨1074 - d, ?_⟩
    have : Format.nearest double false (0 * 2 ^ t) (-(d : Int) - (t : Int)) = Format.word double false 0 := by unfold Format.nearest; rw [if_pos (Nat.zero_mul _)]
    rw [this, read_small false 0 (by omega), Nat.zero_mul]
    congr 1; omega
  · have hl : T.log2 ≤ 52 := by
      have b := (Nat.log2_lt h0 (k := 53)).2 (by omega)
      omega
    exact read_nearest2 false T t (-(d : Int)) h0 h2 (by omega) (by omega)
/-- Above nought: the number less the whole number below it. -/
theorem sub_up (y f m d j : Nat) (hy : Format.read double y = .number false m (-(d : Int))) (hf : Format.read double f = .number false (m / 2 ^ d * 2 ^ j) (-(j : Int))) (hm : m < 9007199254740992) (hd : d ≤ 1074) (hd2 : 38 ≤ d) :
    ∃ z, double.sub y f = some z ∧ double.order z 4602678819172646912 = some (compare ((m % 2 ^ d : Nat) : Int) ((2 ^ (d - 1) : Nat) : Int)) := by
  obtain ⟨J, hJ⟩ : ∃ J, J = max d j := ⟨_, rfl⟩
  have hz : double.sub y f = some (Format.nearest double false (m % 2 ^ d * 2 ^ (J - d)) (-(d : Int) - ((J - d : Nat) : Int))) := by
    unfold Format.sub
    rw [hy, hf]
    unfold Datum.opposite Datum.sum
    have b1 : min (-(d : Int)) (-(j : Int)) = -(J : Int) := by omega
    simp only [b1]
    rw [show (-(d : Int) - -(J : Int)).toNat = J - d by omega, show (-(j : Int) - -(J : Int)).toNat = J - j by omega]
    have s2 := signed_place (!false) (m / 2 ^ d) j J (by omega)
    rw [s2, signed_eq]
    have e3 : ((m * 2 ^ (J - d) : Nat) : Int) + -((m / 2 ^ d : Nat) : Int) * ((2 ^ J : Nat) : Int) = ((m % 2 ^ d * 2 ^ (J - d) : Nat) : Int) := by
      have h1 := Nat.div_add_mod m (2 ^ d)
      have h2 : 2 ^ J = 2 ^ d * 2 ^ (J - d) := by rw [← Nat.pow_add]; congr 1; omega
      have h3 : m * 2 ^ (J - d) = m / 2 ^ d * 2 ^ J + m % 2 ^ d * 2 ^ (J - d) := by
        rw [h2, ← Nat.mul_assoc, ← Nat.add_mul, Nat.mul_comm (m / 2 ^ d), h1]
      rw [Int.neg_mul, ← Int.natCast_mul, h3, Int.natCast_add]; omega
    have e4 : (if false = true then -((m * 2 ^ (J - d) : Nat) : Int) else ((m * 2 ^ (J - d) : Nat) : Int)) = ((m * 2 ^ (J - d) : Nat) : Int) := rfl
    have e5 : (if (!false) = true then -((m / 2 ^ d : Nat) : Int) else ((m / 2 ^ d : Nat) : Int)) = -((m / 2 ^ d : Nat) : Int) := rfl
    rw [e4, e5, e3]
    obtain ⟨V, hV⟩ : ∃ V, V = m % 2 ^ d * 2 ^ (J - d) := ⟨_, rfl⟩
    rw [← hV]
    have hs : (if ((V : Nat) : Int) = 0 then false && !false else decide (((V : Nat) : Int) < 0)) = false := by
      split
      · rfl
      · simp
    rw [hs, Int.natAbs_natCast, show -(d : Int) - ((J - d : Nat) : Int) = -(J : Int) by omega]
    rfl
  refine ⟨_, hz, ?_⟩
  have hr := Nat.mod_le m (2 ^ d)
  obtain ⟨i, hi⟩ := read_parts (m % 2 ^ d) (J - d) d (by omega) hd hd2
  exact ord_half _ _ i d (by omega) hi
end Go.Proofs.Ytdlcnbfiklbiiaa.Db
