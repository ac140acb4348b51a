/- More plain facts on fractions: bounds of products and of the floor. -/
import Derived.Test.YtgcnmmjgdpdmbadFMath
namespace Go.Proofs.Ytgcnmmjgdpdmbad.F.M

theorem div_bd (u d : Int) (h1 : -1073741824 ≤ u) (h2 : u ≤ 1073741824) (h3 : 1 ≤ d) : -1073741824 ≤ u / d ∧ u / d ≤ 1073741824 := by
  constructor
  · rw [Int.le_ediv_iff_mul_le (by omega)]; omega
  · have : u / d < 1073741825 := by rw [Int.ediv_lt_iff_lt_mul (by omega)]; omega
    omega

theorem mul_bd (a b : Int) (h1 : -1073741824 ≤ a) (h2 : a ≤ 1073741824) (h3 : -1073741824 ≤ b) (h4 : b ≤ 1073741824) : -1152921504606846976 ≤ a * b ∧ a * b ≤ 1152921504606846976 := by
  have k1 : 0 ≤ (1073741824 - a) * (1073741824 + b) := Int.mul_nonneg (by omega) (by omega)
  have k2 : 0 ≤ (1073741824 + a) * (1073741824 - b) := Int.mul_nonneg (by omega) (by omega)
  have k3 : 0 ≤ (1073741824 - a) * (1073741824 - b) := Int.mul_nonneg (by omega) (by omega)
  have k4 : 0 ≤ (1073741824 + a) * (1073741824 + b) := Int.mul_nonneg (by omega) (by omega)
  simp only [Int.mul_add, Int.add_mul, Int.mul_sub, Int.sub_mul] at *
  omega

theorem mul_bd2 (a b : Int) (h1 : -2147483648 ≤ a) (h2 : a ≤ 2147483648) (h3 : -2147483648 ≤ b) (h4 : b ≤ 2147483648) : -4611686018427387904 ≤ a * b ∧ a * b ≤ 4611686018427387904 := by
  have k1 : 0 ≤ (2147483648 - a) * (2147483648 + b) := Int.mul_nonneg (by omega) (by omega)
  have k2 : 0 ≤ (2147483648 + a) * (2147483648 - b) := Int.mul_nonneg (by omega) (by omega)
  have k3 : 0 ≤ (2147483648 - a) * (2147483648 - b) := Int.mul_nonneg (by omega) (by omega)
  have k4 : 0 ≤ (2147483648 + a) * (2147483648 + b) := Int.mul_nonneg (by omega) (by omega)
  simp only [Int.mul_add, Int.add_mul, Int.mul_sub, Int.sub_mul] at *
  omega

theorem lu_abs (u d : Int) : (lu u d).natAbs ≤ u.natAbs := by
  unfold lu; rw [Int.natAbs_tdiv]; exact Nat.div_le_self _ _

theorem mul_pos' (a b : Int) (h1 : 1 ≤ a) (h2 : 1 ≤ b) : 1 ≤ a * b := by
  have := Int.mul_pos (a := a) (b := b) (by omega) (by omega)
  omega

/-- n is the floor, or one more: which of the two its product tells. -/
theorem fl_gt (u d n : Int) (hd : 1 ≤ d) (h : n = u / d + 1) : u < n * d := by
  rw [h]; exact (div_lo u d hd).2
theorem fl_le (u d n : Int) (hd : 1 ≤ d) (h : n = u / d) : n * d ≤ u := by
  rw [h]; exact (div_lo u d hd).1

theorem tdiv_is (u d : Int) (hd : 1 ≤ d) : u.tdiv d = u / d ∨ u.tdiv d = u / d + 1 := by
  by_cases hu : u < 0
  · rcases neg_div u d hu hd with ⟨_, h⟩ | ⟨_, h⟩ <;> omega
  · left; rw [Int.tdiv_eq_ediv_of_nonneg (by omega)]

end Go.Proofs.Ytgcnmmjgdpdmbad.F.M
