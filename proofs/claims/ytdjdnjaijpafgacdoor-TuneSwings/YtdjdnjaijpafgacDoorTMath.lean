/- Plain facts on powers of three and two as parts of a fraction, without any Go text. -/
import Derived.Test.YtdjdnjaijpafgacDoorFMath2
namespace Go.Proofs.YtdjdnjaijpafgacDoor.F.M
set_option linter.unusedVariables false

/-- So many factors, as long as what is there is not above the greatest part. -/
def cp (b : Int) : Nat → Int
  | 0 => 1
  | k + 1 => if 1073741824 < cp b k then cp b k else cp b k * b
theorem cp_stay {b : Int} {k : Nat} (h : 1073741824 < cp b k) : ∀ n, k ≤ n → cp b n = cp b k := by
  intro n hn
  induction n with
  | zero => obtain rfl : k = 0 := by omega
            rfl
  | succ n ih =>
    by_cases e : k = n + 1
    · subst e; rfl
    · have := ih (by omega)
      show (if 1073741824 < cp b n then cp b n else cp b n * b) = _
      rw [this, if_pos h]
theorem cp_go {b : Int} {k : Nat} (h : ¬ 1073741824 < cp b k) : cp b (k + 1) = cp b k * b := if_neg h
theorem pow_pos' (b : Int) (hb : 1 ≤ b) (k : Nat) : 1 ≤ b ^ k := by
  have : (0 : Int) < b ^ k := Int.pow_pos (by omega)
  omega
/-- It is a power, and the whole one unless it is above the greatest part. -/
theorem cp_is (b : Int) (hb : 1 ≤ b) (k : Nat) : (cp b k = b ^ k) ∨ (1073741824 < cp b k ∧ ∃ j, j < k ∧ cp b k = b ^ j) := by
  induction k with
  | zero => exact .inl (by simp [cp])
  | succ k ih =>
    by_cases h : 1073741824 < cp b k
    · right
      have e := cp_stay h (k + 1) (by omega)
      refine ⟨by omega, ?_⟩
      rcases ih with ih | ⟨_, j, hj, ih⟩
      · exact ⟨k, by omega, by rw [e, ih]⟩
      · exact ⟨j, by omega, by rw [e, ih]⟩
    · rcases ih with ih | ⟨h2, _⟩
      · left; rw [cp_go h, ih, Int.pow_succ]
      · exact absurd h2 h
theorem cp_pos (b : Int) (hb : 1 ≤ b) (k : Nat) : 1 ≤ cp b k := by
  rcases cp_is b hb k with h | ⟨h, _⟩
  · rw [h]; exact pow_pos' b hb k
  · omega
theorem cp_le (b : Int) (hb : 1 ≤ b) (k : Nat) : cp b k ≤ 1073741824 * b := by
  induction k with
  | zero => show (1 : Int) ≤ _; omega
  | succ k ih =>
    by_cases h : 1073741824 < cp b k
    · rw [cp_stay h (k + 1) (by omega)]; exact ih
    · rw [cp_go h]; exact Int.mul_le_mul_of_nonneg_right (by omega) (by omega)
theorem pow_mono (b : Int) (hb : 1 ≤ b) (k n : Nat) (h : k ≤ n) : b ^ k ≤ b ^ n := by
  obtain ⟨m, rfl⟩ : ∃ m, n = k + m := ⟨n - k, by omega⟩
  rw [Int.pow_add]
  have h1 := pow_pos' b hb k
  have h2 := pow_pos' b hb m
  have h3 : 0 ≤ b ^ k * (b ^ m - 1) := Int.mul_nonneg (by omega) (by omega)
  rw [Int.mul_sub] at h3
  omega
theorem cp_le_pow (b : Int) (hb : 1 ≤ b) (k : Nat) : cp b k ≤ b ^ k := by
  rcases cp_is b hb k with h | ⟨_, j, hj, h⟩
  · omega
  · rw [h]; exact pow_mono b hb j k (by omega)

/-- Powers of three and two have no divisor together but 1. -/
theorem odd3 (j : Nat) : (3 : Int) ^ j % 2 = 1 := by
  induction j with
  | zero => rfl
  | succ j ih => rw [Int.pow_succ]; omega
theorem cop32 (a b : Nat) : Int.gcd ((3 : Int) ^ a) ((2 : Int) ^ b) = 1 := by
  rw [Int.gcd_comm]; exact gcd_pow b _ (odd3 a)

/-- The parts that a ratio has: x threes and y twos above, or below. -/
def cU (x y : Int) : Int := cp 3 x.toNat * cp 2 y.toNat
def eU (x y : Int) : Int := 3 ^ x.toNat * 2 ^ y.toNat

theorem cp_ex (b : Int) (hb : 1 ≤ b) (k : Nat) : ∃ j, cp b k = b ^ j ∧ (k = 0 → j = 0) := by
  rcases cp_is b hb k with h | ⟨_, j, hj, h⟩
  · exact ⟨k, h, fun h => h⟩
  · exact ⟨j, h, fun h => by omega⟩
theorem cop_gen (a b c d : Nat) (h1 : a = 0 ∨ c = 0) (h2 : b = 0 ∨ d = 0) : Int.gcd ((3 : Int) ^ a * 2 ^ b) (3 ^ c * 2 ^ d) = 1 := by
  rcases h1 with rfl | rfl <;> rcases h2 with rfl | rfl
  · simp
  · simp only [Int.pow_zero, Int.one_mul, Int.mul_one]; rw [Int.gcd_comm]; exact cop32 _ _
  · simp only [Int.pow_zero, Int.one_mul, Int.mul_one]; exact cop32 _ _
  · simp
theorem eU_cop (x y : Int) : Int.gcd (eU x y) (eU (-x) (-y)) = 1 := cop_gen _ _ _ _ (by omega) (by omega)
theorem cU_cop (x y : Int) : Int.gcd (cU x y) (cU (-x) (-y)) = 1 := by
  unfold cU
  obtain ⟨a, ha, ha'⟩ := cp_ex 3 (by omega) x.toNat
  obtain ⟨b, hb, hb'⟩ := cp_ex 2 (by omega) y.toNat
  obtain ⟨c, hc, hc'⟩ := cp_ex 3 (by omega) (-x).toNat
  obtain ⟨d, hd, hd'⟩ := cp_ex 2 (by omega) (-y).toNat
  rw [ha, hb, hc, hd]
  refine cop_gen _ _ _ _ ?_ ?_
  · rcases Int.le_total x 0 with h | h
    · exact .inl (ha' (by omega))
    · exact .inr (hc' (by omega))
  · rcases Int.le_total y 0 with h | h
    · exact .inl (hb' (by omega))
    · exact .inr (hd' (by omega))
theorem cU_pos (x y : Int) : 1 ≤ cU x y := mul_pos' _ _ (cp_pos 3 (by omega) _) (cp_pos 2 (by omega) _)
theorem eU_pos (x y : Int) : 1 ≤ eU x y := mul_pos' _ _ (pow_pos' 3 (by omega) _) (pow_pos' 2 (by omega) _)
theorem cU_le (x y : Int) : cU x y ≤ 6917529027641081856 := by
  unfold cU
  have h1 := cp_le 3 (by omega) x.toNat
  have h2 := cp_le 2 (by omega) y.toNat
  have h3 := cp_pos 3 (by omega) x.toNat
  have h4 := cp_pos 2 (by omega) y.toNat
  generalize cp 3 x.toNat = p at *
  generalize cp 2 y.toNat = q at *
  have k1 : 0 ≤ (3221225472 - p) * q := Int.mul_nonneg (by omega) (by omega)
  rw [Int.sub_mul] at k1
  omega
theorem mul_ge_l (p q : Int) (h1 : 1 ≤ p) (h2 : 1 ≤ q) : p ≤ p * q := by
  have := Int.mul_nonneg (a := p) (b := q - 1) (by omega) (by omega)
  rw [Int.mul_sub] at this; omega
theorem mul_ge_r (p q : Int) (h1 : 1 ≤ p) (h2 : 1 ≤ q) : q ≤ p * q := by
  rw [Int.mul_comm]; exact mul_ge_l q p h2 h1
/-- The capped part is the whole one, or both are above the greatest part. -/
theorem cU_is (x y : Int) : cU x y = eU x y ∨ (1073741824 < cU x y ∧ 1073741824 < eU x y) := by
  unfold cU eU
  have p1 := cp_pos 3 (by omega) x.toNat
  have p2 := cp_pos 2 (by omega) y.toNat
  have q1 := pow_pos' 3 (by omega) x.toNat
  have q2 := pow_pos' 2 (by omega) y.toNat
  have r1 := cp_le_pow 3 (by omega) x.toNat
  have r2 := cp_le_pow 2 (by omega) y.toNat
  have m1 := mul_ge_l _ _ p1 p2
  have m2 := mul_ge_r _ _ p1 p2
  have n1 := mul_ge_l _ _ q1 q2
  have n2 := mul_ge_r _ _ q1 q2
  rcases cp_is 3 (by omega) x.toNat with h | ⟨h, _⟩
  · rcases cp_is 2 (by omega) y.toNat with k | ⟨k, _⟩
    · left; rw [h, k]
    · right; omega
  · right; omega
theorem bd_big_u (u d : Int) (h : 1073741824 < u) : bd u d = false := by unfold bd; simp; omega
theorem bd_big_d (u d : Int) (h : 1073741824 < d) : bd u d = false := by unfold bd; simp; omega
theorem lows (x y : Int) (hg : Int.gcd x y = 1) : lu x y = x ∧ ld x y = y := ⟨lu_one x y hg, ld_one x y hg⟩

/-- What is wrong with a ratio, and its parts, told without a cap. -/
def qe (x y : Int) : Int := er (eU x y) (eU (-x) (-y))
def qu (x y : Int) : Int := up (eU x y) (eU (-x) (-y))
def qd (x y : Int) : Int := dn (eU x y) (eU (-x) (-y))
theorem cap_same (x y : Int) : up (cU x y) (cU (-x) (-y)) = qu x y ∧ dn (cU x y) (cU (-x) (-y)) = qd x y ∧ er (cU x y) (cU (-x) (-y)) = qe x y := by
  unfold qu qd qe
  obtain ⟨l1, l2⟩ := lows _ _ (cU_cop x y)
  obtain ⟨l3, l4⟩ := lows _ _ (eU_cop x y)
  rcases cU_is x y with h | ⟨h, h'⟩
  · rcases cU_is (-x) (-y) with k | ⟨k, k'⟩
    · rw [h, k]; exact ⟨rfl, rfl, rfl⟩
    · unfold up dn er
      rw [l1, l2, l3, l4, bd_big_d _ _ k, bd_big_d _ _ k']
      exact ⟨rfl, rfl, rfl⟩
  · unfold up dn er
    rw [l1, l2, l3, l4, bd_big_u _ _ h, bd_big_u _ _ h']
    exact ⟨rfl, rfl, rfl⟩
/-- A ratio that is told: its parts are the powers themselves. -/
theorem q_yes (x y : Int) (h : qe x y = 0) : qu x y = eU x y ∧ qd x y = eU (-x) (-y) ∧ ok (eU x y) (eU (-x) (-y)) = true := by
  unfold qe at h
  obtain ⟨l3, l4⟩ := lows _ _ (eU_cop x y)
  have hb : bd (eU x y) (eU (-x) (-y)) = true := by
    cases hb : bd (eU x y) (eU (-x) (-y))
    · exfalso; unfold er at h; rw [l3, l4, hb] at h; simp at h
    · rfl
  have h2 := cop_gen x.toNat y.toNat (-x).toNat (-y).toNat (by omega) (by omega)
  refine ⟨?_, ?_, ?_⟩
  · unfold qu up; rw [l3, l4, hb]; rfl
  · unfold qd dn; rw [l3, l4, hb]; rfl
  · have := bd_yes _ _ hb
    have e := eU_cop x y
    unfold ok; simp; exact ⟨by omega, by omega, by omega, by omega, e⟩
theorem q_no (x y : Int) (h : qe x y ≠ 0) : qe x y = 4 ∧ qu x y = 0 ∧ qd x y = 0 := by
  unfold qe qu qd at *
  cases hb : bd (lu (eU x y) (eU (-x) (-y))) (ld (eU x y) (eU (-x) (-y)))
  · exact ⟨er_no _ _ hb, up_no _ _ hb, dn_no _ _ hb⟩
  · exact absurd (er_yes _ _ hb) h
/-- Turned round. -/
theorem q_back (x y : Int) (h : qe x y = 0) : qe (-x) (-y) = 0 ∧ qu (-x) (-y) = qd x y ∧ qd (-x) (-y) = qu x y := by
  obtain ⟨h1, h2, h3⟩ := q_yes x y h
  have ho := ok_yes _ _ h3
  have hb : bd (eU (-x) (-y)) (eU x y) = true := by
    have := eU_pos x y
    unfold bd; simp; omega
  have hg : Int.gcd (eU (-x) (-y)) (eU x y) = 1 := by rw [Int.gcd_comm]; exact eU_cop x y
  obtain ⟨l1, l2⟩ := lows _ _ hg
  unfold qe qu qd
  rw [show - -x = x by omega, show - -y = y by omega]
  refine ⟨?_, ?_, ?_⟩
  · rw [er_yes _ _ (by rw [l1, l2]; exact hb)]
  · rw [up_yes _ _ (by rw [l1, l2]; exact hb), l1]; exact h2.symm
  · rw [dn_yes _ _ (by rw [l1, l2]; exact hb), l2]; exact h1.symm
theorem pw_add (b x y : Int) : b ^ (x + y).toNat * (b ^ (-x).toNat * b ^ (-y).toNat) = b ^ x.toNat * b ^ y.toNat * b ^ (-(x + y)).toNat := by
  rw [← Int.pow_add, ← Int.pow_add, ← Int.pow_add, ← Int.pow_add]
  congr 1
  omega
theorem e_add (x y z t : Int) : eU (x + z) (y + t) * (eU (-x) (-y) * eU (-z) (-t)) = eU x y * eU z t * eU (-(x + z)) (-(y + t)) := by
  unfold eU
  have h1 := pw_add 3 x z
  have h2 := pw_add 2 y t
  generalize (3 : Int) ^ (x + z).toNat = a1 at *
  generalize (3 : Int) ^ (-x).toNat = a2 at *
  generalize (3 : Int) ^ (-z).toNat = a3 at *
  generalize (3 : Int) ^ (x).toNat = a4 at *
  generalize (3 : Int) ^ (z).toNat = a5 at *
  generalize (3 : Int) ^ (-(x+z)).toNat = a6 at *
  generalize (2 : Int) ^ (y + t).toNat = b1 at *
  generalize (2 : Int) ^ (-y).toNat = b2 at *
  generalize (2 : Int) ^ (-t).toNat = b3 at *
  generalize (2 : Int) ^ (y).toNat = b4 at *
  generalize (2 : Int) ^ (t).toNat = b5 at *
  generalize (2 : Int) ^ (-(y+t)).toNat = b6 at *
  have e1 : a1 * b1 * (a2 * b2 * (a3 * b3)) = (a1 * (a2 * a3)) * (b1 * (b2 * b3)) := by ac_rfl
  have e2 : a4 * b4 * (a5 * b5) * (a6 * b6) = (a4 * a5 * a6) * (b4 * b5 * b6) := by ac_rfl
  rw [e1, e2, h1, h2]
/-- The ratio of a sum is the product. -/
theorem q_sum (x y z t : Int) (h : qe x y = 0) (k : qe z t = 0) : qu (x + z) (y + t) = up (qu x y * qu z t) (qd x y * qd z t) ∧ qd (x + z) (y + t) = dn (qu x y * qu z t) (qd x y * qd z t) ∧ qe (x + z) (y + t) = er (qu x y * qu z t) (qd x y * qd z t) := by
  obtain ⟨h1, h2, h3⟩ := q_yes x y h
  obtain ⟨k1, k2, k3⟩ := q_yes z t k
  rw [h1, h2, k1, k2]
  unfold qu qd qe
  exact er_congr _ _ _ _ (eU_pos _ _) (mul_pos' _ _ (eU_pos _ _) (eU_pos _ _)) (e_add x y z t)
end Go.Proofs.YtdjdnjaijpafgacDoor.F.M
