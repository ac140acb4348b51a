/- Plain facts on ratios that are too large. -/
import Derived.Test.YtdjdnjaijpafgacDoorTMath
namespace Go.Proofs.YtdjdnjaijpafgacDoor.F.M
set_option linter.unusedVariables false

theorem p319 : (3 : Int) ^ 19 = 1162261467 := by decide
theorem p231 : (2 : Int) ^ 31 = 2147483648 := by decide
theorem eU_big3 (x y : Int) (h : 18 < x) : 1073741824 < eU x y := by
  unfold eU
  have h1 := pow_mono 3 (by omega) 19 x.toNat (by omega)
  have h2 := mul_ge_l _ _ (pow_pos' 3 (by omega) x.toNat) (pow_pos' 2 (by omega) y.toNat)
  rw [p319] at h1
  omega
theorem eU_big2 (x y : Int) (h : 30 < y) : 1073741824 < eU x y := by
  unfold eU
  have h1 := pow_mono 2 (by omega) 31 y.toNat (by omega)
  have h2 := mul_ge_r _ _ (pow_pos' 3 (by omega) x.toNat) (pow_pos' 2 (by omega) y.toNat)
  rw [p231] at h1
  omega
theorem q_u (x y : Int) (h : 1073741824 < eU x y) : qe x y = 4 ∧ qu x y = 0 ∧ qd x y = 0 := by
  obtain ⟨l3, l4⟩ := lows _ _ (eU_cop x y)
  have hb := bd_big_u (eU x y) (eU (-x) (-y)) h
  refine ⟨er_no _ _ ?_, up_no _ _ ?_, dn_no _ _ ?_⟩ <;> rw [l3, l4] <;> exact hb
theorem q_d (x y : Int) (h : 1073741824 < eU (-x) (-y)) : qe x y = 4 ∧ qu x y = 0 ∧ qd x y = 0 := by
  obtain ⟨l3, l4⟩ := lows _ _ (eU_cop x y)
  have hb := bd_big_d (eU x y) (eU (-x) (-y)) h
  refine ⟨er_no _ _ ?_, up_no _ _ ?_, dn_no _ _ ?_⟩ <;> rw [l3, l4] <;> exact hb
theorem q_far (x y : Int) (h : 18 < x.natAbs ∨ 30 < y.natAbs) : qe x y = 4 ∧ qu x y = 0 ∧ qd x y = 0 := by
  rcases h with h | h
  · rcases Int.lt_or_le 0 x with g | g
    · exact q_u x y (eU_big3 x y (by omega))
    · exact q_d x y (eU_big3 (-x) (-y) (by omega))
  · rcases Int.lt_or_le 0 y with g | g
    · exact q_u x y (eU_big2 x y (by omega))
    · exact q_d x y (eU_big2 (-x) (-y) (by omega))

/-- Above and below, factor by factor. -/
def gU (b x : Int) (k : Nat) : Int := if 0 < x then b ^ k else 1
def gD (b x : Int) (k : Nat) : Int := if 0 < x then 1 else b ^ k
theorem g_zero (b x : Int) : gU b x 0 = 1 ∧ gD b x 0 = 1 := by unfold gU gD; split <;> simp
theorem g_pos {b x : Int} (h : 0 < x) (k : Nat) : gU b x (k + 1) = b * gU b x k ∧ gD b x (k + 1) = gD b x k := by
  unfold gU gD; simp only [if_pos h]; exact ⟨by rw [Int.pow_succ, Int.mul_comm], trivial⟩
theorem g_neg {b x : Int} (h : ¬ 0 < x) (k : Nat) : gU b x (k + 1) = gU b x k ∧ gD b x (k + 1) = b * gD b x k := by
  unfold gU gD; simp only [if_neg h]; exact ⟨trivial, by rw [Int.pow_succ, Int.mul_comm]⟩
theorem g_end (b x : Int) : gU b x x.natAbs = b ^ x.toNat ∧ gD b x x.natAbs = b ^ (-x).toNat := by
  unfold gU gD
  by_cases h : 0 < x
  · simp only [if_pos h]
    rw [show x.natAbs = x.toNat by omega, show (-x).toNat = 0 by omega]; simp
  · simp only [if_neg h]
    rw [show x.natAbs = (-x).toNat by omega, show x.toNat = 0 by omega]; simp
theorem g_bd {b x : Int} (hb : 1 ≤ b) {k n : Nat} (hk : k ≤ n) : (1 ≤ gU b x k ∧ gU b x k ≤ b ^ n) ∧ (1 ≤ gD b x k ∧ gD b x k ≤ b ^ n) := by
  have h1 := pow_pos' b hb k
  have h2 := pow_mono b hb k n hk
  have h3 := pow_pos' b hb n
  unfold gU gD
  split <;> exact ⟨⟨by omega, by omega⟩, by omega, by omega⟩
theorem p318 : (3 : Int) ^ 18 = 387420489 := by decide
theorem p230 : (2 : Int) ^ 30 = 1073741824 := by decide
theorem g3_bd {x : Int} {k : Nat} (hk : k ≤ 18) : (1 ≤ gU 3 x k ∧ gU 3 x k ≤ 387420489) ∧ (1 ≤ gD 3 x k ∧ gD 3 x k ≤ 387420489) := by
  have := g_bd (b := 3) (x := x) (by omega) hk; rw [p318] at this; exact this
theorem g2_bd {x : Int} {k : Nat} (hk : k ≤ 30) : (1 ≤ gU 2 x k ∧ gU 2 x k ≤ 1073741824) ∧ (1 ≤ gD 2 x k ∧ gD 2 x k ≤ 1073741824) := by
  have := g_bd (b := 2) (x := x) (by omega) hk; rw [p230] at this; exact this
theorem m_bd {p q : Int} (h1 : 1 ≤ p ∧ p ≤ 387420489) (h2 : 1 ≤ q ∧ q ≤ 1073741824) : 1 ≤ p * q ∧ p * q ≤ 415989582513831936 := by
  refine ⟨mul_pos' p q h1.1 h2.1, ?_⟩
  have k1 : 0 ≤ (387420489 - p) * q := Int.mul_nonneg (by omega) (by omega)
  rw [Int.sub_mul] at k1
  omega
end Go.Proofs.YtdjdnjaijpafgacDoor.F.M
