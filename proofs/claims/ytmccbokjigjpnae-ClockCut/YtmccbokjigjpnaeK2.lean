/- What the program's stretch and twice come to. -/
import Derived.Test.YtmccbokjigjpnaeK1
namespace Go.Proofs.Ytmccbokjigjpnae.F
open Go.RowKit
set_option linter.unusedVariables false
set_option linter.unusedSimpArgs false

theorem mul_bd (a b x y : Int) (h1 : 0 ≤ a) (h2 : a ≤ x) (h3 : 0 ≤ b) (h4 : b ≤ y) : 0 ≤ a * b ∧ a * b ≤ x * y :=
  ⟨Int.mul_nonneg h1 h3, Int.mul_le_mul h2 h4 h3 (by omega)⟩
theorem mul_abs (a b x y : Int) (h1 : -x ≤ a) (h2 : a ≤ x) (h3 : 0 ≤ b) (h4 : b ≤ y) (hx : 0 ≤ x) : -(x * y) ≤ a * b ∧ a * b ≤ x * y := by
  have e1 : a * b ≤ x * b := Int.mul_le_mul_of_nonneg_right h2 h3
  have e2 : -x * b ≤ a * b := Int.mul_le_mul_of_nonneg_right h1 h3
  have e3 : x * b ≤ x * y := Int.mul_le_mul_of_nonneg_left h4 hx
  rw [Int.neg_mul] at e2
  omega

set_option maxHeartbeats 2000000 in
theorem stretch_even (a p b q d : Int) (r2 : Bool) (w : World) (p1 : 1 ≤ p) (p2 : p ≤ 65536) (d1 : 0 ≤ d) (d2 : d ≤ 1048576) :
    Calls Try.prog 24 #[.agg #[.int .i64 a, .int .i64 p, .bool false], .agg #[.int .i64 b, .int .i64 q, .bool r2], .int .i64 d] w fun e w' => e = .returned (.int .i64 (2 * p * d)) ∧ Below w.heap.size w w' := by
  obtain ⟨m1, m2⟩ := mul_bd (2 * p) d 131072 1048576 (by omega) (by omega) d1 d2
  go_enter Try.func24, Try.ntmps24
  go_wp2_with fail
  go_returns
  exact ⟨rfl, by go_grown⟩
set_option maxHeartbeats 2000000 in
theorem stretch_ramp (a p b q d L : Int) (r2 : Bool) (w : World) (p1 : 1 ≤ p) (p2 : p ≤ 65536) (q1 : 1 ≤ q) (q2 : q ≤ 65536) (d1 : 0 ≤ d) (hL : L = b - a) (d2 : d ≤ L) (l1 : 0 < L) (l2 : L ≤ 1048576) :
    Calls Try.prog 24 #[.agg #[.int .i64 a, .int .i64 p, .bool true], .agg #[.int .i64 b, .int .i64 q, .bool r2], .int .i64 d] w fun e w' => e = .returned (.int .i64 (K.M.rp p q L d)) ∧ Below w.heap.size w w' := by
  subst hL
  have hre := K.M.rp_ge p q (b - a) d p1 q1 d1 d2 l1
  have hrl := K.M.rp_le p q (b - a) d p2 q2 d1 d2 l1
  generalize hL : b - a = L at *
  obtain ⟨m1, m2⟩ := mul_bd (2 * p) L 131072 1048576 (by omega) (by omega) (by omega) l2
  obtain ⟨m3, m4⟩ := mul_abs (q - p) d 65536 1048576 (by omega) (by omega) d1 (by omega) (by omega)
  have m5 := K.M.num_ge p q L d p1 q1 d1 d2
  have m6 := K.M.num_le p q L d p2 q2 d1 d2
  obtain ⟨m7, m8⟩ := mul_bd (2 * p * L + (q - p) * d) d 137438953472 1048576 m5 (by omega) d1 (by omega)
  have hne : (L == 0) = false := by simp; omega
  have hR : Hid (K.M.rp p q L d = (2 * p * L + (q - p) * d) * d / L) := rfl
  generalize K.M.rp p q L d = V at *
  subst hL
  go_enter Try.func24, Try.ntmps24
  go_wp2_with fail
  go_returns
  exact ⟨by rw [hR.out]; rfl, by go_grown⟩
end Go.Proofs.Ytmccbokjigjpnae.F
