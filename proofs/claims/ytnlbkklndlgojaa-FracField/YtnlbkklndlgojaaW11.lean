/- Each sum, product, quotient and order of any two fractions: one contract for the program's function, one for the document's. -/
import Derived.Test.YtnlbkklndlgojaaW5
import Derived.Test.YtnlbkklndlgojaaW6
import Derived.Test.YtnlbkklndlgojaaW7
import Derived.Test.YtnlbkklndlgojaaW8
import Derived.Test.YtnlbkklndlgojaaW9
import Derived.Test.YtnlbkklndlgojaaW10
namespace Go.Proofs.Ytnlbkklndlgojaa
open Go.RowKit

theorem two_ways (k l : Bool) (h : (k && l) = false) : k = false ∨ (k = true ∧ l = false) := by cases k <;> simp_all
theorem two_yes (k l : Bool) (h : (k && l) = true) : k = true ∧ l = true := by simpa using h

theorem Plus_any (a b c d : Int) (w : World) (h1 : -9223372036854775808 ≤ a) (h2 : a ≤ 9223372036854775807) (h3 : -9223372036854775808 ≤ b) (h4 : b ≤ 9223372036854775807) (h5 : -9223372036854775808 ≤ c) (h6 : c ≤ 9223372036854775807) (h7 : -9223372036854775808 ≤ d) (h8 : d ≤ 9223372036854775807) :
    Calls Try.prog 13 #[.agg #[.int .i64 a, .int .i64 b], .agg #[.int .i64 c, .int .i64 d]] w fun e w' => e = .returned (.tuple #[.agg #[.int .i64 (M.rU (M.ok a b && M.ok c d) (a * d + c * b) (b * d)), .int .i64 (M.rD (M.ok a b && M.ok c d) (a * d + c * b) (b * d))], .int .i64 (M.rE (M.ok a b && M.ok c d) (a * d + c * b) (b * d))]) ∧ Below w.heap.size w w' := by
  cases hk : (M.ok a b && M.ok c d)
  · exact Plus_no a b c d w h1 h2 h3 h4 h5 h6 h7 h8 hk
  · obtain ⟨k1, k2⟩ := two_yes _ _ hk
    have hv : 1 ≤ b * d := M.mul_pos' b d (M.ok_yes _ _ k1).2.2.1 (M.ok_yes _ _ k2).2.2.1
    have e1 : M.rU true (a * d + c * b) (b * d) = M.up (a * d + c * b) (b * d) := M.mu_yes _ _ hv
    have e2 : M.rD true (a * d + c * b) (b * d) = M.dn (a * d + c * b) (b * d) := M.md_yes _ _ hv
    have e3 : M.rE true (a * d + c * b) (b * d) = M.er (a * d + c * b) (b * d) := M.me_yes _ _ hv
    rw [e1, e2, e3]
    exact Plus_yes a b c d w h1 h2 h3 h4 h5 h6 h7 h8 hk

theorem Plus_ref (a b c d : Int) (w : World) (h1 : -9223372036854775808 ≤ a) (h2 : a ≤ 9223372036854775807) (h3 : -9223372036854775808 ≤ b) (h4 : b ≤ 9223372036854775807) (h5 : -9223372036854775808 ≤ c) (h6 : c ≤ 9223372036854775807) (h7 : -9223372036854775808 ≤ d) (h8 : d ≤ 9223372036854775807) :
    Calls Try.prog 14 #[.agg #[.int .i64 a, .int .i64 b], .agg #[.int .i64 c, .int .i64 d]] w fun e w' => e = .returned (.tuple #[.agg #[.int .i64 (M.rU (M.ok a b && M.ok c d) (a * d + c * b) (b * d)), .int .i64 (M.rD (M.ok a b && M.ok c d) (a * d + c * b) (b * d))], .int .i64 (M.rE (M.ok a b && M.ok c d) (a * d + c * b) (b * d))]) ∧ Below w.heap.size w w' := by
  cases hk : (M.ok a b && M.ok c d)
  · exact Plus_refno a b c d w h1 h2 h3 h4 h5 h6 h7 h8 (two_ways _ _ hk)
  · obtain ⟨k1, k2⟩ := two_yes _ _ hk
    have hv : 1 ≤ b * d := M.mul_pos' b d (M.ok_yes _ _ k1).2.2.1 (M.ok_yes _ _ k2).2.2.1
    have e1 : M.rU true (a * d + c * b) (b * d) = M.up (a * d + c * b) (b * d) := M.mu_yes _ _ hv
    have e2 : M.rD true (a * d + c * b) (b * d) = M.dn (a * d + c * b) (b * d) := M.md_yes _ _ hv
    have e3 : M.rE true (a * d + c * b) (b * d) = M.er (a * d + c * b) (b * d) := M.me_yes _ _ hv
    rw [e1, e2, e3]
    exact Plus_refyes a b c d w h1 h2 h3 h4 h5 h6 h7 h8 k1 k2

theorem Minus_any (a b c d : Int) (w : World) (h1 : -9223372036854775808 ≤ a) (h2 : a ≤ 9223372036854775807) (h3 : -9223372036854775808 ≤ b) (h4 : b ≤ 9223372036854775807) (h5 : -9223372036854775808 ≤ c) (h6 : c ≤ 9223372036854775807) (h7 : -9223372036854775808 ≤ d) (h8 : d ≤ 9223372036854775807) :
    Calls Try.prog 15 #[.agg #[.int .i64 a, .int .i64 b], .agg #[.int .i64 c, .int .i64 d]] w fun e w' => e = .returned (.tuple #[.agg #[.int .i64 (M.rU (M.ok a b && M.ok c d) (a * d - c * b) (b * d)), .int .i64 (M.rD (M.ok a b && M.ok c d) (a * d - c * b) (b * d))], .int .i64 (M.rE (M.ok a b && M.ok c d) (a * d - c * b) (b * d))]) ∧ Below w.heap.size w w' := by
  cases hk : (M.ok a b && M.ok c d)
  · exact Minus_no a b c d w h1 h2 h3 h4 h5 h6 h7 h8 hk
  · obtain ⟨k1, k2⟩ := two_yes _ _ hk
    have hv : 1 ≤ b * d := M.mul_pos' b d (M.ok_yes _ _ k1).2.2.1 (M.ok_yes _ _ k2).2.2.1
    have e1 : M.rU true (a * d - c * b) (b * d) = M.up (a * d - c * b) (b * d) := M.mu_yes _ _ hv
    have e2 : M.rD true (a * d - c * b) (b * d) = M.dn (a * d - c * b) (b * d) := M.md_yes _ _ hv
    have e3 : M.rE true (a * d - c * b) (b * d) = M.er (a * d - c * b) (b * d) := M.me_yes _ _ hv
    rw [e1, e2, e3]
    exact Minus_yes a b c d w h1 h2 h3 h4 h5 h6 h7 h8 hk

theorem Minus_ref (a b c d : Int) (w : World) (h1 : -9223372036854775808 ≤ a) (h2 : a ≤ 9223372036854775807) (h3 : -9223372036854775808 ≤ b) (h4 : b ≤ 9223372036854775807) (h5 : -9223372036854775808 ≤ c) (h6 : c ≤ 9223372036854775807) (h7 : -9223372036854775808 ≤ d) (h8 : d ≤ 9223372036854775807) :
    Calls Try.prog 16 #[.agg #[.int .i64 a, .int .i64 b], .agg #[.int .i64 c, .int .i64 d]] w fun e w' => e = .returned (.tuple #[.agg #[.int .i64 (M.rU (M.ok a b && M.ok c d) (a * d - c * b) (b * d)), .int .i64 (M.rD (M.ok a b && M.ok c d) (a * d - c * b) (b * d))], .int .i64 (M.rE (M.ok a b && M.ok c d) (a * d - c * b) (b * d))]) ∧ Below w.heap.size w w' := by
  cases hk : (M.ok a b && M.ok c d)
  · exact Minus_refno a b c d w h1 h2 h3 h4 h5 h6 h7 h8 (two_ways _ _ hk)
  · obtain ⟨k1, k2⟩ := two_yes _ _ hk
    have hv : 1 ≤ b * d := M.mul_pos' b d (M.ok_yes _ _ k1).2.2.1 (M.ok_yes _ _ k2).2.2.1
    have e1 : M.rU true (a * d - c * b) (b * d) = M.up (a * d - c * b) (b * d) := M.mu_yes _ _ hv
    have e2 : M.rD true (a * d - c * b) (b * d) = M.dn (a * d - c * b) (b * d) := M.md_yes _ _ hv
    have e3 : M.rE true (a * d - c * b) (b * d) = M.er (a * d - c * b) (b * d) := M.me_yes _ _ hv
    rw [e1, e2, e3]
    exact Minus_refyes a b c d w h1 h2 h3 h4 h5 h6 h7 h8 k1 k2

theorem Times_any (a b c d : Int) (w : World) (h1 : -9223372036854775808 ≤ a) (h2 : a ≤ 9223372036854775807) (h3 : -9223372036854775808 ≤ b) (h4 : b ≤ 9223372036854775807) (h5 : -9223372036854775808 ≤ c) (h6 : c ≤ 9223372036854775807) (h7 : -9223372036854775808 ≤ d) (h8 : d ≤ 9223372036854775807) :
    Calls Try.prog 17 #[.agg #[.int .i64 a, .int .i64 b], .agg #[.int .i64 c, .int .i64 d]] w fun e w' => e = .returned (.tuple #[.agg #[.int .i64 (M.rU (M.ok a b && M.ok c d) (a * c) (b * d)), .int .i64 (M.rD (M.ok a b && M.ok c d) (a * c) (b * d))], .int .i64 (M.rE (M.ok a b && M.ok c d) (a * c) (b * d))]) ∧ Below w.heap.size w w' := by
  cases hk : (M.ok a b && M.ok c d)
  · exact Times_no a b c d w h1 h2 h3 h4 h5 h6 h7 h8 hk
  · obtain ⟨k1, k2⟩ := two_yes _ _ hk
    have hv : 1 ≤ b * d := M.mul_pos' b d (M.ok_yes _ _ k1).2.2.1 (M.ok_yes _ _ k2).2.2.1
    have e1 : M.rU true (a * c) (b * d) = M.up (a * c) (b * d) := M.mu_yes _ _ hv
    have e2 : M.rD true (a * c) (b * d) = M.dn (a * c) (b * d) := M.md_yes _ _ hv
    have e3 : M.rE true (a * c) (b * d) = M.er (a * c) (b * d) := M.me_yes _ _ hv
    rw [e1, e2, e3]
    exact Times_yes a b c d w h1 h2 h3 h4 h5 h6 h7 h8 hk

theorem Times_ref (a b c d : Int) (w : World) (h1 : -9223372036854775808 ≤ a) (h2 : a ≤ 9223372036854775807) (h3 : -9223372036854775808 ≤ b) (h4 : b ≤ 9223372036854775807) (h5 : -9223372036854775808 ≤ c) (h6 : c ≤ 9223372036854775807) (h7 : -9223372036854775808 ≤ d) (h8 : d ≤ 9223372036854775807) :
    Calls Try.prog 18 #[.agg #[.int .i64 a, .int .i64 b], .agg #[.int .i64 c, .int .i64 d]] w fun e w' => e = .returned (.tuple #[.agg #[.int .i64 (M.rU (M.ok a b && M.ok c d) (a * c) (b * d)), .int .i64 (M.rD (M.ok a b && M.ok c d) (a * c) (b * d))], .int .i64 (M.rE (M.ok a b && M.ok c d) (a * c) (b * d))]) ∧ Below w.heap.size w w' := by
  cases hk : (M.ok a b && M.ok c d)
  · exact Times_refno a b c d w h1 h2 h3 h4 h5 h6 h7 h8 (two_ways _ _ hk)
  · obtain ⟨k1, k2⟩ := two_yes _ _ hk
    have hv : 1 ≤ b * d := M.mul_pos' b d (M.ok_yes _ _ k1).2.2.1 (M.ok_yes _ _ k2).2.2.1
    have e1 : M.rU true (a * c) (b * d) = M.up (a * c) (b * d) := M.mu_yes _ _ hv
    have e2 : M.rD true (a * c) (b * d) = M.dn (a * c) (b * d) := M.md_yes _ _ hv
    have e3 : M.rE true (a * c) (b * d) = M.er (a * c) (b * d) := M.me_yes _ _ hv
    rw [e1, e2, e3]
    exact Times_refyes a b c d w h1 h2 h3 h4 h5 h6 h7 h8 k1 k2

theorem Over_any (a b c d : Int) (w : World) (h1 : -9223372036854775808 ≤ a) (h2 : a ≤ 9223372036854775807) (h3 : -9223372036854775808 ≤ b) (h4 : b ≤ 9223372036854775807) (h5 : -9223372036854775808 ≤ c) (h6 : c ≤ 9223372036854775807) (h7 : -9223372036854775808 ≤ d) (h8 : d ≤ 9223372036854775807) :
    Calls Try.prog 19 #[.agg #[.int .i64 a, .int .i64 b], .agg #[.int .i64 c, .int .i64 d]] w fun e w' => e = .returned (.tuple #[.agg #[.int .i64 (M.rU (M.ok a b && M.ok c d) (M.qU a d c) (M.qD b c)), .int .i64 (M.rD (M.ok a b && M.ok c d) (M.qU a d c) (M.qD b c))], .int .i64 (M.rE (M.ok a b && M.ok c d) (M.qU a d c) (M.qD b c))]) ∧ Below w.heap.size w w' := by
  cases hk : (M.ok a b && M.ok c d)
  · exact Over_no a b c d w h1 h2 h3 h4 h5 h6 h7 h8 hk
  · obtain ⟨k1, k2⟩ := two_yes _ _ hk
    by_cases hc : c < 0
    · have e1 : M.qU a d c = -(a * d) := if_pos hc
      have e2 : M.qD b c = -(b * c) := if_pos hc
      rw [e1, e2]
      exact Over_neg a b c d w h1 h2 h3 h4 h5 h6 h7 h8 k1 k2 hc
    · have e1 : M.qU a d c = a * d := if_neg hc
      have e2 : M.qD b c = b * c := if_neg hc
      rw [e1, e2]
      by_cases hz : c = 0
      · exact Over_zero a b c d w h1 h2 h3 h4 h5 h6 h7 h8 k1 k2 hz
      · exact Over_pos a b c d w h1 h2 h3 h4 h5 h6 h7 h8 k1 k2 (by omega)

theorem Over_ref (a b c d : Int) (w : World) (h1 : -9223372036854775808 ≤ a) (h2 : a ≤ 9223372036854775807) (h3 : -9223372036854775808 ≤ b) (h4 : b ≤ 9223372036854775807) (h5 : -9223372036854775808 ≤ c) (h6 : c ≤ 9223372036854775807) (h7 : -9223372036854775808 ≤ d) (h8 : d ≤ 9223372036854775807) :
    Calls Try.prog 20 #[.agg #[.int .i64 a, .int .i64 b], .agg #[.int .i64 c, .int .i64 d]] w fun e w' => e = .returned (.tuple #[.agg #[.int .i64 (M.rU (M.ok a b && M.ok c d) (M.qU a d c) (M.qD b c)), .int .i64 (M.rD (M.ok a b && M.ok c d) (M.qU a d c) (M.qD b c))], .int .i64 (M.rE (M.ok a b && M.ok c d) (M.qU a d c) (M.qD b c))]) ∧ Below w.heap.size w w' := by
  cases hk : (M.ok a b && M.ok c d)
  · exact Over_refno a b c d w h1 h2 h3 h4 h5 h6 h7 h8 (two_ways _ _ hk)
  · obtain ⟨k1, k2⟩ := two_yes _ _ hk
    by_cases hc : c < 0
    · have e1 : M.qU a d c = -(a * d) := if_pos hc
      have e2 : M.qD b c = -(b * c) := if_pos hc
      rw [e1, e2]
      exact Over_refneg a b c d w h1 h2 h3 h4 h5 h6 h7 h8 k1 k2 hc
    · have e1 : M.qU a d c = a * d := if_neg hc
      have e2 : M.qD b c = b * c := if_neg hc
      rw [e1, e2]
      exact Over_refpos a b c d w h1 h2 h3 h4 h5 h6 h7 h8 k1 k2 (by omega)

theorem Order_any (a b c d : Int) (w : World) (h1 : -9223372036854775808 ≤ a) (h2 : a ≤ 9223372036854775807) (h3 : -9223372036854775808 ≤ b) (h4 : b ≤ 9223372036854775807) (h5 : -9223372036854775808 ≤ c) (h6 : c ≤ 9223372036854775807) (h7 : -9223372036854775808 ≤ d) (h8 : d ≤ 9223372036854775807) :
    Calls Try.prog 21 #[.agg #[.int .i64 a, .int .i64 b], .agg #[.int .i64 c, .int .i64 d]] w fun e w' => e = .returned (.tuple #[.int .i64 (M.oI (M.ok a b && M.ok c d) (a * d) (c * b)), .int .i64 (M.oE (M.ok a b && M.ok c d))]) ∧ Below w.heap.size w w' := by
  cases hk : (M.ok a b && M.ok c d)
  · exact Order_no a b c d w h1 h2 h3 h4 h5 h6 h7 h8 hk
  · obtain ⟨k1, k2⟩ := two_yes _ _ hk
    exact Order_yes a b c d w h1 h2 h3 h4 h5 h6 h7 h8 k1 k2

theorem Order_ref (a b c d : Int) (w : World) (h1 : -9223372036854775808 ≤ a) (h2 : a ≤ 9223372036854775807) (h3 : -9223372036854775808 ≤ b) (h4 : b ≤ 9223372036854775807) (h5 : -9223372036854775808 ≤ c) (h6 : c ≤ 9223372036854775807) (h7 : -9223372036854775808 ≤ d) (h8 : d ≤ 9223372036854775807) :
    Calls Try.prog 22 #[.agg #[.int .i64 a, .int .i64 b], .agg #[.int .i64 c, .int .i64 d]] w fun e w' => e = .returned (.tuple #[.int .i64 (M.oI (M.ok a b && M.ok c d) (a * d) (c * b)), .int .i64 (M.oE (M.ok a b && M.ok c d))]) ∧ Below w.heap.size w w' := by
  cases hk : (M.ok a b && M.ok c d)
  · exact Order_refno a b c d w h1 h2 h3 h4 h5 h6 h7 h8 (two_ways _ _ hk)
  · obtain ⟨k1, k2⟩ := two_yes _ _ hk
    exact Order_refyes a b c d w h1 h2 h3 h4 h5 h6 h7 h8 k1 k2

end Go.Proofs.Ytnlbkklndlgojaa
