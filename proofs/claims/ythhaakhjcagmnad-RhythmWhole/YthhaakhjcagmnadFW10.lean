/- What the document's Sign comes to. -/
import Derived.Test.YthhaakhjcagmnadFW4
import Derived.Test.YthhaakhjcagmnadFMath3
namespace Go.Proofs.Ythhaakhjcagmnad.F
open Go.RowKit

theorem Sign_any (a b c d : Int) (w : World) (m1 : -1152921504606846976 ≤ a * d) (m2 : a * d ≤ 1152921504606846976) (m3 : -1152921504606846976 ≤ c * b) (m4 : c * b ≤ 1152921504606846976) :
    Calls Try.prog 12 #[.agg #[.int .i64 a, .int .i64 b], .agg #[.int .i64 c, .int .i64 d]] w fun e w' => e = .returned (.int .i64 (M.sg (a * d) (c * b))) ∧ Below w.heap.size w w' := by
  rcases Int.lt_trichotomy (a * d) (c * b) with h | h | h
  · rw [M.sg_lt _ _ h]
    go_enter Try.func12, Try.ntmps12
    go_wp2
    go_ret
    exact ⟨rfl, by go_grown⟩
  · rw [M.sg_eq _ _ h]
    have h1 : ¬ a * d < c * b := by omega
    have h2 : ¬ c * b < a * d := by omega
    clear h
    go_enter Try.func12, Try.ntmps12
    go_wp2
    go_ret
    exact ⟨rfl, by go_grown⟩
  · rw [M.sg_gt _ _ h]
    have h' : ¬ a * d < c * b := by omega
    go_enter Try.func12, Try.ntmps12
    go_wp2
    go_ret
    exact ⟨rfl, by go_grown⟩

end Go.Proofs.Ythhaakhjcagmnad.F
