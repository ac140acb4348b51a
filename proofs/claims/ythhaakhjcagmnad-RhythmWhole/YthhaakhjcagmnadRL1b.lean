/- The statement RhythmWhole: the walk of its text, at every length. -/
import Derived.Test.YthhaakhjcagmnadRL1
namespace Go.Proofs.Ythhaakhjcagmnad.F
open Go.RowKit
theorem whole_walk (u d : Int) (w : World) (h : -9223372036854775808 ≤ u ∧ u ≤ 9223372036854775807) (h' : -9223372036854775808 ≤ d ∧ d ≤ 9223372036854775807) :
    Calls Try.prog 4 #[.agg #[.int .i64 u, .int .i64 d]] w fun e w' => e = .returned (.bool true) ∧ Below w.heap.size w w' := by
  cases hk : M.ok u d
  · exact whole_no u d 2 w rfl fun w => Write_form u d w h.1 h.2 h'.1 h'.2 hk
  by_cases h1 : u ≤ 0
  · exact whole_no u d 3 w rfl fun w => Write_range u d w hk h1
  by_cases h2 : 65536 * d < u
  · exact whole_no u d 3 w rfl fun w => Write_much u d w hk h2
  by_cases h3 : 1024 % d = 0
  · obtain ⟨T, P, q, r, e1, e2, e3, e4, e5, e6, e7, e8, e9, e10⟩ := parts_of u d hk (by omega) (by omega) h3
    exact whole_yes u d T P q r w hk (by omega) (by omega) h3 e1 e2 e3 e4 e5 e6 e7 e8 e9 e10
  · exact whole_no u d 6 w rfl fun w => Write_none u d w hk (by omega) (by omega) h3
end Go.Proofs.Ythhaakhjcagmnad.F
