/- What the document's Rated, Place and Back come to. -/
import Derived.Test.YtmccbokjigjpnaeK11
import Derived.Test.YtmccbokjigjpnaeK8
namespace Go.Proofs.Ytmccbokjigjpnae.F
open Go.RowKit
set_option linter.unusedVariables false
set_option linter.unusedSimpArgs false

theorem refRated_any (u d : Int) (w : World) (h1 : -9223372036854775808 ≤ u) (h2 : u ≤ 9223372036854775807) (h3 : -9223372036854775808 ≤ d) (h4 : d ≤ 9223372036854775807) :
    Calls Try.prog 21 #[.agg #[.int .i64 u, .int .i64 d]] w fun e w' => e = .returned (.int .i64 (K.M.rte (M.ok u d) u d)) ∧ Below w.heap.size w w' := by
  cases hk : M.ok u d
  · rw [K.M.rte_form]
    go_enter Try.func21, Try.ntmps21
    go_wp2_with fail
    refine (refRight_any u d _ h1 h2 h3 h4).mono ?_
    rintro e w1 ⟨rfl, hb1⟩
    rw [hk]
    go_wp2_with fail
    go_returns
    exact ⟨rfl, Below.trans (by go_grown) (hb1.mono (by go_size))⟩
  · rcases (show u < 1 ∨ (1 ≤ u ∧ 4096 < u) ∨ (1 ≤ u ∧ u ≤ 4096 ∧ 4096 < d) ∨ (1 ≤ u ∧ u ≤ 4096 ∧ d ≤ 4096) by omega) with c | ⟨c1, c2⟩ | ⟨c1, c2, c3⟩ | ⟨c1, c2, c3⟩
    all_goals first | rw [K.M.rte_range (by omega)] | rw [K.M.rte_yes (by omega)]
    all_goals
      go_enter Try.func21, Try.ntmps21
      go_wp2_with fail
      refine (refRight_any u d _ h1 h2 h3 h4).mono ?_
      rintro e w1 ⟨rfl, hb1⟩
      rw [hk]
      have A0 : w1.cell? ⟨w.heap.size, 0, none⟩ = some (.int .i64 u) := keepC hb1 (by go_size) (by simp [go_sem])
      have A1 : w1.cell? ⟨w.heap.size, 1, none⟩ = some (.int .i64 d) := keepC hb1 (by go_size) (by simp [go_sem])
      have z1 := hb1.size
      simp at z1
      go_wp2_with fail
      go_ret
      exact ⟨rfl, Below.trans (by go_grown) (hb1.mono (by go_size))⟩
end Go.Proofs.Ytmccbokjigjpnae.F
