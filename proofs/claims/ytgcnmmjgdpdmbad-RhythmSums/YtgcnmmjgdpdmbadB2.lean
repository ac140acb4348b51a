/- What the program's wrongAlone and look come to. -/
import Derived.Test.YtgcnmmjgdpdmbadB1
namespace Go.Proofs.Ytgcnmmjgdpdmbad.F
open Go.RowKit
set_option linter.unusedVariables false
set_option linter.unusedSimpArgs false

theorem wrongAlone_any (k s : Int) (ao : Option Addr) (n cap : Nat) (w : World) (hn : n ≤ 9223372036854775807) :
    Calls Try.prog 22 #[.agg #[.int .i64 k, .int .i64 s, .slice ao n cap]] w fun e w' => e = .returned (.int .i64 (M.al k s n)) ∧ Below w.heap.size w w' := by
  by_cases c1 : s < 1 ∨ 65536 < s
  · rw [M.al_share k s n c1]
    rcases (show s < 1 ∨ (¬ s < 1 ∧ 65536 < s) by omega) with c | ⟨c, c'⟩
    all_goals
      clear c1
      go_enter Try.func22, Try.ntmps22
      go_wp2_with fail
      go_ret
      exact ⟨rfl, by go_grown⟩
  have d1 : ¬ s < 1 := by omega
  have d2 : ¬ 65536 < s := by omega
  by_cases c2 : k < 1 ∨ 4 < k
  · rw [M.al_kind k s n c1 c2]
    have f1 : (k == 1) = false := by simp; omega
    have f2 : (k == 2) = false := by simp; omega
    have f3 : (k == 3) = false := by simp; omega
    have f4 : (k == 4) = false := by simp; omega
    clear c1 c2
    go_enter Try.func22, Try.ntmps22
    go_wp2_with fail
    go_ret
    exact ⟨rfl, by go_grown⟩
  by_cases c3 : (k = 4 ∧ n = 0) ∨ (k ≠ 4 ∧ 0 < n)
  · rw [M.al_many k s n c1 c2 c3]
    rcases (show (k = 4 ∧ n = 0) ∨ (k = 1 ∧ 0 < n) ∨ (k = 2 ∧ 0 < n) ∨ (k = 3 ∧ 0 < n) by omega) with ⟨rfl, rfl⟩ | ⟨rfl, e⟩ | ⟨rfl, e⟩ | ⟨rfl, e⟩
    all_goals
      clear c1 c2 c3
      try (have e' : (0 : Int) < n := by omega)
      go_enter Try.func22, Try.ntmps22
      go_wp2_with fail
      go_ret
      exact ⟨rfl, by go_grown⟩
  · rw [M.al_ok k s n c1 c2 c3]
    rcases (show (k = 4 ∧ 0 < n) ∨ (k = 1 ∧ n = 0) ∨ (k = 2 ∧ n = 0) ∨ (k = 3 ∧ n = 0) by omega) with ⟨rfl, e⟩ | ⟨rfl, rfl⟩ | ⟨rfl, rfl⟩ | ⟨rfl, rfl⟩
    all_goals
      clear c1 c2 c3
      try (have e' : (0 : Int) < n := by omega)
      go_enter Try.func22, Try.ntmps22
      go_wp2_with fail
      go_ret
      exact ⟨rfl, by go_grown⟩
end Go.Proofs.Ytgcnmmjgdpdmbad.F
