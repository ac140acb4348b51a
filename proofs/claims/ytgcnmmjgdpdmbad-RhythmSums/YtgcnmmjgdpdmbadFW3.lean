/- What the document's Make and both Floors come to. -/
import Derived.Test.YtgcnmmjgdpdmbadFW2
import Derived.Test.YtgcnmmjgdpdmbadFMath2
namespace Go.Proofs.Ytgcnmmjgdpdmbad.F
open Go.RowKit

theorem ret_two {k l : IntKind} {a b c d : Int} (h : a = b) (h' : c = d) : Ending.returned (.tuple #[.int k a, .int l c]) = .returned (.tuple #[.int k b, .int l d]) := by rw [h, h']

set_option maxHeartbeats 400000 in
theorem refMake_no (u d : Int) (w : World) (h : d < 1) :
    Calls Try.prog 19 #[.int .i64 u, .int .i64 d] w fun e w' => e = .returned (.tuple #[.agg #[.int .i64 (M.mu u d), .int .i64 (M.md u d)], .int .i64 (M.me u d)]) ∧ Below w.heap.size w w' := by
  rw [M.mu_no u d h, M.md_no u d h, M.me_no u d h]
  go_enter Try.func19, Try.ntmps19
  go_wp2
  go_returns
  exact ⟨rfl, by go_grown⟩

set_option maxHeartbeats 400000 in
theorem refMake_mid (u d : Int) (w : World) (h1 : -9223372036854775807 ≤ u) (h2 : u ≤ 9223372036854775807) (h3 : 1 ≤ d) (h4 : d ≤ 9223372036854775807) :
    Calls Try.prog 19 #[.int .i64 u, .int .i64 d] w fun e w' => e = .returned (.tuple #[.agg #[.int .i64 (M.up u d), .int .i64 (M.dn u d)], .int .i64 (M.er u d)]) ∧ Below w.heap.size w w' := by
  have hd0 : ¬ d < 1 := by omega
  have hg := M.gi_pos u d h3
  have hg0 : (M.gi u d == 0) = false := by simp; omega
  have hz : ((u == -u) = true ∧ (u != 0) = false) ∨ ((u == -u) = false) := by
    by_cases hu : u = 0
    · left; subst hu; exact ⟨rfl, rfl⟩
    · right; simp; omega
  have la := M.lu_abs u d
  have lb1 : -9223372036854775807 ≤ M.lu u d := by omega
  have lb2 : M.lu u d ≤ 9223372036854775807 := by omega
  clear la
  have hld := M.ld_pos u d h3
  cases hb : M.bd (M.lu u d) (M.ld u d)
  · rw [M.up_no u d hb, M.dn_no u d hb, M.er_no u d hb]
    have hbb := M.bd_no _ _ hb
    have hs : (1073741824 < ((M.lu u d).natAbs : Int)) ∨ (¬ 1073741824 < ((M.lu u d).natAbs : Int) ∧ 1073741824 < d / M.gi u d) := by
      change _ ∨ (_ ∧ 1073741824 < M.ld u d)
      omega
    clear hbb hld
    rcases hz with ⟨hz1, hz2⟩ | hz1
    all_goals
      rcases hs with hs1 | ⟨hs1, hs2⟩
      all_goals
        go_enter Try.func19, Try.ntmps19
        go_wp2_with fail
        refine (abs_any _ _ h1 h2).mono ?_
        rintro e w1 ⟨rfl, rfl⟩
        go_wp2_with fail
        refine (Divisor_all _ _ _ (by omega) (by omega) h3 h4).mono ?_
        rintro e w1 ⟨rfl, rfl⟩
        rw [M.gi_abs]
        go_wp2_with fail
        rw [show u.tdiv (M.gi u d) = M.lu u d from rfl]
        refine (abs_any _ _ lb1 lb2).mono ?_
        rintro e w1 ⟨rfl, rfl⟩
        go_wp2
        go_returns
        exact ⟨rfl, by go_grown⟩
  · rw [M.up_yes u d hb, M.dn_yes u d hb, M.er_yes u d hb]
    have hbb := M.bd_yes _ _ hb
    have hs1 : ¬ 1073741824 < ((M.lu u d).natAbs : Int) := by omega
    have hs2 : ¬ 1073741824 < d / M.gi u d := by change ¬ 1073741824 < M.ld u d; omega
    clear hbb hld
    rcases hz with ⟨hz1, hz2⟩ | hz1
    all_goals
      go_enter Try.func19, Try.ntmps19
      go_wp2_with fail
      refine (abs_any _ _ h1 h2).mono ?_
      rintro e w1 ⟨rfl, rfl⟩
      go_wp2_with fail
      refine (Divisor_all _ _ _ (by omega) (by omega) h3 h4).mono ?_
      rintro e w1 ⟨rfl, rfl⟩
      rw [M.gi_abs]
      go_wp2_with fail
      rw [show u.tdiv (M.gi u d) = M.lu u d from rfl]
      refine (abs_any _ _ lb1 lb2).mono ?_
      rintro e w1 ⟨rfl, rfl⟩
      go_wp2
      go_region
      go_wp2
      go_returns
      exact ⟨rfl, by go_grown⟩
end Go.Proofs.Ytgcnmmjgdpdmbad.F
