/- What the document's Make and both Floors come to. -/
import Derived.Test.YtnlbkklndlgojaaW2
import Derived.Test.YtnlbkklndlgojaaMath2
namespace Go.Proofs.Ytnlbkklndlgojaa
open Go.RowKit

theorem ret_two {k l : IntKind} {a b c d : Int} (h : a = b) (h' : c = d) : Ending.returned (.tuple #[.int k a, .int l c]) = .returned (.tuple #[.int k b, .int l d]) := by rw [h, h']

theorem Floor_any (u d : Int) (w : World) (h1 : -9223372036854775808 ≤ u) (h2 : u ≤ 9223372036854775807) (h3 : -9223372036854775808 ≤ d) (h4 : d ≤ 9223372036854775807) :
    Calls Try.prog 11 #[.agg #[.int .i64 u, .int .i64 d]] w fun e w' => e = .returned (.tuple #[.int .i64 (M.fl u d), .int .i64 (M.fe u d)]) ∧ Below w.heap.size w w' := by
  cases hb : M.ok u d
  · rw [M.fl_no u d hb, M.fe_no u d hb]
    go_enter Try.func11, Try.ntmps11
    go_wp2_with fail
    refine (Right_any _ _ _ h1 h2 h3 h4).mono ?_
    rintro e w1 ⟨rfl, hb1⟩
    rw [hb]
    go_wp2
    go_ret2
    exact ⟨rfl, ((Below.refl _ _).alloc (Nat.le_refl _) _).trans (hb1.mono (by simp))⟩
  · rw [M.fl_yes u d hb, M.fe_yes u d hb]
    obtain ⟨b1, b2, b3, b4, _⟩ := M.ok_yes u d hb
    have hd0 : (d == 0) = false := by simp; omega
    obtain ⟨q1, q2⟩ := M.div_bd u d b1 b2 b3
    by_cases hu : u < 0
    · rcases M.neg_div u d hu b3 with ⟨k1, k2⟩ | ⟨k1, k2⟩
      · have K2 : Hid (u.tdiv d - 1 = u / d) := k2
        have l1 : -1073741824 ≤ u.tdiv d := by omega
        have l2 : u.tdiv d ≤ 1073741825 := by omega
        clear k2 q1 q2
        go_enter Try.func11, Try.ntmps11
        go_wp2_with fail
        refine (Right_any _ _ _ h1 h2 h3 h4).mono ?_
        rintro e w1 ⟨rfl, hb1⟩
        rw [hb]
        have c0 : w1.cell? ⟨w.heap.size, 0, none⟩ = some (.int .i64 u) := keepC hb1 (by simp) (by simp)
        have c1 : w1.cell? ⟨w.heap.size, 1, none⟩ = some (.int .i64 d) := keepC hb1 (by simp) (by simp)
        go_wp2
        go_ret2
        exact ⟨ret_two K2.out rfl, ((Below.refl _ _).alloc (Nat.le_refl _) _).trans (hb1.mono (by simp))⟩
      · have K2 : Hid (u.tdiv d = u / d) := k2
        have k3 : ¬ u.tmod d < 0 := by omega
        clear k1 k2 q1 q2
        go_enter Try.func11, Try.ntmps11
        go_wp2_with fail
        refine (Right_any _ _ _ h1 h2 h3 h4).mono ?_
        rintro e w1 ⟨rfl, hb1⟩
        rw [hb]
        have c0 : w1.cell? ⟨w.heap.size, 0, none⟩ = some (.int .i64 u) := keepC hb1 (by simp) (by simp)
        have c1 : w1.cell? ⟨w.heap.size, 1, none⟩ = some (.int .i64 d) := keepC hb1 (by simp) (by simp)
        go_wp2
        go_ret2
        exact ⟨ret_two K2.out rfl, ((Below.refl _ _).alloc (Nat.le_refl _) _).trans (hb1.mono (by simp))⟩
    · have hu0 : 0 ≤ u := by omega
      have k3 : ¬ u % d < 0 := by have := Int.emod_nonneg u (b := d) (by omega); omega
      clear q1 q2
      go_enter Try.func11, Try.ntmps11
      go_wp2_with fail
      refine (Right_any _ _ _ h1 h2 h3 h4).mono ?_
      rintro e w1 ⟨rfl, hb1⟩
      rw [hb]
      have c0 : w1.cell? ⟨w.heap.size, 0, none⟩ = some (.int .i64 u) := keepC hb1 (by simp) (by simp)
      have c1 : w1.cell? ⟨w.heap.size, 1, none⟩ = some (.int .i64 d) := keepC hb1 (by simp) (by simp)
      go_wp2
      go_ret2
      exact ⟨ret_two rfl rfl, ((Below.refl _ _).alloc (Nat.le_refl _) _).trans (hb1.mono (by simp))⟩

set_option maxHeartbeats 400000 in
theorem refFloor_any (u d : Int) (w : World) (h1 : -9223372036854775808 ≤ u) (h2 : u ≤ 9223372036854775807) (h3 : -9223372036854775808 ≤ d) (h4 : d ≤ 9223372036854775807) :
    Calls Try.prog 12 #[.agg #[.int .i64 u, .int .i64 d]] w fun e w' => e = .returned (.tuple #[.int .i64 (M.fl u d), .int .i64 (M.fe u d)]) ∧ Below w.heap.size w w' := by
  cases hb : M.ok u d
  · rw [M.fl_no u d hb, M.fe_no u d hb]
    go_enter Try.func12, Try.ntmps12
    go_wp2_with fail
    refine (refRight_any _ _ _ h1 h2 h3 h4).mono ?_
    rintro e w1 ⟨rfl, hb1⟩
    rw [hb]
    go_wp2
    go_ret2
    exact ⟨rfl, ((Below.refl _ _).alloc (Nat.le_refl _) _).trans (hb1.mono (by simp))⟩
  · rw [M.fl_yes u d hb, M.fe_yes u d hb]
    obtain ⟨b1, b2, b3, b4, _⟩ := M.ok_yes u d hb
    have hd0 : (d == 0) = false := by simp; omega
    obtain ⟨q1, q2⟩ := M.div_bd u d b1 b2 b3
    have hor : u.tdiv d = u / d ∨ u.tdiv d = u / d + 1 := M.tdiv_is u d b3
    have HO : Hid (u.tdiv d = u / d ∨ u.tdiv d = u / d + 1) := hor
    clear hor
    go_enter Try.func12, Try.ntmps12
    go_wp2_with fail
    refine (refRight_any _ _ _ h1 h2 h3 h4).mono ?_
    rintro e w1 ⟨rfl, hb1⟩
    rw [hb]
    have c0 : w1.cell? ⟨w.heap.size, 0, none⟩ = some (.int .i64 u) := keepC hb1 (by simp) (by simp)
    have c1 : w1.cell? ⟨w.heap.size, 1, none⟩ = some (.int .i64 d) := keepC hb1 (by simp) (by simp)
    go_wp2
    go_loop [4] (fun t => ∃ n : Int, t = .int .i64 n ∧ Hid (n = u / d ∨ n = u / d + 1)) (fun t => (intOf t - u / d).toNat)
    case atStart => exact ⟨_, rfl, HO⟩
    case round =>
      obtain ⟨n, rfl, hn⟩ := hrel
      have n1 : -1073741824 ≤ n := by have := hn.out; omega
      have n2 : n ≤ 1073741825 := by have := hn.out; omega
      have nb := M.mul_bd2 n d (by omega) (by omega) (by omega) (by omega)
      by_cases hc : n = u / d
      · have k := M.fl_le u d n b3 hc
        have K : Hid (n = u / d) := hc
        clear hc
        go_wp2
        go_ret2
        exact ⟨ret_two K.out rfl, ((Below.refl _ _).alloc (Nat.le_refl _) _).trans (hb1.mono (by simp))⟩
      · have hc' : n = u / d + 1 := by have := hn.out; omega
        have k := M.fl_gt u d n b3 hc'
        have K : Hid (n = u / d + 1) := hc'
        clear hc hc'
        go_wp2
        go_round
        case rel => exact ⟨n - 1, rfl, Or.inl (by have := K.out; omega)⟩
        case measure => simp only [intOf]; have := K.out; omega

set_option maxHeartbeats 400000 in
theorem refMake_no (u d : Int) (w : World) (h : d < 1) :
    Calls Try.prog 8 #[.int .i64 u, .int .i64 d] w fun e w' => e = .returned (.tuple #[.agg #[.int .i64 (M.mu u d), .int .i64 (M.md u d)], .int .i64 (M.me u d)]) ∧ Below w.heap.size w w' := by
  rw [M.mu_no u d h, M.md_no u d h, M.me_no u d h]
  go_enter Try.func8, Try.ntmps8
  go_wp2
  go_returns
  exact ⟨rfl, by go_grown⟩

set_option maxHeartbeats 400000 in
theorem refMake_mid (u d : Int) (w : World) (h1 : -9223372036854775807 ≤ u) (h2 : u ≤ 9223372036854775807) (h3 : 1 ≤ d) (h4 : d ≤ 9223372036854775807) :
    Calls Try.prog 8 #[.int .i64 u, .int .i64 d] w fun e w' => e = .returned (.tuple #[.agg #[.int .i64 (M.up u d), .int .i64 (M.dn u d)], .int .i64 (M.er u d)]) ∧ Below w.heap.size w w' := by
  have hd0 : ¬ d < 1 := by omega
  have hg := M.gi_pos u d h3
  have hg0 : (M.gi u d == 0) = false := by simp; omega
  have hz : ((u == -u) = true ∧ (u != 0) = false) ∨ ((u == -u) = false) := by
    by_cases hu : u = 0
    · left; subst hu; exact ⟨rfl, rfl⟩
    · right; simp; omega
  have la := M.lu_abs u d
  have lb1 : -9223372036854775807 ≤ M.lu u d := by omega
  have lb2 : M.lu u d ≤ 9223372036854775807 := by omega
  clear la
  have hld := M.ld_pos u d h3
  cases hb : M.bd (M.lu u d) (M.ld u d)
  · rw [M.up_no u d hb, M.dn_no u d hb, M.er_no u d hb]
    have hbb := M.bd_no _ _ hb
    have hs : (1073741824 < ((M.lu u d).natAbs : Int)) ∨ (¬ 1073741824 < ((M.lu u d).natAbs : Int) ∧ 1073741824 < d / M.gi u d) := by
      change _ ∨ (_ ∧ 1073741824 < M.ld u d)
      omega
    clear hbb hld
    rcases hz with ⟨hz1, hz2⟩ | hz1
    all_goals
      rcases hs with hs1 | ⟨hs1, hs2⟩
      all_goals
        go_enter Try.func8, Try.ntmps8
        go_wp2_with fail
        refine (abs_any _ _ h1 h2).mono ?_
        rintro e w1 ⟨rfl, rfl⟩
        go_wp2_with fail
        refine (Divisor_all _ _ _ (by omega) (by omega) h3 h4).mono ?_
        rintro e w1 ⟨rfl, rfl⟩
        rw [M.gi_abs]
        go_wp2_with fail
        rw [show u.tdiv (M.gi u d) = M.lu u d from rfl]
        refine (abs_any _ _ lb1 lb2).mono ?_
        rintro e w1 ⟨rfl, rfl⟩
        go_wp2
        go_returns
        exact ⟨rfl, by go_grown⟩
  · rw [M.up_yes u d hb, M.dn_yes u d hb, M.er_yes u d hb]
    have hbb := M.bd_yes _ _ hb
    have hs1 : ¬ 1073741824 < ((M.lu u d).natAbs : Int) := by omega
    have hs2 : ¬ 1073741824 < d / M.gi u d := by change ¬ 1073741824 < M.ld u d; omega
    clear hbb hld
    rcases hz with ⟨hz1, hz2⟩ | hz1
    all_goals
      go_enter Try.func8, Try.ntmps8
      go_wp2_with fail
      refine (abs_any _ _ h1 h2).mono ?_
      rintro e w1 ⟨rfl, rfl⟩
      go_wp2_with fail
      refine (Divisor_all _ _ _ (by omega) (by omega) h3 h4).mono ?_
      rintro e w1 ⟨rfl, rfl⟩
      rw [M.gi_abs]
      go_wp2_with fail
      rw [show u.tdiv (M.gi u d) = M.lu u d from rfl]
      refine (abs_any _ _ lb1 lb2).mono ?_
      rintro e w1 ⟨rfl, rfl⟩
      go_wp2
      go_region
      go_wp2
      go_returns
      exact ⟨rfl, by go_grown⟩
end Go.Proofs.Ytnlbkklndlgojaa
