/- The document's Make of the least number that there is, and Make of anything. -/
import Derived.Test.YtgcnmmjgdpdmbadFW3
namespace Go.Proofs.Ytgcnmmjgdpdmbad.F
open Go.RowKit

theorem neg_least (u : Int) (h : u = -9223372036854775808) : (u == wrap64 (-u)) = true := by
  subst h; simp [wrap64]

set_option maxHeartbeats 400000 in
theorem refMake_least (u d : Int) (w : World) (hu : u = -9223372036854775808) (h3 : 1 ≤ d) (h4 : d ≤ 9223372036854775807) :
    Calls Try.prog 19 #[.int .i64 u, .int .i64 d] w fun e w' => e = .returned (.tuple #[.agg #[.int .i64 (M.up u d), .int .i64 (M.dn u d)], .int .i64 (M.er u d)]) ∧ Below w.heap.size w w' := by
  have hd0 : ¬ d < 1 := by omega
  have hn := neg_least u hu
  have hu2 : u ≤ -2 := by omega
  have hu0 : (u != 0) = true := by simp; omega
  have HS : Hid (M.MQ d u d) := M.mq_start d u hu
  have HU : Hid (u = -9223372036854775808) := hu
  clear hu
  go_enter Try.func19, Try.ntmps19
  go_wp2
  go_loop [0, 1] (fun p q => ∃ x y : Int, p = .int .i64 x ∧ q = .int .i64 y ∧ Hid (M.MQ d x y) ∧ 1 ≤ y ∧ y ≤ d) (fun _ q => (intOf q).toNat)
  case atStart => exact ⟨u, d, rfl, rfl, HS, by omega, by omega⟩
  case round =>
    obtain ⟨x, y, rfl, rfl, hq, hy1, hy2⟩ := hrel
    obtain ⟨x1, x2⟩ := M.mq_bd d x y hq.out
    by_cases he : y % 2 = 0
    · have hy' : (y % 2 == 0) = true := by simp [he]
      have hq2 : Hid (M.MQ d (x.tdiv 2) (y / 2)) := M.mq_step d x y hq.out h4 (by omega) he
      have hy3 : 2 ≤ y := by omega
      obtain ⟨z1, z2⟩ := M.mq_bd d _ _ hq2.out
      clear he hq
      go_wp2
      go_round
      case rel => exact ⟨x.tdiv 2, y / 2, rfl, rfl, hq2, by omega, by omega⟩
      case measure => simp only [intOf]; omega
    · have hy' : (y % 2 == 0) = false := by simp; omega
      have ho : y % 2 = 1 := by omega
      obtain ⟨e1, e2⟩ := M.mq_end d x y u hq.out HU.out h3 hy1 ho
      clear he ho
      cases hb : M.bd x y
      · have hb' : M.bd (M.lu u d) (M.ld u d) = false := by rw [e1, e2]; exact hb
        have E1 := M.up_no u d hb'
        have E2 := M.dn_no u d hb'
        have E3 := M.er_no u d hb'
        have HE : Hid (M.up u d = 0 ∧ M.dn u d = 0 ∧ M.er u d = 4) := ⟨E1, E2, E3⟩
        have hbb := M.bd_no _ _ hb
        have hs : x < -1073741824 ∨ (¬ x < -1073741824 ∧ 1073741824 < y) := by omega
        clear e1 e2 E1 E2 E3 hb hb' hbb
        rcases hs with s1 | ⟨s1, s2⟩
        all_goals
          go_wp2
          go_returns
          exact ⟨by rw [HE.out.1, HE.out.2.1, HE.out.2.2], by go_grown⟩
      · have hb' : M.bd (M.lu u d) (M.ld u d) = true := by rw [e1, e2]; exact hb
        have E1 := M.up_yes u d hb'
        have E2 := M.dn_yes u d hb'
        have E3 := M.er_yes u d hb'
        rw [e1] at E1
        rw [e2] at E2
        have HE : Hid (M.up u d = x ∧ M.dn u d = y ∧ M.er u d = 0) := ⟨E1, E2, E3⟩
        have hbb := M.bd_yes _ _ hb
        have s1 : ¬ x < -1073741824 := by omega
        have s2 : ¬ 1073741824 < y := by omega
        clear e1 e2 E1 E2 E3 hb hb' hbb
        go_wp2
        go_returns
        exact ⟨by rw [HE.out.1, HE.out.2.1, HE.out.2.2], by go_grown⟩

theorem refMake_any (u d : Int) (w : World) (h1 : -9223372036854775808 ≤ u) (h2 : u ≤ 9223372036854775807) (h4 : d ≤ 9223372036854775807) :
    Calls Try.prog 19 #[.int .i64 u, .int .i64 d] w fun e w' => e = .returned (.tuple #[.agg #[.int .i64 (M.mu u d), .int .i64 (M.md u d)], .int .i64 (M.me u d)]) ∧ Below w.heap.size w w' := by
  by_cases h : d < 1
  · exact refMake_no u d w h
  · have h3 : 1 ≤ d := by omega
    rw [M.mu_yes u d h3, M.md_yes u d h3, M.me_yes u d h3]
    by_cases hu : u = -9223372036854775808
    · exact refMake_least u d w hu h3 h4
    · exact refMake_mid u d w (by omega) h2 h3 h4
end Go.Proofs.Ytgcnmmjgdpdmbad.F
