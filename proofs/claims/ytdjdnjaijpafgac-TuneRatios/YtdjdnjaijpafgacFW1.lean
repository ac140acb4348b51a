/- What the program's divisor comes to: the greatest common divisor of its two numbers. -/
import Derived.Test.YtdjdnjaijpafgacRows
import Derived.Test.YtdjdnjaijpafgacFMath
import Derived.WalkKit
import Derived.Handy
import Derived.RegionTactic
import Derived.ChangeAlike
import Derived.Below
import Derived.Outline
import Derived.Deep.QuietTactic
import Derived.BigQuiet
namespace Go.Proofs.Ytdjdnjaijpafgac.F
open Go.RowKit

theorem ret_int {k : IntKind} {a b : Int} (h : a = b) : Ending.returned (.int k a) = .returned (.int k b) := by rw [h]

theorem abs_gi (u d x : Int) (hg : Int.gcd x 0 = Int.gcd u d) (h : 0 ≤ x) : x = M.gi u d := by
  unfold M.gi; rw [← hg, Int.gcd_zero_right]; omega

theorem abs_gi' (u d x : Int) (hg : Int.gcd x 0 = Int.gcd u d) (h : x < 0) : -x = M.gi u d := by
  unfold M.gi; rw [← hg, Int.gcd_zero_right]; omega

set_option maxHeartbeats 400000 in
theorem divisor_any (u d : Int) (w : World) (h1 : 1 ≤ d) (h2 : d ≤ 9223372036854775807) (_h3 : -9223372036854775808 ≤ u) (_h4 : u ≤ 9223372036854775807) :
    Calls Try.prog 15 #[.int .i64 u, .int .i64 d] w fun e w' => e = .returned (.int .i64 (M.gi u d)) ∧ Below w.heap.size w w' := by
  have hd0 : (d == 0) = false := by simp; omega
  have hb0 := M.tmod_bd u d (by omega)
  go_enter Try.func15, Try.ntmps15
  go_wp2
  go_region
  go_wp2
  go_loopw [5, 6] (fun a b wr => ∃ x y : Int, a = .int .i64 x ∧ b = .int .i64 y ∧ Int.gcd x y = Int.gcd u d ∧ -9223372036854775807 ≤ x ∧ x ≤ 9223372036854775807 ∧ -9223372036854775807 ≤ y ∧ y ≤ 9223372036854775807 ∧ Below w.heap.size w wr) (fun _ b _ => (intOf b).natAbs)
  case atStart => exact ⟨d, u.tmod d, rfl, rfl, M.gcd_tmod u d, by omega, by omega, by omega, by omega, (Below.refl _ _).drew⟩
  case round =>
    obtain ⟨x, y, rfl, rfl, hg, hx1, hx2, hy1, hy2, hbel⟩ := hrel
    have HG : Hid (Int.gcd x y = Int.gcd u d) := hg
    clear hg
    by_cases hy : y = 0
    · subst hy
      by_cases hx : x < 0
      · go_wp2
        go_ret
        exact ⟨ret_int (abs_gi' u d x HG.out hx), hbel⟩
      · have hx' : 0 ≤ x := by omega
        go_wp2
        go_ret
        exact ⟨ret_int (abs_gi u d x HG.out hx'), hbel⟩
    · have hy0 : (y == 0) = false := by simp; omega
      have hb := M.tmod_bd x y hy
      have HG2 : Hid (Int.gcd y (x.tmod y) = Int.gcd u d) := by show _ = _; rw [M.gcd_tmod]; exact HG.out
      go_wp2
      go_region
      go_wp2
      go_roundw
      case rel => exact ⟨y, x.tmod y, rfl, rfl, HG2.out, by omega, by omega, by omega, by omega, hbel.drew⟩
      case measure => simp only [intOf]; exact hb

end Go.Proofs.Ytdjdnjaijpafgac.F
