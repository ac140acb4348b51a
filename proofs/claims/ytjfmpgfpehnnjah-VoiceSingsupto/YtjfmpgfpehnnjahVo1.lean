/- What the document's Turned, Quarter, At and Sine come to. -/
import Derived.Test.YtjfmpgfpehnnjahVoMath2
import Derived.Test.YtjfmpgfpehnnjahRows
import Derived.WalkKit
import Derived.Handy
import Derived.RegionTactic
import Derived.ChangeAlike
import Derived.Below
import Derived.Outline
import Derived.Deep.QuietTactic
import Derived.BigQuiet
import Derived.WalkSmall
import Derived.LoopTactic
import Derived.WalkLawsBesides
import Derived.Laws.Externs
namespace Go.Proofs.Ytjfmpgfpehnnjah.Vo
open Go.RowKit
set_option linter.unusedSimpArgs false
set_option linter.unusedVariables false

theorem fmul {x y r : Nat} (h : Ieee.double.mul x y = some r) (t : TypeId) (w : World) : (binOp .mul t (.float .f64 x) (.float .f64 y)).run Try.prog w = .ok (.float .f64 r) w := run_float_arith w .mul t .f64 x y r h
theorem fquo {x y r : Nat} (h : Ieee.double.div x y = some r) (t : TypeId) (w : World) : (binOp .quo t (.float .f64 x) (.float .f64 y)).run Try.prog w = .ok (.float .f64 r) w := run_float_arith w .quo t .f64 x y r h
theorem fadd {x y r : Nat} (h : Ieee.double.add x y = some r) (t : TypeId) (w : World) : (binOp .add t (.float .f64 x) (.float .f64 y)).run Try.prog w = .ok (.float .f64 r) w := run_float_arith w .add t .f64 x y r h
theorem fsub {x y r : Nat} (h : Ieee.double.sub x y = some r) (t : TypeId) (w : World) : (binOp .sub t (.float .f64 x) (.float .f64 y)).run Try.prog w = .ok (.float .f64 r) w := run_float_arith w .sub t .f64 x y r h
theorem ret_float {k : FloatKind} {a b : Nat} (h : a = b) : Ending.returned (.float k a) = .returned (.float k b) := by rw [h]
theorem ret_two {k l : FloatKind} {a b c d : Nat} (h : a = b) (h2 : c = d) : Ending.returned (.tuple #[.float k a, .float l c]) = .returned (.tuple #[.float k b, .float l d]) := by rw [h, h2]

set_option maxHeartbeats 1000000 in
theorem refTurned_any (n : Nat) (w : World) (hn : n < 64) :
    Calls Try.prog 71 #[.int .i64 n] w fun e w' => e = .returned (.tuple #[.float .f64 (re n), .float .f64 (im n)]) ∧ w' = w := by
  go_enter Try.func71, Try.ntmps71
  go_wp2
  go_loop [4, 5, 6] (fun s t i => ∃ k X Y : Nat, k ≤ n ∧ i = .int .i64 k ∧ s = .float .f64 X ∧ t = .float .f64 Y ∧ Hid (X = re k ∧ Y = im k)) (fun _ _ i => n - (intOf i).toNat)
  case atStart => exact ⟨0, 4607182418800017408, 0, Nat.zero_le _, rfl, rfl, rfl, tab_re.1.symm, tab_re.2.symm⟩
  case round =>
    obtain ⟨k, X, Y, hk, rfl, rfl, rfl, hX⟩ := hrel
    by_cases hlt : k < n
    · obtain ⟨a, b, c, d, h1, h2, h3, h4, h5, h6⟩ := turn_ok k (by omega)
      rw [← hX.out.1] at h1 h4
      rw [← hX.out.2] at h2 h5
      have m1 := fmul h1
      have m2 := fmul h2
      have m3 := fsub h3
      have m4 := fmul h4
      have m5 := fmul h5
      have m6 := fadd h6
      clear h1 h2 h3 h4 h5 h6
      go_wp2_with (first | simp only [m1] | simp only [m2] | simp only [m3] | simp only [m4] | simp only [m5] | simp only [m6])
      go_round
      case rel => exact ⟨k + 1, _, _, by omega, by go_num, rfl, rfl, rfl, rfl⟩
      case measure => simp [intOf]; omega
    · have HE : Hid (X = re n ∧ Y = im n) := by rw [show n = k by omega]; exact hX
      clear hX
      go_wp2
      go_returns
      exact ⟨ret_two HE.out.1 HE.out.2, rfl⟩
theorem qr_in {n : Nat} (h : n < 64) : qr n = im n := if_neg (by omega)
theorem refQuarter_any (n : Nat) (w : World) (hn : n ≤ 64) :
    Calls Try.prog 66 #[.int .i64 n] w fun e w' => e = .returned (.float .f64 (qr n)) ∧ w' = w := by
  by_cases c : n = 64
  · subst c
    rw [show qr 64 = 4607182418800017408 from rfl]
    go_enter Try.func66, Try.ntmps66
    go_wp2
    go_ret
    exact ⟨rfl, rfl⟩
  · have hlt : n < 64 := by omega
    rw [qr_in hlt]
    go_enter Try.func66, Try.ntmps66
    go_wp2_with fail
    refine (refTurned_any n _ hlt).mono ?_
    rintro e w1 ⟨rfl, hw⟩
    rw [hw]
    go_wp2
    go_ret
    exact ⟨rfl, rfl⟩
theorem fneg (b : Nat) (w : World) : (Op.unary .neg (.float .f64 b)).run Try.prog w = .ok (.float .f64 (ng b)) w := rfl
theorem refAt_low (k : Nat) (w : World) (hk : k ≤ 128) :
    Calls Try.prog 61 #[.int .i64 k] w fun e w' => e = .returned (.float .f64 (cr k)) ∧ w' = w := by
  have hm : (k : Int) % 256 = k := by omega
  by_cases c : k ≤ 64
  · rw [show cr k = qr k from if_pos c]
    go_enter Try.func61, Try.ntmps61
    go_wp2_with fail
    refine (refQuarter_any k _ c).mono ?_
    rintro e w1 ⟨rfl, hw⟩
    rw [hw]
    go_wp2
    go_ret
    exact ⟨rfl, rfl⟩
  · rw [show cr k = qr (128 - k) by unfold cr; rw [if_neg c, if_pos hk]]
    go_enter Try.func61, Try.ntmps61
    go_wp2_with fail
    have e1 : (128 : Int) - (k : Int) = ((128 - k : Nat) : Int) := by omega
    rw [e1]
    refine (refQuarter_any (128 - k) _ (by omega)).mono ?_
    rintro e w1 ⟨rfl, hw⟩
    rw [hw]
    go_wp2
    go_ret
    exact ⟨rfl, rfl⟩
theorem cr_high (k : Nat) (h : 128 < k) (h2 : k < 256) : cr k = ng (cr (k - 128)) := by
  unfold cr
  rw [if_neg (by omega), if_neg (by omega)]
  by_cases c : k ≤ 192
  · rw [if_pos c, if_pos (by omega)]
  · rw [if_neg c, if_neg (by omega), if_pos (by omega), show 128 - (k - 128) = 256 - k by omega]
theorem refAt_mid (k : Nat) (w : World) (hk : k < 256) :
    Calls Try.prog 61 #[.int .i64 k] w fun e w' => e = .returned (.float .f64 (cr k)) ∧ w' = w := by
  by_cases c : k ≤ 128
  · exact refAt_low k w c
  · have hm : (k : Int) % 256 = k := by omega
    rw [cr_high k (by omega) hk]
    go_enter Try.func61, Try.ntmps61
    go_wp2_with fail
    have e1 : (k : Int) - 128 = ((k - 128 : Nat) : Int) := by omega
    rw [e1]
    refine (refAt_low (k - 128) _ (by omega)).mono ?_
    rintro e w1 ⟨rfl, hw⟩
    rw [hw]
    go_wp2_with (simp only [fneg])
    go_ret
    exact ⟨rfl, rfl⟩
theorem refAt_any (k : Nat) (w : World) (hk : k ≤ 256) :
    Calls Try.prog 61 #[.int .i64 k] w fun e w' => e = .returned (.float .f64 (cr (k % 256))) ∧ w' = w := by
  by_cases c : k = 256
  · subst c
    rw [show cr (256 % 256) = qr 0 from rfl]
    go_enter Try.func61, Try.ntmps61
    go_wp2_with fail
    refine (refQuarter_any 0 _ (by decide)).mono ?_
    rintro e w1 ⟨rfl, hw⟩
    rw [hw]
    go_wp2
    go_ret
    exact ⟨rfl, rfl⟩
  · rw [show k % 256 = k by omega]; exact refAt_mid k w (by omega)
end Go.Proofs.Ytjfmpgfpehnnjah.Vo
