/- What the circle's number k comes to (by a function). -/
import Derived.Test.YtjfmpgfpehnnjahVo3
namespace Go.Proofs.Ytjfmpgfpehnnjah.Vo
open Go.RowKit
set_option linter.unusedSimpArgs false
set_option linter.unusedVariables false

set_option maxHeartbeats 1000000 in
theorem times_any (i : Nat) (w : World) (hi : i < 63) :
    Calls Try.prog 60 #[.complex .f64 (re i) (im i), .complex .f64 4607179706000002317 4582730748936808062] w fun e w' => e = .returned (.complex .f64 (re (i + 1)) (im (i + 1))) ∧ w' = w := by
  obtain ⟨a, b, c, d, h1, h2, h3, h4, h5, h6⟩ := turn_ok i hi
  have m1 := fmul h1
  have m2 := fmul h2
  have m3 := fsub h3
  have m4 := fmul h4
  have m5 := fmul h5
  have m6 := fadd h6
  clear h1 h2 h3 h4 h5 h6
  go_enter Try.func60, Try.ntmps60
  go_wp2_with (first | simp only [m1] | simp only [m2] | simp only [m3] | simp only [m4] | simp only [m5] | simp only [m6])
  go_ret
  exact ⟨rfl, rfl⟩
theorem ret_cx {k : FloatKind} {a b : Nat} (h : a = b) : Ending.returned (.float k a) = .returned (.float k b) := by rw [h]
set_option maxHeartbeats 1000000 in
theorem quarterNumber_any (n : Nat) (w : World) (hn : n ≤ 64) :
    Calls Try.prog 48 #[.int .u32 n] w fun e w' => e = .returned (.float .f64 (qr n)) ∧ w' = w := by
  by_cases c : n = 64
  · subst c
    rw [show qr 64 = 4607182418800017408 from rfl]
    go_enter Try.func48, Try.ntmps48
    go_wp2
    go_ret
    exact ⟨rfl, rfl⟩
  have hlt : n < 64 := by omega
  have hne : ((n : Int) == 64) = false := by simp; omega
  rw [qr_in hlt]
  go_enter Try.func48, Try.ntmps48
  go_wp2
  go_loop [3, 7] (fun z i => ∃ k X Y : Nat, k ≤ n ∧ i = .int .u32 k ∧ z = .complex .f64 X Y ∧ Hid (X = re k ∧ Y = im k)) (fun _ i => n - (intOf i).toNat)
  case atStart => exact ⟨0, 4607182418800017408, 0, Nat.zero_le _, rfl, rfl, tab_re.1.symm, tab_re.2.symm⟩
  case round =>
    obtain ⟨k, X, Y, hk, rfl, rfl, hX⟩ := hrel
    by_cases hl : k < n
    · have ht := times_any k w (by omega)
      rw [← hX.out.1, ← hX.out.2] at ht
      clear hX
      go_wp2_with fail
      refine ht.mono ?_
      rintro e w1 ⟨rfl, hw⟩
      rw [hw]
      go_wp2
      go_round
      case rel => exact ⟨k + 1, _, _, by omega, by go_num, rfl, rfl, rfl⟩
      case measure => simp [intOf]; omega
    · have HE : Hid (Y = im n) := by rw [show n = k by omega]; exact hX.out.2
      clear hX
      go_wp2
      go_ret
      exact ⟨ret_float HE.out, rfl⟩
theorem circle_any : CirC := by
  intro k w hk
  by_cases c1 : k ≤ 64
  · rw [show cr k = qr k from if_pos c1]
    go_enter Try.func59, Try.ntmps59
    go_wp2_with fail
    refine (quarterNumber_any k w c1).mono ?_
    rintro e w1 ⟨rfl, hw⟩
    rw [hw]
    go_wp2
    go_ret
    exact ⟨rfl, by go_grown⟩
  by_cases c2 : k ≤ 128
  · rw [show cr k = qr (128 - k) by unfold cr; rw [if_neg c1, if_pos c2]]
    have q := quarterNumber_any (128 - k) w (by omega)
    rw [show ((128 - k : Nat) : Int) = 128 - (k : Int) by omega] at q
    go_enter Try.func59, Try.ntmps59
    go_wp2_with fail
    refine q.mono ?_
    rintro e w1 ⟨rfl, hw⟩
    rw [hw]
    go_wp2
    go_ret
    exact ⟨rfl, by go_grown⟩
  by_cases c3 : k ≤ 192
  · rw [show cr k = ng (qr (k - 128)) by unfold cr; rw [if_neg c1, if_neg c2, if_pos c3]]
    have q := quarterNumber_any (k - 128) w (by omega)
    rw [show ((k - 128 : Nat) : Int) = (k : Int) - 128 by omega] at q
    go_enter Try.func59, Try.ntmps59
    go_wp2_with fail
    refine q.mono ?_
    rintro e w1 ⟨rfl, hw⟩
    rw [hw]
    go_wp2_with (simp only [fneg])
    go_ret
    exact ⟨rfl, by go_grown⟩
  · rw [show cr k = ng (qr (256 - k)) by unfold cr; rw [if_neg c1, if_neg c2, if_neg c3]]
    have q := quarterNumber_any (256 - k) w (by omega)
    rw [show ((256 - k : Nat) : Int) = 256 - (k : Int) by omega] at q
    go_enter Try.func59, Try.ntmps59
    go_wp2_with fail
    refine q.mono ?_
    rintro e w1 ⟨rfl, hw⟩
    rw [hw]
    go_wp2_with (simp only [fneg])
    go_ret
    exact ⟨rfl, by go_grown⟩
end Go.Proofs.Ytjfmpgfpehnnjah.Vo
