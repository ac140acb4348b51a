/- What the document's Turned, Quarter, At and Sine come to. -/
import Derived.Test.YtjpcebnbkdekkaaGU1
import Derived.Test.YtjpcebnbkdekkaaRows
import Derived.WalkKit
import Derived.Handy
import Derived.RegionTactic
import Derived.ChangeAlike
import Derived.Below
import Derived.Outline
import Derived.Deep.QuietTactic
import Derived.BigQuiet
import Derived.WalkSmall
import Derived.LoopTactic
import Derived.WalkLawsBesides
import Derived.Laws.Externs
namespace Go.Proofs.Ytjpcebnbkdekkaa.Vo
open Go.RowKit
set_option linter.unusedSimpArgs false
set_option linter.unusedVariables false

theorem fmul {x y r : Nat} (h : Ieee.double.mul x y = some r) (t : TypeId) (w : World) : (binOp .mul t (.float .f64 x) (.float .f64 y)).run Try.prog w = .ok (.float .f64 r) w := run_float_arith w .mul t .f64 x y r h
theorem fquo {x y r : Nat} (h : Ieee.double.div x y = some r) (t : TypeId) (w : World) : (binOp .quo t (.float .f64 x) (.float .f64 y)).run Try.prog w = .ok (.float .f64 r) w := run_float_arith w .quo t .f64 x y r h
theorem fadd {x y r : Nat} (h : Ieee.double.add x y = some r) (t : TypeId) (w : World) : (binOp .add t (.float .f64 x) (.float .f64 y)).run Try.prog w = .ok (.float .f64 r) w := run_float_arith w .add t .f64 x y r h
theorem fsub {x y r : Nat} (h : Ieee.double.sub x y = some r) (t : TypeId) (w : World) : (binOp .sub t (.float .f64 x) (.float .f64 y)).run Try.prog w = .ok (.float .f64 r) w := run_float_arith w .sub t .f64 x y r h
theorem ret_float {k : FloatKind} {a b : Nat} (h : a = b) : Ending.returned (.float k a) = .returned (.float k b) := by rw [h]
theorem ret_two {k l : FloatKind} {a b c d : Nat} (h : a = b) (h2 : c = d) : Ending.returned (.tuple #[.float k a, .float l c]) = .returned (.tuple #[.float k b, .float l d]) := by rw [h, h2]

set_option maxHeartbeats 1000000 in
theorem refTurned_any (n : Nat) (w : World) (hn : n < 64) :
    Calls Try.prog 72 #[.int .i64 n] w fun e w' => e = .returned (.tuple #[.float .f64 (re n), .float .f64 (im n)]) ∧ w' = w := by
  go_enter Try.func72, Try.ntmps72
  go_wp2
  go_loop [4, 5, 6] (fun s t i => ∃ k X Y : Nat, k ≤ n ∧ i = .int .i64 k ∧ s = .float .f64 X ∧ t = .float .f64 Y ∧ Hid (X = re k ∧ Y = im k)) (fun _ _ i => n - (intOf i).toNat)
  case atStart => exact ⟨0, 4607182418800017408, 0, Nat.zero_le _, rfl, rfl, rfl, tab_re.1.symm, tab_re.2.symm⟩
  case round =>
    obtain ⟨k, X, Y, hk, rfl, rfl, rfl, hX⟩ := hrel
    by_cases hlt : k < n
    · obtain ⟨a, b, c, d, h1, h2, h3, h4, h5, h6⟩ := turn_ok k (by omega)
      rw [← hX.out.1] at h1 h4
      rw [← hX.out.2] at h2 h5
      have m1 := fmul h1
      have m2 := fmul h2
      have m3 := fsub h3
      have m4 := fmul h4
      have m5 := fmul h5
      have m6 := fadd h6
      clear h1 h2 h3 h4 h5 h6
      go_wp2_with (first | simp only [m1] | simp only [m2] | simp only [m3] | simp only [m4] | simp only [m5] | simp only [m6])
      go_round
      case rel => exact ⟨k + 1, _, _, by omega, by go_num, rfl, rfl, rfl, rfl⟩
      case measure => simp [intOf]; omega
    · have HE : Hid (X = re n ∧ Y = im n) := by rw [show n = k by omega]; exact hX
      clear hX
      go_wp2
      go_returns
      exact ⟨ret_two HE.out.1 HE.out.2, rfl⟩
theorem qr_in {n : Nat} (h : n < 64) : qr n = im n := if_neg (by omega)
theorem refQuarter_any (n : Nat) (w : World) (hn : n ≤ 64) :
    Calls Try.prog 65 #[.int .i64 n] w fun e w' => e = .returned (.float .f64 (qr n)) ∧ w' = w := by
  by_cases c : n = 64
  · subst c
    rw [show qr 64 = 4607182418800017408 from rfl]
    go_enter Try.func65, Try.ntmps65
    go_wp2
    go_ret
    exact ⟨rfl, rfl⟩
  · have hlt : n < 64 := by omega
    rw [qr_in hlt]
    go_enter Try.func65, Try.ntmps65
    go_wp2_with fail
    refine (refTurned_any n _ hlt).mono ?_
    rintro e w1 ⟨rfl, hw⟩
    rw [hw]
    go_wp2
    go_ret
    exact ⟨rfl, rfl⟩
theorem fneg (b : Nat) (w : World) : (Op.unary .neg (.float .f64 b)).run Try.prog w = .ok (.float .f64 (ng b)) w := rfl
theorem refAt_low (k : Nat) (w : World) (hk : k ≤ 128) :
    Calls Try.prog 56 #[.int .i64 k] w fun e w' => e = .returned (.float .f64 (cr k)) ∧ w' = w := by
  have hm : (k : Int) % 256 = k := by omega
  by_cases c : k ≤ 64
  · rw [show cr k = qr k from if_pos c]
    go_enter Try.func56, Try.ntmps56
    go_wp2_with fail
    refine (refQuarter_any k _ c).mono ?_
    rintro e w1 ⟨rfl, hw⟩
    rw [hw]
    go_wp2
    go_ret
    exact ⟨rfl, rfl⟩
  · rw [show cr k = qr (128 - k) by unfold cr; rw [if_neg c, if_pos hk]]
    go_enter Try.func56, Try.ntmps56
    go_wp2_with fail
    have e1 : (128 : Int) - (k : Int) = ((128 - k : Nat) : Int) := by omega
    rw [e1]
    refine (refQuarter_any (128 - k) _ (by omega)).mono ?_
    rintro e w1 ⟨rfl, hw⟩
    rw [hw]
    go_wp2
    go_ret
    exact ⟨rfl, rfl⟩
theorem cr_high (k : Nat) (h : 128 < k) (h2 : k < 256) : cr k = ng (cr (k - 128)) := by
  unfold cr
  rw [if_neg (by omega), if_neg (by omega)]
  by_cases c : k ≤ 192
  · rw [if_pos c, if_pos (by omega)]
  · rw [if_neg c, if_neg (by omega), if_pos (by omega), show 128 - (k - 128) = 256 - k by omega]
theorem refAt_mid (k : Nat) (w : World) (hk : k < 256) :
    Calls Try.prog 56 #[.int .i64 k] w fun e w' => e = .returned (.float .f64 (cr k)) ∧ w' = w := by
  by_cases c : k ≤ 128
  · exact refAt_low k w c
  · have hm : (k : Int) % 256 = k := by omega
    rw [cr_high k (by omega) hk]
    go_enter Try.func56, Try.ntmps56
    go_wp2_with fail
    have e1 : (k : Int) - 128 = ((k - 128 : Nat) : Int) := by omega
    rw [e1]
    refine (refAt_low (k - 128) _ (by omega)).mono ?_
    rintro e w1 ⟨rfl, hw⟩
    rw [hw]
    go_wp2_with (simp only [fneg])
    go_ret
    exact ⟨rfl, rfl⟩
theorem refAt_any (k : Nat) (w : World) (hk : k ≤ 256) :
    Calls Try.prog 56 #[.int .i64 k] w fun e w' => e = .returned (.float .f64 (cr (k % 256))) ∧ w' = w := by
  by_cases c : k = 256
  · subst c
    rw [show cr (256 % 256) = qr 0 from rfl]
    go_enter Try.func56, Try.ntmps56
    go_wp2_with fail
    refine (refQuarter_any 0 _ (by decide)).mono ?_
    rintro e w1 ⟨rfl, hw⟩
    rw [hw]
    go_wp2
    go_ret
    exact ⟨rfl, rfl⟩
  · rw [show k % 256 = k by omega]; exact refAt_mid k w (by omega)
end Go.Proofs.Ytjpcebnbkdekkaa.Vo

/- What the document's Sine, Shape and Same come to. -/
namespace Go.Proofs.Ytjpcebnbkdekkaa.Vo
open Go.RowKit
set_option linter.unusedSimpArgs false
set_option linter.unusedVariables false

theorem sv_nat (n : Nat) : sv (n : Int) = sn (n / 16777216) (fp (n : Int)) := by unfold sv; congr 1
theorem nx_is (n : Nat) (h : n < 4294967296) : nx (n / 16777216) = (n / 16777216 + 1) % 256 := rfl
set_option maxHeartbeats 1000000 in
theorem refSine_any (n : Nat) (w : World) (hn : n < 4294967296) :
    Calls Try.prog 47 #[.int .u32 n] w fun e w' => e = .returned (.float .f64 (sv n)) ∧ w' = w := by
  obtain ⟨f1, f2⟩ := fp_ok (n : Int)
  have hk : n / 16777216 < 256 := by omega
  have t := tab _ hk
  obtain ⟨r, p1, p2, p3, p4, p5⟩ := part_ok (n / 16777216) (fp n) hk f2
  obtain ⟨s1, s2, s3, s4, s5⟩ := sine_ok (n / 16777216) (fp n) hk f2
  rw [sv_nat]
  have m1 := fquo f1
  have m2 := fsub t.s1
  have m3 := fmul p1
  have m4 := fadd s1
  have hc : cr (n / 16777216 % 256) = cr (n / 16777216) := by rw [Nat.mod_eq_of_lt hk]
  have hx : cr ((n / 16777216 + 1) % 256) = cr (nx (n / 16777216)) := rfl
  have q1 := refAt_any (n / 16777216) w (by omega)
  have q2 := refAt_any (n / 16777216 + 1) w (by omega)
  rw [hc] at q1
  rw [hx] at q2
  generalize cr (nx (n / 16777216)) = B at *
  generalize dk (n / 16777216) = D at *
  generalize pt (n / 16777216) (fp n) = P at *
  generalize sn (n / 16777216) (fp n) = S at *
  generalize cr (n / 16777216) = A at *
  clear f1 t p1 p2 p3 p4 p5 s1 s2 s3 s4 s5 hc hx f2
  have e1 : ((n / 16777216 : Nat) : Int) = (n : Int) / 16777216 := by omega
  have e2 : ((n / 16777216 + 1 : Nat) : Int) = (n : Int) / 16777216 + 1 := by omega
  rw [e1] at q1
  rw [e2] at q2
  generalize fp n = Fq at *
  go_enter Try.func47, Try.ntmps47
  go_wp2_with (simp only [m1])
  refine q1.mono ?_
  rintro e w1 ⟨rfl, hw⟩
  rw [hw]
  go_wp2_with (simp only [m1])
  refine q2.mono ?_
  rintro e w2 ⟨rfl, hw2⟩
  rw [hw2]
  go_wp2_with (first | simp only [m2] | simp only [m3] | simp only [m4])
  go_ret
  exact ⟨rfl, rfl⟩
theorem sq_lo (n : Int) (c : n < 2147483648) : sq n = 4607182418800017408 := by unfold sq; rw [if_pos c]
theorem sq_hi (n : Int) (c : ¬ n < 2147483648) : sq n = 13830554455654793216 := by unfold sq; rw [if_neg c]
theorem shp1 (n : Int) : shp 1 n = sv n := if_pos rfl
theorem shp2 (n : Int) : shp 2 n = qt (sw n) 31 := rfl
theorem shp3 (n : Int) : shp 3 n = sq n := rfl
theorem shp4 (n : Int) : shp 4 n = qt (tw n) 30 := rfl
theorem shp0 (k n : Int) (h : ¬ (1 ≤ k ∧ k ≤ 4)) : shp k n = 0 ∧ she k = 1 := by
  unfold shp she
  rw [if_neg (by omega), if_neg (by omega), if_neg (by omega), if_neg (by omega), if_neg h]
  exact ⟨rfl, rfl⟩
set_option maxHeartbeats 1000000 in
theorem refShape_any (kind : Int) (n : Nat) (w : World) (hn : n < 4294967296) :
    Calls Try.prog 41 #[.int .i64 kind, .int .u32 n] w fun e w' => e = .returned (.tuple #[.float .f64 (shp kind n), .int .i64 (she kind)]) ∧ w' = w := by
  by_cases hk : ¬ (1 ≤ kind ∧ kind ≤ 4)
  · obtain ⟨h1, h2⟩ := shp0 kind n hk
    rw [h1, h2]
    have g1 : (kind == 1) = false := by simp; omega
    have g2 : (kind == 2) = false := by simp; omega
    have g3 : (kind == 3) = false := by simp; omega
    have g4 : (kind == 4) = false := by simp; omega
    clear hk
    go_enter Try.func41, Try.ntmps41
    go_wp2
    go_returns
    exact ⟨rfl, rfl⟩
  have hc : kind = 1 ∨ kind = 2 ∨ kind = 3 ∨ kind = 4 := by
    have := Decidable.not_not.1 hk
    omega
  clear hk
  rcases hc with rfl | rfl | rfl | rfl
  · rw [shp1, show she 1 = 0 from rfl]
    go_enter Try.func41, Try.ntmps41
    go_wp2_with fail
    refine (refSine_any n w hn).mono ?_
    rintro e w1 ⟨rfl, hw⟩
    rw [hw]
    go_wp2
    go_returns
    exact ⟨rfl, rfl⟩
  · rw [shp2, show she 2 = 0 from rfl]
    have m := fquo (saw_ok (n : Int) (by omega) (by omega)).1
    generalize qt (sw n) 31 = Q at *
    by_cases c : (n : Int) < 2147483648
    · rw [show sw n = n from if_pos c] at m
      have d : decide ((2147483648 : Int) ≤ (n : Int)) = false := decide_eq_false (by omega)
      clear c
      go_enter Try.func41, Try.ntmps41
      go_wp2_with (simp only [m])
      go_returns
      exact ⟨rfl, rfl⟩
    · rw [show sw n = n - 4294967296 from if_neg c] at m
      have d : decide ((2147483648 : Int) ≤ (n : Int)) = true := decide_eq_true (by omega)
      clear c
      go_enter Try.func41, Try.ntmps41
      go_wp2_with (simp only [m])
      go_returns
      exact ⟨rfl, rfl⟩
  · rw [shp3, show she 3 = 0 from rfl]
    by_cases c : (n : Int) < 2147483648
    · rw [sq_lo n c]
      go_enter Try.func41, Try.ntmps41
      go_wp2
      go_returns
      exact ⟨rfl, rfl⟩
    · rw [sq_hi n c]
      go_enter Try.func41, Try.ntmps41
      go_wp2
      go_returns
      exact ⟨rfl, rfl⟩
  · rw [shp4, show she 4 = 0 from rfl]
    have m := fquo (tri_ok (n : Int) (by omega) (by omega)).1
    generalize qt (tw n) 30 = Q at *
    by_cases c : (n : Int) ≤ 1073741824
    · rw [show tw n = n from if_pos c] at m
      go_enter Try.func41, Try.ntmps41
      go_wp2_with (simp only [m])
      go_returns
      exact ⟨rfl, rfl⟩
    · by_cases d : (n : Int) ≤ 3221225472
      · rw [show tw n = 2147483648 - n by unfold tw; rw [if_neg c, if_pos d]] at m
        go_enter Try.func41, Try.ntmps41
        go_wp2_with (simp only [m])
        go_returns
        exact ⟨rfl, rfl⟩
      · rw [show tw n = n - 4294967296 by unfold tw; rw [if_neg c, if_neg d]] at m
        go_enter Try.func41, Try.ntmps41
        go_wp2_with (simp only [m])
        go_returns
        exact ⟨rfl, rfl⟩

@[go_sem] theorem call_bits (args : Array Value) (w : World) : (callFunc 35 args).run Try.prog w = ((Extern.MathFloatBits.float64bits args).run Try.prog w).andThen fun v w' => .ok (.value v) w' :=
  run_callFunc_extern Try.func35 (by kernel_rfl) (by kernel_rfl) (by kernel_rfl) (by kernel_rfl) args w
@[go_sem] theorem run_bits (b : Nat) (w : World) : (Extern.MathFloatBits.float64bits #[.float .f64 b]).run Try.prog w = .ok (.int .u64 b) w := rfl
end Go.Proofs.Ytjpcebnbkdekkaa.Vo

/- What the program's fromNought, square, triangle, Sine and Shape come to, by what the circle's number k is. -/
namespace Go.Proofs.Ytjpcebnbkdekkaa.Vo
open Go.RowKit
set_option linter.unusedSimpArgs false
set_option linter.unusedVariables false

theorem wrap32 (n : Nat) (h : n < 4294967296) : IntKind.i32.wrap (n : Int) = sw n := by
  unfold sw
  by_cases c : (n : Int) < 2147483648
  · rw [if_pos c]; simp [IntKind.wrap, IntKind.bits, IntKind.signed]; omega
  · rw [if_neg c]; simp [IntKind.wrap, IntKind.bits, IntKind.signed]; omega
theorem fromNought_any (n : Nat) (w : World) (hn : n < 4294967296) :
    Calls Try.prog 68 #[.int .u32 n] w fun e w' => e = .returned (.float .f64 (floatOfInt .f64 (sw n))) ∧ w' = w := by
  have h := wrap32 n hn
  go_enter Try.func68, Try.ntmps68
  go_wp2
  go_ret
  refine ⟨ret_float ?_, rfl⟩
  rw [← h]
theorem square_any (n : Nat) (w : World) (hn : n < 4294967296) :
    Calls Try.prog 69 #[.int .u32 n] w fun e w' => e = .returned (.float .f64 (sq n)) ∧ w' = w := by
  by_cases c : (n : Int) < 2147483648
  · rw [sq_lo n c]
    go_enter Try.func69, Try.ntmps69
    go_wp2
    go_ret
    exact ⟨rfl, rfl⟩
  · rw [sq_hi n c]
    go_enter Try.func69, Try.ntmps69
    go_wp2
    go_ret
    exact ⟨rfl, rfl⟩
set_option maxHeartbeats 1000000 in
theorem triangle_any (n : Nat) (w : World) (hn : n < 4294967296) :
    Calls Try.prog 70 #[.int .u32 n] w fun e w' => e = .returned (.float .f64 (qt (tw n) 30)) ∧ w' = w := by
  have m := fquo (tri_ok (n : Int) (by omega) (by omega)).1
  generalize qt (tw n) 30 = Q at *
  by_cases c : (n : Int) ≤ 1073741824
  · have hs := fromNought_any n w hn
    rw [show sw n = tw n by unfold sw tw; rw [if_pos c, if_pos (by omega)]] at hs
    generalize floatOfInt .f64 (tw n) = FF at *
    go_enter Try.func70, Try.ntmps70
    go_wp2_with fail
    refine hs.mono ?_
    rintro e w1 ⟨rfl, hw⟩
    rw [hw]
    go_wp2_with (simp only [m])
    go_ret
    exact ⟨rfl, rfl⟩
  · by_cases d : (n : Int) ≤ 3221225472
    · have hs := fromNought_any ((6442450944 - n) % 4294967296) w (by omega)
      rw [show sw (((6442450944 - n) % 4294967296 : Nat) : Int) = tw n by unfold sw tw; rw [if_neg c, if_pos d]; split <;> omega] at hs
      generalize floatOfInt .f64 (tw n) = FF at *
      have hw' : IntKind.u32.wrap (2147483648 - (n : Int)) = (((6442450944 - n) % 4294967296 : Nat) : Int) := by simp [IntKind.wrap, IntKind.bits, IntKind.signed]; omega
      rw [← hw'] at hs
      clear hw'
      go_enter Try.func70, Try.ntmps70
      go_wp2_with fail
      refine hs.mono ?_
      rintro e w1 ⟨rfl, hw⟩
      rw [hw]
      go_wp2_with (simp only [m])
      go_ret
      exact ⟨rfl, rfl⟩
    · have hs := fromNought_any n w hn
      rw [show sw n = tw n by unfold sw tw; rw [if_neg c, if_neg d, if_neg (by omega)]] at hs
      generalize floatOfInt .f64 (tw n) = FF at *
      go_enter Try.func70, Try.ntmps70
      go_wp2_with fail
      refine hs.mono ?_
      rintro e w1 ⟨rfl, hw⟩
      rw [hw]
      go_wp2_with (simp only [m])
      go_ret
      exact ⟨rfl, rfl⟩
/-- What the circle's number k comes to. -/
def CirC : Prop := ∀ (k : Nat) (w : World), k < 256 → Calls Try.prog 73 #[.int .u32 k, .func (.func 67) #[] #[]] w fun e w' => e = .returned (.float .f64 (cr k)) ∧ Below w.heap.size w w'
set_option maxHeartbeats 1000000 in
theorem sine_any (hC : CirC) (n : Nat) (w : World) (hn : n < 4294967296) :
    Calls Try.prog 66 #[.int .u32 n, .func (.func 67) #[] #[]] w fun e w' => e = .returned (.float .f64 (sv n)) ∧ Below w.heap.size w w' := by
  obtain ⟨f1, f2⟩ := fp_ok (n : Int)
  have hk : n / 16777216 < 256 := by omega
  have t := tab _ hk
  obtain ⟨r, p1, p2, p3, p4, p5⟩ := part_ok (n / 16777216) (fp n) hk f2
  obtain ⟨s1, s2, s3, s4, s5⟩ := sine_ok (n / 16777216) (fp n) hk f2
  rw [sv_nat]
  have m1 := fquo f1
  have m2 := fsub t.s1
  have m3 := fmul p1
  have m4 := fadd s1
  have q1 := hC (n / 16777216) w hk
  have q2 := fun w => hC ((n / 16777216 + 1) % 256) w (Nat.mod_lt _ (by decide))
  have hx : cr ((n / 16777216 + 1) % 256) = cr (nx (n / 16777216)) := rfl
  simp only [hx] at q2
  generalize cr (nx (n / 16777216)) = B at *
  generalize dk (n / 16777216) = D at *
  generalize pt (n / 16777216) (fp n) = P at *
  generalize sn (n / 16777216) (fp n) = S at *
  generalize cr (n / 16777216) = A at *
  clear f1 t p1 p2 p3 p4 p5 s1 s2 s3 s4 s5 hx f2 hC
  have e1 : ((n / 16777216 : Nat) : Int) = (n : Int) / 16777216 := by omega
  have e2 : (((n / 16777216 + 1) % 256 : Nat) : Int) = ((n : Int) / 16777216 + 1) % 256 := by omega
  rw [e1] at q1
  simp only [e2] at q2
  clear e1 e2
  generalize fp n = Fq at *
  go_enter Try.func66, Try.ntmps66
  go_wp2_with (simp only [m1])
  refine q1.mono ?_
  rintro e w1 ⟨rfl, hb1⟩
  go_wp2_with (simp only [m1])
  refine (q2 w1).mono ?_
  rintro e w2 ⟨rfl, hb2⟩
  have hb : Below w.heap.size w w2 := Below.trans hb1 (hb2.mono hb1.size)
  go_wp2_with (first | simp only [m2] | simp only [m3] | simp only [m4])
  go_ret
  exact ⟨rfl, hb⟩
set_option maxHeartbeats 1000000 in
theorem Shape_any (hC : CirC) (kind : Int) (n : Nat) (w : World) (hn : n < 4294967296) :
    Calls Try.prog 58 #[.int .i64 kind, .int .u32 n] w fun e w' => e = .returned (.tuple #[.float .f64 (shp kind n), .int .i64 (she kind)]) ∧ Below w.heap.size w w' := by
  by_cases hk : ¬ (1 ≤ kind ∧ kind ≤ 4)
  · obtain ⟨h1, h2⟩ := shp0 kind n hk
    rw [h1, h2]
    have g1 : (kind == 1) = false := by simp; omega
    have g2 : (kind == 2) = false := by simp; omega
    have g3 : (kind == 3) = false := by simp; omega
    have g4 : (kind == 4) = false := by simp; omega
    clear hk hC
    go_enter Try.func58, Try.ntmps58
    go_wp2
    go_returns
    exact ⟨rfl, by go_grown⟩
  have hc : kind = 1 ∨ kind = 2 ∨ kind = 3 ∨ kind = 4 := by
    have := Decidable.not_not.1 hk
    omega
  clear hk
  rcases hc with rfl | rfl | rfl | rfl
  · rw [shp1, show she 1 = 0 from rfl]
    go_enter Try.func58, Try.ntmps58
    go_wp2_with fail
    refine (sine_any hC n w hn).mono ?_
    rintro e w1 ⟨rfl, hb⟩
    clear hC
    go_wp2
    go_returns
    exact ⟨rfl, hb⟩
  · rw [shp2, show she 2 = 0 from rfl]
    have m := fquo (saw_ok (n : Int) (by omega) (by omega)).1
    have hs := fromNought_any n w hn
    generalize qt (sw n) 31 = Q at *
    generalize floatOfInt .f64 (sw n) = FF at *
    clear hC
    go_enter Try.func58, Try.ntmps58
    go_wp2_with fail
    refine hs.mono ?_
    rintro e w1 ⟨rfl, hw⟩
    rw [hw]
    go_wp2_with (simp only [m])
    go_returns
    exact ⟨rfl, by go_grown⟩
  · rw [shp3, show she 3 = 0 from rfl]
    clear hC
    go_enter Try.func58, Try.ntmps58
    go_wp2_with fail
    refine (square_any n w hn).mono ?_
    rintro e w1 ⟨rfl, hw⟩
    rw [hw]
    go_wp2
    go_returns
    exact ⟨rfl, by go_grown⟩
  · rw [shp4, show she 4 = 0 from rfl]
    clear hC
    go_enter Try.func58, Try.ntmps58
    go_wp2_with fail
    refine (triangle_any n w hn).mono ?_
    rintro e w1 ⟨rfl, hw⟩
    rw [hw]
    go_wp2
    go_returns
    exact ⟨rfl, by go_grown⟩
end Go.Proofs.Ytjpcebnbkdekkaa.Vo

/- What the circle's number k comes to (by a function). -/
namespace Go.Proofs.Ytjpcebnbkdekkaa.Vo
open Go.RowKit
set_option linter.unusedSimpArgs false
set_option linter.unusedVariables false

set_option maxHeartbeats 1000000 in
theorem times_any (i : Nat) (w : World) (hi : i < 63) :
    Calls Try.prog 74 #[.complex .f64 (re i) (im i), .complex .f64 4607179706000002317 4582730748936808062] w fun e w' => e = .returned (.complex .f64 (re (i + 1)) (im (i + 1))) ∧ w' = w := by
  obtain ⟨a, b, c, d, h1, h2, h3, h4, h5, h6⟩ := turn_ok i hi
  have m1 := fmul h1
  have m2 := fmul h2
  have m3 := fsub h3
  have m4 := fmul h4
  have m5 := fmul h5
  have m6 := fadd h6
  clear h1 h2 h3 h4 h5 h6
  go_enter Try.func74, Try.ntmps74
  go_wp2_with (first | simp only [m1] | simp only [m2] | simp only [m3] | simp only [m4] | simp only [m5] | simp only [m6])
  go_ret
  exact ⟨rfl, rfl⟩
theorem ret_cx {k : FloatKind} {a b : Nat} (h : a = b) : Ending.returned (.float k a) = .returned (.float k b) := by rw [h]
set_option maxHeartbeats 1000000 in
theorem quarterNumber_any (n : Nat) (w : World) (hn : n ≤ 64) :
    Calls Try.prog 67 #[.int .u32 n] w fun e w' => e = .returned (.float .f64 (qr n)) ∧ w' = w := by
  by_cases c : n = 64
  · subst c
    rw [show qr 64 = 4607182418800017408 from rfl]
    go_enter Try.func67, Try.ntmps67
    go_wp2
    go_ret
    exact ⟨rfl, rfl⟩
  have hlt : n < 64 := by omega
  have hne : ((n : Int) == 64) = false := by simp; omega
  rw [qr_in hlt]
  go_enter Try.func67, Try.ntmps67
  go_wp2
  go_loop [3, 7] (fun z i => ∃ k X Y : Nat, k ≤ n ∧ i = .int .u32 k ∧ z = .complex .f64 X Y ∧ Hid (X = re k ∧ Y = im k)) (fun _ i => n - (intOf i).toNat)
  case atStart => exact ⟨0, 4607182418800017408, 0, Nat.zero_le _, rfl, rfl, tab_re.1.symm, tab_re.2.symm⟩
  case round =>
    obtain ⟨k, X, Y, hk, rfl, rfl, hX⟩ := hrel
    by_cases hl : k < n
    · have ht := times_any k w (by omega)
      rw [← hX.out.1, ← hX.out.2] at ht
      clear hX
      go_wp2_with fail
      refine ht.mono ?_
      rintro e w1 ⟨rfl, hw⟩
      rw [hw]
      go_wp2
      go_round
      case rel => exact ⟨k + 1, _, _, by omega, by go_num, rfl, rfl, rfl⟩
      case measure => simp [intOf]; omega
    · have HE : Hid (Y = im n) := by rw [show n = k by omega]; exact hX.out.2
      clear hX
      go_wp2
      go_ret
      exact ⟨ret_float HE.out, rfl⟩
theorem circle_any : CirC := by
  intro k w hk
  by_cases c1 : k ≤ 64
  · rw [show cr k = qr k from if_pos c1]
    go_enter Try.func73, Try.ntmps73
    go_wp2_with fail
    refine (quarterNumber_any k w c1).mono ?_
    rintro e w1 ⟨rfl, hw⟩
    rw [hw]
    go_wp2
    go_ret
    exact ⟨rfl, by go_grown⟩
  by_cases c2 : k ≤ 128
  · rw [show cr k = qr (128 - k) by unfold cr; rw [if_neg c1, if_pos c2]]
    have q := quarterNumber_any (128 - k) w (by omega)
    rw [show ((128 - k : Nat) : Int) = 128 - (k : Int) by omega] at q
    go_enter Try.func73, Try.ntmps73
    go_wp2_with fail
    refine q.mono ?_
    rintro e w1 ⟨rfl, hw⟩
    rw [hw]
    go_wp2
    go_ret
    exact ⟨rfl, by go_grown⟩
  by_cases c3 : k ≤ 192
  · rw [show cr k = ng (qr (k - 128)) by unfold cr; rw [if_neg c1, if_neg c2, if_pos c3]]
    have q := quarterNumber_any (k - 128) w (by omega)
    rw [show ((k - 128 : Nat) : Int) = (k : Int) - 128 by omega] at q
    go_enter Try.func73, Try.ntmps73
    go_wp2_with fail
    refine q.mono ?_
    rintro e w1 ⟨rfl, hw⟩
    rw [hw]
    go_wp2_with (simp only [fneg])
    go_ret
    exact ⟨rfl, by go_grown⟩
  · rw [show cr k = ng (qr (256 - k)) by unfold cr; rw [if_neg c1, if_neg c2, if_neg c3]]
    have q := quarterNumber_any (256 - k) w (by omega)
    rw [show ((256 - k : Nat) : Int) = 256 - (k : Int) by omega] at q
    go_enter Try.func73, Try.ntmps73
    go_wp2_with fail
    refine q.mono ?_
    rintro e w1 ⟨rfl, hw⟩
    rw [hw]
    go_wp2_with (simp only [fneg])
    go_ret
    exact ⟨rfl, by go_grown⟩
end Go.Proofs.Ytjpcebnbkdekkaa.Vo
