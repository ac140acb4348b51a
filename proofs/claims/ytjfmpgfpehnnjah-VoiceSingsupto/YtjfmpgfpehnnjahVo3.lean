/- What the program's fromNought, square, triangle, Sine and Shape come to, by what the circle's number k is. -/
import Derived.Test.YtjfmpgfpehnnjahVo2
namespace Go.Proofs.Ytjfmpgfpehnnjah.Vo
open Go.RowKit
set_option linter.unusedSimpArgs false
set_option linter.unusedVariables false

theorem wrap32 (n : Nat) (h : n < 4294967296) : IntKind.i32.wrap (n : Int) = sw n := by
  unfold sw
  by_cases c : (n : Int) < 2147483648
  · rw [if_pos c]; simp [IntKind.wrap, IntKind.bits, IntKind.signed]; omega
  · rw [if_neg c]; simp [IntKind.wrap, IntKind.bits, IntKind.signed]; omega
theorem fromNought_any (n : Nat) (w : World) (hn : n < 4294967296) :
    Calls Try.prog 49 #[.int .u32 n] w fun e w' => e = .returned (.float .f64 (floatOfInt .f64 (sw n))) ∧ w' = w := by
  have h := wrap32 n hn
  go_enter Try.func49, Try.ntmps49
  go_wp2
  go_ret
  refine ⟨ret_float ?_, rfl⟩
  rw [← h]
theorem square_any (n : Nat) (w : World) (hn : n < 4294967296) :
    Calls Try.prog 50 #[.int .u32 n] w fun e w' => e = .returned (.float .f64 (sq n)) ∧ w' = w := by
  by_cases c : (n : Int) < 2147483648
  · rw [sq_lo n c]
    go_enter Try.func50, Try.ntmps50
    go_wp2
    go_ret
    exact ⟨rfl, rfl⟩
  · rw [sq_hi n c]
    go_enter Try.func50, Try.ntmps50
    go_wp2
    go_ret
    exact ⟨rfl, rfl⟩
set_option maxHeartbeats 1000000 in
theorem triangle_any (n : Nat) (w : World) (hn : n < 4294967296) :
    Calls Try.prog 51 #[.int .u32 n] w fun e w' => e = .returned (.float .f64 (qt (tw n) 30)) ∧ w' = w := by
  have m := fquo (tri_ok (n : Int) (by omega) (by omega)).1
  generalize qt (tw n) 30 = Q at *
  by_cases c : (n : Int) ≤ 1073741824
  · have hs := fromNought_any n w hn
    rw [show sw n = tw n by unfold sw tw; rw [if_pos c, if_pos (by omega)]] at hs
    generalize floatOfInt .f64 (tw n) = FF at *
    go_enter Try.func51, Try.ntmps51
    go_wp2_with fail
    refine hs.mono ?_
    rintro e w1 ⟨rfl, hw⟩
    rw [hw]
    go_wp2_with (simp only [m])
    go_ret
    exact ⟨rfl, rfl⟩
  · by_cases d : (n : Int) ≤ 3221225472
    · have hs := fromNought_any ((6442450944 - n) % 4294967296) w (by omega)
      rw [show sw (((6442450944 - n) % 4294967296 : Nat) : Int) = tw n by unfold sw tw; rw [if_neg c, if_pos d]; split <;> omega] at hs
      generalize floatOfInt .f64 (tw n) = FF at *
      have hw' : IntKind.u32.wrap (2147483648 - (n : Int)) = (((6442450944 - n) % 4294967296 : Nat) : Int) := by simp [IntKind.wrap, IntKind.bits, IntKind.signed]; omega
      rw [← hw'] at hs
      clear hw'
      go_enter Try.func51, Try.ntmps51
      go_wp2_with fail
      refine hs.mono ?_
      rintro e w1 ⟨rfl, hw⟩
      rw [hw]
      go_wp2_with (simp only [m])
      go_ret
      exact ⟨rfl, rfl⟩
    · have hs := fromNought_any n w hn
      rw [show sw n = tw n by unfold sw tw; rw [if_neg c, if_neg d, if_neg (by omega)]] at hs
      generalize floatOfInt .f64 (tw n) = FF at *
      go_enter Try.func51, Try.ntmps51
      go_wp2_with fail
      refine hs.mono ?_
      rintro e w1 ⟨rfl, hw⟩
      rw [hw]
      go_wp2_with (simp only [m])
      go_ret
      exact ⟨rfl, rfl⟩
/-- What the circle's number k comes to. -/
def CirC : Prop := ∀ (k : Nat) (w : World), k < 256 → Calls Try.prog 59 #[.int .u32 k, .func (.func 48) #[] #[]] w fun e w' => e = .returned (.float .f64 (cr k)) ∧ Below w.heap.size w w'
set_option maxHeartbeats 1000000 in
theorem sine_any (hC : CirC) (n : Nat) (w : World) (hn : n < 4294967296) :
    Calls Try.prog 47 #[.int .u32 n, .func (.func 48) #[] #[]] w fun e w' => e = .returned (.float .f64 (sv n)) ∧ Below w.heap.size w w' := by
  obtain ⟨f1, f2⟩ := fp_ok (n : Int)
  have hk : n / 16777216 < 256 := by omega
  have t := tab _ hk
  obtain ⟨r, p1, p2, p3, p4, p5⟩ := part_ok (n / 16777216) (fp n) hk f2
  obtain ⟨s1, s2, s3, s4, s5⟩ := sine_ok (n / 16777216) (fp n) hk f2
  rw [sv_nat]
  have m1 := fquo f1
  have m2 := fsub t.s1
  have m3 := fmul p1
  have m4 := fadd s1
  have q1 := hC (n / 16777216) w hk
  have q2 := fun w => hC ((n / 16777216 + 1) % 256) w (Nat.mod_lt _ (by decide))
  have hx : cr ((n / 16777216 + 1) % 256) = cr (nx (n / 16777216)) := rfl
  simp only [hx] at q2
  generalize cr (nx (n / 16777216)) = B at *
  generalize dk (n / 16777216) = D at *
  generalize pt (n / 16777216) (fp n) = P at *
  generalize sn (n / 16777216) (fp n) = S at *
  generalize cr (n / 16777216) = A at *
  clear f1 t p1 p2 p3 p4 p5 s1 s2 s3 s4 s5 hx f2 hC
  have e1 : ((n / 16777216 : Nat) : Int) = (n : Int) / 16777216 := by omega
  have e2 : (((n / 16777216 + 1) % 256 : Nat) : Int) = ((n : Int) / 16777216 + 1) % 256 := by omega
  rw [e1] at q1
  simp only [e2] at q2
  clear e1 e2
  generalize fp n = Fq at *
  go_enter Try.func47, Try.ntmps47
  go_wp2_with (simp only [m1])
  refine q1.mono ?_
  rintro e w1 ⟨rfl, hb1⟩
  go_wp2_with (simp only [m1])
  refine (q2 w1).mono ?_
  rintro e w2 ⟨rfl, hb2⟩
  have hb : Below w.heap.size w w2 := Below.trans hb1 (hb2.mono hb1.size)
  go_wp2_with (first | simp only [m2] | simp only [m3] | simp only [m4])
  go_ret
  exact ⟨rfl, hb⟩
set_option maxHeartbeats 1000000 in
theorem Shape_any (hC : CirC) (kind : Int) (n : Nat) (w : World) (hn : n < 4294967296) :
    Calls Try.prog 34 #[.int .i64 kind, .int .u32 n] w fun e w' => e = .returned (.tuple #[.float .f64 (shp kind n), .int .i64 (she kind)]) ∧ Below w.heap.size w w' := by
  by_cases hk : ¬ (1 ≤ kind ∧ kind ≤ 4)
  · obtain ⟨h1, h2⟩ := shp0 kind n hk
    rw [h1, h2]
    have g1 : (kind == 1) = false := by simp; omega
    have g2 : (kind == 2) = false := by simp; omega
    have g3 : (kind == 3) = false := by simp; omega
    have g4 : (kind == 4) = false := by simp; omega
    clear hk hC
    go_enter Try.func34, Try.ntmps34
    go_wp2
    go_returns
    exact ⟨rfl, by go_grown⟩
  have hc : kind = 1 ∨ kind = 2 ∨ kind = 3 ∨ kind = 4 := by
    have := Decidable.not_not.1 hk
    omega
  clear hk
  rcases hc with rfl | rfl | rfl | rfl
  · rw [shp1, show she 1 = 0 from rfl]
    go_enter Try.func34, Try.ntmps34
    go_wp2_with fail
    refine (sine_any hC n w hn).mono ?_
    rintro e w1 ⟨rfl, hb⟩
    clear hC
    go_wp2
    go_returns
    exact ⟨rfl, hb⟩
  · rw [shp2, show she 2 = 0 from rfl]
    have m := fquo (saw_ok (n : Int) (by omega) (by omega)).1
    have hs := fromNought_any n w hn
    generalize qt (sw n) 31 = Q at *
    generalize floatOfInt .f64 (sw n) = FF at *
    clear hC
    go_enter Try.func34, Try.ntmps34
    go_wp2_with fail
    refine hs.mono ?_
    rintro e w1 ⟨rfl, hw⟩
    rw [hw]
    go_wp2_with (simp only [m])
    go_returns
    exact ⟨rfl, by go_grown⟩
  · rw [shp3, show she 3 = 0 from rfl]
    clear hC
    go_enter Try.func34, Try.ntmps34
    go_wp2_with fail
    refine (square_any n w hn).mono ?_
    rintro e w1 ⟨rfl, hw⟩
    rw [hw]
    go_wp2
    go_returns
    exact ⟨rfl, by go_grown⟩
  · rw [shp4, show she 4 = 0 from rfl]
    clear hC
    go_enter Try.func34, Try.ntmps34
    go_wp2_with fail
    refine (triangle_any n w hn).mono ?_
    rintro e w1 ⟨rfl, hw⟩
    rw [hw]
    go_wp2
    go_returns
    exact ⟨rfl, by go_grown⟩
end Go.Proofs.Ytjfmpgfpehnnjah.Vo
