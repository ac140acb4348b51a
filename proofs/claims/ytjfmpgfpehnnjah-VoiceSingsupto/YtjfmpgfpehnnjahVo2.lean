/- What the document's Sine, Shape and Same come to. -/
import Derived.Test.YtjfmpgfpehnnjahVo1
namespace Go.Proofs.Ytjfmpgfpehnnjah.Vo
open Go.RowKit
set_option linter.unusedSimpArgs false
set_option linter.unusedVariables false

theorem sv_nat (n : Nat) : sv (n : Int) = sn (n / 16777216) (fp (n : Int)) := by unfold sv; congr 1
theorem nx_is (n : Nat) (h : n < 4294967296) : nx (n / 16777216) = (n / 16777216 + 1) % 256 := rfl
set_option maxHeartbeats 1000000 in
theorem refSine_any (n : Nat) (w : World) (hn : n < 4294967296) :
    Calls Try.prog 54 #[.int .u32 n] w fun e w' => e = .returned (.float .f64 (sv n)) ∧ w' = w := by
  obtain ⟨f1, f2⟩ := fp_ok (n : Int)
  have hk : n / 16777216 < 256 := by omega
  have t := tab _ hk
  obtain ⟨r, p1, p2, p3, p4, p5⟩ := part_ok (n / 16777216) (fp n) hk f2
  obtain ⟨s1, s2, s3, s4, s5⟩ := sine_ok (n / 16777216) (fp n) hk f2
  rw [sv_nat]
  have m1 := fquo f1
  have m2 := fsub t.s1
  have m3 := fmul p1
  have m4 := fadd s1
  have hc : cr (n / 16777216 % 256) = cr (n / 16777216) := by rw [Nat.mod_eq_of_lt hk]
  have hx : cr ((n / 16777216 + 1) % 256) = cr (nx (n / 16777216)) := rfl
  have q1 := refAt_any (n / 16777216) w (by omega)
  have q2 := refAt_any (n / 16777216 + 1) w (by omega)
  rw [hc] at q1
  rw [hx] at q2
  generalize cr (nx (n / 16777216)) = B at *
  generalize dk (n / 16777216) = D at *
  generalize pt (n / 16777216) (fp n) = P at *
  generalize sn (n / 16777216) (fp n) = S at *
  generalize cr (n / 16777216) = A at *
  clear f1 t p1 p2 p3 p4 p5 s1 s2 s3 s4 s5 hc hx f2
  have e1 : ((n / 16777216 : Nat) : Int) = (n : Int) / 16777216 := by omega
  have e2 : ((n / 16777216 + 1 : Nat) : Int) = (n : Int) / 16777216 + 1 := by omega
  rw [e1] at q1
  rw [e2] at q2
  generalize fp n = Fq at *
  go_enter Try.func54, Try.ntmps54
  go_wp2_with (simp only [m1])
  refine q1.mono ?_
  rintro e w1 ⟨rfl, hw⟩
  rw [hw]
  go_wp2_with (simp only [m1])
  refine q2.mono ?_
  rintro e w2 ⟨rfl, hw2⟩
  rw [hw2]
  go_wp2_with (first | simp only [m2] | simp only [m3] | simp only [m4])
  go_ret
  exact ⟨rfl, rfl⟩
theorem sq_lo (n : Int) (c : n < 2147483648) : sq n = 4607182418800017408 := by unfold sq; rw [if_pos c]
theorem sq_hi (n : Int) (c : ¬ n < 2147483648) : sq n = 13830554455654793216 := by unfold sq; rw [if_neg c]
theorem shp1 (n : Int) : shp 1 n = sv n := if_pos rfl
theorem shp2 (n : Int) : shp 2 n = qt (sw n) 31 := rfl
theorem shp3 (n : Int) : shp 3 n = sq n := rfl
theorem shp4 (n : Int) : shp 4 n = qt (tw n) 30 := rfl
theorem shp0 (k n : Int) (h : ¬ (1 ≤ k ∧ k ≤ 4)) : shp k n = 0 ∧ she k = 1 := by
  unfold shp she
  rw [if_neg (by omega), if_neg (by omega), if_neg (by omega), if_neg (by omega), if_neg h]
  exact ⟨rfl, rfl⟩
set_option maxHeartbeats 1000000 in
theorem refShape_any (kind : Int) (n : Nat) (w : World) (hn : n < 4294967296) :
    Calls Try.prog 38 #[.int .i64 kind, .int .u32 n] w fun e w' => e = .returned (.tuple #[.float .f64 (shp kind n), .int .i64 (she kind)]) ∧ w' = w := by
  by_cases hk : ¬ (1 ≤ kind ∧ kind ≤ 4)
  · obtain ⟨h1, h2⟩ := shp0 kind n hk
    rw [h1, h2]
    have g1 : (kind == 1) = false := by simp; omega
    have g2 : (kind == 2) = false := by simp; omega
    have g3 : (kind == 3) = false := by simp; omega
    have g4 : (kind == 4) = false := by simp; omega
    clear hk
    go_enter Try.func38, Try.ntmps38
    go_wp2
    go_returns
    exact ⟨rfl, rfl⟩
  have hc : kind = 1 ∨ kind = 2 ∨ kind = 3 ∨ kind = 4 := by
    have := Decidable.not_not.1 hk
    omega
  clear hk
  rcases hc with rfl | rfl | rfl | rfl
  · rw [shp1, show she 1 = 0 from rfl]
    go_enter Try.func38, Try.ntmps38
    go_wp2_with fail
    refine (refSine_any n w hn).mono ?_
    rintro e w1 ⟨rfl, hw⟩
    rw [hw]
    go_wp2
    go_returns
    exact ⟨rfl, rfl⟩
  · rw [shp2, show she 2 = 0 from rfl]
    have m := fquo (saw_ok (n : Int) (by omega) (by omega)).1
    generalize qt (sw n) 31 = Q at *
    by_cases c : (n : Int) < 2147483648
    · rw [show sw n = n from if_pos c] at m
      have d : decide ((2147483648 : Int) ≤ (n : Int)) = false := decide_eq_false (by omega)
      clear c
      go_enter Try.func38, Try.ntmps38
      go_wp2_with (simp only [m])
      go_returns
      exact ⟨rfl, rfl⟩
    · rw [show sw n = n - 4294967296 from if_neg c] at m
      have d : decide ((2147483648 : Int) ≤ (n : Int)) = true := decide_eq_true (by omega)
      clear c
      go_enter Try.func38, Try.ntmps38
      go_wp2_with (simp only [m])
      go_returns
      exact ⟨rfl, rfl⟩
  · rw [shp3, show she 3 = 0 from rfl]
    by_cases c : (n : Int) < 2147483648
    · rw [sq_lo n c]
      go_enter Try.func38, Try.ntmps38
      go_wp2
      go_returns
      exact ⟨rfl, rfl⟩
    · rw [sq_hi n c]
      go_enter Try.func38, Try.ntmps38
      go_wp2
      go_returns
      exact ⟨rfl, rfl⟩
  · rw [shp4, show she 4 = 0 from rfl]
    have m := fquo (tri_ok (n : Int) (by omega) (by omega)).1
    generalize qt (tw n) 30 = Q at *
    by_cases c : (n : Int) ≤ 1073741824
    · rw [show tw n = n from if_pos c] at m
      go_enter Try.func38, Try.ntmps38
      go_wp2_with (simp only [m])
      go_returns
      exact ⟨rfl, rfl⟩
    · by_cases d : (n : Int) ≤ 3221225472
      · rw [show tw n = 2147483648 - n by unfold tw; rw [if_neg c, if_pos d]] at m
        go_enter Try.func38, Try.ntmps38
        go_wp2_with (simp only [m])
        go_returns
        exact ⟨rfl, rfl⟩
      · rw [show tw n = n - 4294967296 by unfold tw; rw [if_neg c, if_neg d]] at m
        go_enter Try.func38, Try.ntmps38
        go_wp2_with (simp only [m])
        go_returns
        exact ⟨rfl, rfl⟩

@[go_sem] theorem call_bits (args : Array Value) (w : World) : (callFunc 40 args).run Try.prog w = ((Extern.MathFloatBits.float64bits args).run Try.prog w).andThen fun v w' => .ok (.value v) w' :=
  run_callFunc_extern Try.func40 (by kernel_rfl) (by kernel_rfl) (by kernel_rfl) (by kernel_rfl) args w
@[go_sem] theorem run_bits (b : Nat) (w : World) : (Extern.MathFloatBits.float64bits #[.float .f64 b]).run Try.prog w = .ok (.int .u64 b) w := rfl
theorem Same_same (x : Nat) (w : World) :
    Calls Try.prog 29 #[.float .f64 x, .float .f64 x] w fun e w' => e = .returned (.bool true) ∧ w' = w := by
  go_enter Try.func29, Try.ntmps29
  go_wp2
  go_ret
  exact ⟨rfl, rfl⟩
end Go.Proofs.Ytjfmpgfpehnnjah.Vo
