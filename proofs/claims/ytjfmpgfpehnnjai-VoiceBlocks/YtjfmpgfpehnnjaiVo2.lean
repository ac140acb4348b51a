/- What the document's Sine, Shape and Same come to. -/
import Derived.Test.YtjfmpgfpehnnjaiVo1
namespace Go.Proofs.Ytjfmpgfpehnnjai.Vo
open Go.RowKit
set_option linter.unusedSimpArgs false
set_option linter.unusedVariables false

theorem sv_nat (n : Nat) : sv (n : Int) = sn (n / 16777216) (fp (n : Int)) := by unfold sv; congr 1
theorem nx_is (n : Nat) (h : n < 4294967296) : nx (n / 16777216) = (n / 16777216 + 1) % 256 := rfl
theorem sq_lo (n : Int) (c : n < 2147483648) : sq n = 4607182418800017408 := by unfold sq; rw [if_pos c]
theorem sq_hi (n : Int) (c : ¬ n < 2147483648) : sq n = 13830554455654793216 := by unfold sq; rw [if_neg c]
theorem shp1 (n : Int) : shp 1 n = sv n := if_pos rfl
theorem shp2 (n : Int) : shp 2 n = qt (sw n) 31 := rfl
theorem shp3 (n : Int) : shp 3 n = sq n := rfl
theorem shp4 (n : Int) : shp 4 n = qt (tw n) 30 := rfl
theorem shp0 (k n : Int) (h : ¬ (1 ≤ k ∧ k ≤ 4)) : shp k n = 0 ∧ she k = 1 := by
  unfold shp she
  rw [if_neg (by omega), if_neg (by omega), if_neg (by omega), if_neg (by omega), if_neg h]
  exact ⟨rfl, rfl⟩
@[go_sem] theorem call_bits (args : Array Value) (w : World) : (callFunc 34 args).run Try.prog w = ((Extern.MathFloatBits.float64bits args).run Try.prog w).andThen fun v w' => .ok (.value v) w' :=
  run_callFunc_extern Try.func34 (by kernel_rfl) (by kernel_rfl) (by kernel_rfl) (by kernel_rfl) args w
@[go_sem] theorem run_bits (b : Nat) (w : World) : (Extern.MathFloatBits.float64bits #[.float .f64 b]).run Try.prog w = .ok (.int .u64 b) w := rfl
theorem Same_same (x : Nat) (w : World) :
    Calls Try.prog 19 #[.float .f64 x, .float .f64 x] w fun e w' => e = .returned (.bool true) ∧ w' = w := by
  go_enter Try.func19, Try.ntmps19
  go_wp2
  go_ret
  exact ⟨rfl, rfl⟩
end Go.Proofs.Ytjfmpgfpehnnjai.Vo
