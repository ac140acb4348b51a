/- What the document's Turned, Quarter, At and Sine come to. -/
import Derived.Test.YtjfmpgfpehnnjaiVoMath2
import Derived.Test.YtjfmpgfpehnnjaiRows
import Derived.WalkKit
import Derived.Handy
import Derived.RegionTactic
import Derived.ChangeAlike
import Derived.Below
import Derived.Outline
import Derived.Deep.QuietTactic
import Derived.BigQuiet
import Derived.WalkSmall
import Derived.LoopTactic
import Derived.WalkLawsBesides
import Derived.Laws.Externs
namespace Go.Proofs.Ytjfmpgfpehnnjai.Vo
open Go.RowKit
set_option linter.unusedSimpArgs false
set_option linter.unusedVariables false

theorem fmul {x y r : Nat} (h : Ieee.double.mul x y = some r) (t : TypeId) (w : World) : (binOp .mul t (.float .f64 x) (.float .f64 y)).run Try.prog w = .ok (.float .f64 r) w := run_float_arith w .mul t .f64 x y r h
theorem fquo {x y r : Nat} (h : Ieee.double.div x y = some r) (t : TypeId) (w : World) : (binOp .quo t (.float .f64 x) (.float .f64 y)).run Try.prog w = .ok (.float .f64 r) w := run_float_arith w .quo t .f64 x y r h
theorem fadd {x y r : Nat} (h : Ieee.double.add x y = some r) (t : TypeId) (w : World) : (binOp .add t (.float .f64 x) (.float .f64 y)).run Try.prog w = .ok (.float .f64 r) w := run_float_arith w .add t .f64 x y r h
theorem fsub {x y r : Nat} (h : Ieee.double.sub x y = some r) (t : TypeId) (w : World) : (binOp .sub t (.float .f64 x) (.float .f64 y)).run Try.prog w = .ok (.float .f64 r) w := run_float_arith w .sub t .f64 x y r h
theorem ret_float {k : FloatKind} {a b : Nat} (h : a = b) : Ending.returned (.float k a) = .returned (.float k b) := by rw [h]
theorem ret_two {k l : FloatKind} {a b c d : Nat} (h : a = b) (h2 : c = d) : Ending.returned (.tuple #[.float k a, .float l c]) = .returned (.tuple #[.float k b, .float l d]) := by rw [h, h2]

theorem qr_in {n : Nat} (h : n < 64) : qr n = im n := if_neg (by omega)
theorem fneg (b : Nat) (w : World) : (Op.unary .neg (.float .f64 b)).run Try.prog w = .ok (.float .f64 (ng b)) w := rfl
theorem cr_high (k : Nat) (h : 128 < k) (h2 : k < 256) : cr k = ng (cr (k - 128)) := by
  unfold cr
  rw [if_neg (by omega), if_neg (by omega)]
  by_cases c : k ≤ 192
  · rw [if_pos c, if_pos (by omega)]
  · rw [if_neg c, if_neg (by omega), if_pos (by omega), show 128 - (k - 128) = 256 - k by omega]
end Go.Proofs.Ytjfmpgfpehnnjai.Vo
