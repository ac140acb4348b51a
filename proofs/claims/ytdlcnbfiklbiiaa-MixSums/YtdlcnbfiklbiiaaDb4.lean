/- Round: the walks, from what the floats come to. -/
import Derived.Test.YtdlcnbfiklbiiaaMxRow
import Derived.Test.YtdlcnbfiklbiiaaDb2
import Derived.Laws.FloatArith
import Derived.Laws.Externs
namespace Go.Proofs.Ytdlcnbfiklbiiaa.Db
open Go.RowKit Go.Maps Go.Sort
set_option linter.unusedVariables false
set_option linter.unusedSimpArgs false

theorem fmul {x y r : Nat} (h : Ieee.double.mul x y = some r) (t : TypeId) (w : World) : (binOp .mul t (.float .f64 x) (.float .f64 y)).run Try.prog w = .ok (.float .f64 r) w := run_float_arith w .mul t .f64 x y r h
theorem fsub {x y r : Nat} (h : Ieee.double.sub x y = some r) (t : TypeId) (w : World) : (binOp .sub t (.float .f64 x) (.float .f64 y)).run Try.prog w = .ok (.float .f64 r) w := run_float_arith w .sub t .f64 x y r h
/-- A whole number out of what is no NaN. -/
theorem toI (nm : String) (way : Ieee.Toward) (y : Nat) (d : Ieee.Datum) (hd : FloatKind.decode FloatKind.f64 y = d) (hn : d.isNaN = false) : Extern.MathFloor.toIntegral nm way #[.float .f64 y] = pure (.float .f64 (FloatKind.encode FloatKind.f64 (d.integral way))) := by
  delta Extern.MathFloor.toIntegral
  generalize FloatKind.encode FloatKind.f64 = E
  generalize FloatKind.decode FloatKind.f64 = D at hd ⊢
  conv => lhs; whnf
  rw [hd]
  cases d with
  | nan s t => cases hn
  | number s m p => rfl
  | infinity s => rfl
/-- RoundToEven of what is no NaN. -/
theorem even_run (y : Nat) (d : Ieee.Datum) (hd : Ieee.Format.read Ieee.double y = d) (hn : d.isNaN = false) (w : World) : (callFunc 25 #[.float .f64 y]).run Try.prog w = .ok (.value (.float .f64 (Ieee.Format.write Ieee.double (d.integral .even)))) w := by
  rw [run_callFunc_extern (P := Try.prog) (f := 25) (fn := Try.f25) (e := Extern.MathFloor.toIntegral "math.RoundToEven" .even) Try.func25 (by kernel_rfl) (by kernel_rfl) (by kernel_rfl) (by kernel_rfl), toI _ _ y d hd hn]
  rfl
theorem floor_run (y : Nat) (d : Ieee.Datum) (hd : Ieee.Format.read Ieee.double y = d) (hn : d.isNaN = false) (w : World) : (callFunc 48 #[.float .f64 y]).run Try.prog w = .ok (.value (.float .f64 (Ieee.Format.write Ieee.double (d.integral .down)))) w := by
  rw [run_callFunc_extern (P := Try.prog) (f := 48) (fn := Try.f48) (e := Extern.MathFloor.toIntegral "math.archFloor" .down) Try.func48 (by kernel_rfl) (by kernel_rfl) (by kernel_rfl) (by kernel_rfl), toI _ _ y d hd hn]
  rfl
theorem floor_any (y r : Nat) (w : World) (h : ∀ w, (callFunc 48 #[.float .f64 y]).run Try.prog w = .ok (.value (.float .f64 r)) w) :
    Calls Try.prog 27 #[.float .f64 y] w fun e w' => e = .returned (.float .f64 r) ∧ w' = w := by
  go_enter Try.func27, Try.ntmps27
  go_wp2_with fail
  go_ret
  exact ⟨rfl, rfl⟩
theorem isNaN_any (y : Nat) (b : Bool) (w : World) (h : (Ieee.double.order y y != some .eq) = b) :
    Calls Try.prog 26 #[.float .f64 y] w fun e w' => e = .returned (.bool b) ∧ w' = w := by
  have h' : (FloatKind.f64.format.order y y != some .eq) = b := h
  go_enter Try.func26, Try.ntmps26
  go_wp2_with fail
  go_ret
  exact ⟨by rw [← h']; rfl, rfl⟩
set_option maxHeartbeats 4000000 in
theorem round_plain (b y r : Nat) (n : Int) (w : World) (hm : Ieee.double.mul b 4674736413210574848 = some y)
    (hr : ∀ w, (callFunc 25 #[.float .f64 y]).run Try.prog w = .ok (.value (.float .f64 r)) w) (hn : (Ieee.double.order r r != some .eq) = false)
    (hg : (Ieee.double.order r 4674736138332667904 == some .gt) = false) (hl : (Ieee.double.order r 13898108450065350656 == some .lt) = false) (hc : floatToIntVal .f64 r .i64 = some n) :
    Calls Try.prog 12 #[.float .f64 b] w fun e w' => e = .returned (.int .i64 n) ∧ w' = w := by
  have hm' := fmul hm
  have hq := fun w => isNaN_any r false w hn
  have hg' : (FloatKind.f64.format.order r 4674736138332667904 == some .gt) = false := hg
  have hl' : (FloatKind.f64.format.order r 13898108450065350656 == some .lt) = false := hl
  have hcv : ∀ w, (convert 24 3 (.float .f64 r)).run Try.prog w = .ok (.int .i64 n) w := fun w => run_convert_float_int w 24 3 .f64 .i64 r n (by rw [Try.underlying24]; rfl) Try.underlying3 hc
  go_enter Try.func12, Try.ntmps12
  go_wp2_with (simp only [hm', hr])
  refine (hq _).mono ?_
  rintro e w1 ⟨rfl, rfl⟩
  go_wp2_with (simp only [hg', hl', hcv])
  go_ret
  exact ⟨rfl, rfl⟩
end Go.Proofs.Ytdlcnbfiklbiiaa.Db
