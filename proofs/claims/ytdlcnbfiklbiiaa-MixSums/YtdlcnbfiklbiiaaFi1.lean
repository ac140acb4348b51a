/- What the walk may take of '+', '-', '*' on floats, whether a number comes out or none; the filter's next sample. -/
import Derived.Test.YtdlcnbfiklbiiaaRows
import Derived.Test.YtdlcnbfiklbiiaaFiMath2
import Derived.Test.YtdlcnbfiklbiiaaRMay
import Derived.WalkKit
import Derived.Handy
import Derived.RegionTactic
import Derived.ChangeAlike
import Derived.Below
import Derived.Outline
import Derived.Deep.QuietTactic
import Derived.BigQuiet
import Derived.WalkSmall
import Derived.LoopTactic
import Derived.WalkLawsBesides
import Derived.Laws.Externs
import Derived.Deep.RegionHeld3
import Derived.Lib.QuietBelow
namespace Go.Proofs.Ytdlcnbfiklbiiaa.Fi
open Go.RowKit Go.Maps Go.Sort Fl
set_option linter.unusedSimpArgs false
set_option linter.unusedVariables false

theorem keepC {n : Nat} {w w' : World} {a : Addr} {v : Value} (h : Below n w w') (hlt : a.block < n) (hc : w.cell? a = some v) : w'.cell? a = some v := by rw [h.cell hlt]; exact hc
/-- Sum, difference, product of what can be told. -/
def fo : BinOp → Option Nat → Option Nat → Option Nat
  | .add => oa
  | .sub => os
  | .mul => om
  | _ => fun _ _ => none
theorem bits_fo (op : BinOp) (hop : op = .add ∨ op = .sub ∨ op = .mul) (x y : Nat) : floatBits op .f64 x y = fo op (ab x) (ab y) := by
  rcases hop with rfl | rfl | rfl
  · exact add_ab x y
  · exact sub_ab x y
  · exact mul_ab x y
theorem bits_some (op : BinOp) (hop : op = .add ∨ op = .sub ∨ op = .mul) (x y r : Nat) (h : floatBits op .f64 x y = some r) : ab r = some r ∧ r < 18446744073709551616 := by
  rcases hop with rfl | rfl | rfl
  · exact add_some h
  · exact sub_some h
  · exact mul_some h
/-- Whatever comes out: what can be told of it. -/
theorem fop_run (P : Program) (op : BinOp) (hop : op = .add ∨ op = .sub ∨ op = .mul) (x y : Nat) (t : TypeId) (w : World) :
    ∃ r d, (binOp op t (.float .f64 x) (.float .f64 y)).run P w = .ok (.float .f64 r) (w.drewN d) ∧ r < 18446744073709551616 ∧ ab r = fo op (ab x) (ab y) := by
  cases h : floatBits op .f64 x y with
  | some r =>
    obtain ⟨h1, h2⟩ := bits_some op hop x y r h
    exact ⟨r, 0, run_float_arith w op t .f64 x y r h, h2, by rw [← bits_fo op hop, h, h1]⟩
  | none =>
    refine ⟨cutN (w.tape w.drawn (.nanBits .f64 x y)), 1, ?_, (cutN_nn _).2, ?_⟩
    · rcases hop with rfl | rfl | rfl
      all_goals
        unfold floatBits at h
        simp only at h
        simp [binOp, Op.floatArith, h, Question.forced, Question.cut]
        exact ⟨by simp [cutN], rfl⟩
    · rw [← bits_fo op hop, h]
      unfold ab; rw [(cutN_nn _).1]; rfl
/-- The same at an operation of a region. -/
theorem fop_exec (P : Program) (o : Oper) (a : Act) (op : BinOp) (hop : op = .add ∨ op = .sub ∨ op = .mul) (i j : Operand) (t u : TypeId) (ho : o.op = .binOp op t i j u) (x y : Nat) (hi : a.eval i = .float .f64 x) (hj : a.eval j = .float .f64 y) (w : World) :
    ∃ v d, (execOp a.eval o).run P w = .ok (.value v) (w.drewN d) ∧ ∃ r, v = .float .f64 r ∧ r < 18446744073709551616 ∧ ab r = fo op (ab x) (ab y) := by
  obtain ⟨r, d, h1, h2, h3⟩ := fop_run P op hop x y t w
  refine ⟨.float .f64 r, d, ?_, r, rfl, h2, h3⟩
  unfold execOp
  rw [ho]
  rcases hop with rfl | rfl | rfl
  all_goals simp [hi, hj, eqGuard, h1]
theorem wpMay_f {P : Program} {ops : Array Oper} {Q : Act → Prop} {a : Act} {o : Oper} {rest : List Oper} {w : World} (hg : o.guard = none) (op : BinOp) (hop : op = .add ∨ op = .sub ∨ op = .mul) (i j : Operand) (t u : TypeId) (ho : o.op = .binOp op t i j u) (x y : Nat) (hi : a.eval i = .float .f64 x) (hj : a.eval j = .float .f64 y)
    (h : ∀ r, r < 18446744073709551616 → ab r = fo op (ab x) (ab y) → RM.wpMay P ops (fun w' => ∃ n, w' = w.drewN n) Q rest (a.put o.dst (.float .f64 r))) : RM.wpMay P ops (fun w' => ∃ n, w' = w.drewN n) Q (o :: rest) a := by
  refine RM.wpMay_draw (by unfold Region.wanted; rw [hg]) (fun v => ∃ r, v = .float .f64 r ∧ r < 18446744073709551616 ∧ ab r = fo op (ab x) (ab y)) (fun n => fop_exec P o a op hop i j t u ho x y hi hj (w.drewN n)) ?_
  rintro v ⟨r, rfl, h1, h2⟩
  exact h r h1 h2
end Go.Proofs.Ytdlcnbfiklbiiaa.Fi
