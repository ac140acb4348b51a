/- What the document's Run comes to. -/
import Derived.Test.YtjfmpgfpehnnjajFi7
import Derived.Deep.DeepCutAuto
namespace Go.Proofs.Ytjfmpgfpehnnjaj.Fi
open Go.RowKit Go.Maps Go.Sort Fl
set_option linter.unusedSimpArgs false
set_option linter.unusedVariables false

theorem wpList_nil' {P : Program} {ops : Array Oper} {Q : Exit → Act → World → Prop} {a : Act} {w : World} (h : Q .normal a w) : wpList P ops Q [] a w := h
theorem own_new (w : World) (base : Nat) (hb : base ≤ w.heap.size) : (w.alloc (Obj.cells #[] 22)).ownsRow base 22 1 (.slice (some ⟨w.heap.size, 0, none⟩) 0 0) 0 (fls []) := by
  refine ⟨rfl, .inr ⟨w.heap.size, 0, #[], rfl, hb, ?_, Nat.le_refl _, by unfold maxLen; omega, rfl, rfl⟩⟩
  show (w.heap.push _)[w.heap.size]? = _
  simp
theorem belD {w : World} (n : Nat) : Below w.heap.size w (w.drewN n) := ⟨rfl, rfl, rfl, Nat.le_refl _, fun _ _ => rfl⟩
end Go.Proofs.Ytjfmpgfpehnnjaj.Fi
