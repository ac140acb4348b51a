/- What comes of pieces since the last rest, in plain words. -/
import Derived.Test.YtjfmpgfpehnnjaiFiMath6
namespace Go.Proofs.Ytjfmpgfpehnnjai.Fi
open Fl
set_option linter.unusedSimpArgs false
set_option linter.unusedVariables false

/-- Behind some pieces: what came in since the last rest (I), all that came out (A) and from where on (F). -/
structure RI (c : Cf) (s : St) (I A : List Nat) (F : Nat) : Prop where
  o : (abs A).drop F = outs c rest0 (abs I)
  s : s = sts c rest0 (abs I)
  f : F ≤ A.length
theorem RI.start (c : Cf) : RI c rest0 [] [] 0 := ⟨rfl, rfl, Nat.le_refl _⟩
theorem RI.rest {c : Cf} {s : St} {I A : List Nat} {F : Nat} (h : RI c s I A F) : RI c rest0 [] A A.length := ⟨by rw [List.drop_of_length_le (by rw [abs_len]; exact Nat.le_refl _)]; rfl, rfl, Nat.le_refl _⟩
theorem RI.step {c : Cf} {s : St} {I A : List Nat} {F : Nat} (h : RI c s I A F) (p g : List Nat) (hg : abs g = outs c s (abs p)) : RI c (sts c s (abs p)) (I ++ p) (A ++ g) F := by
  refine ⟨?_, ?_, by rw [List.length_append]; have := h.f; omega⟩
  · rw [abs_app, List.drop_append_of_le_length (by rw [abs_len]; exact h.f), h.o, hg, abs_app, outs_app, h.s]
  · rw [abs_app, sts_app, ← h.s]
end Go.Proofs.Ytjfmpgfpehnnjai.Fi
