/- Plain texts: what Name writes is a name. -/
import Derived.Test.YtmccbokjigjpnaaDoorQT9
namespace Go.Proofs.YtmccbokjigjpnaaDoor
open Go.RowKit Go.Lib Go.Joins
set_option linter.unusedSimpArgs false
set_option linter.unusedVariables false

namespace M
def nmB (c : UInt8) (n : Nat) (N : Int) : Bool :=
  decide (Lib.hasPrefix (List.replicate n c ++ tx N) [45] = false) && (decide (Lib.trimPrefix (List.replicate n c ++ tx N) [45] = List.replicate n c ++ tx N) && ((List.replicate n c ++ tx N).all (fun x => decide (x.toNat < 128)) && decide (Lib.idxFunc nl true ⟨(List.replicate n c ++ tx N).toArray⟩ = (n : Int))))
theorem nm_A : ∀ i : Fin 6, ∀ k : Fin 201, nmB 65 (i.val + 1) ((k.val : Int) + 1) = true := by decide +kernel
theorem nm_P : ∀ i : Fin 6, ∀ k : Fin 201, nmB 80 (i.val + 1) ((k.val : Int) + 1) = true := by decide +kernel
theorem nm_d : ∀ i : Fin 6, ∀ k : Fin 201, nmB 100 (i.val + 1) ((k.val : Int) + 1) = true := by decide +kernel
theorem nm_M : ∀ i : Fin 6, ∀ k : Fin 201, nmB 77 (i.val + 1) ((k.val : Int) + 1) = true := by decide +kernel
theorem nm_m : ∀ i : Fin 6, ∀ k : Fin 201, nmB 109 (i.val + 1) ((k.val : Int) + 1) = true := by decide +kernel
end M
end Go.Proofs.YtmccbokjigjpnaaDoor
