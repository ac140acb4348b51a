/- A region that draws its order, by what holds between its operations. -/
import Derived.Test.YtmccbokjigjpnaaDoorQD6
import Derived.Test.YtmccbokjigjpnaaDoorQT3
import Derived.Test.YtmccbokjigjpnaaDoorQT5
import Derived.Deep.RegionWith
namespace Go.Proofs.YtmccbokjigjpnaaDoor
open Go.RowKit
set_option linter.unusedVariables false
set_option linter.unusedSimpArgs false

/-- How many operations have not come up yet. -/
def leftOf (L : Array Bool) : Nat := (L.toList.filter (fun b => !b)).length
theorem left_set (L : Array Bool) (i : Nat) (hi : i < L.size) (h : L.getD i true = false) : leftOf (L.setIfInBounds i true) + 1 = leftOf L := by
  have h1 : L.toList[i]? = some false := by
    simp only [Array.getD, hi, dif_pos] at h
    rw [Array.getElem?_toList, Array.getElem?_eq_getElem hi]
    simpa using h
  unfold leftOf
  rw [Array.toList_setIfInBounds]
  generalize L.toList = l at *
  clear h hi
  induction l generalizing i with
  | nil => simp at h1
  | cons x l ih =>
    cases i with
    | zero => simp at h1; subst h1; simp
    | succ i =>
      simp at h1
      have := ih i h1
      cases x <;> simp [this]
theorem ready_mem {md : Region.Mode} {ops : Array Oper} {L : Array Bool} {i : Nat} (h : i ∈ Region.ready md ops L) : i < ops.size ∧ L.getD i true = false ∧ ((ops[i]?).map (·.after.all fun e => !Region.binds md e || L.getD e.on false)).getD false = true := by
  unfold Region.ready at h
  rw [List.mem_filter] at h
  have h2 := h.2
  rw [Bool.and_eq_true] at h2
  refine ⟨List.mem_range.1 h.1, ?_, h2.2⟩
  have := h2.1
  simpa using this
/-- What holds ahead of the region and is kept by whichever operation comes up next holds behind it. -/
theorem wpAny_inv {P : Program} {ops : Array Oper} {Q : Exit → Act → World → Prop} {md : Region.Mode} (I : Array Bool → Act → World → Prop) (hsz : ∀ L a w, I L a w → L.size = ops.size)
    (hdone : ∀ L a w, I L a w → Region.ready md ops L = [] → Q .normal a w)
    (hstep : ∀ L a w, I L a w → ∀ i ∈ Region.ready md ops L, wpOp P ops Q i (I (L.setIfInBounds i true)) a w) :
    ∀ (fuel : Nat) (L : Array Bool) (a : Act) (w : World), I L a w → leftOf L ≤ fuel → wpAny P md ops Q fuel L a w := by
  intro fuel
  induction fuel with
  | zero =>
    intro L a w hI hl
    have hr : Region.ready md ops L = [] := by
      apply List.eq_nil_iff_forall_not_mem.2
      intro i hi
      obtain ⟨h1, h2, _⟩ := ready_mem hi
      have := left_set L i (by rw [hsz L a w hI]; exact h1) h2
      omega
    exact ⟨hr, hdone L a w hI hr⟩
  | succ fuel ih =>
    intro L a w hI hl
    refine ⟨fun hr => hdone L a w hI hr, fun i hi => ?_⟩
    obtain ⟨h1, h2, _⟩ := ready_mem hi
    have := left_set L i (by rw [hsz L a w hI]; exact h1) h2
    exact wpOp_mono (fun a' w' h => ih _ a' w' h (by omega)) (hstep L a w hI i hi)
end Go.Proofs.YtmccbokjigjpnaaDoor
