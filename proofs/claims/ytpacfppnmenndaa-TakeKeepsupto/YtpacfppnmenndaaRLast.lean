/- A region that draws its order: reads, doers, and a last operation that waits for all the others and may do anything: one walk of the text's order serves every order. -/
import Derived.Test.YtpacfppnmenndaaRFloatC
import Derived.Test.YtpacfppnmenndaaRPush
namespace Go.Proofs.Ytpacfppnmenndaa.RF
open Go.RowKit Go.Sort U
set_option linter.unusedVariables false
set_option linter.unusedSimpArgs false
section
variable {P : Program} {C : World → Prop} {l : Array Oper} {s : Oper} {fl : Nat → Bool} {Q : Exit → Act → World → Prop}

theorem wpOp_pushF (hp : PushP l s) {i : Nat} (hi : i < l.size) {a : Act} {w : World} {K K' : Act → World → Prop} (hC : C w) (h : ∀ a w', C w' → K a w' → K' a w') (hh : fOp P l C fl i K a w) : wpOp P (l.push s) Q i K' a w := by
  unfold fOp at hh
  unfold wpOp
  rw [push_op hi]
  split
  · rename_i ho; simp only [ho] at hh; exact h _ _ hC hh
  · rename_i o ho
    simp only [ho] at hh
    have hw : Region.wanted o (yielded (l.push s) a.tmps) = Region.wanted o (yielded l a.tmps) := by
      unfold Region.wanted
      cases hg : o.guard with
      | none => rfl
      | some g =>
        obtain ⟨j, b⟩ := g
        have := hp.guards i o ho j b hg
        show (yielded (l.push s) a.tmps j == some b) = (yielded l a.tmps j == some b)
        unfold yielded
        rw [push_op this]
    rw [hw]
    split
    · rename_i hw2
      simp only [hw2, if_true] at hh
      left
      split at hh
      · obtain ⟨v, h1, h2⟩ := hh
        have h3 := h1 w hC
        unfold RM.valAt at h3
        unfold Oper.wp
        generalize (execOp a.eval o).run P w = r at *
        cases r with
        | ok n w1 =>
          cases n <;> simp only [RM.valUpon] at h3 <;> simp only [Oper.upon]
          case value u => obtain ⟨e1, e2⟩ := h3; rw [e1, e2]; exact h _ _ hC h2
          case skip => obtain ⟨e1, e2⟩ := h3; rw [e1, ← e2]; exact h _ _ hC h2
        | halt x w1 => simp only [RM.valUpon] at h3
      · exact wp_turn rfl rfl (fun d u w' hk => h _ _ hk.1 hk.2) hh
    · rename_i hw2; simp only [hw2] at hh; exact h _ _ hC hh
theorem wpAny_pushF (hp : PushP l s) (hd : ∀ e ∈ s.after, Region.binds .any e = true → e.on < l.size) {Qq : Act → World → Prop} (hQ : ∀ a w, C w → Qq a w → s.wp P a w (fun a' w' => Q .normal a' w') Q ∨ (s.asks P a w ∧ LetsOut Q)) :
    ∀ (fuel : Nat) (listed : Array Bool) (a : Act) (w : World), listed.size = l.size → C w → wpAnyF P l C fl Qq fuel listed a w → wpAny P .any (l.push s) Q (fuel + 1) (listed.push false) a w := by
  have hlast : ∀ (fuel : Nat) (listed : Array Bool) (a : Act) (w : World), listed.size = l.size → C w → Qq a w → (∀ j, j < l.size → listed.getD j true = true) → wpOp P (l.push s) Q l.size (wpAny P .any (l.push s) Q fuel ((listed.push false).setIfInBounds l.size true)) a w := by
    intro fuel listed a w hsz hC hq hall
    unfold wpOp
    rw [push_op_last]
    simp only
    rw [if_pos (by unfold Region.wanted; rw [hp.free])]
    rcases hQ a w hC hq with hq1 | hq1
    rotate_left
    · exact .inr hq1
    refine .inl (Oper.wp_mono (fun a' w' h => ?_) hq1)
    have hr := ready_done (s := s) hsz hall
    cases fuel with
    | zero => exact ⟨hr, h⟩
    | succ fuel => exact ⟨fun _ => h, fun i hi => by rw [hr] at hi; cases hi⟩
  intro fuel
  induction fuel with
  | zero =>
    intro listed a w hsz hC h
    obtain ⟨h0, hq⟩ := h
    have hall := all_listed hp hsz h0
    refine ⟨fun hr => ?_, fun i hi => ?_⟩
    · have := ready_last hp hd hsz hall
      rw [hr] at this; cases this
    · rcases ready_push hp hsz hi with ⟨_, h1⟩ | ⟨rfl, _⟩
      · rw [h0] at h1; cases h1
      · exact hlast 0 listed a w hsz hC hq hall
  | succ fuel ih =>
    intro listed a w hsz hC h
    refine ⟨fun hr => ?_, fun i hi => ?_⟩
    · exfalso
      by_cases h0 : Region.ready .any l listed = []
      · have := ready_last hp hd hsz (all_listed hp hsz h0)
        rw [hr] at this; cases this
      · obtain ⟨i, hi⟩ := List.exists_mem_of_ne_nil _ h0
        have := ready_up hp hsz hi
        rw [hr] at this; cases this
    · rcases ready_push hp hsz hi with ⟨hil, h1⟩ | ⟨rfl, hall⟩
      · have hset : (listed.push false).setIfInBounds i true = (listed.setIfInBounds i true).push false := by
          apply Array.ext_getElem?
          intro j
          rw [Array.getElem?_setIfInBounds, Array.getElem?_push, Array.getElem?_push, Array.getElem?_setIfInBounds]
          simp only [Array.size_push, Array.size_setIfInBounds]
          by_cases e : i = j
          · subst e
            rw [if_pos rfl, if_pos (by omega), if_neg (by omega), if_pos rfl, if_pos (by omega)]
          · rw [if_neg e, if_neg e]
        rw [hset]
        exact wpOp_pushF hp hil hC (fun a' w' hC' hk => ih _ a' w' (by simpa using hsz) hC' hk) (h.2 i h1)
      · have h0 : Region.ready .any l listed = [] := by
          apply List.eq_nil_iff_forall_not_mem.2
          intro j hj
          obtain ⟨h2, o, ho, _⟩ := mem_ready.1 hj
          have hjl : j < l.size := (Array.getElem?_eq_some_iff.1 ho).1
          rw [hall j hjl] at h2
          cases h2
        exact hlast (fuel + 1) listed a w hsz hC (h.1 h0) hall
end
/-- The law. -/
theorem wp_region_last {P : Program} {id : Nat} {Q : Exit → Act → World → Prop} {a : Act} {w : World} {L : List Oper} (C : World → Prop) (fl : Nat → Bool) (k : Nat) (s : Oper) (hL : L = L.take k ++ [s]) (hm : P.follows .mixedOrders = true) (hB : Region.lexB .any (L.take k).toArray = true) (hdo : doersB (L.take k).toArray fl = true) (hp : pushB (L.take k) s = true)
    (hd : s.after.all (fun e => decide (e.on < (L.take k).length)) = true) (hC : C w.drew)
    (h : wpFl P (L.take k).toArray C fl (fun a' w' => wpList P L.toArray Q [s] a' w') (L.take k) 0 a w.drew) : (Code.region id L.toArray true).wp P Q a w := by
  simp only [Region.lexB, Bool.and_eq_true] at hB
  have hP := pushB_spec hp
  have e : L.toArray = (L.take k).toArray.push s := by
    have : L.toArray = (L.take k ++ [s]).toArray := congrArg List.toArray hL
    rw [this]; simp
  have hf := wpAnyF_lex (P := P) (ops := (L.take k).toArray) (C := C) (fl := fl) (Q := fun a' w' => wpList P L.toArray Q [s] a' w') hB.1 hdo (L.take k) 0 (Array.replicate (L.take k).toArray.size false) a w.drew hC (by simp) (shut_none _ _) (fun j hj => by omega) (by simp) (by simpa using hB.2) h
  have hw := wpAny_pushF (P := P) (Q := Q) hP (fun e he _ => by
    have := (Array.all_eq_true'.1 hd) e he
    simpa using this) (Qq := fun a' w' => wpList P L.toArray Q [s] a' w') (fun a' w' hC hq => by
      have h1 := hq
      simp only [wpList] at h1
      rw [if_pos (by unfold Region.wanted; rw [hP.free])] at h1
      exact h1) (L.take k).length (Array.replicate (L.take k).toArray.size false) a w.drew (by simp) hC hf
  refine wp_region_any hm ?_
  have hl : L.toArray.size = (L.take k).length + 1 := by rw [e]; simp
  have hr : Array.replicate L.toArray.size false = (Array.replicate (L.take k).toArray.size false).push false := by
    rw [hl, List.size_toArray, Array.replicate_succ]
  rw [hr, hl, e]
  exact hw
end Go.Proofs.Ytpacfppnmenndaa.RF
