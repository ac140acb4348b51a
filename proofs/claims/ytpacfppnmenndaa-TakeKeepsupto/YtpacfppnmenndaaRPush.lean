/- A region that draws its order, whose operations only read but for the last one, which waits for all the others: one walk of the text's order serves every order. -/
import Derived.Test.YtpacfppnmenndaaRows
import Derived.Deep.QuietTactic
import Derived.Orders
import Derived.Tactics
namespace Go.Proofs.Ytpacfppnmenndaa.U
set_option linter.unusedVariables false
set_option linter.unusedSimpArgs false

/-- The last operation has no guard and waits for all the others; each of the others waits for those ahead of it alone. -/
def pushB (l : List Oper) (s : Oper) : Bool :=
  s.guard.isNone && (List.range l.length).all (fun i => s.after.any (fun e => Region.binds .any e && e.on == i)) &&
    (List.range l.length).all (fun i => ((l[i]?).map (fun o => o.after.all (fun e => !Region.binds .any e || decide (e.on < i)) && (match o.guard with | none => true | some (j, _) => decide (j < l.length)))).getD true)
structure PushP (l : Array Oper) (s : Oper) : Prop where
  free : s.guard = none
  last : ∀ i, i < l.size → ∃ e ∈ s.after, Region.binds .any e = true ∧ e.on = i
  down : ∀ (i : Nat) (o : Oper), l[i]? = some o → ∀ e ∈ o.after, Region.binds .any e = true → e.on < i
  guards : ∀ (i : Nat) (o : Oper), l[i]? = some o → ∀ j b, o.guard = some (j, b) → j < l.size
theorem pushB_spec {l : List Oper} {s : Oper} (h : pushB l s = true) : PushP l.toArray s := by
  unfold pushB at h
  rw [Bool.and_eq_true, Bool.and_eq_true] at h
  obtain ⟨⟨h1, h2⟩, h3⟩ := h
  rw [List.all_eq_true] at h2 h3
  refine ⟨by simpa using h1, fun i hi => ?_, fun i o ho e he hb => ?_, fun i o ho j b hg => ?_⟩
  · have := h2 i (List.mem_range.2 (by simpa using hi))
    rw [Array.any_eq_true'] at this
    obtain ⟨e, he, hx⟩ := this
    rw [Bool.and_eq_true] at hx
    exact ⟨e, he, hx.1, by simpa using hx.2⟩
  · have ho' : l[i]? = some o := by simpa using ho
    have hi : i < l.length := (List.getElem?_eq_some_iff.1 ho').1
    have := h3 i (List.mem_range.2 hi)
    rw [ho'] at this
    simp only [Option.map_some, Option.getD_some, Bool.and_eq_true] at this
    have h4 := (Array.all_eq_true'.1 this.1) e he
    rw [hb] at h4
    simpa using h4
  · have ho' : l[i]? = some o := by simpa using ho
    have hi : i < l.length := (List.getElem?_eq_some_iff.1 ho').1
    have := h3 i (List.mem_range.2 hi)
    rw [ho'] at this
    simp only [Option.map_some, Option.getD_some, Bool.and_eq_true] at this
    have h4 := this.2
    rw [hg] at h4
    simpa using h4

section
variable {P : Program} {C : World → Prop} {l : Array Oper} {s : Oper} {Q : Exit → Act → World → Prop}

/-- Nothing may come up: all have. -/
theorem all_listed (hp : PushP l s) {listed : Array Bool} (hsz : listed.size = l.size) (h : Region.ready .any l listed = []) : ∀ i, i < l.size → listed.getD i true = true := by
  intro i
  induction i using Nat.strongRecOn with
  | ind i ih =>
    intro hi
    cases hq : listed.getD i true with
    | true => rfl
    | false =>
      have : i ∈ Region.ready .any l listed := mem_ready.2 ⟨hq, l[i], by simp [hi], fun e he hb => by
        have hd := hp.down i l[i] (by simp [hi]) e he hb
        have h1 := ih e.on hd (by omega)
        have h2 : e.on < listed.size := by omega
        simp only [Array.getD_eq_getD_getElem?, Array.getElem?_eq_getElem h2, Option.getD_some] at h1 ⊢
        exact h1⟩
      rw [h] at this
      cases this
theorem push_getD {listed : Array Bool} {i : Nat} {d : Bool} (h : i < listed.size) : (listed.push false).getD i d = listed.getD i d := by
  simp only [Array.getD_eq_getD_getElem?]
  rw [Array.getElem?_push, if_neg (by omega)]
theorem push_last {listed : Array Bool} {d : Bool} : (listed.push false).getD listed.size d = false := by
  simp only [Array.getD_eq_getD_getElem?]
  rw [Array.getElem?_push, if_pos rfl]; rfl
theorem push_op {i : Nat} (h : i < l.size) : (l.push s)[i]? = l[i]? := by rw [Array.getElem?_push, if_neg (by omega)]
theorem push_op_last : (l.push s)[l.size]? = some s := by rw [Array.getElem?_push, if_pos rfl]
/-- Who may come up in the whole region. -/
theorem ready_push (hp : PushP l s) {listed : Array Bool} (hsz : listed.size = l.size) {i : Nat} (h : i ∈ Region.ready .any (l.push s) (listed.push false)) : (i < l.size ∧ i ∈ Region.ready .any l listed) ∨ (i = l.size ∧ ∀ j, j < l.size → listed.getD j true = true) := by
  obtain ⟨h1, o, ho, h2⟩ := mem_ready.1 h
  have hi : i < l.size + 1 := by have := (Array.getElem?_eq_some_iff.1 ho).1; simpa using this
  by_cases e : i = l.size
  · right
    refine ⟨e, fun j hj => ?_⟩
    subst e
    rw [push_op_last] at ho
    cases ho
    obtain ⟨e, he, hb, hon⟩ := hp.last j hj
    have h3 := h2 e he hb
    rw [hon, push_getD (by omega)] at h3
    have h4 : j < listed.size := by omega
    simp only [Array.getD_eq_getD_getElem?, Array.getElem?_eq_getElem h4, Option.getD_some] at h3 ⊢
    exact h3
  · left
    have hi' : i < l.size := by omega
    rw [push_op hi'] at ho
    rw [push_getD (by omega)] at h1
    refine ⟨hi', mem_ready.2 ⟨h1, o, ho, fun e he hb => ?_⟩⟩
    have h3 := h2 e he hb
    have h4 := hp.down i o ho e he hb
    rw [push_getD (by omega)] at h3
    exact h3
theorem ready_up (hp : PushP l s) {listed : Array Bool} (hsz : listed.size = l.size) {i : Nat} (h : i ∈ Region.ready .any l listed) : i ∈ Region.ready .any (l.push s) (listed.push false) := by
  obtain ⟨h1, o, ho, h2⟩ := mem_ready.1 h
  have hi : i < l.size := (Array.getElem?_eq_some_iff.1 ho).1
  refine mem_ready.2 ⟨by rw [push_getD (by omega)]; exact h1, o, by rw [push_op hi]; exact ho, fun e he hb => ?_⟩
  have h4 := hp.down i o ho e he hb
  rw [push_getD (by omega)]
  exact h2 e he hb
theorem ready_last (hp : PushP l s) (hd : ∀ e ∈ s.after, Region.binds .any e = true → e.on < l.size) {listed : Array Bool} (hsz : listed.size = l.size) (h : ∀ j, j < l.size → listed.getD j true = true) : l.size ∈ Region.ready .any (l.push s) (listed.push false) := by
  refine mem_ready.2 ⟨by rw [← hsz]; exact push_last, s, push_op_last, fun e he hb => ?_⟩
  have h4 := hd e he hb
  rw [push_getD (by omega)]
  have h3 := h e.on h4
  have h5 : e.on < listed.size := by omega
  simp only [Array.getD_eq_getD_getElem?, Array.getElem?_eq_getElem h5, Option.getD_some] at h3 ⊢
  exact h3
theorem ready_done {listed : Array Bool} (hsz : listed.size = l.size) (h : ∀ j, j < l.size → listed.getD j true = true) : Region.ready .any (l.push s) ((listed.push false).setIfInBounds l.size true) = [] := by
  apply List.eq_nil_iff_forall_not_mem.2
  intro i hi
  obtain ⟨h1, o, ho, _⟩ := mem_ready.1 hi
  have hil : i < l.size + 1 := by have := (Array.getElem?_eq_some_iff.1 ho).1; simpa using this
  have : ((listed.push false).setIfInBounds l.size true).getD i true = true := by
    simp only [Array.getD_eq_getD_getElem?]
    rw [Array.getElem?_setIfInBounds]
    by_cases e : l.size = i
    · rw [if_pos e, if_pos (by simp; omega)]; rfl
    · rw [if_neg e, Array.getElem?_push, if_neg (by omega)]
      have h3 := h i (by omega)
      rw [Array.getD_eq_getD_getElem?] at h3
      exact h3
  rw [this] at h1
  cases h1
theorem wpOp_push (hp : PushP l s) {i : Nat} (hi : i < l.size) {a : Act} {K : Act → Prop} {K' : Act → World → Prop} {w : World} (hC : C w) (h : ∀ a w', C w' → K a → K' a w') (hh : qOp P l C i K a) : wpOp P (l.push s) Q i K' a w := by
  unfold qOp at hh
  unfold wpOp
  rw [push_op hi]
  split
  · rename_i ho; simp only [ho] at hh; exact h _ _ hC hh
  · rename_i o ho
    simp only [ho] at hh
    have hw : Region.wanted o (yielded (l.push s) a.tmps) = Region.wanted o (yielded l a.tmps) := by
      unfold Region.wanted
      cases hg : o.guard with
      | none => rfl
      | some g =>
        obtain ⟨j, b⟩ := g
        have := hp.guards i o ho j b hg
        show (yielded (l.push s) a.tmps j == some b) = (yielded l a.tmps j == some b)
        unfold yielded
        rw [push_op this]
    rw [hw]
    split
    · rename_i hw2; simp only [hw2, if_true] at hh; exact .inl (Oper.wp_of_quiet hC h hh)
    · rename_i hw2; simp only [hw2] at hh; exact h _ _ hC hh
theorem wpAny_push (hp : PushP l s) (hd : ∀ e ∈ s.after, Region.binds .any e = true → e.on < l.size) {Qq : Act → Prop} (hQ : ∀ a w, C w → Qq a → s.wp P a w (fun a' w' => Q .normal a' w') Q ∨ (s.asks P a w ∧ LetsOut Q)) :
    ∀ (fuel : Nat) (listed : Array Bool) (a : Act) (w : World), listed.size = l.size → C w → wpAnyQ P .any l C Qq fuel listed a → wpAny P .any (l.push s) Q (fuel + 1) (listed.push false) a w := by
  have hlast : ∀ (fuel : Nat) (listed : Array Bool) (a : Act) (w : World), listed.size = l.size → C w → Qq a → (∀ j, j < l.size → listed.getD j true = true) → wpOp P (l.push s) Q l.size (wpAny P .any (l.push s) Q fuel ((listed.push false).setIfInBounds l.size true)) a w := by
    intro fuel listed a w hsz hC hq hall
    unfold wpOp
    rw [push_op_last]
    simp only
    rw [if_pos (by unfold Region.wanted; rw [hp.free])]
    rcases hQ a w hC hq with hq1 | hq1
    rotate_left
    · exact .inr hq1
    refine .inl (Oper.wp_mono (fun a' w' h => ?_) hq1)
    have hr := ready_done (s := s) hsz hall
    cases fuel with
    | zero => exact ⟨hr, h⟩
    | succ fuel => exact ⟨fun _ => h, fun i hi => by rw [hr] at hi; cases hi⟩
  intro fuel
  induction fuel with
  | zero =>
    intro listed a w hsz hC h
    obtain ⟨h0, hq⟩ := h
    have hall := all_listed hp hsz h0
    refine ⟨fun hr => ?_, fun i hi => ?_⟩
    · have := ready_last hp hd hsz hall
      rw [hr] at this; cases this
    · rcases ready_push hp hsz hi with ⟨_, h1⟩ | ⟨rfl, _⟩
      · rw [h0] at h1; cases h1
      · exact hlast 0 listed a w hsz hC hq hall
  | succ fuel ih =>
    intro listed a w hsz hC h
    refine ⟨fun hr => ?_, fun i hi => ?_⟩
    · exfalso
      by_cases h0 : Region.ready .any l listed = []
      · have := ready_last hp hd hsz (all_listed hp hsz h0)
        rw [hr] at this; cases this
      · obtain ⟨i, hi⟩ := List.exists_mem_of_ne_nil _ h0
        have := ready_up hp hsz hi
        rw [hr] at this; cases this
    · rcases ready_push hp hsz hi with ⟨hil, h1⟩ | ⟨rfl, hall⟩
      · have hset : (listed.push false).setIfInBounds i true = (listed.setIfInBounds i true).push false := by
          apply Array.ext_getElem?
          intro j
          rw [Array.getElem?_setIfInBounds, Array.getElem?_push, Array.getElem?_push, Array.getElem?_setIfInBounds]
          simp only [Array.size_push, Array.size_setIfInBounds]
          by_cases e : i = j
          · subst e
            rw [if_pos rfl, if_pos (by omega), if_neg (by omega), if_pos rfl, if_pos (by omega)]
          · rw [if_neg e, if_neg e]
        rw [hset]
        exact wpOp_push hp hil hC (fun a' w' hC' hk => ih _ a' w' (by simpa using hsz) hC' hk) (h.2 i h1)
      · have h0 : Region.ready .any l listed = [] := by
          apply List.eq_nil_iff_forall_not_mem.2
          intro j hj
          obtain ⟨h2, o, ho, _⟩ := mem_ready.1 hj
          have hjl : j < l.size := (Array.getElem?_eq_some_iff.1 ho).1
          rw [hall j hjl] at h2
          cases h2
        exact hlast (fuel + 1) listed a w hsz hC (h.1 h0) hall
end

/-- The law. -/
theorem wp_region_quiet_last {P : Program} {id : Nat} {Q : Exit → Act → World → Prop} {a : Act} {w : World} {L : List Oper} (k : Nat) (s : Oper) (hL : L = L.take k ++ [s]) (hm : P.follows .mixedOrders = true) (hB : Region.lexB .any (L.take k).toArray = true) (hp : pushB (L.take k) s = true)
    (hd : s.after.all (fun e => decide (e.on < (L.take k).length)) = true)
    (h : wpQuiet P (L.take k).toArray (fun w' => ∃ n, w' = w.drewN n) (fun a' => ∀ w', (∃ n, w' = w.drewN n) → wpList P L.toArray Q [s] a' w') (L.take k) a) : (Code.region id L.toArray true).wp P Q a w := by
  simp only [Region.lexB, Bool.and_eq_true] at hB
  have hP := pushB_spec hp
  have e : L.toArray = (L.take k).toArray.push s := by
    have : L.toArray = (L.take k ++ [s]).toArray := congrArg List.toArray hL
    rw [this]; simp
  have hf := wpAnyQ_lex (P := P) (C := fun w' => ∃ n, w' = w.drewN n) (md := .any) hB.1 (L.take k) 0 (Array.replicate (L.take k).toArray.size false) a (by simp) (by simpa using hB.2) h
  have hw := wpAny_push (P := P) (Q := Q) hP (fun e he _ => by
    have := (Array.all_eq_true'.1 hd) e he
    simpa using this) (Qq := fun a' => ∀ w', (∃ n, w' = w.drewN n) → wpList P L.toArray Q [s] a' w') (fun a' w' hC hq => by
      have h1 := hq w' hC
      simp only [wpList] at h1
      rw [if_pos (by unfold Region.wanted; rw [hP.free])] at h1
      exact h1) (L.take k).length (Array.replicate (L.take k).toArray.size false) a { w with drawn := w.drawn + 1 } (by simp) ⟨1, rfl⟩ hf
  refine wp_region_any hm ?_
  have hl : L.toArray.size = (L.take k).length + 1 := by rw [e]; simp
  have hr : Array.replicate L.toArray.size false = (Array.replicate (L.take k).toArray.size false).push false := by
    rw [hl, List.size_toArray, Array.replicate_succ]
  rw [hr, hl, e]
  exact hw
end Go.Proofs.Ytpacfppnmenndaa.U
