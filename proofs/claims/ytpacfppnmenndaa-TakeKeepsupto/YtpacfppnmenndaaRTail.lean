/- A region that draws its order: operations that only read, and behind them a chain of operations each of which comes up only when all ahead of it have (by way of others, if need be): one walk of the text's order serves every order. -/
import Derived.Test.YtpacfppnmenndaaRows
import Derived.Deep.QuietTactic
import Derived.Orders
import Derived.Tactics
import Derived.Lib.QuietBelow
namespace Go.Proofs.Ytpacfppnmenndaa.U2
open Go.RowKit Go.Sort
set_option linter.unusedVariables false
set_option linter.unusedSimpArgs false

/-- One operation waits for another one, by way of others, if need be. -/
def waitsB (ops : Array Oper) : Nat → Nat → Nat → Bool
  | 0, _, _ => false
  | f + 1, a, b => ((ops[a]?).map (fun o => o.after.any (fun e => Region.binds .any e && (e.on == b || waitsB ops f e.on b)))).getD false
/-- What has come up has all that it waits for come up ahead of it. -/
def Shut (ops : Array Oper) (listed : Array Bool) : Prop := ∀ i, listed.getD i false = true → ∀ o, ops[i]? = some o → ∀ e ∈ o.after, Region.binds .any e = true → listed.getD e.on false = true
theorem waits_listed {ops : Array Oper} {listed : Array Bool} (hs : Shut ops listed) : ∀ (f a b : Nat), (∀ o, ops[a]? = some o → ∀ e ∈ o.after, Region.binds .any e = true → listed.getD e.on false = true) → waitsB ops f a b = true → listed.getD b false = true := by
  intro f
  induction f with
  | zero => intro a b _ h; simp [waitsB] at h
  | succ f ih =>
    intro a b ha h
    unfold waitsB at h
    cases ho : ops[a]? with
    | none => rw [ho] at h; simp at h
    | some o =>
      rw [ho] at h
      simp only [Option.map_some, Option.getD_some] at h
      rw [Array.any_eq_true'] at h
      obtain ⟨e, he, hx⟩ := h
      rw [Bool.and_eq_true, Bool.or_eq_true] at hx
      have h1 := ha o ho e he hx.1
      rcases hx.2 with h2 | h2
      · have : e.on = b := by simpa using h2
        rw [← this]; exact h1
      · exact ih e.on b (fun o' ho' e' he' hb' => hs e.on h1 o' ho' e' he' hb') h2
theorem getD_tf {listed : Array Bool} {i : Nat} (h : i < listed.size) : listed.getD i true = listed.getD i false := by
  simp only [Array.getD_eq_getD_getElem?, Array.getElem?_eq_getElem h, Option.getD_some]
theorem getD_out {listed : Array Bool} {i : Nat} {d : Bool} (h : listed.size ≤ i) : listed.getD i d = d := by
  simp only [Array.getD_eq_getD_getElem?]
  rw [Array.getElem?_eq_none h]; rfl
theorem getD_set {listed : Array Bool} {i j : Nat} {d : Bool} (h : i < listed.size) : (listed.setIfInBounds i true).getD j d = if i = j then true else listed.getD j d := by
  simp only [Array.getD_eq_getD_getElem?, Array.getElem?_setIfInBounds]
  by_cases e : i = j
  · subst e; simp [h]
  · simp [e]
theorem shut_set {ops : Array Oper} {listed : Array Bool} {i : Nat} (hs : Shut ops listed) (hsz : listed.size = ops.size) (h : i ∈ Region.ready .any ops listed) : Shut ops (listed.setIfInBounds i true) := by
  obtain ⟨h1, o, ho, h2⟩ := mem_ready.1 h
  have hi : i < ops.size := (Array.getElem?_eq_some_iff.1 ho).1
  intro j hj o' ho' e he hb
  rw [getD_set (by omega)] at hj ⊢
  by_cases e1 : i = e.on
  · rw [if_pos e1]
  · rw [if_neg e1]
    by_cases e2 : i = j
    · subst e2
      rw [ho] at ho'
      cases ho'
      exact h2 e he hb
    · rw [if_neg e2] at hj
      exact hs j hj o' ho' e he hb

/-- The operations ahead wait for those ahead of them alone; each of those behind waits for all that lie ahead. -/
def tailB (L : List Oper) (k : Nat) : Bool :=
  (List.range k).all (fun i => ((L[i]?).map (fun o => o.after.all (fun e => !Region.binds .any e || decide (e.on < i)) && (match o.guard with | none => true | some (j, _) => decide (j < k)))).getD true) &&
    (List.range (L.length - k)).all (fun j => (List.range k).all (fun i => waitsB L.toArray L.length (k + j) i))
/-- Behind them one alone can come up, in the order of the text. -/
def chainB (ops : Array Oper) : Nat → Nat → Array Bool → Bool
  | 0, _, listed => Region.ready .any ops listed == []
  | m + 1, j, listed => Region.ready .any ops listed == [j] && chainB ops m (j + 1) (listed.setIfInBounds j true)
theorem wpAny_chain {P : Program} {L : List Oper} {Q : Exit → Act → World → Prop} : ∀ (m j : Nat) (listed : Array Bool) (a : Act) (w : World), chainB L.toArray m j listed = true → j + m = L.length → wpList P L.toArray Q (L.drop j) a w → wpAny P .any L.toArray Q m listed a w := by
  intro m
  induction m with
  | zero =>
    intro j listed a w hc hj h
    rw [List.drop_of_length_le (by omega)] at h
    simp only [chainB, beq_iff_eq] at hc
    exact ⟨hc, h⟩
  | succ m ih =>
    intro j listed a w hc hj h
    simp only [chainB, Bool.and_eq_true, beq_iff_eq] at hc
    refine ⟨fun hr => ?_, fun i hi => ?_⟩
    · rw [hc.1] at hr; cases hr
    · rw [hc.1] at hi
      have hi' : i = j := by simpa using hi
      subst hi'
      have hlt : i < L.length := by omega
      rw [List.drop_eq_getElem_cons hlt] at h
      simp only [wpList] at h
      unfold wpOp
      have ho : L.toArray[i]? = some L[i] := by simp [hlt]
      rw [ho]
      simp only
      split
      · rename_i hw
        rw [if_pos hw] at h
        rcases h with h | h
        · exact .inl (Oper.wp_mono (fun a' w' hh => ih (i + 1) _ a' w' hc.2 (by omega) hh) h)
        · exact .inr h
      · rename_i hw
        rw [if_neg hw] at h
        exact ih (i + 1) _ _ _ hc.2 (by omega) h

section
variable {P : Program} {C : World → Prop} {L : List Oper} {k : Nat} {Q : Exit → Act → World → Prop}

structure TailP (L : List Oper) (k : Nat) : Prop where
  le : k ≤ L.length
  down : ∀ (i : Nat) (o : Oper), i < k → L[i]? = some o → ∀ e ∈ o.after, Region.binds .any e = true → e.on < i
  guards : ∀ (i : Nat) (o : Oper), i < k → L[i]? = some o → ∀ j b, o.guard = some (j, b) → j < k
  wait : ∀ (j i : Nat), k ≤ j → j < L.length → i < k → waitsB L.toArray L.length j i = true
theorem tailB_spec (hk : k ≤ L.length) (h : tailB L k = true) : TailP L k := by
  unfold tailB at h
  rw [Bool.and_eq_true, List.all_eq_true, List.all_eq_true] at h
  obtain ⟨h1, h2⟩ := h
  refine ⟨hk, fun i o hi ho e he hb => ?_, fun i o hi ho j b hg => ?_, fun j i hj hjl hi => ?_⟩
  · have := h1 i (List.mem_range.2 hi)
    rw [ho] at this
    simp only [Option.map_some, Option.getD_some, Bool.and_eq_true] at this
    have h4 := (Array.all_eq_true'.1 this.1) e he
    rw [hb] at h4
    simpa using h4
  · have := h1 i (List.mem_range.2 hi)
    rw [ho] at this
    simp only [Option.map_some, Option.getD_some, Bool.and_eq_true] at this
    have h4 := this.2
    rw [hg] at h4
    simpa using h4
  · have := h2 (j - k) (List.mem_range.2 (by omega))
    rw [List.all_eq_true] at this
    have := this i (List.mem_range.2 hi)
    rw [show k + (j - k) = j by omega] at this
    exact this

/-- The first k of what has come up. -/
def cutL (k : Nat) (listed : Array Bool) : Array Bool := listed.extract 0 k
theorem cutL_size {listed : Array Bool} (h : k ≤ listed.size) : (cutL k listed).size = k := by unfold cutL; simp; omega
theorem cutL_getD {listed : Array Bool} (h : k ≤ listed.size) {i : Nat} (hi : i < k) {d : Bool} : (cutL k listed).getD i d = listed.getD i d := by
  unfold cutL
  simp only [Array.getD_eq_getD_getElem?]
  rw [Array.getElem?_extract, if_pos (by omega)]
  simp
theorem cutL_set {listed : Array Bool} (h : k ≤ listed.size) {i : Nat} (hi : i < k) : cutL k (listed.setIfInBounds i true) = (cutL k listed).setIfInBounds i true := by
  apply Array.ext_getElem?
  intro j
  unfold cutL
  simp only [Array.getElem?_extract, Array.getElem?_setIfInBounds, Array.size_extract, Array.size_setIfInBounds, Nat.zero_add, Nat.sub_zero]
  by_cases hj : j < k
  · by_cases e : i = j
    · simp only [e, if_true]
      rw [if_pos (by omega), if_pos (by omega), if_pos (by omega)]
    · simp only [e, if_false]
  · rw [if_neg (by omega), if_neg (by omega), if_neg (by omega)]
theorem take_op {i : Nat} (hi : i < k) : (L.take k).toArray[i]? = L.toArray[i]? := by
  simp only [List.getElem?_toArray]
  rw [List.getElem?_take, if_pos hi]
theorem take_sz (hp : TailP L k) : (L.take k).toArray.size = k := by have := hp.le; simp; omega
/-- Of the first ones: who may come up. -/
theorem ready_cut (hp : TailP L k) {listed : Array Bool} (hsz : listed.size = L.length) {i : Nat} (hi : i < k) : i ∈ Region.ready .any L.toArray listed ↔ i ∈ Region.ready .any (L.take k).toArray (cutL k listed) := by
  have hk := hp.le
  rw [mem_ready, mem_ready]
  rw [cutL_getD (by omega) hi, take_op hi]
  constructor
  · rintro ⟨h1, o, ho, h2⟩
    refine ⟨h1, o, ho, fun e he hb => ?_⟩
    have := hp.down i o hi (by simpa using ho) e he hb
    rw [cutL_getD (by omega) (by omega)]
    exact h2 e he hb
  · rintro ⟨h1, o, ho, h2⟩
    refine ⟨h1, o, ho, fun e he hb => ?_⟩
    have := hp.down i o hi (by simpa using ho) e he hb
    have h3 := h2 e he hb
    rw [cutL_getD (by omega) (by omega)] at h3
    exact h3
theorem wpOp_cut (hp : TailP L k) {i : Nat} (hi : i < k) {a : Act} {K : Act → Prop} {K' : Act → World → Prop} {w : World} (hC : C w) (h : ∀ a w', C w' → K a → K' a w') (hh : qOp P (L.take k).toArray C i K a) : wpOp P L.toArray Q i K' a w := by
  unfold qOp at hh
  unfold wpOp
  rw [take_op hi] at hh
  split
  · rename_i ho; simp only [ho] at hh; exact h _ _ hC hh
  · rename_i o ho
    simp only [ho] at hh
    have hw : Region.wanted o (yielded L.toArray a.tmps) = Region.wanted o (yielded (L.take k).toArray a.tmps) := by
      unfold Region.wanted
      cases hg : o.guard with
      | none => rfl
      | some g =>
        obtain ⟨j, b⟩ := g
        have := hp.guards i o hi (by simpa using ho) j b hg
        show (yielded L.toArray a.tmps j == some b) = (yielded (L.take k).toArray a.tmps j == some b)
        unfold yielded
        rw [take_op this]
    rw [hw]
    split
    · rename_i hw2; simp only [hw2, if_true] at hh; exact .inl (Oper.wp_of_quiet hC h hh)
    · rename_i hw2; simp only [hw2] at hh; exact h _ _ hC hh
/-- Where none of the first ones may come up, all have. -/
theorem cut_all (hp : TailP L k) {listed : Array Bool} (hsz : listed.size = L.length) (h : Region.ready .any (L.take k).toArray (cutL k listed) = []) : ∀ i, i < k → listed.getD i false = true := by
  have hk := hp.le
  intro i
  induction i using Nat.strongRecOn with
  | ind i ih =>
    intro hi
    cases hq : listed.getD i false with
    | true => rfl
    | false =>
      have ho : L[i]? = some L[i] := by simp
      have : i ∈ Region.ready .any L.toArray listed := mem_ready.2 ⟨by rw [getD_tf (by omega)]; exact hq, L[i], by simp, fun e he hb => by
        have hd := hp.down i L[i] hi ho e he hb
        exact ih e.on hd (by omega)⟩
      rw [ready_cut hp hsz hi, h] at this
      cases this
theorem full_is {listed : Array Bool} {m : Nat} (hsz : listed.size = k + m) (h1 : ∀ i, i < k → listed.getD i false = true) (h2 : ∀ i, k ≤ i → i < k + m → listed.getD i true = false) : listed = Array.replicate k true ++ Array.replicate m false := by
  apply Array.ext_getElem?
  intro j
  rw [Array.getElem?_append]
  simp only [Array.size_replicate]
  by_cases hj : j < k
  · rw [if_pos hj, Array.getElem?_replicate, if_pos hj]
    have := h1 j hj
    simp only [Array.getD_eq_getD_getElem?, Array.getElem?_eq_getElem (show j < listed.size by omega), Option.getD_some] at this
    rw [Array.getElem?_eq_getElem (by omega), this]
  · rw [if_neg hj, Array.getElem?_replicate]
    by_cases hj2 : j < k + m
    · rw [if_pos (by omega)]
      have := h2 j (by omega) hj2
      simp only [Array.getD_eq_getD_getElem?, Array.getElem?_eq_getElem (show j < listed.size by omega), Option.getD_some] at this
      rw [Array.getElem?_eq_getElem (by omega), this]
    · rw [if_neg (by omega), Array.getElem?_eq_none (by omega)]

/-- How many have not come up yet. -/
def leftOf (L : Array Bool) : Nat := (L.toList.filter (fun b => !b)).length
theorem left_set (L : Array Bool) (i : Nat) (hi : i < L.size) (h : L.getD i true = false) : leftOf (L.setIfInBounds i true) + 1 = leftOf L := by
  have h1 : L.toList[i]? = some false := by
    simp only [Array.getD, hi, dif_pos] at h
    rw [Array.getElem?_toList, Array.getElem?_eq_getElem hi]
    simpa using h
  unfold leftOf
  rw [Array.toList_setIfInBounds]
  generalize L.toList = l at *
  clear h hi
  induction l generalizing i with
  | nil => simp at h1
  | cons x l ih =>
    cases i with
    | zero => simp at h1; subst h1; simp
    | succ i =>
      simp at h1
      have := ih i h1
      cases x <;> simp [this]
theorem left_none {L : Array Bool} (h : leftOf L = 0) (i : Nat) (hi : i < L.size) : L.getD i false = true := by
  unfold leftOf at h
  have h1 := List.filter_eq_nil_iff.1 (List.length_eq_zero_iff.1 h) L[i] (by simp)
  simp only [Array.getD_eq_getD_getElem?, Array.getElem?_eq_getElem hi, Option.getD_some]
  simpa using h1
theorem left_all {L : Array Bool} (h : ∀ i, i < L.size → L.getD i false = true) : leftOf L = 0 := by
  unfold leftOf
  rw [List.length_eq_zero_iff, List.filter_eq_nil_iff]
  intro b hb
  obtain ⟨i, hi, rfl⟩ := List.getElem_of_mem hb
  have := h i (by simpa using hi)
  simp only [Array.getD_eq_getD_getElem?, Array.getElem?_eq_getElem (show i < L.size by simpa using hi), Option.getD_some] at this
  simpa using this

theorem wpAny_tail (hp : TailP L k) {Qq : Act → Prop} (hQ : ∀ a w, C w → Qq a → wpAny P .any L.toArray Q (L.length - k) (Array.replicate k true ++ Array.replicate (L.length - k) false) a w) :
    ∀ (fuel : Nat) (listed : Array Bool) (a : Act) (w : World), listed.size = L.length → Shut L.toArray listed → (∀ i, k ≤ i → i < L.length → listed.getD i true = false) → leftOf (cutL k listed) = fuel → C w → wpAnyQ P .any (L.take k).toArray C Qq fuel (cutL k listed) a → wpAny P .any L.toArray Q (fuel + (L.length - k)) listed a w := by
  have hk := hp.le
  intro fuel
  induction fuel with
  | zero =>
    intro listed a w hsz hs ht hl hC h
    obtain ⟨h0, hq⟩ := h
    have := full_is (k := k) (m := L.length - k) (by omega) (fun i hi => by
      have := left_none hl i (by rw [cutL_size (by omega)]; exact hi)
      rw [cutL_getD (by omega) hi] at this
      exact this) (fun i h1 h2 => ht i h1 (by omega))
    rw [this, Nat.zero_add]
    exact hQ a w hC hq
  | succ fuel ih =>
    intro listed a w hsz hs ht hl hC h
    have hn0 : Region.ready .any (L.take k).toArray (cutL k listed) ≠ [] := fun h0 => by
      have hall := cut_all hp hsz h0
      have := left_all (L := cutL k listed) (fun i hi => by
        rw [cutL_size (by omega)] at hi
        rw [cutL_getD (by omega) hi]; exact hall i hi)
      omega
    rw [show fuel + 1 + (L.length - k) = (fuel + (L.length - k)) + 1 by omega]
    refine ⟨fun hr => ?_, fun i hi => ?_⟩
    · exfalso
      obtain ⟨i, hi⟩ := List.exists_mem_of_ne_nil _ hn0
      have hik : i < k := by
        obtain ⟨_, o, ho, _⟩ := mem_ready.1 hi
        have := (Array.getElem?_eq_some_iff.1 ho).1
        rw [take_sz hp] at this
        exact this
      have := (ready_cut hp hsz hik).2 hi
      rw [hr] at this; cases this
    · obtain ⟨h1, o, ho, h2⟩ := mem_ready.1 hi
      have hil : i < L.length := by have := (Array.getElem?_eq_some_iff.1 ho).1; simpa using this
      by_cases hik : i < k
      · have hc := (ready_cut hp hsz hik).1 hi
        refine wpOp_cut hp hik hC (fun a' w' hC' hk' => ?_) (h.2 i hc)
        refine ih _ a' w' (by simpa using hsz) (shut_set hs (by simpa using hsz) hi) (fun j hj hjl => ?_) ?_ hC' ?_
        · rw [getD_set (by omega), if_neg (by omega)]; exact ht j hj hjl
        · rw [cutL_set (by omega) hik]
          have := left_set (cutL k listed) i (by rw [cutL_size (by omega)]; exact hik) (by rw [cutL_getD (by omega) hik]; exact h1)
          omega
        · rw [cutL_set (by omega) hik]; exact hk'
      · exfalso
        have hall : ∀ b, b < k → listed.getD b false = true := fun b hb => waits_listed hs _ i b (fun o' ho' e he hb' => by rw [ho] at ho'; cases ho'; exact h2 e he hb') (hp.wait i b (by omega) hil hb)
        obtain ⟨j, hj⟩ := List.exists_mem_of_ne_nil _ hn0
        obtain ⟨h3, o', ho', _⟩ := mem_ready.1 hj
        have hjk : j < k := by have := (Array.getElem?_eq_some_iff.1 ho').1; rw [take_sz hp] at this; exact this
        rw [cutL_getD (by omega) hjk, getD_tf (by omega), hall j hjk] at h3
        cases h3
end

/-- The law, over whatever class of worlds. -/
theorem wp_region_tail {P : Program} {id : Nat} {Q : Exit → Act → World → Prop} {a : Act} {w : World} {L : List Oper} (C : World → Prop) (k : Nat) (hk : k ≤ L.length) (hm : P.follows .mixedOrders = true) (hB : Region.lexB .any (L.take k).toArray = true) (hp : tailB L k = true)
    (hc : chainB L.toArray (L.length - k) k (Array.replicate k true ++ Array.replicate (L.length - k) false) = true) (hC : C { w with drawn := w.drawn + 1 })
    (h : wpQuiet P (L.take k).toArray C (fun a' => ∀ w', C w' → wpList P L.toArray Q (L.drop k) a' w') (L.take k) a) : (Code.region id L.toArray true).wp P Q a w := by
  simp only [Region.lexB, Bool.and_eq_true] at hB
  have hP := tailB_spec hk hp
  have hf := wpAnyQ_lex (P := P) (C := C) (md := .any) hB.1 (L.take k) 0 (Array.replicate (L.take k).toArray.size false) a (by simp) (by simpa using hB.2) h
  have hcut : cutL k (Array.replicate L.toArray.size false) = Array.replicate (L.take k).toArray.size false := by
    rw [take_sz hP]
    unfold cutL
    apply Array.ext_getElem?
    intro j
    rw [Array.getElem?_extract, Array.getElem?_replicate, Array.getElem?_replicate]
    simp only [Array.size_replicate, Nat.sub_zero, Nat.zero_add, List.size_toArray]
    by_cases hj : j < k
    · rw [if_pos (by omega), if_pos (by omega), if_pos hj]
    · rw [if_neg (by omega), if_neg hj]
  have hlen : (L.take k).length = k := by simp; omega
  have hw := wpAny_tail (P := P) (Q := Q) (C := C) hP (Qq := fun a' => ∀ w', C w' → wpList P L.toArray Q (L.drop k) a' w') (fun a' w' hC' hq => wpAny_chain (L.length - k) k _ a' w' hc (by omega) (hq w' hC'))
    k (Array.replicate L.toArray.size false) a { w with drawn := w.drawn + 1 } (by simp) (fun i hi => by
      simp only [Array.getD_eq_getD_getElem?, Array.getElem?_replicate] at hi
      split at hi <;> simp at hi) (fun i h1 h2 => by
      simp only [Array.getD_eq_getD_getElem?, Array.getElem?_replicate]
      rw [if_pos (by simpa using h2)]; rfl) (by
        rw [hcut, take_sz hP]
        unfold leftOf
        simp) hC (by rw [hcut]; rw [hlen] at hf; exact hf)
  refine wp_region_any hm ?_
  rw [show L.toArray.size = k + (L.length - k) by simp; omega] at *
  have e : k + (L.length - k) = L.length := by omega
  rw [e] at hw ⊢
  exact hw
/-- .. where the operations ahead only read. -/
theorem wp_region_tail_read {P : Program} {id : Nat} {Q : Exit → Act → World → Prop} {a : Act} {w : World} {L : List Oper} (k : Nat) (hk : k ≤ L.length) (hm : P.follows .mixedOrders = true) (hB : Region.lexB .any (L.take k).toArray = true) (hp : tailB L k = true)
    (hc : chainB L.toArray (L.length - k) k (Array.replicate k true ++ Array.replicate (L.length - k) false) = true)
    (h : wpQuiet P (L.take k).toArray (fun w' => ∃ n, w' = w.drewN n) (fun a' => ∀ w', (∃ n, w' = w.drewN n) → wpList P L.toArray Q (L.drop k) a' w') (L.take k) a) : (Code.region id L.toArray true).wp P Q a w :=
  wp_region_tail (fun w' => ∃ n, w' = w.drewN n) k hk hm hB hp hc ⟨1, rfl⟩ h
/-- .. where they may lay blocks. -/
theorem wp_region_tail_below {P : Program} {id : Nat} {Q : Exit → Act → World → Prop} {a : Act} {w : World} {L : List Oper} (k : Nat) (hk : k ≤ L.length) (hm : P.follows .mixedOrders = true) (hB : Region.lexB .any (L.take k).toArray = true) (hp : tailB L k = true)
    (hc : chainB L.toArray (L.length - k) k (Array.replicate k true ++ Array.replicate (L.length - k) false) = true)
    (h : wpQuiet P (L.take k).toArray (fun w' => ∃ p : Regrown, w' = grow (redrawn w p.d) p.os) (fun a' => ∀ w', (∃ p : Regrown, w' = grow (redrawn w p.d) p.os) → wpList P L.toArray Q (L.drop k) a' w') (L.take k) a) : (Code.region id L.toArray true).wp P Q a w :=
  wp_region_tail (fun w' => ∃ p : Regrown, w' = grow (redrawn w p.d) p.os) k hk hm hB hp hc ⟨⟨w.drawn + 1, #[]⟩, by rw [grow_empty]; rfl⟩ h
end Go.Proofs.Ytpacfppnmenndaa.U2
