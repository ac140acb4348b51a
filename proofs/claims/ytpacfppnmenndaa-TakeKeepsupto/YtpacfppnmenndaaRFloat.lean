/- A region that draws its order: operations that only read, which may come up anywhere, and operations that do something, which come up one behind the other: one walk of the text's order serves every order, if what is read is the same in all worlds of a class that holds what the others do. -/
import Derived.Test.YtpacfppnmenndaaRTail
import Derived.Test.YtpacfppnmenndaaRMay
namespace Go.Proofs.Ytpacfppnmenndaa.RF
open Go.RowKit Go.Sort
set_option linter.unusedVariables false
set_option linter.unusedSimpArgs false
variable {P : Program} {ops : Array Oper} {C : World → Prop}

def Qf : Exit → Act → World → Prop := fun _ _ _ => False
def fOp (P : Program) (ops : Array Oper) (C : World → Prop) (fl : Nat → Bool) (i : Nat) (K : Act → World → Prop) (a : Act) (w : World) : Prop :=
  match ops[i]? with
  | none => K a w
  | some o => if Region.wanted o (yielded ops a.tmps) then (if fl i then ∃ v, (∀ w', C w' → RM.valAt P o a w' v) ∧ K (a.put o.dst v) w else o.wp P a w (fun a' w' => C w' ∧ K a' w') Qf) else K (a.put o.dst undef) w
def wpAnyF (P : Program) (ops : Array Oper) (C : World → Prop) (fl : Nat → Bool) (Q : Act → World → Prop) : Nat → Array Bool → Act → World → Prop
  | 0, listed, a, w => Region.ready .any ops listed = [] ∧ Q a w
  | fuel + 1, listed, a, w =>
    (Region.ready .any ops listed = [] → Q a w) ∧
    ∀ i ∈ Region.ready .any ops listed, fOp P ops C fl i (wpAnyF P ops C fl Q fuel (listed.setIfInBounds i true)) a w
/-- From what an operation does at one act to what it does at another one. -/
theorem wp_turn {o : Oper} {a b : Act} {w : World} {K K2 : Act → World → Prop} {Q2 : Exit → Act → World → Prop} (he : execOp b.eval o = execOp a.eval o) (hd : b.defers = a.defers) (hK : ∀ d u w', K ({ a with defers := d }.put o.dst u) w' → K2 ({ b with defers := d }.put o.dst u) w') (h : o.wp P a w K Qf) : o.wp P b w K2 Q2 := by
  unfold Oper.wp at *
  rw [he]
  generalize (execOp a.eval o).run P w = r at *
  have e0 : ∀ u w', K (a.put o.dst u) w' → K2 (b.put o.dst u) w' := fun u w' hk => by
    have := hK a.defers u w' hk
    rw [← hd] at this; exact this
  cases r with
  | ok n w' =>
    cases n <;> simp only [Oper.upon] at h ⊢
    case value v => exact e0 _ _ h
    case skip => exact e0 _ _ h
    case defer d => rw [hd]; exact hK (d :: a.defers) undef w' h
    case enter f args =>
      refine h.mono ?_
      intro e w'' hh
      cases e with
      | returned v => exact e0 _ _ hh
      | panicked c => exact hh.elim
      | outgrown => obtain ⟨_, _, q⟩ := hh; exact q.elim
    case row rw args => exact h.mono fun v w'' hh => e0 _ _ hh
  | halt x w' =>
    cases x <;> simp only [Oper.upon] at h
    exact h.elim
theorem wp_some {o : Oper} {a : Act} {w : World} {K : Act → World → Prop} (h : o.wp P a w K Qf) : ∃ d u w', K ({ a with defers := d }.put o.dst u) w' := by
  unfold Oper.wp at h
  generalize (execOp a.eval o).run P w = r at *
  cases r with
  | ok n w' =>
    cases n <;> simp only [Oper.upon] at h
    case value v => exact ⟨a.defers, v, w', h⟩
    case skip => exact ⟨a.defers, undef, w', h⟩
    case defer d => exact ⟨d :: a.defers, undef, w', h⟩
    case enter f args =>
      obtain ⟨e, w'', fr, hh, _⟩ := h []
      cases e with
      | returned v => exact ⟨a.defers, v, w'', hh⟩
      | panicked c => exact hh.elim
      | outgrown => obtain ⟨_, _, q⟩ := hh; exact q.elim
    case row rw args =>
      obtain ⟨v, w'', hh, _⟩ := h default []
      exact ⟨a.defers, v, w'', hh⟩
  | halt x w' =>
    cases x <;> simp only [Oper.upon] at h
    exact h.elim
theorem fOp_mono {fl : Nat → Bool} {i : Nat} {a : Act} {w : World} {K K' : Act → World → Prop} (h : ∀ a w, K a w → K' a w) (hh : fOp P ops C fl i K a w) : fOp P ops C fl i K' a w := by
  unfold fOp at *
  split
  · exact h _ _ (by simpa [*] using hh)
  · rename_i o ho
    simp only [ho] at hh
    split
    · rename_i hw
      simp only [hw, if_true] at hh
      split
      · rename_i hf; simp only [hf, if_true] at hh; obtain ⟨v, h1, h2⟩ := hh; exact ⟨v, h1, h _ _ h2⟩
      · rename_i hf; simp only [hf] at hh; exact Oper.wp_mono (fun a' w' hk => ⟨hk.1, h _ _ hk.2⟩) hh
    · rename_i hw; simp only [hw] at hh; exact h _ _ hh
theorem wpOp_of_fOp {fl : Nat → Bool} {i : Nat} {a : Act} {w : World} {K K' : Act → World → Prop} {Q' : Exit → Act → World → Prop} (hC : C w) (h : ∀ a w, C w → K a w → K' a w) (hh : fOp P ops C fl i K a w) : wpOp P ops Q' i K' a w := by
  unfold fOp at hh
  unfold wpOp
  split
  · rename_i ho; simp only [ho] at hh; exact h _ _ hC hh
  · rename_i o ho
    simp only [ho] at hh
    split
    · rename_i hw
      simp only [hw, if_true] at hh
      left
      split at hh
      · obtain ⟨v, h1, h2⟩ := hh
        have h3 := h1 w hC
        unfold RM.valAt at h3
        unfold Oper.wp
        generalize (execOp a.eval o).run P w = r at *
        cases r with
        | ok n w1 =>
          cases n <;> simp only [RM.valUpon] at h3 <;> simp only [Oper.upon]
          case value u => obtain ⟨e1, e2⟩ := h3; rw [e1, e2]; exact h _ _ hC h2
          case skip => obtain ⟨e1, e2⟩ := h3; rw [e1, ← e2]; exact h _ _ hC h2
        | halt x w1 => simp only [RM.valUpon] at h3
      · exact wp_turn rfl rfl (fun d u w' hk => h _ _ hk.1 hk.2) hh
    · rename_i hw; simp only [hw] at hh; exact h _ _ hC hh
theorem wpAny_of_F {fl : Nat → Bool} {Q : Act → World → Prop} {Q' : Exit → Act → World → Prop} (hQ : ∀ a w, C w → Q a w → Q' .normal a w) : ∀ (fuel : Nat) (listed : Array Bool) (a : Act) (w : World), C w →
    wpAnyF P ops C fl Q fuel listed a w → wpAny P .any ops Q' fuel listed a w
  | 0, _, _, _, hw, h => ⟨h.1, hQ _ _ hw h.2⟩
  | fuel + 1, _, _, _, hw, h => ⟨fun h0 => hQ _ _ hw (h.1 h0), fun i hi => wpOp_of_fOp hw (fun a' w' hw' => wpAny_of_F hQ fuel _ a' w' hw') (h.2 i hi)⟩
theorem val_put {o : Oper} (hs : ∀ cs b, o.op ≠ .select cs b) (a : Act) (dst : Option Tmp) (v : Value) (h : ∀ d, dst = some d → d ∉ o.looksAt ops) (ds : List Deferred) (w : World) (u : Value) : RM.valAt P o ({ a with defers := ds }.put dst v) w u = RM.valAt P o a w u := by
  unfold RM.valAt
  rw [execOp_put o hs { a with defers := ds } dst v h]
  rfl
theorem val_one {o : Oper} {a : Act} {w : World} {u v : Value} (h1 : RM.valAt P o a w u) (h2 : RM.valAt P o a w v) : u = v := by
  unfold RM.valAt at *
  generalize (execOp a.eval o).run P w = r at *
  cases r with
  | ok n w' =>
    cases n <;> simp only [RM.valUpon] at h1 h2
    · exact h1.2.symm.trans h2.2
    · exact h1.2.trans h2.2.symm
  | halt x w' => simp only [RM.valUpon] at h1
theorem put_def (a : Act) (d : List Deferred) (x : Option Tmp) (v : Value) : ({ a with defers := d } : Act).put x v = { a.put x v with defers := d } := by cases x <;> rfl
theorem put_self (a : Act) (x : Option Tmp) (v : Value) : ({ a with defers := a.defers } : Act).put x v = a.put x v := rfl
/-- Two operations that are apart, one of which at least only reads, in either order. -/
theorem fOp_comm {fl : Nat → Bool} {i j : Nat} {oi oj : Oper} (hi : ops[i]? = some oi) (hj : ops[j]? = some oj) (hap : oi.apart ops oj = true) (hr : fl i = true ∨ fl j = true) {w : World} (hC : C w)
    (hsi : ∀ cs b, oi.op ≠ .select cs b) (hsj : ∀ cs b, oj.op ≠ .select cs b) {K : Act → World → Prop} {a : Act} (h : fOp P ops C fl i (fOp P ops C fl j K) a w) : fOp P ops C fl j (fOp P ops C fl i K) a w := by
  obtain ⟨h1, h2, h3⟩ := Oper.apart_spec hap
  have wj : ∀ d v, Region.wanted oj (yielded ops (({ a with defers := d } : Act).put oi.dst v).tmps) = Region.wanted oj (yielded ops a.tmps) := fun d v => (wanted_put oj { a with defers := d } oi.dst v h1).trans rfl
  have wi : ∀ d v, Region.wanted oi (yielded ops (({ a with defers := d } : Act).put oj.dst v).tmps) = Region.wanted oi (yielded ops a.tmps) := fun d v => (wanted_put oi { a with defers := d } oj.dst v h3).trans rfl
  have wj0 : ∀ v, Region.wanted oj (yielded ops (a.put oi.dst v).tmps) = Region.wanted oj (yielded ops a.tmps) := fun v => wj a.defers v
  have wi0 : ∀ v, Region.wanted oi (yielded ops (a.put oj.dst v).tmps) = Region.wanted oi (yielded ops a.tmps) := fun v => wi a.defers v
  have ej0 : ∀ v, execOp (a.put oi.dst v).eval oj = execOp a.eval oj := fun v => execOp_put oj hsj a oi.dst v h1
  have ei0 : ∀ v, execOp (a.put oj.dst v).eval oi = execOp a.eval oi := fun v => execOp_put oi hsi a oj.dst v h3
  have vj : ∀ d v w u, RM.valAt P oj (({ a with defers := d } : Act).put oi.dst v) w u = RM.valAt P oj a w u := fun d v w u => val_put hsj a oi.dst v h1 d w u
  have vi : ∀ d v w u, RM.valAt P oi (({ a with defers := d } : Act).put oj.dst v) w u = RM.valAt P oi a w u := fun d v w u => val_put hsi a oj.dst v h3 d w u
  have vj0 : ∀ v w u, RM.valAt P oj (a.put oi.dst v) w u = RM.valAt P oj a w u := fun v w u => vj a.defers v w u
  have vi0 : ∀ v w u, RM.valAt P oi (a.put oj.dst v) w u = RM.valAt P oi a w u := fun v w u => vi a.defers v w u
  have cmd : ∀ d v u, (({ a with defers := d } : Act).put oj.dst u).put oi.dst v = (({ a with defers := d } : Act).put oi.dst v).put oj.dst u := fun d v u => (Act.put_comm _ v u h2).symm
  have cm : ∀ v u, (a.put oj.dst u).put oi.dst v = (a.put oi.dst v).put oj.dst u := fun v u => (Act.put_comm a v u h2).symm
  have dfp : ∀ (x : Option Tmp) (v : Value), (a.put x v).defers = a.defers := fun x v => by cases x <;> rfl
  unfold fOp at *
  simp only [hi, hj] at *
  cases hwi : Region.wanted oi (yielded ops a.tmps)
  · simp only [hwi, wj0, Bool.false_eq_true, if_false] at h
    cases hwj : Region.wanted oj (yielded ops a.tmps)
    · simp only [hwj, wi0, hwi, Bool.false_eq_true, if_false] at h ⊢
      rw [cm]; exact h
    · simp only [hwj, if_true] at h ⊢
      cases hfj : fl j
      · simp only [hfj, Bool.false_eq_true, if_false] at h ⊢
        refine wp_turn (ej0 undef).symm (dfp _ _).symm (fun d u w' hk => ⟨hk.1, ?_⟩) h
        have hk2 := hk.2
        rw [← put_def] at hk2
        simp only [wi, hwi, Bool.false_eq_true, if_false]
        rw [cmd]; exact hk2
      · simp only [hfj, if_true] at h ⊢
        obtain ⟨v, g1, g2⟩ := h
        refine ⟨v, fun w' hw' => by rw [← vj0 undef]; exact g1 w' hw', ?_⟩
        simp only [wi0, hwi, Bool.false_eq_true, if_false]
        rw [cm]; exact g2
  · simp only [hwi, if_true] at h
    cases hwj : Region.wanted oj (yielded ops a.tmps)
    · simp only [hwj, Bool.false_eq_true, if_false, wi0, hwi, if_true] at h ⊢
      cases hfi : fl i
      · simp only [hfi, Bool.false_eq_true, if_false] at h ⊢
        refine wp_turn (ei0 undef) (dfp _ _) (fun d u w' hk => ⟨hk.1, ?_⟩) h
        have hk2 := hk.2
        simp only [wj, hwj, Bool.false_eq_true, if_false] at hk2
        rw [← put_def, cmd]; exact hk2
      · simp only [hfi, if_true] at h ⊢
        obtain ⟨v, g1, g2⟩ := h
        refine ⟨v, fun w' hw' => by rw [vi0]; exact g1 w' hw', ?_⟩
        simp only [wj0, hwj, Bool.false_eq_true, if_false] at g2
        rw [cm]; exact g2
    · simp only [hwj, if_true] at h ⊢
      cases hfi : fl i
      · have hfj : fl j = true := by rcases hr with q | q; (rw [hfi] at q; cases q); exact q
        simp only [hfi, hfj, Bool.false_eq_true, if_false, if_true, wj, hwj] at h ⊢
        obtain ⟨d0, u0, w0, k0⟩ := wp_some h
        simp only [wj, hwj, if_true] at k0
        obtain ⟨v, m1, m2⟩ := k0.2
        have m1' : ∀ w', C w' → RM.valAt P oj a w' v := fun w' hw' => by rw [← vj d0 u0]; exact m1 w' hw'
        refine ⟨v, m1', ?_⟩
        simp only [wi0, hwi, if_true]
        refine wp_turn (ei0 v) (dfp _ _) (fun d u w' hk => ⟨hk.1, ?_⟩) h
        have hk2 := hk.2
        simp only [wj, hwj, if_true] at hk2
        obtain ⟨v', n1, n2⟩ := hk2
        have e : v' = v := val_one (by have := n1 w hC; rw [vj] at this; exact this) (m1' w hC)
        rw [← put_def, cmd, ← e]; exact n2
      · simp only [hfi, if_true] at h
        obtain ⟨v, m1, m2⟩ := h
        simp only [wj0, hwj, if_true] at m2
        cases hfj : fl j
        · simp only [hfj, hfi, Bool.false_eq_true, if_false, if_true] at m2 ⊢
          refine wp_turn (ej0 v).symm (dfp _ _).symm (fun d u w' hk => ⟨hk.1, ?_⟩) m2
          have hk2 := hk.2
          rw [← put_def] at hk2
          simp only [wi, hwi, if_true]
          refine ⟨v, fun w'' hw'' => by rw [vi]; exact m1 w'' hw'', ?_⟩
          rw [cmd]; exact hk2
        · simp only [hfj, hfi, if_true] at m2 ⊢
          obtain ⟨u, n1, n2⟩ := m2
          refine ⟨u, fun w' hw' => by rw [← vj0 v]; exact n1 w' hw', ?_⟩
          simp only [wi0, hwi, if_true]
          refine ⟨v, fun w' hw' => by rw [vi0]; exact m1 w' hw', ?_⟩
          rw [cm]; exact n2
theorem fOp_monoC {fl : Nat → Bool} {i : Nat} {a : Act} {w : World} {K K' : Act → World → Prop} (hC : C w) (h : ∀ a w, C w → K a w → K' a w) (hh : fOp P ops C fl i K a w) : fOp P ops C fl i K' a w := by
  unfold fOp at *
  split
  · exact h _ _ hC (by simpa [*] using hh)
  · rename_i o ho
    simp only [ho] at hh
    split
    · rename_i hw
      simp only [hw, if_true] at hh
      split
      · rename_i hf; simp only [hf, if_true] at hh; obtain ⟨v, h1, h2⟩ := hh; exact ⟨v, h1, h _ _ hC h2⟩
      · rename_i hf; simp only [hf] at hh; exact Oper.wp_mono (fun a' w' hk => ⟨hk.1, h _ _ hk.1 hk.2⟩) hh
    · rename_i hw; simp only [hw] at hh; exact h _ _ hC hh
theorem fOp_some {fl : Nat → Bool} {i : Nat} {o : Oper} (hi : ops[i]? = some o) {a : Act} {w : World} {K : Act → World → Prop} (h : fOp P ops C fl i K a w) : ∃ a' w', K a' w' := by
  unfold fOp at h
  simp only [hi] at h
  split at h
  · split at h
    · obtain ⟨v, _, h2⟩ := h; exact ⟨_, _, h2⟩
    · obtain ⟨d, u, w', h2⟩ := wp_some h; exact ⟨_, _, h2.2⟩
  · exact ⟨_, _, h⟩
theorem wpAnyF_first {fl : Nat → Bool} {F : Nat} {Q : Act → World → Prop} {i : Nat} {oi : Oper} (hi : ops[i]? = some oi) (hsel : ∀ (j : Nat) (o : Oper) cs b, ops[j]? = some o → o.op ≠ .select cs b) :
    ∀ (fuel : Nat) (listed : Array Bool) (a : Act) (w : World), C w → listed.size = ops.size → U2.Shut ops listed →
      (fl i = true ∨ ∀ j oj, ops[j]? = some oj → j ≠ i → listed.getD j true = false → fl j = false → U2.waitsB ops F j i = true) →
      (∀ j oj, ops[j]? = some oj → j ≠ i → listed.getD j true = false → (∀ e ∈ oj.after, Region.binds .any e = true → e.on ≠ i) → oi.apart ops oj = true) →
      i ∈ Region.ready .any ops listed →
      fOp P ops C fl i (wpAnyF P ops C fl Q fuel (listed.setIfInBounds i true)) a w → wpAnyF P ops C fl Q (fuel + 1) listed a w := by
  intro fuel
  induction fuel with
  | zero =>
    intro listed a w hC hsz hsh hdo _ hr H
    refine ⟨fun h => (by rw [h] at hr; cases hr), fun j hj => ?_⟩
    by_cases hji : j = i
    · subst hji; exact H
    · have h1 := ready_mono hj hji
      exfalso
      obtain ⟨a', w', h3⟩ := fOp_some hi H
      rw [h3.1] at h1
      cases h1
  | succ fuel ih =>
    intro listed a w hC hsz hsh hdo hfree hr H
    refine ⟨fun h => (by rw [h] at hr; cases hr), fun j hj => ?_⟩
    by_cases hji : j = i
    · subst hji; exact H
    · obtain ⟨hjun, oj, hoj, hall⟩ := mem_ready.1 hj
      have hiun := (mem_ready.1 hr).1
      have his : i < ops.size := (Array.getElem?_eq_some_iff.1 hi).1
      have hnot : ∀ e ∈ oj.after, Region.binds .any e = true → e.on ≠ i := fun e he hb heq => by
        have h1 := hall e he hb
        have h0 := (mem_ready.1 hr).1
        rw [heq] at h1
        rcases Nat.lt_or_ge i listed.size with h' | h'
        · simp [h'] at h0 h1; rw [h0] at h1; cases h1
        · simp [Array.getElem?_eq_none h'] at h1
      have hrr : fl i = true ∨ fl j = true := by
        rcases hdo with q | q
        · exact Or.inl q
        · cases hfj : fl j with
          | true => exact Or.inr rfl
          | false =>
            have h5 := q j oj hoj hji hjun hfj
            have h6 := U2.waits_listed hsh F j i (fun o ho e he hb => by rw [hoj] at ho; cases ho; exact hall e he hb) h5
            rw [← U2.getD_tf (by omega), hiun] at h6
            cases h6
      have h1 : fOp P ops C fl i (fOp P ops C fl j (wpAnyF P ops C fl Q fuel ((listed.setIfInBounds i true).setIfInBounds j true))) a w := fOp_mono (fun a' w' h => h.2 j (ready_mono hj hji)) H
      have h2 := fOp_comm hi hoj (hfree j oj hoj hji hjun hnot) hrr hC (fun cs b => hsel i oi cs b hi) (fun cs b => hsel j oj cs b hoj) h1
      have hun' : ∀ k, (listed.setIfInBounds j true).getD k true = false → listed.getD k true = false := fun k hun => by
        by_cases hjk : j = k
        · subst hjk; exact hjun
        · rw [getD_set_ne true hjk] at hun; exact hun
      refine fOp_monoC hC (fun a' w' hC' h3 => ih (listed.setIfInBounds j true) a' w' hC' (by simp [hsz]) (U2.shut_set hsh hsz hj) (hdo.imp id (fun q k ok hk hki hun hf => q k ok hk hki (hun' k hun) hf)) (fun k ok hk hki hun hno => hfree k ok hk hki (hun' k hun) hno) (ready_mono hr (Ne.symm hji)) ?_) h2
      rw [Array.setIfInBounds_comm _ _ hji]
      exact h3
/-- The walk of the text's order. -/
def wpFl (P : Program) (ops : Array Oper) (C : World → Prop) (fl : Nat → Bool) (Q : Act → World → Prop) : List Oper → Nat → Act → World → Prop
  | [], _, a, w => Q a w
  | o :: rest, k, a, w => if Region.wanted o (yielded ops a.tmps) then (if fl k then ∃ v, (∀ w', C w' → RM.valAt P o a w' v) ∧ wpFl P ops C fl Q rest (k + 1) (a.put o.dst v) w else o.wp P a w (fun a' w' => C w' ∧ wpFl P ops C fl Q rest (k + 1) a' w') Qf) else wpFl P ops C fl Q rest (k + 1) (a.put o.dst undef) w
/-- Each operation that does something waits for all such ahead of it. -/
def doersB (ops : Array Oper) (fl : Nat → Bool) : Bool := (List.range ops.size).all fun k => fl k || (List.range ops.size).all fun j => fl j || decide (j ≤ k) || U2.waitsB ops ops.size j k
theorem wpAnyF_lex {fl : Nat → Bool} {Q : Act → World → Prop} (hs : Region.noSelect ops = true) (hd : doersB ops fl = true) : ∀ (l : List Oper) (k : Nat) (listed : Array Bool) (a : Act) (w : World), C w → listed.size = ops.size → U2.Shut ops listed → (∀ j, j < k → listed.getD j true = true) → (∀ j, l[j]? = ops[k + j]?) →
    Region.lexFrom .any ops l.length k listed = true → wpFl P ops C fl Q l k a w → wpAnyF P ops C fl Q l.length listed a w
  | [], _, _, _, _, _, _, _, _, _, hB, h => ⟨by simpa [Region.lexFrom] using hB, h⟩
  | o :: l, k, listed, a, w, hC, hsz, hsh, hlow, hl, hB, h => by
    have h0 : ops[k]? = some o := by simpa using (hl 0).symm
    simp only [List.length_cons, Region.lexFrom, Bool.and_eq_true] at hB
    obtain ⟨⟨hr, hf⟩, hB'⟩ := hB
    have hrk : k ∈ Region.ready .any ops listed := by simpa using hr
    have hks : k < ops.size := (Array.getElem?_eq_some_iff.1 h0).1
    have hst : fOp P ops C fl k (wpFl P ops C fl Q l (k + 1)) a w := by unfold fOp; simp only [h0]; exact h
    refine wpAnyF_first (F := ops.size) h0 (Region.noSelect_spec hs) l.length listed a w hC hsz hsh ?_ (Region.free_spec h0 hf) hrk
      (fOp_monoC hC (fun a' w' hC' h' => wpAnyF_lex hs hd l (k + 1) _ a' w' hC' (by simp [hsz]) (U2.shut_set hsh hsz hrk) (fun j hj => ?_) (fun j => by have := hl (j + 1); simpa [Nat.add_assoc, Nat.add_comm 1 j] using this) hB' h') hst)
    · cases hfk : fl k with
      | true => exact Or.inl rfl
      | false =>
        right
        intro j oj hj hjk hun hfj
        have hjs : j < ops.size := (Array.getElem?_eq_some_iff.1 hj).1
        unfold doersB at hd
        rw [List.all_eq_true] at hd
        have h1 := hd k (List.mem_range.2 hks)
        rw [hfk, Bool.false_or, List.all_eq_true] at h1
        have h2 := h1 j (List.mem_range.2 hjs)
        rw [hfj, Bool.false_or, Bool.or_eq_true] at h2
        rcases h2 with q | q
        · have q' : j ≤ k := by simpa using q
          have := hlow j (by omega)
          rw [this] at hun; cases hun
        · exact q
    · rw [U2.getD_set (by omega)]
      by_cases e : k = j
      · rw [if_pos e]
      · rw [if_neg e]; exact hlow j (by omega)
theorem shut_none (ops : Array Oper) (n : Nat) : U2.Shut ops (Array.replicate n false) := fun i hi => by
  rw [Array.getD_eq_getD_getElem?, Array.getElem?_replicate] at hi
  by_cases c : i < n
  · simp [c] at hi
  · simp [c] at hi
/-- The law: blocks that were there stay as they are. -/
theorem wp_region_float {P : Program} {id : Nat} {Q : Exit → Act → World → Prop} {a : Act} {w : World} {L : List Oper} (fl : Nat → Bool) (hm : P.follows .mixedOrders = true) (hB : Region.lexB .any L.toArray = true) (hd : doersB L.toArray fl = true)
    (h : wpFl P L.toArray (fun w' => Below w.heap.size w w') fl (fun a' w' => Q .normal a' w') L 0 a w.drew) : (Code.region id L.toArray true).wp P Q a w := by
  simp only [Region.lexB, Bool.and_eq_true] at hB
  have hC : Below w.heap.size w w.drew := (Below.refl _ _).drew
  refine wp_region_any hm (wpAny_of_F (C := fun w' => Below w.heap.size w w') (fl := fl) (Q := fun a' w' => Q .normal a' w') (fun a' w' hw' h => h) _ _ _ _ hC ?_)
  have := wpAnyF_lex (P := P) (ops := L.toArray) (C := fun w' => Below w.heap.size w w') (fl := fl) (Q := fun a' w' => Q .normal a' w') hB.1 hd L 0 (Array.replicate L.toArray.size false) a w.drew hC (by simp) (shut_none _ _) (fun j hj => by omega) (by simp) (by simpa using hB.2) h
  simpa using this
theorem wpFl_nil {fl : Nat → Bool} {Q : Act → World → Prop} {k : Nat} {a : Act} {w : World} (h : Q a w) : wpFl P ops C fl Q [] k a w := h
theorem wpFl_read {fl : Nat → Bool} {Q : Act → World → Prop} {k : Nat} {a : Act} {w w0 : World} {o : Oper} {rest : List Oper} (hf : fl k = true)
    (h : ∀ K : Act → Prop, (∀ a, wpFl P ops (fun w' => Below w0.heap.size w0 w') fl Q rest (k + 1) a w → K a) → if Region.wanted o (yielded ops a.tmps) then ∃ v, (∀ d os, RM.valAt P o a (grow (redrawn w0 d) os) v) ∧ K (a.put o.dst v) else K (a.put o.dst undef)) : wpFl P ops (fun w' => Below w0.heap.size w0 w') fl Q (o :: rest) k a w := by
  have h := h _ (fun _ h => h)
  unfold wpFl
  split
  · rename_i hw
    simp only [hw, if_true] at h
    obtain ⟨v, h1, h2⟩ := h
    refine ⟨v, fun w' hw' => ?_, h2⟩
    obtain ⟨p, rfl⟩ := regrown_of_below hw'
    exact h1 _ _
  · rename_i hw
    simp only [hw] at h
    exact h
theorem wp_no {o : Oper} {a : Act} {w : World} {N : Act → World → Prop} {Q : Exit → Act → World → Prop} (hQ : ∀ ex a w, Q ex a w → ex = .normal) (h : o.wp P a w N Q) : o.wp P a w N Qf := by
  unfold Oper.wp at *
  generalize (execOp a.eval o).run P w = r at *
  cases r with
  | ok n w' =>
    cases n <;> simp only [Oper.upon] at h ⊢
    case value v => exact h
    case skip => exact h
    case defer d => exact h
    case enter f args =>
      refine h.mono ?_
      intro e w'' hh
      cases e with
      | returned v => exact hh
      | panicked c => exact absurd (hQ _ _ _ hh) (fun q => by cases q)
      | outgrown => obtain ⟨_, _, q⟩ := hh; exact absurd (hQ _ _ _ q) (fun q => by cases q)
    case row rw args => exact h
  | halt x w' =>
    cases x <;> simp only [Oper.upon] at h
    exact absurd (hQ _ _ _ h) (fun q => by cases q)
theorem wpFl_do {fl : Nat → Bool} {Q : Act → World → Prop} {k : Nat} {a : Act} {w w0 : World} {o : Oper} {rest : List Oper} (hf : fl k = false) (hg : o.guard = none)
    (h : ∀ K : Exit → Act → World → Prop, (∀ a' w', Below w0.heap.size w0 w' → wpFl P ops (fun w' => Below w0.heap.size w0 w') fl Q rest (k + 1) a' w' → K .normal a' w') → wpList P ops K [o] a w) : wpFl P ops (fun w' => Below w0.heap.size w0 w') fl Q (o :: rest) k a w := by
  have h := h (fun ex a' w' => ex = .normal ∧ Below w0.heap.size w0 w' ∧ wpFl P ops (fun w' => Below w0.heap.size w0 w') fl Q rest (k + 1) a' w') (fun a' w' h1 h2 => ⟨rfl, h1, h2⟩)
  have hw : Region.wanted o (yielded ops a.tmps) = true := by unfold Region.wanted; rw [hg]
  unfold wpList at h
  unfold wpFl
  rw [if_pos hw] at h ⊢
  rw [if_neg (by rw [hf]; decide)]
  rcases h with h | ⟨_, _, _, q, _⟩
  · exact wp_no (fun ex a w hq => hq.1) (Oper.wp_mono (fun a' w' hk => hk.2) h)
  · cases q
theorem wpFl_dog {fl : Nat → Bool} {Q : Act → World → Prop} {k : Nat} {a : Act} {w w0 : World} {o : Oper} {rest : List Oper} (hf : fl k = false) (hw : Region.wanted o (yielded ops a.tmps) = true)
    (h : ∀ K : Exit → Act → World → Prop, (∀ a' w', Below w0.heap.size w0 w' → wpFl P ops (fun w' => Below w0.heap.size w0 w') fl Q rest (k + 1) a' w' → K .normal a' w') → wpList P ops K [o] a w) : wpFl P ops (fun w' => Below w0.heap.size w0 w') fl Q (o :: rest) k a w := by
  have h := h (fun ex a' w' => ex = .normal ∧ Below w0.heap.size w0 w' ∧ wpFl P ops (fun w' => Below w0.heap.size w0 w') fl Q rest (k + 1) a' w') (fun a' w' h1 h2 => ⟨rfl, h1, h2⟩)
  unfold wpList at h
  unfold wpFl
  rw [if_pos hw] at h ⊢
  rw [if_neg (by rw [hf]; decide)]
  rcases h with h | ⟨_, _, _, q, _⟩
  · exact wp_no (fun ex a w hq => hq.1) (Oper.wp_mono (fun a' w' hk => hk.2) h)
  · cases q
end Go.Proofs.Ytpacfppnmenndaa.RF
