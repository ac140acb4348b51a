/- A region that draws its order, whose operations only read but may draw what they yield (what is no number): one walk of the text's order, for whatever each operation yields, serves every order. -/
import Derived.Deep.QuietTactic
import Derived.WalkLawsBesides
namespace Go.Proofs.Ytpacfppnmenndaa.RM
open Go.RowKit
set_option linter.unusedVariables false
set_option linter.unusedSimpArgs false
variable {P : Program} {ops : Array Oper} {md : Region.Mode} {C : World → Prop}

/-- What an operation yields in this world, and the world behind it. -/
def out (P : Program) (o : Oper) (a : Act) (w : World) : Option (Value × World) :=
  match (execOp a.eval o).run P w with
  | .ok (.value u) w' => some (u, w')
  | .ok .skip w' => some (undef, w')
  | _ => none
/-- Whatever it yields in a world of the class: it leaves a world of the class, and what is asked next holds. -/
def may (P : Program) (o : Oper) (a : Act) (C : World → Prop) (next : Act → Prop) : Prop := ∀ w, C w → ∃ u w', out P o a w = some (u, w') ∧ C w' ∧ next (a.put o.dst u)
def wpMay (P : Program) (ops : Array Oper) (C : World → Prop) (Q : Act → Prop) : List Oper → Act → Prop
  | [], a => Q a
  | o :: rest, a => if Region.wanted o (yielded ops a.tmps) then may P o a C (wpMay P ops C Q rest) else wpMay P ops C Q rest (a.put o.dst undef)
def mOp (P : Program) (ops : Array Oper) (C : World → Prop) (i : Nat) (K : Act → Prop) (a : Act) : Prop :=
  match ops[i]? with
  | none => K a
  | some o => if Region.wanted o (yielded ops a.tmps) then may P o a C K else K (a.put o.dst undef)
theorem may_mono {o : Oper} {a : Act} {K K' : Act → Prop} (h : ∀ a, K a → K' a) (hh : may P o a C K) : may P o a C K' := fun w hw => by
  obtain ⟨u, w', h1, h2, h3⟩ := hh w hw
  exact ⟨u, w', h1, h2, h _ h3⟩
theorem mOp_mono {i : Nat} {a : Act} {K K' : Act → Prop} (h : ∀ a, K a → K' a) (hh : mOp P ops C i K a) : mOp P ops C i K' a := by
  unfold mOp at *
  split
  · exact h _ (by simpa [*] using hh)
  · rename_i o ho
    simp only [ho] at hh
    split
    · rename_i hw; simp only [hw, if_true] at hh; exact may_mono h hh
    · rename_i hw; simp only [hw] at hh; exact h _ hh
def wpAnyM (P : Program) (md : Region.Mode) (ops : Array Oper) (C : World → Prop) (Q : Act → Prop) : Nat → Array Bool → Act → Prop
  | 0, listed, a => Region.ready md ops listed = [] ∧ Q a
  | fuel + 1, listed, a =>
    (Region.ready md ops listed = [] → Q a) ∧
    ∀ i ∈ Region.ready md ops listed, mOp P ops C i (wpAnyM P md ops C Q fuel (listed.setIfInBounds i true)) a
theorem wp_of_may {o : Oper} {a : Act} {K : Act → Prop} {K' : Act → World → Prop} {Q' : Exit → Act → World → Prop} {w : World} (hw : C w) (h : ∀ a w', C w' → K a → K' a w') (hh : may P o a C K) : o.wp P a w K' Q' := by
  obtain ⟨u, w', h1, h2, h3⟩ := hh w hw
  unfold out at h1
  unfold Oper.wp
  generalize (execOp a.eval o).run P w = r at *
  cases r with
  | ok n w1 =>
    cases n <;> simp only [Option.some.injEq, Prod.mk.injEq, reduceCtorEq] at h1 <;> simp only [Oper.upon]
    case value v => obtain ⟨e1, e2⟩ := h1; rw [e1, e2]; exact h _ _ h2 h3
    case skip => obtain ⟨e1, e2⟩ := h1; rw [e1, e2]; exact h _ _ h2 h3
  | halt x w1 => simp at h1
theorem wpOp_of_mOp {i : Nat} {a : Act} {K : Act → Prop} {K' : Act → World → Prop} {Q' : Exit → Act → World → Prop} {w : World} (hC : C w) (h : ∀ a w', C w' → K a → K' a w') (hh : mOp P ops C i K a) : wpOp P ops Q' i K' a w := by
  unfold mOp at hh
  unfold wpOp
  split
  · rename_i ho; simp only [ho] at hh; exact h _ _ hC hh
  · rename_i o ho
    simp only [ho] at hh
    split
    · rename_i hw; simp only [hw, if_true] at hh; exact .inl (wp_of_may hC h hh)
    · rename_i hw; simp only [hw] at hh; exact h _ _ hC hh
theorem wpAny_of_may {Q : Act → Prop} {Q' : Exit → Act → World → Prop} (hQ : ∀ a w, C w → Q a → Q' .normal a w) : ∀ (fuel : Nat) (listed : Array Bool) (a : Act) (w : World), C w →
    wpAnyM P md ops C Q fuel listed a → wpAny P md ops Q' fuel listed a w
  | 0, _, _, _, hw, h => ⟨h.1, hQ _ _ hw h.2⟩
  | fuel + 1, _, _, _, hw, h => ⟨fun h0 => hQ _ _ hw (h.1 h0), fun i hi => wpOp_of_mOp hw (fun a' w' hw' => wpAny_of_may hQ fuel _ a' w' hw') (h.2 i hi)⟩
theorem out_put {o : Oper} (hs : ∀ cs b, o.op ≠ .select cs b) (a : Act) (dst : Option Tmp) (v : Value) (h : ∀ d, dst = some d → d ∉ o.looksAt ops) (w : World) : out P o (a.put dst v) w = out P o a w := by
  unfold out; rw [execOp_put o hs a dst v h]
/-- Two operations that are apart, in either order. -/
theorem mOp_comm {i j : Nat} {oi oj : Oper} (hi : ops[i]? = some oi) (hj : ops[j]? = some oj) (hap : oi.apart ops oj = true) (hC : ∃ w, C w)
    (hsi : ∀ cs b, oi.op ≠ .select cs b) (hsj : ∀ cs b, oj.op ≠ .select cs b) {K : Act → Prop} {a : Act} (h : mOp P ops C i (mOp P ops C j K) a) : mOp P ops C j (mOp P ops C i K) a := by
  obtain ⟨h1, h2, h3⟩ := Oper.apart_spec hap
  have wj : ∀ v, Region.wanted oj (yielded ops (a.put oi.dst v).tmps) = Region.wanted oj (yielded ops a.tmps) := fun v => wanted_put oj a oi.dst v h1
  have wi : ∀ v, Region.wanted oi (yielded ops (a.put oj.dst v).tmps) = Region.wanted oi (yielded ops a.tmps) := fun v => wanted_put oi a oj.dst v h3
  unfold mOp at *
  simp only [hi, hj] at *
  cases hwi : Region.wanted oi (yielded ops a.tmps)
  · simp only [hwi, wj, Bool.false_eq_true, if_false] at h
    cases hwj : Region.wanted oj (yielded ops a.tmps)
    · simp only [hwj, Bool.false_eq_true, if_false] at h ⊢
      rw [wi, hwi]
      simp only [Bool.false_eq_true, if_false]
      rw [← Act.put_comm a undef undef h2]; exact h
    · simp only [hwj, if_true] at h ⊢
      intro w hw
      obtain ⟨u, w', g1, g2, g3⟩ := h w hw
      rw [out_put hsj a oi.dst undef h1] at g1
      refine ⟨u, w', g1, g2, ?_⟩
      simp only [wi, hwi, Bool.false_eq_true, if_false]
      rw [← Act.put_comm a undef u h2]; exact g3
  · simp only [hwi, wj, if_true] at h
    cases hwj : Region.wanted oj (yielded ops a.tmps)
    · simp only [hwj, Bool.false_eq_true, if_false] at h ⊢
      rw [wi, hwi]
      simp only [if_true]
      intro w hw
      obtain ⟨u, w', g1, g2, g3⟩ := h w hw
      simp only [wj, hwj, Bool.false_eq_true, if_false] at g3
      refine ⟨u, w', (out_put hsi a oj.dst undef h3 w).trans g1, g2, ?_⟩
      rw [← Act.put_comm a u undef h2]; exact g3
    · simp only [hwj, if_true] at h ⊢
      intro w' hw'
      obtain ⟨v, w1, g1, g2, g3⟩ := h w' hw'
      simp only [wj, hwj, if_true] at g3
      obtain ⟨u, w2, k1, k2, k3⟩ := g3 w' hw'
      rw [out_put hsj a oi.dst v h1] at k1
      refine ⟨u, w2, k1, k2, ?_⟩
      simp only [wi, hwi, if_true]
      intro w hw
      obtain ⟨v', w3, m1, m2, m3⟩ := h w hw
      simp only [wj, hwj, if_true] at m3
      obtain ⟨u', w4, n1, n2, n3⟩ := m3 w' hw'
      rw [out_put hsj a oi.dst v' h1, k1] at n1
      simp only [Option.some.injEq, Prod.mk.injEq] at n1
      refine ⟨v', w3, (out_put hsi a oj.dst u h3 w).trans m1, m2, ?_⟩
      rw [← Act.put_comm a v' u h2, n1.1]; exact n3
theorem wpAnyM_first {Q : Act → Prop} {i : Nat} {oi : Oper} (hC : ∃ w, C w) (hi : ops[i]? = some oi) (hsel : ∀ (j : Nat) (o : Oper) cs b, ops[j]? = some o → o.op ≠ .select cs b) :
    ∀ (fuel : Nat) (listed : Array Bool) (a : Act),
      (∀ j oj, ops[j]? = some oj → j ≠ i → listed.getD j true = false → (∀ e ∈ oj.after, Region.binds md e = true → e.on ≠ i) → oi.apart ops oj = true) →
      i ∈ Region.ready md ops listed →
      mOp P ops C i (wpAnyM P md ops C Q fuel (listed.setIfInBounds i true)) a → wpAnyM P md ops C Q (fuel + 1) listed a := by
  intro fuel
  induction fuel with
  | zero =>
    intro listed a _ hr H
    refine ⟨fun h => (by rw [h] at hr; cases hr), fun j hj => ?_⟩
    by_cases hji : j = i
    · subst hji; exact H
    · have h1 := ready_mono hj hji
      exfalso
      obtain ⟨w, hw⟩ := hC
      have h2 : ∃ a', wpAnyM P md ops C Q 0 (listed.setIfInBounds i true) a' := by
        unfold mOp at H
        simp only [hi] at H
        split at H
        · obtain ⟨u, w', _, _, g⟩ := H w hw; exact ⟨_, g⟩
        · exact ⟨_, H⟩
      obtain ⟨a', h3⟩ := h2
      rw [h3.1] at h1
      cases h1
  | succ fuel ih =>
    intro listed a hfree hr H
    refine ⟨fun h => (by rw [h] at hr; cases hr), fun j hj => ?_⟩
    by_cases hji : j = i
    · subst hji; exact H
    · obtain ⟨hjun, oj, hoj, hall⟩ := mem_ready.1 hj
      have hnot : ∀ e ∈ oj.after, Region.binds md e = true → e.on ≠ i := fun e he hb heq => by
        have h1 := hall e he hb
        have h0 := (mem_ready.1 hr).1
        rw [heq] at h1
        rcases Nat.lt_or_ge i listed.size with h' | h'
        · simp [h'] at h0 h1; rw [h0] at h1; cases h1
        · simp [Array.getElem?_eq_none h'] at h1
      have h1 : mOp P ops C i (mOp P ops C j (wpAnyM P md ops C Q fuel ((listed.setIfInBounds i true).setIfInBounds j true))) a := mOp_mono (fun a' h => h.2 j (ready_mono hj hji)) H
      have h2 := mOp_comm hi hoj (hfree j oj hoj hji hjun hnot) hC (fun cs b => hsel i oi cs b hi) (fun cs b => hsel j oj cs b hoj) h1
      have hfree' : ∀ k ok, ops[k]? = some ok → k ≠ i → (listed.setIfInBounds j true).getD k true = false →
          (∀ e ∈ ok.after, Region.binds md e = true → e.on ≠ i) → oi.apart ops ok = true := fun k ok hk hki hun hno => by
        refine hfree k ok hk hki ?_ hno
        by_cases hjk : j = k
        · subst hjk; exact hjun
        · rw [getD_set_ne true hjk] at hun; exact hun
      refine mOp_mono (fun a' h3 => ih (listed.setIfInBounds j true) a' hfree' (ready_mono hr (Ne.symm hji)) ?_) h2
      rw [Array.setIfInBounds_comm _ _ hji]
      exact h3
theorem wpAnyM_lex {Q : Act → Prop} (hC : ∃ w, C w) (hs : Region.noSelect ops = true) : ∀ (l : List Oper) (k : Nat) (listed : Array Bool) (a : Act), (∀ j, l[j]? = ops[k + j]?) →
    Region.lexFrom md ops l.length k listed = true → wpMay P ops C Q l a → wpAnyM P md ops C Q l.length listed a
  | [], _, _, _, _, hB, h => ⟨by simpa [Region.lexFrom] using hB, h⟩
  | o :: l, k, listed, a, hl, hB, h => by
    have h0 : ops[k]? = some o := by simpa using (hl 0).symm
    simp only [List.length_cons, Region.lexFrom, Bool.and_eq_true] at hB
    obtain ⟨⟨hr, hf⟩, hB'⟩ := hB
    have hst : mOp P ops C k (wpMay P ops C Q l) a := by unfold mOp; simp only [h0]; exact h
    exact wpAnyM_first hC h0 (Region.noSelect_spec hs) l.length listed a (Region.free_spec h0 hf) (by simpa using hr)
      (mOp_mono (fun a' h' => wpAnyM_lex hC hs l (k + 1) _ a' (fun j => by have := hl (j + 1); simpa [Nat.add_assoc, Nat.add_comm 1 j] using this) hB' h') hst)
/-- The law, at the class 'this world after some draws'. -/
theorem wp_region_may {id : Nat} {Q : Exit → Act → World → Prop} {a : Act} {w : World} {l : List Oper} (hm : P.follows .mixedOrders = true) (hB : Region.lexB .any l.toArray = true)
    (h : wpMay P l.toArray (fun w' => ∃ n, w' = w.drewN n) (fun a' => ∀ n, Q .normal a' (w.drewN n)) l a) : (Code.region id l.toArray true).wp P Q a w := by
  simp only [Region.lexB, Bool.and_eq_true] at hB
  refine wp_region_any hm (wpAny_of_may (C := fun w' => ∃ n, w' = w.drewN n) (Q := fun a' => ∀ n, Q .normal a' (w.drewN n)) (fun a' w' hw' h => by obtain ⟨n, rfl⟩ := hw'; exact h n) _ _ _ _ ⟨1, rfl⟩ ?_)
  have := wpAnyM_lex (P := P) (ops := l.toArray) (C := fun w' => ∃ n, w' = w.drewN n) (md := .any) (Q := fun a' => ∀ n, Q .normal a' (w.drewN n)) ⟨_, 0, rfl⟩ hB.1 l 0 (Array.replicate l.toArray.size false) a (by simp) (by simpa using hB.2) h
  simpa using this
theorem wpMay_nil {Q : Act → Prop} {a : Act} (h : Q a) : wpMay P ops C Q [] a := h
/-- It yields this, in the world that it got. -/
def valUpon (w : World) (v : Value) : Result Next → Prop
  | .ok (.value u) w' => w' = w ∧ u = v
  | .ok .skip w' => w' = w ∧ v = undef
  | _ => False
def valAt (P : Program) (o : Oper) (a : Act) (w : World) (v : Value) : Prop := valUpon w v ((execOp a.eval o).run P w)
/-- One operation that yields one value, in the world that it got. -/
theorem wpMay_step {Q : Act → Prop} {a : Act} {o : Oper} {rest : List Oper} {w : World}
    (h : ∀ K : Act → Prop, (∀ a, wpMay P ops (fun w' => ∃ n, w' = w.drewN n) Q rest a → K a) → if Region.wanted o (yielded ops a.tmps) then ∃ v, (∀ n, valAt P o a (w.drewN n) v) ∧ K (a.put o.dst v) else K (a.put o.dst undef)) : wpMay P ops (fun w' => ∃ n, w' = w.drewN n) Q (o :: rest) a := by
  have h := h _ (fun _ h => h)
  unfold wpMay
  split
  · rename_i hw
    simp only [hw, if_true] at h
    obtain ⟨v, h1, h2⟩ := h
    rintro w' ⟨k, rfl⟩
    have h3 := h1 k
    unfold valAt at h3
    cases hr : (execOp a.eval o).run P (w.drewN k) with
    | ok n w1 =>
      rw [hr] at h3
      cases n <;> simp only [valUpon] at h3
      case value u => obtain ⟨e1, e2⟩ := h3; exact ⟨v, _, by unfold out; rw [hr, e1, e2], ⟨k, rfl⟩, h2⟩
      case skip => obtain ⟨e1, e2⟩ := h3; exact ⟨v, _, by unfold out; rw [hr, e1, e2], ⟨k, rfl⟩, h2⟩
    | halt x w1 => rw [hr] at h3; simp only [valUpon] at h3
  · rename_i hw
    simp only [hw] at h
    exact h
attribute [go_sem] valAt valUpon
/-- One operation that draws what it yields. -/
theorem wpMay_draw {Q : Act → Prop} {a : Act} {o : Oper} {rest : List Oper} {w : World} (hw : Region.wanted o (yielded ops a.tmps) = true) (R : Value → Prop)
    (h1 : ∀ n, ∃ v d, (execOp a.eval o).run P (w.drewN n) = .ok (.value v) ((w.drewN n).drewN d) ∧ R v)
    (h2 : ∀ v, R v → wpMay P ops (fun w' => ∃ n, w' = w.drewN n) Q rest (a.put o.dst v)) : wpMay P ops (fun w' => ∃ n, w' = w.drewN n) Q (o :: rest) a := by
  unfold wpMay
  rw [if_pos hw]
  rintro w' ⟨k, rfl⟩
  obtain ⟨v, d, h3, h4⟩ := h1 k
  exact ⟨v, _, by unfold out; rw [h3], ⟨k + d, by rw [World.drewN_drewN]⟩, h2 v h4⟩
end Go.Proofs.Ytpacfppnmenndaa.RM
