/- A region that draws, at any class of worlds. -/
import Derived.Test.YtpacfppnmenndaaRFloat
namespace Go.Proofs.Ytpacfppnmenndaa.RF
open Go.RowKit Go.Sort
set_option linter.unusedVariables false
set_option linter.unusedSimpArgs false
variable {P : Program} {ops : Array Oper} {C : World → Prop}

theorem wp_region_floatC {P : Program} {id : Nat} {Q : Exit → Act → World → Prop} {a : Act} {w : World} {L : List Oper} (C : World → Prop) (fl : Nat → Bool) (hm : P.follows .mixedOrders = true) (hB : Region.lexB .any L.toArray = true) (hd : doersB L.toArray fl = true) (hC : C w.drew)
    (h : wpFl P L.toArray C fl (fun a' w' => Q .normal a' w') L 0 a w.drew) : (Code.region id L.toArray true).wp P Q a w := by
  simp only [Region.lexB, Bool.and_eq_true] at hB
  refine wp_region_any hm (wpAny_of_F (C := C) (fl := fl) (Q := fun a' w' => Q .normal a' w') (fun a' w' hw' h => h) _ _ _ _ hC ?_)
  have := wpAnyF_lex (P := P) (ops := L.toArray) (C := C) (fl := fl) (Q := fun a' w' => Q .normal a' w') hB.1 hd L 0 (Array.replicate L.toArray.size false) a w.drew hC (by simp) (shut_none _ _) (fun j hj => by omega) (by simp) (by simpa using hB.2) h
  simpa using this
theorem wpFl_readC {fl : Nat → Bool} {Q : Act → World → Prop} {k : Nat} {a : Act} {w : World} {o : Oper} {rest : List Oper} (hf : fl k = true) (hg : o.guard = none) (v : Value) (h1 : ∀ w', C w' → RM.valAt P o a w' v) (h2 : wpFl P ops C fl Q rest (k + 1) (a.put o.dst v) w) : wpFl P ops C fl Q (o :: rest) k a w := by
  have hw : Region.wanted o (yielded ops a.tmps) = true := by unfold Region.wanted; rw [hg]
  unfold wpFl
  rw [if_pos hw, if_pos hf]
  exact ⟨v, h1, h2⟩
theorem wpFl_doC {fl : Nat → Bool} {Q : Act → World → Prop} {k : Nat} {a : Act} {w : World} {o : Oper} {rest : List Oper} (hf : fl k = false) (hg : o.guard = none)
    (h : ∀ K : Exit → Act → World → Prop, (∀ a' w', C w' → wpFl P ops C fl Q rest (k + 1) a' w' → K .normal a' w') → wpList P ops K [o] a w) : wpFl P ops C fl Q (o :: rest) k a w := by
  have h := h (fun ex a' w' => ex = .normal ∧ C w' ∧ wpFl P ops C fl Q rest (k + 1) a' w') (fun a' w' h1 h2 => ⟨rfl, h1, h2⟩)
  have hw : Region.wanted o (yielded ops a.tmps) = true := by unfold Region.wanted; rw [hg]
  unfold wpList at h
  unfold wpFl
  rw [if_pos hw] at h ⊢
  rw [if_neg (by rw [hf]; decide)]
  rcases h with h | ⟨_, _, _, q, _⟩
  · exact wp_no (fun ex a w hq => hq.1) (Oper.wp_mono (fun a' w' hk => hk.2) h)
  · cases q
end Go.Proofs.Ytpacfppnmenndaa.RF
