/- Plain numbers: how a key of the keyboard is written. -/
import Derived.Test.YtffhegfapefnfabDoorSMath
namespace Go.Proofs.YtffhegfapefnfabDoor.M

/-- The octave in which a class has that key. -/
def wko (l a K : Int) : Int := (K - (hv l a 0 + 12)) / 12
def wk (l a K : Int) : Bool := rt l a 0 && (decide ((K - (hv l a 0 + 12)) % 12 = 0) && decide (-12 ≤ wko l a K ∧ wko l a K ≤ 12))
theorem wk_yes {l a K : Int} (h : wk l a K = true) : rt l a 0 = true ∧ (K - (hv l a 0 + 12)) % 12 = 0 ∧ -12 ≤ wko l a K ∧ wko l a K ≤ 12 := by unfold wk at h; simpa using h
theorem wk_form {l a K : Int} (h : rt l a 0 = false) : wk l a K = false := by unfold wk; rw [h]; rfl
theorem wk_rem {l a K : Int} (h : (K - (hv l a 0 + 12)) % 12 ≠ 0) : wk l a K = false := by unfold wk; simp [h]
theorem wk_mk {l a K : Int} (h : rt l a 0 = true) (h2 : (K - (hv l a 0 + 12)) % 12 = 0) : wk l a K = rt l a (wko l a K) := by
  have h' := rt_yes h
  unfold wk; rw [h, decide_eq_true h2]
  cases hr : rt l a (wko l a K)
  · have := rt_no hr; simp; omega
  · have := rt_yes hr; simp; omega
theorem hv_oct (l a o : Int) : hv l a o = hv l a 0 + 12 * o := by unfold hv; omega
/-- The key of a class in an octave. -/
theorem wk_key {l a o K : Int} (h : rt l a o = true) (hK : hv l a o + 12 = K) : wk l a K = true ∧ wko l a K = o := by
  have h' := rt_yes h
  have e := hv_oct l a o
  have e1 : K - (hv l a 0 + 12) = 12 * o := by omega
  have e2 : wko l a K = o := by unfold wko; rw [e1]; omega
  refine ⟨?_, e2⟩
  rw [wk_mk (rt_class h) (by rw [e1]; omega), e2]; exact h
theorem wk_rt {l a K : Int} (h : wk l a K = true) : rt l a (wko l a K) = true ∧ hv l a (wko l a K) + 12 = K := by
  obtain ⟨h1, h2, h3⟩ := wk_yes h
  have h' := rt_yes h1
  refine ⟨rt_mk (by omega), ?_⟩
  rw [hv_oct]; unfold wko; omega

def ado (k : Nat) : Int := if k = 0 then 0 else if k = 1 then 1 else if k = 2 then -1 else if k = 3 then 2 else -2
theorem ado_bd (k : Nat) : -2 ≤ ado k ∧ ado k ≤ 2 := by unfold ado; repeat' split <;> try omega
/-- By how much more a step is altered, at the try of that number. -/
def wa (S : Int) (k : Nat) : Int := if S < 0 then -ado k else ado k
theorem wa_bd (S : Int) (k : Nat) : -2 ≤ wa S k ∧ wa S k ≤ 2 := by have := ado_bd k; unfold wa; split <;> omega
def sl (x : Int) (t : Nat) : Int := (x + ((t % 7 : Nat) : Int)) % 7
def sa (S x : Int) (t : Nat) : Int := al S (sl x t) + wa S (t / 7)
def sp (S x K : Int) (t : Nat) : Bool := wk (sl x t) (sa S x t) K
/-- The first of 35 tries that is one. -/
structure Fst (P : Nat → Bool) (T : Nat) : Prop where
  le : T ≤ 35
  ne : ∀ t, t < T → P t = false
  is : T < 35 → P T = true
theorem Fst.one {P : Nat → Bool} {T T' : Nat} (h : Fst P T) (h' : Fst P T') : T = T' := by
  rcases (show T = T' ∨ T < T' ∨ T' < T by omega) with e | e | e
  · exact e
  · have := h.is (by have := h'.le; omega); rw [h'.ne T e] at this; exact absurd this (by decide)
  · have := h'.is (by have := h.le; omega); rw [h.ne T' e] at this; exact absurd this (by decide)
/-- What is told of the try of that number (35: none). -/
def tl (x : Int) (T : Nat) : Int := if T < 35 then sl x T else 0
def ta (S x : Int) (T : Nat) : Int := if T < 35 then sa S x T else 0
def tO (S x K : Int) (T : Nat) : Int := if T < 35 then wko (sl x T) (sa S x T) K else 0
def te (T : Nat) : Int := if T < 35 then 0 else 3
theorem t_yes {S x K : Int} {T : Nat} (h : T < 35) : tl x T = sl x T ∧ ta S x T = sa S x T ∧ tO S x K T = wko (sl x T) (sa S x T) K ∧ te T = 0 := by
  unfold tl ta tO te; simp [h]
theorem t_no {S x K : Int} : tl x 35 = 0 ∧ ta S x 35 = 0 ∧ tO S x K 35 = 0 ∧ te 35 = 3 := by
  unfold tl ta tO te; simp
end Go.Proofs.YtffhegfapefnfabDoor.M
