/- Plain numbers: chords. -/
import Derived.Test.YtgcnmmjgdpdmbacDoorQMath
namespace Go.Proofs.YtgcnmmjgdpdmbacDoor.M

/-- The half tones of a chord's third, fifth and seventh over its root (0: it has none). -/
def stk (k : Int) (i : Nat) : Int :=
  if i = 0 then (if k = 1 ∨ k = 4 ∨ k = 5 ∨ k = 6 then 4 else 3)
  else if i = 1 then (if k = 3 ∨ k = 8 ∨ k = 9 then 6 else if k = 4 then 8 else 7)
  else (if k = 5 ∨ k = 7 ∨ k = 8 then 10 else if k = 6 then 11 else if k = 9 then 9 else 0)
/-- How many pitches it has over its root. -/
def cnt (k : Int) : Nat := if k ≤ 4 then 2 else 3
theorem cnt_bd (k : Int) : 2 ≤ cnt k ∧ cnt k ≤ 3 := by unfold cnt; split <;> omega
/-- The half tones of its pitches over the root. -/
def hs (k : Int) (j : Nat) : Int := if j = 0 then 0 else stk k (j - 1)
def kok (k : Int) : Bool := decide (1 ≤ k ∧ k ≤ 9)
theorem kok_yes {k : Int} (h : kok k = true) : 1 ≤ k ∧ k ≤ 9 := of_decide_eq_true h
theorem kok_no {k : Int} (h : kok k = false) : ¬ (1 ≤ k ∧ k ≤ 9) := of_decide_eq_false h
theorem stk_bd (k : Int) (i : Nat) : 0 ≤ stk k i ∧ stk k i ≤ 11 := by unfold stk; repeat' split <;> try omega
theorem hs_bd (k : Int) (j : Nat) : 0 ≤ hs k j ∧ hs k j ≤ 11 := by unfold hs; have := stk_bd k (j - 1); split <;> omega
theorem stk_cnt {k : Int} {i : Nat} (h1 : 1 ≤ k ∧ k ≤ 9) (hi : i < 3) : stk k i = 0 ↔ cnt k ≤ i := by
  rcases (show i = 0 ∨ i = 1 ∨ i = 2 by omega) with rfl | rfl | rfl
  · have := cnt_bd k; unfold stk; simp; split <;> omega
  · have := cnt_bd k; unfold stk; simp; repeat' split <;> try omega
  · unfold stk cnt; simp; repeat' split <;> try omega
/-- Can all its pitches be written? (as far as the first j of them) -/
def nko (l a o k : Int) : Nat → Bool
  | 0 => true
  | j + 1 => nko l a o k j && mk l a o (2 * ((j : Int) + 1)) (hs k (j + 1))
def nk (l a o k : Int) : Bool := nko l a o k (cnt k)
theorem nko_yes {l a o k : Int} {n : Nat} (h : nko l a o k n = true) : ∀ j, j < n → mk l a o (2 * ((j : Int) + 1)) (hs k (j + 1)) = true := by
  induction n with
  | zero => intro j hj; omega
  | succ n ih =>
    simp only [nko, Bool.and_eq_true] at h
    intro j hj
    by_cases e : j = n
    · rw [e]; exact h.2
    · exact ih h.1 j (by omega)
theorem nko_mk {l a o k : Int} {n : Nat} (h : ∀ j, j < n → mk l a o (2 * ((j : Int) + 1)) (hs k (j + 1)) = true) : nko l a o k n = true := by
  induction n with
  | zero => rfl
  | succ n ih => simp only [nko, Bool.and_eq_true]; exact ⟨ih fun j hj => h j (by omega), h n (by omega)⟩
theorem nko_no {l a o k : Int} {n j : Nat} (hj : j < n) (h : mk l a o (2 * ((j : Int) + 1)) (hs k (j + 1)) = false) : nko l a o k n = false := by
  cases hn : nko l a o k n
  · rfl
  · have := nko_yes hn j hj; rw [h] at this; exact absurd this (by decide)
/-- Its pitches, the root the first. -/
def nl (l a o k : Int) (j : Nat) : Int := ml l a o (2 * (j : Int)) (hs k j)
def na (l a o k : Int) (j : Nat) : Int := ma l a o (2 * (j : Int)) (hs k j)
def no (l a o k : Int) (j : Nat) : Int := mo l a o (2 * (j : Int)) (hs k j)
theorem mk_zero {l a o : Int} (h : rt l a o = true) : mk l a o 0 0 = true ∧ ml l a o 0 0 = l ∧ ma l a o 0 0 = a ∧ mo l a o 0 0 = o := by
  have hm : mk l a o 0 0 = true := by
    rw [mk_on h (inb_mk (by omega))]; simpa using on_rt h
  refine ⟨hm, ?_, ?_, ?_⟩
  · rw [ml_yes hm]; simpa using pl_st h
  · rw [ma_yes hm]; simpa using pa_st h
  · rw [mo_yes hm]; simpa using po_st h
theorem n_zero {l a o k : Int} (h : rt l a o = true) : nl l a o k 0 = l ∧ na l a o k 0 = a ∧ no l a o k 0 = o := by
  obtain ⟨_, h1, h2, h3⟩ := mk_zero h
  exact ⟨h1, h2, h3⟩
theorem mk_rt {l a o s h : Int} (e : mk l a o s h = true) : rt (ml l a o s h) (ma l a o s h) (mo l a o s h) = true := by
  rw [ml_yes e, ma_yes e, mo_yes e]; exact rt_pl (mk_yes e).2.2
theorem n_rt {l a o k : Int} (h : rt l a o = true) (hn : nk l a o k = true) {j : Nat} (hj : j ≤ cnt k) : rt (nl l a o k j) (na l a o k j) (no l a o k j) = true := by
  cases j with
  | zero => obtain ⟨h1, h2, h3⟩ := n_zero (k := k) h; rw [h1, h2, h3]; exact h
  | succ j =>
    have := nko_yes hn j (by omega)
    unfold nl na no
    rw [show (2 * ((j + 1 : Nat) : Int)) = 2 * ((j : Int) + 1) by omega]
    exact mk_rt this
/-- What is wrong with a chord's root or kind. -/
def ne (l a o k : Int) : Int := if kok k = false then 1 else if rt l a o = false then 2 else if nk l a o k = false then 3 else 0
theorem ne_kind {l a o k : Int} (h : kok k = false) : ne l a o k = 1 := by unfold ne; rw [if_pos h]
theorem ne_form {l a o k : Int} (h : kok k = true) (h2 : rt l a o = false) : ne l a o k = 2 := by unfold ne; rw [if_neg (by rw [h]; decide), if_pos h2]
theorem ne_range {l a o k : Int} (h : kok k = true) (h2 : rt l a o = true) (h3 : nk l a o k = false) : ne l a o k = 3 := by unfold ne; rw [if_neg (by rw [h]; decide), if_neg (by rw [h2]; decide), if_pos h3]
theorem ne_ok {l a o k : Int} (h : kok k = true) (h2 : rt l a o = true) (h3 : nk l a o k = true) : ne l a o k = 0 := by unfold ne; rw [if_neg (by rw [h]; decide), if_neg (by rw [h2]; decide), if_neg (by rw [h3]; decide)]
end Go.Proofs.YtgcnmmjgdpdmbacDoor.M
