/- Plain numbers: rows without repetition; there is never more than one chord. -/
import Derived.Test.YtgcnmmjgdpdmbacDoorC3
namespace Go.Proofs.YtgcnmmjgdpdmbacDoor.M

theorem pig {α : Type} : ∀ (q p : Nat) (f g : Nat → α), (∀ i j, i < j → j < p → f i ≠ f j) → (∀ i, i < p → ∃ j, j < q ∧ f i = g j) → p ≤ q := by
  intro q
  induction q with
  | zero =>
    intro p f g _ h2
    cases p with
    | zero => omega
    | succ p => obtain ⟨j, hj, _⟩ := h2 0 (by omega); omega
  | succ q ih =>
    intro p f g h1 h2
    by_cases h : ∃ i, i < p ∧ f i = g q
    · obtain ⟨i0, hi0, he⟩ := h
      have := ih (p - 1) (fun i => if i < i0 then f i else f (i + 1)) g (by
        intro i j hij hj
        by_cases a : i < i0 <;> by_cases b : j < i0
        · simp only [a, b, if_true]; exact h1 i j hij (by omega)
        · simp only [a, b, if_true, if_false]; exact h1 i (j + 1) (by omega) (by omega)
        · omega
        · simp only [a, b, if_false]; exact h1 (i + 1) (j + 1) (by omega) (by omega)) (by
        intro i hi
        by_cases a : i < i0
        · simp only [a, if_true]
          obtain ⟨j, hj, e⟩ := h2 i (by omega)
          refine ⟨j, ?_, e⟩
          by_cases ej : j = q
          · exfalso; rw [ej] at e; exact h1 i i0 a hi0 (e.trans he.symm)
          · omega
        · simp only [a, if_false]
          obtain ⟨j, hj, e⟩ := h2 (i + 1) (by omega)
          refine ⟨j, ?_, e⟩
          by_cases ej : j = q
          · exfalso; rw [ej] at e; exact h1 i0 (i + 1) (by omega) (by omega) (he.trans e.symm)
          · omega)
      omega
    · have := ih p f g h1 (fun i hi => by
        obtain ⟨j, hj, e⟩ := h2 i hi
        refine ⟨j, ?_, e⟩
        by_cases ej : j = q
        · exact absurd ⟨i, hi, by rw [← ej]; exact e⟩ h
        · omega)
      omega

/-- As many, without repetition, and all among them: then all of them. -/
theorem pig_all {α : Type} {p : Nat} {f g : Nat → α} (h1 : ∀ i j, i < j → j < p → f i ≠ f j) (h2 : ∀ i, i < p → ∃ j, j < p ∧ f i = g j) : ∀ j, j < p → ∃ i, i < p ∧ f i = g j := by
  intro j0 hj0
  refine Classical.byContradiction fun hno => ?_
  have := pig p (p + 1) (fun i => if i = p then g j0 else f i) g (by
    intro i j hij hj
    by_cases b : j = p
    · have a : ¬ i = p := by omega
      simp only [a, b, if_true, if_false]
      exact fun e => hno ⟨i, by omega, e⟩
    · have a : ¬ i = p := by omega
      simp only [a, b, if_false]
      exact h1 i j hij (by omega)) (by
    intro i hi
    by_cases a : i = p
    · simp only [a, if_true]; exact ⟨j0, hj0, rfl⟩
    · simp only [a, if_false]; exact h2 i (by omega))
  omega

/-- What is gathered of a letter. -/
theorem gh_iff {L : Nat → Int} {n y : Nat} : gh L n y = true ↔ ∃ j, j < n ∧ L j = y := by
  induction n with
  | zero => simp [gh]
  | succ n ih =>
    simp only [gh]
    split
    · rename_i h
      exact ⟨fun _ => ⟨n, by omega, h.symm⟩, fun _ => rfl⟩
    · rename_i h
      rw [ih]
      constructor
      · rintro ⟨j, h1, h2⟩; exact ⟨j, by omega, h2⟩
      · rintro ⟨j, h1, h2⟩
        by_cases e : j = n
        · subst e; exact absurd h2.symm h
        · exact ⟨j, by omega, h2⟩
theorem ga_of {L A : Nat → Int} {n y : Nat} (h : ∀ i j, i < n → j < n → L i = L j → A i = A j) {j : Nat} (hj : j < n) (hy : L j = y) : ga L A n y = A j := by
  induction n with
  | zero => omega
  | succ n ih =>
    simp only [ga]
    split
    · rename_i e
      exact h n j (by omega) hj (by rw [hy]; exact e.symm)
    · rename_i e
      by_cases ej : j = n
      · subst ej; exact absurd hy.symm e
      · exact ih (fun i j hi hj => h i j (by omega) (by omega)) (by omega)
theorem ga_none {L A : Nat → Int} {n y : Nat} (h : ∀ j, j < n → L j ≠ y) : ga L A n y = 0 := by
  induction n with
  | zero => rfl
  | succ n ih => simp only [ga]; rw [if_neg (fun e => h n (by omega) e.symm)]; exact ih fun j hj => h j (by omega)
/-- When no letter is altered in two ways. -/
theorem gk_iff {L A : Nat → Int} {n : Nat} (h0 : ∀ j, j < n → 0 ≤ L j) : gk L A n = true ↔ ∀ i j, i < n → j < n → L i = L j → A i = A j := by
  induction n with
  | zero => simp [gk]
  | succ n ih =>
    have h0' : ∀ j, j < n → 0 ≤ L j := fun j hj => h0 j (by omega)
    have hn := h0 n (by omega)
    simp only [gk, Bool.and_eq_true, ih h0']
    constructor
    · rintro ⟨h1, h2⟩
      have key : ∀ i, i < n → L i = L n → A i = A n := by
        intro i hi e
        have g1 : gh L n (L n).toNat = true := gh_iff.2 ⟨i, hi, by omega⟩
        have g2 := ga_of (A := A) h1 hi (y := (L n).toNat) (by omega)
        rw [g1, g2] at h2
        simpa using h2
      intro i j hi hj e
      by_cases a : i = n <;> by_cases b : j = n
      · rw [a, b]
      · rw [a]; exact (key j (by omega) (by rw [← e, a])).symm
      · rw [b]; exact key i (by omega) (by rw [e, b])
      · exact h1 i j (by omega) (by omega) e
    · intro h
      refine ⟨fun i j hi hj e => h i j (by omega) (by omega) e, ?_⟩
      cases hg : gh L n (L n).toNat
      · rfl
      · obtain ⟨j, hj, e⟩ := gh_iff.1 hg
        have g2 := ga_of (A := A) (fun i j hi hj e => h i j (by omega) (by omega) e) hj (y := (L n).toNat) (by omega)
        rw [g2, h j n (by omega) (by omega) (by omega)]
        simp

end Go.Proofs.YtgcnmmjgdpdmbacDoor.M
