/- Plain numbers: never more than one chord; the document's way to tell one. -/
import Derived.Test.YtgcnmmjgdpdmbacDoorCMath3
namespace Go.Proofs.YtgcnmmjgdpdmbacDoor.M

/-- Thirds, one above the other, tell where they begin. -/
theorem thirds_fin : ∀ r r' : Fin 7, ∀ c c' : Fin 2, (∀ i : Fin 4, i.val ≤ c.val + 2 → ∃ j : Fin 4, j.val ≤ c'.val + 2 ∧ (r.val + 2 * i.val) % 7 = (r'.val + 2 * j.val) % 7) → (∀ j : Fin 4, j.val ≤ c'.val + 2 → ∃ i : Fin 4, i.val ≤ c.val + 2 ∧ (r.val + 2 * i.val) % 7 = (r'.val + 2 * j.val) % 7) → r = r' ∧ c = c' := by decide +kernel
theorem thirds {r r' : Int} {c c' : Nat} (h1 : 0 ≤ r) (h2 : r ≤ 6) (h3 : 0 ≤ r') (h4 : r' ≤ 6) (hc : 2 ≤ c ∧ c ≤ 3) (hc' : 2 ≤ c' ∧ c' ≤ 3) (h : ∀ i, i ≤ c → ∃ j, j ≤ c' ∧ aL r i = aL r' j) (h' : ∀ j, j ≤ c' → ∃ i, i ≤ c ∧ aL r i = aL r' j) : r = r' ∧ c = c' := by
  have := thirds_fin ⟨r.toNat, by omega⟩ ⟨r'.toNat, by omega⟩ ⟨c - 2, by omega⟩ ⟨c' - 2, by omega⟩ (by
    intro i hi
    obtain ⟨j, hj, e⟩ := h i.val (by simp at hi; omega)
    refine ⟨⟨j, by omega⟩, by simp; omega, ?_⟩
    unfold aL at e; simp; omega) (by
    intro j hj
    obtain ⟨i, hi, e⟩ := h' j.val (by simp at hj; omega)
    refine ⟨⟨i, by omega⟩, by simp; omega, ?_⟩
    unfold aL at e; simp; omega)
  simp at this
  omega
theorem stk_fin : ∀ k k' : Fin 9, (∀ i : Fin 3, stk (((k.val : Nat) : Int) + 1) i.val = stk (((k'.val : Nat) : Int) + 1) i.val) → k = k' := by decide +kernel
theorem stk_one {k k' : Int} (h : kok k = true) (h' : kok k' = true) (e : ∀ i, i < 3 → stk k i = stk k' i) : k = k' := by
  have g := kok_yes h
  have g' := kok_yes h'
  have := stk_fin ⟨(k - 1).toNat, by omega⟩ ⟨(k' - 1).toNat, by omega⟩ (by
    intro i
    have := e i.val i.isLt
    rw [show (((k - 1).toNat : Nat) : Int) + 1 = k by omega, show (((k' - 1).toNat : Nat) : Int) + 1 = k' by omega]
    exact this)
  simp at this
  omega
/-- There is never more than one. -/
theorem Same.one {L A : Nat → Int} {n : Nat} {r a k r' a' k' : Int} (h : Same L A n r a k) (h' : Same L A n r' a' k') (h1 : 0 ≤ r ∧ r ≤ 6) (h2 : 0 ≤ r' ∧ r' ≤ 6) (hk : kok k = true) (hk' : kok k' = true) : r = r' ∧ a = a' ∧ k = k' := by
  have hc := cnt_bd k
  have hc' := cnt_bd k'
  have too : ∀ i, i ≤ cnt k → ∃ j, j ≤ cnt k' ∧ aL r' j = aL r i ∧ aA r' a' k' j = aA r a k i := fun i hi => (h' _ _).1 ((h _ _).2 ⟨i, hi, rfl, rfl⟩)
  have fro : ∀ j, j ≤ cnt k' → ∃ i, i ≤ cnt k ∧ aL r i = aL r' j ∧ aA r a k i = aA r' a' k' j := fun j hj => (h _ _).1 ((h' _ _).2 ⟨j, hj, rfl, rfl⟩)
  obtain ⟨rfl, ec⟩ := thirds h1.1 h1.2 h2.1 h2.2 hc hc' (fun i hi => by obtain ⟨j, hj, e, _⟩ := too i hi; exact ⟨j, hj, e.symm⟩) (fun j hj => by obtain ⟨i, hi, e, _⟩ := fro j hj; exact ⟨i, hi, e⟩)
  have eqA : ∀ i, i ≤ cnt k → aA r a k i = aA r a' k' i := fun i hi => by
    obtain ⟨j, hj, e, e2⟩ := too i hi
    rcases (show j = i ∨ j < i ∨ i < j by omega) with x | x | x
    · rw [x] at e2; exact e2.symm
    · exact absurd e (aL_ne x (by omega))
    · exact absurd e.symm (aL_ne x (by omega))
  have ea : a = a' := by
    have := eqA 0 (by omega)
    rw [(aA_zero h1.1 h1.2).2, (aA_zero h1.1 h1.2).2] at this
    exact this
  subst ea
  refine ⟨rfl, rfl, stk_one hk hk' fun i hi => ?_⟩
  by_cases hic : i < cnt k
  · have := eqA (i + 1) (by omega)
    unfold aA hs at this
    simp at this
    omega
  · have e1 := (stk_cnt (kok_yes hk) hi).2 (by omega)
    have e2 := (stk_cnt (kok_yes hk') hi).2 (by omega)
    rw [e1, e2]

/-- The document's way: as many known classes as the chord has, and all of its own among them. -/
theorem ref_same {L A O : Nat → Int} {n m : Nat} {KL KA : Nat → Int} {r a k : Int} (hrt : ∀ j, j < n → rt (L j) (A j) (O j) = true)
    (hK : ∀ x y, (∃ i, i < m ∧ KL i = x ∧ KA i = y) ↔ ∃ j, j < n ∧ L j = x ∧ A j = y) (hd : ∀ i j, i < j → j < m → (KL i, KA i) ≠ (KL j, KA j)) :
    (cnt k + 1 = m ∧ ∀ j, j ≤ cnt k → ∃ i, i < m ∧ KL i = aL r j ∧ KA i = aA r a k j) ↔ (gk L A n = true ∧ Same L A n r a k) := by
  have hc := cnt_bd k
  have h0 : ∀ j, j < n → 0 ≤ L j := fun j hj => (rt_yes (hrt j hj)).1
  have dis : ∀ i j, i < j → j < cnt k + 1 → (aL r i, aA r a k i) ≠ (aL r j, aA r a k j) := fun i j hij hj e => aL_ne hij (by omega) (Prod.mk.inj e).1
  constructor
  · rintro ⟨rfl, hall⟩
    have back := pig_all (f := fun j => (aL r j, aA r a k j)) (g := fun i => (KL i, KA i)) dis (fun j hj => by
      obtain ⟨i, hi, e1, e2⟩ := hall j (by omega)
      exact ⟨i, hi, by simp [e1, e2]⟩)
    have hS : Same L A n r a k := fun x y => by
      rw [← hK]
      constructor
      · rintro ⟨i, hi, rfl, rfl⟩
        obtain ⟨j, hj, e⟩ := back i hi
        exact ⟨j, by omega, (Prod.mk.inj e).1, (Prod.mk.inj e).2⟩
      · rintro ⟨j, hj, rfl, rfl⟩
        exact hall j hj
    refine ⟨(gk_iff h0).2 fun i j hi hj e => ?_, hS⟩
    obtain ⟨p, hp, p1, p2⟩ := (hS _ _).1 ⟨i, hi, rfl, rfl⟩
    obtain ⟨q, hq, q1, q2⟩ := (hS _ _).1 ⟨j, hj, rfl, rfl⟩
    rcases (show p = q ∨ p < q ∨ q < p by omega) with x | x | x
    · rw [← p2, ← q2, x]
    · exact absurd (p1.trans (e.trans q1.symm)) (aL_ne x (by omega))
    · exact absurd (q1.trans (e.symm.trans p1.symm)) (aL_ne x (by omega))
  · rintro ⟨_, hS⟩
    have hall : ∀ j, j ≤ cnt k → ∃ i, i < m ∧ KL i = aL r j ∧ KA i = aA r a k j := fun j hj => (hK _ _).2 ((hS _ _).2 ⟨j, hj, rfl, rfl⟩)
    refine ⟨?_, hall⟩
    have le1 := pig m (cnt k + 1) (fun j => (aL r j, aA r a k j)) (fun i => (KL i, KA i)) dis (fun j hj => by
      obtain ⟨i, hi, e1, e2⟩ := hall j (by omega)
      exact ⟨i, hi, by simp [e1, e2]⟩)
    have le2 := pig (cnt k + 1) m (fun i => (KL i, KA i)) (fun j => (aL r j, aA r a k j)) hd (fun i hi => by
      obtain ⟨j, hj, e1, e2⟩ := (hS _ _).1 ((hK _ _).1 ⟨i, hi, rfl, rfl⟩)
      exact ⟨j, by omega, by simp [e1, e2]⟩)
    omega

end Go.Proofs.YtgcnmmjgdpdmbacDoor.M
