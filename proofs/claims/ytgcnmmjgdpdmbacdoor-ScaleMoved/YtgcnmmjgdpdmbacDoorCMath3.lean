/- Plain numbers: a chord is known by its classes, and there is never more than one. -/
import Derived.Test.YtgcnmmjgdpdmbacDoorCMath2
namespace Go.Proofs.YtgcnmmjgdpdmbacDoor.M

/-- The classes of a chord as the document reckons them. -/
def aL (r : Int) (j : Nat) : Int := (r + 2 * (j : Int)) % 7
def aA (r a k : Int) (j : Nat) : Int := hv r a 0 + hs k j - wh (r + 2 * (j : Int))
theorem aL_ne {r : Int} {i j : Nat} (hij : i < j) (hj : j ≤ 3) : aL r i ≠ aL r j := by unfold aL; omega
theorem aA_zero {r a k : Int} (h1 : 0 ≤ r) (h2 : r ≤ 6) : aL r 0 = r ∧ aA r a k 0 = a := by
  refine ⟨by unfold aL; simp; omega, ?_⟩
  unfold aA hs
  have h := hv_wh r a 0 h1 h2
  rw [show st r 0 = r by unfold st; omega] at h
  simp; omega
theorem mk_aA {r a k : Int} (hr : rt r a 0 = true) {j : Nat} (hj : j < 3) : mk r a 0 (2 * ((j : Int) + 1)) (hs k (j + 1)) = decide (-3 ≤ aA r a k (j + 1) ∧ aA r a k (j + 1) ≤ 3) := by
  have h7 := rt_yes hr
  have hb := hs_bd k (j + 1)
  rw [mk_on hr (inb_mk (by omega))]
  unfold onB aA
  have e : st r 0 + 2 * ((j : Int) + 1) = r + 2 * ((j + 1 : Nat) : Int) := by unfold st; omega
  rw [e]
  congr 1
  simp only [eq_iff_iff]
  constructor
  · rintro ⟨_, _, h1, h2⟩; exact ⟨h1, h2⟩
  · rintro ⟨h1, h2⟩; exact ⟨by omega, by omega, h1, h2⟩
theorem nk_aA {r a k : Int} (hr : rt r a 0 = true) : nk r a 0 k = true ↔ ∀ j, j ≤ cnt k → -3 ≤ aA r a k j ∧ aA r a k j ≤ 3 := by
  have hc := cnt_bd k
  have h7 := rt_yes hr
  constructor
  · intro h j hj
    cases j with
    | zero => rw [(aA_zero h7.1 h7.2.1).2]; omega
    | succ j =>
      have := nko_yes h j (by omega)
      rw [mk_aA hr (by omega)] at this
      exact of_decide_eq_true this
  · intro h
    refine nko_mk fun j hj => ?_
    rw [mk_aA hr (by omega)]
    exact decide_eq_true (h (j + 1) (by omega))
theorem n_aA {r a k : Int} (hr : rt r a 0 = true) (hn : nk r a 0 k = true) {j : Nat} (hj : j ≤ cnt k) : nl r a 0 k j = aL r j ∧ na r a 0 k j = aA r a k j := by
  have h7 := rt_yes hr
  refine ⟨nl_at hr hn hj, ?_⟩
  cases j with
  | zero => rw [(n_zero hr).2.1, (aA_zero h7.1 h7.2.1).2]
  | succ j =>
    have hm := nko_yes hn j (by omega)
    unfold na
    rw [show (2 * ((j + 1 : Nat) : Int)) = 2 * ((j : Int) + 1) by omega, ma_yes hm, pa_yes (mk_yes hm).2.2]
    unfold aA
    rw [show st r 0 + 2 * ((j : Int) + 1) = r + 2 * ((j + 1 : Nat) : Int) by unfold st; omega]

/-- A list's classes are just those of a chord. -/
def Same (L A : Nat → Int) (n : Nat) (r a k : Int) : Prop := ∀ x y : Int, (∃ j, j < n ∧ L j = x ∧ A j = y) ↔ ∃ j, j ≤ cnt k ∧ aL r j = x ∧ aA r a k j = y

theorem isC_iff {L A O : Nat → Int} {n : Nat} {r : Nat} {a k : Int} (hrt : ∀ j, j < n → rt (L j) (A j) (O j) = true) (hg : gk L A n = true) (hr : rt r a 0 = true) : isC (gh L n) (ga L A n) r a k = true ↔ Same L A n r a k := by
  have hc := cnt_bd k
  have hL : ∀ j, j < n → 0 ≤ L j ∧ L j ≤ 6 := fun j hj => by have := rt_yes (hrt j hj); omega
  have hone := (gk_iff (fun j hj => (hL j hj).1)).1 hg
  have hsame : ∀ i j, i < cnt k + 1 → j < cnt k + 1 → aL r i = aL r j → aA r a k i = aA r a k j := fun i j hi hj e => by
    rcases (show i = j ∨ i < j ∨ j < i by omega) with h | h | h
    · rw [h]
    · exact absurd e (aL_ne h (by omega))
    · exact absurd e.symm (aL_ne h (by omega))
  have chI : nk r a 0 k = true → ∀ y : Nat, (ch r a k y = true ↔ ∃ j, j ≤ cnt k ∧ aL r j = y) := fun hn y => by
    unfold ch; rw [gh_iff]
    constructor
    · rintro ⟨j, h1, h2⟩; exact ⟨j, by omega, by rw [← (n_aA hr hn (show j ≤ cnt k by omega)).1]; exact h2⟩
    · rintro ⟨j, h1, h2⟩; exact ⟨j, by omega, by rw [(n_aA hr hn h1).1]; exact h2⟩
  have caI : nk r a 0 k = true → ∀ (y j : Nat), j ≤ cnt k → aL r j = y → ca r a k y = aA r a k j := fun hn y j hj hy => by
    unfold ca
    rw [ga_of (fun i j hi hj e => by
      rw [(n_aA hr hn (show i ≤ cnt k by omega)).1, (n_aA hr hn (show j ≤ cnt k by omega)).1] at e
      rw [(n_aA hr hn (show i ≤ cnt k by omega)).2, (n_aA hr hn (show j ≤ cnt k by omega)).2]
      exact hsame i j hi hj e) (show j < cnt k + 1 by omega) (by rw [(n_aA hr hn hj).1]; exact hy)]
    exact (n_aA hr hn hj).2
  unfold isC
  simp only [Bool.and_eq_true]
  constructor
  · rintro ⟨hn, hq⟩ x y
    have hq := ceq_iff.1 hq
    constructor
    · rintro ⟨j, hj, rfl, rfl⟩
      have hl := hL j hj
      obtain ⟨z, hz⟩ : ∃ z : Nat, L j = z := ⟨(L j).toNat, by omega⟩
      have h1 : ch r a k z = true := by rw [(hq z (by omega)).1]; exact gh_iff.2 ⟨j, hj, hz⟩
      obtain ⟨i, hi, e⟩ := (chI hn z).1 h1
      refine ⟨i, hi, by rw [e, hz], ?_⟩
      rw [← caI hn z i hi e, (hq z (by omega)).2]
      exact ga_of hone hj hz
    · rintro ⟨i, hi, rfl, rfl⟩
      have hb : 0 ≤ aL r i ∧ aL r i ≤ 6 := by unfold aL; omega
      obtain ⟨z, hz⟩ : ∃ z : Nat, aL r i = z := ⟨(aL r i).toNat, by omega⟩
      have h1 : gh L n z = true := by rw [← (hq z (by omega)).1]; exact (chI hn z).2 ⟨i, hi, hz⟩
      obtain ⟨j, hj, e⟩ := gh_iff.1 h1
      refine ⟨j, hj, by rw [e, hz], ?_⟩
      rw [← ga_of hone hj e, ← (hq z (by omega)).2]
      exact caI hn z i hi hz
  · intro hS
    have hn : nk r a 0 k = true := (nk_aA hr).2 fun j hj => by
      obtain ⟨i, hi, _, e⟩ := (hS (aL r j) (aA r a k j)).2 ⟨j, hj, rfl, rfl⟩
      have := rt_yes (hrt i hi)
      rw [← e]; omega
    refine ⟨hn, ceq_iff.2 fun y hy => ?_⟩
    cases h1 : ch r a k y
    · have h2 : gh L n y = false := by
        cases h2 : gh L n y
        · rfl
        · obtain ⟨j, hj, e⟩ := gh_iff.1 h2
          obtain ⟨i, hi, e1, _⟩ := (hS (L j) (A j)).1 ⟨j, hj, rfl, rfl⟩
          have := (chI hn y).2 ⟨i, hi, by rw [e1, e]⟩
          rw [h1] at this; exact absurd this (by decide)
      refine ⟨h2.symm, ?_⟩
      have e1 : ca r a k y = 0 := ga_none fun j hj e => by
        have := (chI hn y).2 ⟨j, by omega, by rw [← (n_aA hr hn (show j ≤ cnt k by omega)).1]; exact e⟩
        rw [h1] at this; exact absurd this (by decide)
      have e2 : ga L A n y = 0 := ga_none fun j hj e => by
        have := gh_iff.2 ⟨j, hj, e⟩
        rw [h2] at this; exact absurd this (by decide)
      rw [e1, e2]
    · obtain ⟨i, hi, e⟩ := (chI hn y).1 h1
      obtain ⟨j, hj, e1, e2⟩ := (hS (aL r i) (aA r a k i)).2 ⟨i, hi, rfl, rfl⟩
      refine ⟨(gh_iff.2 ⟨j, hj, by rw [e1, e]⟩).symm, ?_⟩
      rw [caI hn y i hi e, ga_of hone hj (by rw [e1, e]), e2]

end Go.Proofs.YtgcnmmjgdpdmbacDoor.M
