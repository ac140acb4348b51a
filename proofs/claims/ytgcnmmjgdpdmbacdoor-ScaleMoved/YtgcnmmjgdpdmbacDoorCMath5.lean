/- Plain numbers: a chord that is moved is a chord. -/
import Derived.Test.YtgcnmmjgdpdmbacDoorCMath4
import Derived.Test.YtgcnmmjgdpdmbacDoorC4
namespace Go.Proofs.YtgcnmmjgdpdmbacDoor.M

theorem wh_oct (x q : Int) : wh (x + 7 * q) = wh x + 12 * q := by
  unfold wh
  rw [show (x + 7 * q) / 7 = x / 7 + q by omega, show (x + 7 * q) % 7 = x % 7 by omega]; omega
/-- A class that is moved. -/
def tL (l s : Int) : Int := (l + s) % 7
def tA (l a s h : Int) : Int := hv l a 0 + h - wh (l + s)
theorem hv_oct5 (l a o : Int) : hv l a o = hv l a 0 + 12 * o := by unfold hv; omega
theorem move_class {l a o s h : Int} (e : mk l a o s h = true) : ml l a o s h = tL l s ∧ ma l a o s h = tA l a s h ∧ st (ml l a o s h) (mo l a o s h) = st l o + s := by
  have hon := (mk_yes e).2.2
  rw [ml_yes e, ma_yes e, mo_yes e]
  refine ⟨?_, ?_, st_pl hon⟩
  · rw [pl_yes hon]; unfold st tL; omega
  · rw [pa_yes hon]
    unfold tA
    rw [show st l o + s = l + s + 7 * o by unfold st; omega, wh_oct, hv_oct5 l a o]
    omega
theorem tL_inj {l l' s : Int} (h1 : 0 ≤ l ∧ l ≤ 6) (h2 : 0 ≤ l' ∧ l' ≤ 6) (e : tL l s = tL l' s) : l = l' := by unfold tL at e; omega
theorem tA_inj {l a a' s h : Int} (e : tA l a s h = tA l a' s h) : a = a' := by unfold tA hv at e; omega
/-- A chord's classes, moved, are those of the chord on the moved root. -/
theorem t_chord {r a k s h : Int} (j : Nat) : aL (tL r s) j = tL (aL r j) s ∧ aA (tL r s) (tA r a s h) k j = tA (aL r j) (aA r a k j) s h := by
  refine ⟨by unfold aL tL; omega, ?_⟩
  have e1 : wh (tL r s + 2 * (j : Int)) = wh (r + s + 2 * (j : Int)) - 12 * ((r + s) / 7) := by
    have := wh_oct (tL r s + 2 * (j : Int)) ((r + s) / 7)
    rw [show tL r s + 2 * (j : Int) + 7 * ((r + s) / 7) = r + s + 2 * (j : Int) by unfold tL; omega] at this
    omega
  have e2 : wh (aL r j + s) = wh (r + s + 2 * (j : Int)) - 12 * ((r + 2 * (j : Int)) / 7) := by
    have := wh_oct (aL r j + s) ((r + 2 * (j : Int)) / 7)
    rw [show aL r j + s + 7 * ((r + 2 * (j : Int)) / 7) = r + s + 2 * (j : Int) by unfold aL; omega] at this
    omega
  have e3 : wh (r + s) = 12 * ((r + s) / 7) + ab (tL r s) := rfl
  have e4 : wh (r + 2 * (j : Int)) = 12 * ((r + 2 * (j : Int)) / 7) + ab (aL r j) := rfl
  unfold aA tA
  rw [e1, e2]
  unfold hv
  omega

/-- A list that is moved is a chord just if it was one. -/
theorem Same.moved {L A : Nat → Int} {n : Nat} {r a k s h : Int} (hL : ∀ j, j < n → 0 ≤ L j ∧ L j ≤ 6) :
    Same L A n r a k ↔ Same (fun j => tL (L j) s) (fun j => tA (L j) (A j) s h) n (tL r s) (tA r a s h) k := by
  have hb : ∀ j, 0 ≤ aL r j ∧ aL r j ≤ 6 := fun j => by unfold aL; omega
  constructor
  · intro hS x y
    constructor
    · rintro ⟨j, hj, rfl, rfl⟩
      obtain ⟨i, hi, e1, e2⟩ := (hS _ _).1 ⟨j, hj, rfl, rfl⟩
      refine ⟨i, hi, ?_, ?_⟩
      · rw [(t_chord (a := a) (k := k) (h := h) i).1, e1]
      · rw [(t_chord i).2, e1, e2]
    · rintro ⟨i, hi, rfl, rfl⟩
      obtain ⟨j, hj, e1, e2⟩ := (hS _ _).2 ⟨i, hi, rfl, rfl⟩
      refine ⟨j, hj, ?_, ?_⟩
      · show tL (L j) s = _; rw [(t_chord (a := a) (k := k) (h := h) i).1, e1]
      · show tA (L j) (A j) s h = _; rw [(t_chord i).2, e1, e2]
  · intro hS x y
    constructor
    · rintro ⟨j, hj, rfl, rfl⟩
      obtain ⟨i, hi, e1, e2⟩ := (hS _ _).1 ⟨j, hj, rfl, rfl⟩
      simp only at e1 e2
      rw [(t_chord (a := a) (k := k) (h := h) i).1] at e1
      have e3 := tL_inj (hb i) (hL j hj) e1
      rw [(t_chord i).2, e3] at e2
      exact ⟨i, hi, e3, tA_inj e2⟩
    · rintro ⟨i, hi, rfl, rfl⟩
      obtain ⟨j, hj, e1, e2⟩ := (hS _ _).2 ⟨i, hi, rfl, rfl⟩
      simp only at e1 e2
      rw [(t_chord (a := a) (k := k) (h := h) i).1] at e1
      have e3 := tL_inj (hL j hj) (hb i) e1
      rw [(t_chord i).2, e3] at e2
      exact ⟨j, hj, e3, tA_inj e2⟩
theorem gk_moved {L A : Nat → Int} {n : Nat} {s h : Int} (hL : ∀ j, j < n → 0 ≤ L j ∧ L j ≤ 6) : gk (fun j => tL (L j) s) (fun j => tA (L j) (A j) s h) n = gk L A n := by
  have e1 := gk_iff (L := L) (A := A) (n := n) (fun j hj => (hL j hj).1)
  have e2 := gk_iff (L := fun j => tL (L j) s) (A := fun j => tA (L j) (A j) s h) (n := n) (fun j hj => by show 0 ≤ tL (L j) s; unfold tL; omega)
  rw [Bool.eq_iff_iff, e1, e2]
  constructor
  · intro H i j hi hj e
    have he : tA (L i) (A i) s h = tA (L j) (A j) s h := H i j hi hj (by show tL (L i) s = tL (L j) s; rw [e])
    rw [e] at he
    exact tA_inj he
  · intro H i j hi hj e
    have e' := tL_inj (hL i hi) (hL j hj) e
    show tA (L i) (A i) s h = tA (L j) (A j) s h
    rw [e', H i j hi hj e']
theorem turn_moved {l r s : Int} : ((tL l s - tL r s + 7) % 7) / 2 = ((l - r + 7) % 7) / 2 := by
  rw [show (tL l s - tL r s + 7) % 7 = (l - r + 7) % 7 by unfold tL; omega]

end Go.Proofs.YtgcnmmjgdpdmbacDoor.M
