/- Plain numbers: keys and their steps. -/
import Derived.Test.YtgcnmmjgdpdmbacDoorQMath
namespace Go.Proofs.YtgcnmmjgdpdmbacDoor.M

/-- How many fifths a letter stands above C. -/
def fif (l : Int) : Int := if l = 0 then 0 else if l = 1 then 2 else if l = 2 then 4 else if l = 3 then -1 else if l = 4 then 1 else if l = 5 then 3 else 5
theorem fif_bd (l : Int) : -1 ≤ fif l ∧ fif l ≤ 5 := by unfold fif; repeat' split <;> try omega
def mok (m : Int) : Bool := decide (0 ≤ m ∧ m ≤ 6)
theorem mok_yes {m : Int} (h : mok m = true) : 0 ≤ m ∧ m ≤ 6 := of_decide_eq_true h
theorem mok_no {m : Int} (h : mok m = false) : ¬ (0 ≤ m ∧ m ≤ 6) := of_decide_eq_false h
/-- The signs of a key, if there are not too many. -/
def zr (l a m : Int) : Int := fif l + 7 * a - fif m
def z7 (x : Int) : Bool := decide (-7 ≤ x ∧ x ≤ 7)
theorem z7_yes {x : Int} (h : z7 x = true) : -7 ≤ x ∧ x ≤ 7 := of_decide_eq_true h
theorem z7_no {x : Int} (h : z7 x = false) : ¬ (-7 ≤ x ∧ x ≤ 7) := of_decide_eq_false h
def zk (l a m : Int) : Bool := mok m && (rt l a 0 && z7 (zr l a m))
theorem zk_yes {l a m : Int} (h : zk l a m = true) : mok m = true ∧ rt l a 0 = true ∧ z7 (zr l a m) = true := by unfold zk at h; simpa using h
def zs (l a m : Int) : Int := if zk l a m = true then zr l a m else 0
theorem zs_yes {l a m : Int} (h : zk l a m = true) : zs l a m = zr l a m := by unfold zs; rw [if_pos h]
theorem zs_no {l a m : Int} (h : zk l a m = false) : zs l a m = 0 := by unfold zs; rw [if_neg (by rw [h]; decide)]
def ze (l a m : Int) : Int := if zk l a m = true then 0 else if mok m = false then 1 else if rt l a 0 = false then 2 else 3
theorem ze_yes {l a m : Int} (h : zk l a m = true) : ze l a m = 0 := by unfold ze; rw [if_pos h]
theorem ze_kind {l a m : Int} (h : mok m = false) : zk l a m = false ∧ ze l a m = 1 := by
  have h1 : zk l a m = false := by unfold zk; rw [h]; rfl
  exact ⟨h1, by unfold ze; rw [if_neg (by rw [h1]; decide), if_pos h]⟩
theorem ze_form {l a m : Int} (h : mok m = true) (h2 : rt l a 0 = false) : zk l a m = false ∧ ze l a m = 2 := by
  have h1 : zk l a m = false := by unfold zk; rw [h, h2]; rfl
  exact ⟨h1, by unfold ze; rw [if_neg (by rw [h1]; decide), if_neg (by rw [h]; decide), if_pos h2]⟩
theorem ze_range {l a m : Int} (h : mok m = true) (h2 : rt l a 0 = true) (h3 : z7 (zr l a m) = false) : zk l a m = false ∧ ze l a m = 3 := by
  have h1 : zk l a m = false := by unfold zk; rw [h, h2, h3]; rfl
  exact ⟨h1, by unfold ze; rw [if_neg (by rw [h1]; decide), if_neg (by rw [h]; decide), if_neg (by rw [h2]; decide)]⟩
theorem zk_mk {l a m : Int} (h : mok m = true) (h2 : rt l a 0 = true) (h3 : z7 (zr l a m) = true) : zk l a m = true := by unfold zk; rw [h, h2, h3]; rfl
theorem ze_bd (l a m : Int) : 0 ≤ ze l a m ∧ ze l a m ≤ 3 := by unfold ze; repeat' split <;> try omega
theorem ze_ne {l a m : Int} (h : zk l a m = false) : ze l a m ≠ 0 := by unfold ze; rw [if_neg (by rw [h]; decide)]; repeat' split <;> try omega
theorem zr_bd {l a m : Int} (h : zk l a m = true) : -7 ≤ zr l a m ∧ zr l a m ≤ 7 := z7_yes (zk_yes h).2.2
theorem zs_bd (l a m : Int) : -7 ≤ zs l a m ∧ zs l a m ≤ 7 := by
  cases h : zk l a m
  · rw [zs_no h]; omega
  · rw [zs_yes h]; exact zr_bd h

/-- What a letter is altered by, in a key of so many signs. -/
def al (s l : Int) : Int := if fif l + 1 < s then 1 else if 5 - fif l < -s then -1 else 0
theorem al_bd (s l : Int) : -1 ≤ al s l ∧ al s l ≤ 1 := by unfold al; repeat' split <;> try omega

theorem fin7 {l : Int} (h : 0 ≤ l ∧ l ≤ 6) : ∃ i : Fin 7, l = ((i.val : Nat) : Int) := ⟨⟨l.toNat, by omega⟩, by simp; omega⟩
theorem fin7a {a : Int} (h : -3 ≤ a ∧ a ≤ 3) : ∃ i : Fin 7, a = ((i.val : Nat) : Int) - 3 := ⟨⟨(a + 3).toNat, by omega⟩, by simp; omega⟩
theorem al_zr_fin : ∀ l a m : Fin 7, z7 (zr ((l.val : Nat) : Int) (((a.val : Nat) : Int) - 3) ((m.val : Nat) : Int)) = true → al (zr ((l.val : Nat) : Int) (((a.val : Nat) : Int) - 3) ((m.val : Nat) : Int)) ((l.val : Nat) : Int) = ((a.val : Nat) : Int) - 3 := by decide +kernel
theorem al_zr {l a m : Int} (h : zk l a m = true) : al (zr l a m) l = a := by
  obtain ⟨h1, h2, h3⟩ := zk_yes h
  obtain ⟨x1, x2, x3, x4, _, _⟩ := rt_yes h2
  obtain ⟨i, rfl⟩ := fin7 ⟨x1, x2⟩
  obtain ⟨j, rfl⟩ := fin7a ⟨x3, x4⟩
  obtain ⟨k, rfl⟩ := fin7 (mok_yes h1)
  exact al_zr_fin i j k h3

/-- A step of a key. -/
def dk (l a o m n : Int) : Bool := zk l a m && (rt l a o && (wi n 200 && rt ((l + n) % 7) (al (zr l a m) ((l + n) % 7)) (o + (l + n) / 7)))
theorem dk_yes {l a o m n : Int} (h : dk l a o m n = true) : zk l a m = true ∧ rt l a o = true ∧ wi n 200 = true ∧ rt ((l + n) % 7) (al (zr l a m) ((l + n) % 7)) (o + (l + n) / 7) = true := by unfold dk at h; simpa using h
def dl (l a o m n : Int) : Int := if dk l a o m n = true then (l + n) % 7 else 0
def da (l a o m n : Int) : Int := if dk l a o m n = true then al (zr l a m) ((l + n) % 7) else 0
def dO (l a o m n : Int) : Int := if dk l a o m n = true then o + (l + n) / 7 else 0
def de (l a o m n : Int) : Int := if dk l a o m n = true then 0 else if zk l a m = false then ze l a m else if rt l a o = false then 2 else 3
theorem dl_yes {l a o m n : Int} (h : dk l a o m n = true) : dl l a o m n = (l + n) % 7 := by unfold dl; rw [if_pos h]
theorem da_yes {l a o m n : Int} (h : dk l a o m n = true) : da l a o m n = al (zr l a m) ((l + n) % 7) := by unfold da; rw [if_pos h]
theorem dO_yes {l a o m n : Int} (h : dk l a o m n = true) : dO l a o m n = o + (l + n) / 7 := by unfold dO; rw [if_pos h]
theorem de_yes {l a o m n : Int} (h : dk l a o m n = true) : de l a o m n = 0 := by unfold de; rw [if_pos h]
theorem dl_no {l a o m n : Int} (h : dk l a o m n = false) : dl l a o m n = 0 := by unfold dl; rw [if_neg (by rw [h]; decide)]
theorem da_no {l a o m n : Int} (h : dk l a o m n = false) : da l a o m n = 0 := by unfold da; rw [if_neg (by rw [h]; decide)]
theorem dO_no {l a o m n : Int} (h : dk l a o m n = false) : dO l a o m n = 0 := by unfold dO; rw [if_neg (by rw [h]; decide)]
theorem de_sign {l a o m n : Int} (h : zk l a m = false) : dk l a o m n = false ∧ de l a o m n = ze l a m := by
  have h1 : dk l a o m n = false := by unfold dk; rw [h]; rfl
  exact ⟨h1, by unfold de; rw [if_neg (by rw [h1]; decide), if_pos h]⟩
theorem de_form {l a o m n : Int} (h : zk l a m = true) (h2 : rt l a o = false) : dk l a o m n = false ∧ de l a o m n = 2 := by
  have h1 : dk l a o m n = false := by unfold dk; rw [h, h2]; rfl
  exact ⟨h1, by unfold de; rw [if_neg (by rw [h1]; decide), if_neg (by rw [h]; decide), if_pos h2]⟩
theorem de_range {l a o m n : Int} (h : zk l a m = true) (h2 : rt l a o = true) (h3 : wi n 200 = false) : dk l a o m n = false ∧ de l a o m n = 3 := by
  have h1 : dk l a o m n = false := by unfold dk; rw [h, h2, h3]; rfl
  exact ⟨h1, by unfold de; rw [if_neg (by rw [h1]; decide), if_neg (by rw [h]; decide), if_neg (by rw [h2]; decide)]⟩
theorem de_out {l a o m n : Int} (h : zk l a m = true) (h2 : rt l a o = true) (h3 : wi n 200 = true) (h4 : rt ((l + n) % 7) (al (zr l a m) ((l + n) % 7)) (o + (l + n) / 7) = false) : dk l a o m n = false ∧ de l a o m n = 3 := by
  have h1 : dk l a o m n = false := by unfold dk; rw [h, h2, h3, h4]; rfl
  exact ⟨h1, by unfold de; rw [if_neg (by rw [h1]; decide), if_neg (by rw [h]; decide), if_neg (by rw [h2]; decide)]⟩
theorem dk_mk {l a o m n : Int} (h : zk l a m = true) (h2 : rt l a o = true) (h3 : wi n 200 = true) (h4 : rt ((l + n) % 7) (al (zr l a m) ((l + n) % 7)) (o + (l + n) / 7) = true) : dk l a o m n = true := by unfold dk; rw [h, h2, h3, h4]; rfl
theorem wi_yes {n m : Int} (h : wi n m = true) : -m ≤ n ∧ n ≤ m := of_decide_eq_true h
theorem wi_no {n m : Int} (h : wi n m = false) : ¬ (-m ≤ n ∧ n ≤ m) := of_decide_eq_false h
theorem de_ne {l a o m n : Int} (h : dk l a o m n = false) : de l a o m n ≠ 0 := by
  unfold de; rw [if_neg (by rw [h]; decide)]
  split
  · rename_i h1; exact ze_ne h1
  · split <;> omega
theorem rt_class {l a o : Int} (h : rt l a o = true) : rt l a 0 = true := by have := rt_yes h; exact rt_mk (by omega)
theorem rt_st {l a o : Int} (h : rt l a o = true) : -84 ≤ st l o ∧ st l o ≤ 90 := by have := rt_yes h; unfold st; omega

/-- A fifth more is a sharp more. -/
theorem fifth_fin : ∀ l a m : Fin 7, onB (st ((l.val : Nat) : Int) 0 + 4) (hv ((l.val : Nat) : Int) (((a.val : Nat) : Int) - 3) 0 + 7) = true → zr (pl (st ((l.val : Nat) : Int) 0 + 4) (hv ((l.val : Nat) : Int) (((a.val : Nat) : Int) - 3) 0 + 7)) (pa (st ((l.val : Nat) : Int) 0 + 4) (hv ((l.val : Nat) : Int) (((a.val : Nat) : Int) - 3) 0 + 7)) ((m.val : Nat) : Int) = zr ((l.val : Nat) : Int) (((a.val : Nat) : Int) - 3) ((m.val : Nat) : Int) + 1 := by decide +kernel
theorem fifth_zr {l a m : Int} (h : rt l a 0 = true) (h1 : mok m = true) (hm : mk l a 0 4 7 = true) : zr (ml l a 0 4 7) (ma l a 0 4 7) m = zr l a m + 1 ∧ rt (ml l a 0 4 7) (ma l a 0 4 7) 0 = true := by
  obtain ⟨x1, x2, x3, x4, _, _⟩ := rt_yes h
  have hm' := (mk_yes hm).2.2
  rw [ml_yes hm, ma_yes hm]
  refine ⟨?_, rt_class (rt_pl hm')⟩
  obtain ⟨i, rfl⟩ := fin7 ⟨x1, x2⟩
  obtain ⟨j, rfl⟩ := fin7a ⟨x3, x4⟩
  obtain ⟨k, rfl⟩ := fin7 (mok_yes h1)
  exact fifth_fin i j k hm'

end Go.Proofs.YtgcnmmjgdpdmbacDoor.M
