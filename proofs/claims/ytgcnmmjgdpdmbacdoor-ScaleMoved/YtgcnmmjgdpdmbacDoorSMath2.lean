/- Plain numbers: the document's way to the signs of a key. -/
import Derived.Test.YtgcnmmjgdpdmbacDoorSMath
namespace Go.Proofs.YtgcnmmjgdpdmbacDoor.M

/-- The letters that get a sharp, one behind the other. -/
def shn (k : Nat) : Nat := if k = 0 then 3 else if k = 1 then 0 else if k = 2 then 4 else if k = 3 then 1 else if k = 4 then 5 else if k = 5 then 2 else 6
theorem shn_bd (k : Nat) : shn k < 7 := by unfold shn; repeat' split <;> try omega
theorem al_up_fin : ∀ k j : Fin 7, al (((k.val : Nat) : Int) + 1) ((j.val : Nat) : Int) = if j.val = shn k.val then 1 else al ((k.val : Nat) : Int) ((j.val : Nat) : Int) := by decide +kernel
theorem al_up {k j : Nat} (hk : k < 7) (hj : j < 7) : al ((k : Int) + 1) (j : Int) = if j = shn k then 1 else al (k : Int) (j : Int) := al_up_fin ⟨k, hk⟩ ⟨j, hj⟩
theorem al_dn_fin : ∀ k j : Fin 7, al (-(((k.val : Nat) : Int) + 1)) ((j.val : Nat) : Int) = if j.val = shn (6 - k.val) then -1 else al (-((k.val : Nat) : Int)) ((j.val : Nat) : Int) := by decide +kernel
theorem al_dn {k j : Nat} (hk : k < 7) (hj : j < 7) : al (-((k : Int) + 1)) (j : Int) = if j = shn (6 - k) then -1 else al (-(k : Int)) (j : Int) := al_dn_fin ⟨k, hk⟩ ⟨j, hj⟩
theorem al_zero {j : Nat} (hj : j < 7) : al 0 (j : Int) = 0 := by
  have : ∀ j : Fin 7, al 0 ((j.val : Nat) : Int) = 0 := by decide +kernel
  exact this ⟨j, hj⟩

/-- The letter on which a major key begins. -/
def frs (n : Int) : Int := (4 * n) % 7
theorem frs_bd (n : Int) : 0 ≤ frs n ∧ frs n ≤ 6 := by unfold frs; omega
def mt (l a m n : Int) : Bool := decide ((frs n + m) % 7 = l) && decide (al n l = a)
theorem mt_fin : ∀ l a m : Fin 7, ∀ n : Fin 15, mt ((l.val : Nat) : Int) (((a.val : Nat) : Int) - 3) ((m.val : Nat) : Int) (((n.val : Nat) : Int) - 7) = decide (zr ((l.val : Nat) : Int) (((a.val : Nat) : Int) - 3) ((m.val : Nat) : Int) = ((n.val : Nat) : Int) - 7) := by decide +kernel
theorem mt_zr {l a m n : Int} (hr : rt l a 0 = true) (hm : mok m = true) (h1 : -7 ≤ n) (h2 : n ≤ 7) : mt l a m n = decide (zr l a m = n) := by
  obtain ⟨x1, x2, x3, x4, _, _⟩ := rt_yes hr
  obtain ⟨i, rfl⟩ := fin7 ⟨x1, x2⟩
  obtain ⟨j, rfl⟩ := fin7a ⟨x3, x4⟩
  obtain ⟨k, rfl⟩ := fin7 (mok_yes hm)
  obtain ⟨q, rfl⟩ : ∃ q : Fin 15, n = ((q.val : Nat) : Int) - 7 := ⟨⟨(n + 7).toNat, by omega⟩, by simp; omega⟩
  exact mt_fin i j k q

end Go.Proofs.YtgcnmmjgdpdmbacDoor.M
