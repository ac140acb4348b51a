/- Plain facts on the law that what is written lasts as long. -/
import Derived.Test.YthhaakhjcagmnadRMath3
namespace Go.Proofs.Ythhaakhjcagmnad.F.M

/-- Ahead of value k: a/b what the values ahead are together, c/e the one ahead. -/
def LawI (q r k : Nat) (a b c e : Int) : Prop :=
  a = lu (pS q r k : Nat) 1024 ∧ b = ld (pS q r k : Nat) 1024 ∧ c * 1024 = (mv q r k : Nat) * e
theorem law_start (q r : Nat) : LawI q r 0 0 1 2 1 := ⟨by show (0 : Int) = lu ((0 : Nat) : Int) 1024; decide, by show (1 : Int) = ld ((0 : Nat) : Int) 1024; decide, by show (2 : Int) * 1024 = ((2048 : Nat) : Int) * 1; decide⟩
theorem law_bd (q r k : Nat) (a b c e : Int) (h : LawI q r k a b c e) (hr : r < 1024) (hq : q * 1024 + r ≤ 67108864) (hk : k ≤ eN q r) : ok a b = true ∧ 0 ≤ a ∧ a ≤ 67108864 ∧ 1 ≤ b ∧ b ≤ 1024 := by
  obtain ⟨rfl, rfl, _⟩ := h
  have h1 := pS_mono q r k _ hk
  rw [pS_all q r hr] at h1
  obtain ⟨_, p2, _, p4, p5, p6, p7⟩ := parts_bd (pS q r k) (by omega)
  exact ⟨p2, p6, p7, p4, p5⟩
theorem law_go (q r k : Nat) (a b c e : Int) (h : LawI q r k a b c e) (hr : r < 1024) (hq : q * 1024 + r ≤ 67108864) (hk : k < eN q r) (he : 1 ≤ e) :
    (eV q r k).1 ≤ 10 ∧ (eV q r k).2 ≤ 3 ∧ sg (LU (eV q r k).2 * e) (c * LD (eV q r k).1 (eV q r k).2) ≤ 0 ∧ er (a * LD (eV q r k).1 (eV q r k).2 + LU (eV q r k).2 * b) (b * LD (eV q r k).1 (eV q r k).2) = 0 ∧
      LawI q r (k + 1) (up (a * LD (eV q r k).1 (eV q r k).2 + LU (eV q r k).2 * b) (b * LD (eV q r k).1 (eV q r k).2)) (dn (a * LD (eV q r k).1 (eV q r k).2 + LU (eV q r k).2 * b) (b * LD (eV q r k).1 (eV q r k).2)) (LU (eV q r k).2) (LD (eV q r k).1 (eV q r k).2) := by
  obtain ⟨v1, v2, v3, v4⟩ := eV_ok q r k hr hk
  obtain ⟨n1, n2, n3⟩ := L_nv _ _ v1 v2 v3
  obtain ⟨_, l1, l2, l3, l4⟩ := L_ok _ _ v1 v2
  have h1 := pS_mono q r (k + 1) _ hk
  rw [pS_all q r hr] at h1
  obtain ⟨rfl, rfl, h3⟩ := h
  obtain ⟨_, _, p3, p4, _⟩ := parts_bd (pS q r k) (by have := pS_mono q r k (k + 1) (by omega); omega)
  obtain ⟨x1, x2, x3⟩ := plus_parts (pS q r k) (nv (eV q r k).1 (eV q r k).2) _ _ _ _ p4 l3 p3 n1 (by rw [pS] at h1; omega)
  refine ⟨v1, v2, sign_parts _ _ _ _ _ _ l3 he n1 h3 v4, x3, ?_, ?_, ?_⟩
  · rw [x1]; rfl
  · rw [x2]; rfl
  · exact n1
theorem law_end (q r : Nat) (u d T a b c e : Int) (h : LawI q r (eN q r) a b c e) (hr : r < 1024) (hT : T = q * 1024 + r) (hk : ok u d = true) (hd : T * d = u * 1024) : a = u ∧ b = d := by
  obtain ⟨rfl, rfl, _⟩ := h
  rw [pS_all q r hr]
  exact parts_back u d (q * 1024 + r) hk (by rw [← hd, hT]; simp)
end Go.Proofs.Ythhaakhjcagmnad.F.M
