/- Plain facts on written values: what is greatest, what is left, what they are together. -/
import Derived.Test.YtgcnmmjgdpdmbadFMath3
namespace Go.Proofs.Ytgcnmmjgdpdmbad.F.M

/-- The dots behind a part: p the next half, l what is left, n how many may come yet: how many come, and what is left. -/
def inD : Nat → Nat → Nat → Nat
  | 0, _, _ => 0
  | n + 1, p, l => if 0 < l ∧ p ≤ l then inD n (p / 2) (l - p) + 1 else 0
def inL : Nat → Nat → Nat → Nat
  | 0, _, l => l
  | n + 1, p, l => if 0 < l ∧ p ≤ l then inL n (p / 2) (l - p) else l

/-- Where the first half is that is not longer, from h on (n: so many may be looked at). -/
def hvF : Nat → Nat → Nat → Nat
  | 0, h, _ => h
  | n + 1, h, l => if l < 2 ^ (10 - h) then hvF n (h + 1) l else h
def hv (l : Nat) : Nat := hvF 10 1 l
def dt (l : Nat) : Nat := inD 3 (2 ^ (10 - hv l) / 2) (l - 2 ^ (10 - hv l))
def rs (l : Nat) : Nat := inL 3 (2 ^ (10 - hv l) / 2) (l - 2 ^ (10 - hv l))
/-- How many parts of 1/1024 a value has. -/
def nv (h d : Nat) : Nat := 2 ^ (10 - h) * (2 ^ (d + 1) - 1) / 2 ^ d
/-- The values of what is less than a whole note. -/
def tlF : Nat → Nat → List (Nat × Nat)
  | 0, _ => []
  | n + 1, l => if l = 0 then [] else (hv l, dt l) :: tlF n (rs l)
def tl (l : Nat) : List (Nat × Nat) := tlF 10 l

def sumN : List (Nat × Nat) → Nat
  | [] => 0
  | x :: r => nv x.1 x.2 + sumN r
/-- Each not longer than the one ahead, and each a value whose parts are whole. -/
def fall : Nat → List (Nat × Nat) → Bool
  | _, [] => true
  | m, x :: r => decide (x.1 ≤ 10 ∧ x.2 ≤ 3 ∧ x.1 + x.2 ≤ 10 ∧ nv x.1 x.2 ≤ m) && fall (nv x.1 x.2) r

def allBelow (P : Nat → Bool) : Nat → Bool
  | 0 => true
  | n + 1 => P n && allBelow P n
theorem of_allBelow (P : Nat → Bool) (n : Nat) (h : allBelow P n = true) (k : Nat) (hk : k < n) : P k = true := by
  induction n with
  | zero => omega
  | succ n ih =>
    simp [allBelow] at h
    by_cases e : k = n
    · rw [e]; exact h.1
    · exact ih h.2 (by omega)

theorem tl_all : allBelow (fun l => decide (sumN (tl l) = l) && fall 1023 (tl l) && (decide (l = 0) || decide (1 ≤ hv l ∧ hv l ≤ 10 ∧ 2 ^ (10 - hv l) ≤ l ∧ l < 2 ^ (11 - hv l) ∧ rs l < 2 ^ (10 - hv l) ∧ tl l = (hv l, dt l) :: tl (rs l) ∧ dt l ≤ 3 ∧ (tl l).length ≤ 5))) 1024 = true := by decide +kernel

theorem tl_sum (l : Nat) (h : l < 1024) : sumN (tl l) = l := by
  have := of_allBelow _ _ tl_all l h
  simp only [Bool.and_eq_true, decide_eq_true_eq] at this
  exact this.1.1
theorem tl_fall (l : Nat) (h : l < 1024) : fall 1023 (tl l) = true := by
  have := of_allBelow _ _ tl_all l h
  simp only [Bool.and_eq_true, decide_eq_true_eq] at this
  exact this.1.2
theorem tl_step (l : Nat) (h : l < 1024) (h0 : 0 < l) : 1 ≤ hv l ∧ hv l ≤ 10 ∧ 2 ^ (10 - hv l) ≤ l ∧ l < 2 ^ (11 - hv l) ∧ rs l < 2 ^ (10 - hv l) ∧ tl l = (hv l, dt l) :: tl (rs l) ∧ dt l ≤ 3 ∧ (tl l).length ≤ 5 := by
  have := of_allBelow _ _ tl_all l h
  simp only [Bool.and_eq_true, Bool.or_eq_true, decide_eq_true_eq] at this
  rcases this.2 with e | e
  · omega
  · exact e
theorem tl_zero : tl 0 = [] := by decide
/-- The first half that is not longer is where the halves are, if they lie between. -/
theorem hv_is (l h : Nat) (hl : l < 1024) (h1 : 1 ≤ h) (h10 : h ≤ 10) (ha : 2 ^ (10 - h) ≤ l) (hb : l < 2 ^ (11 - h)) : hv l = h := by
  obtain ⟨a1, a2, a3, a4, _⟩ := tl_step l hl (by have : 0 < 2 ^ (10 - h) := Nat.pow_pos (by omega); omega)
  have p1 : ¬ hv l < h := by
    intro c
    have : 2 ^ (11 - h) ≤ 2 ^ (10 - hv l) := Nat.pow_le_pow_right (by omega) (by omega)
    omega
  have p2 : ¬ h < hv l := by
    intro c
    have : 2 ^ (11 - hv l) ≤ 2 ^ (10 - h) := Nat.pow_le_pow_right (by omega) (by omega)
    omega
  omega
end Go.Proofs.Ytgcnmmjgdpdmbad.F.M
