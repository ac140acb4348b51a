/- Rules of counterpoint as plain functions: what a key breaks alone and behind others, how many ways go on. -/
import Derived.Test.YtmgkbnlmdhnjnaeRows
namespace Go.Proofs.Ytmgkbnlmdhnjnae.U.M
set_option linter.unusedVariables false

/-- Rules. -/
structure Ru where
  low : Int
  high : Int
  above : Bool
  leap : Int
  classes : Int

/-- Rules that are right. -/
structure Ru.Ok (r : Ru) : Prop where
  l0 : 0 ≤ r.low
  lh : r.low ≤ r.high
  hm : r.high ≤ 127
  lp : 0 ≤ r.leap
  c0 : 0 ≤ r.classes
  cm : r.classes ≤ 4095

def ap (a b : Int) : Int := if a ≤ b then b - a else a - b
def so (a b : Int) : Int := ap a b % 12
def pf (s : Int) : Bool := decide (s = 0 ∨ s = 7)
def hs (s : Int) : Bool := decide (s = 1 ∨ s = 2 ∨ s = 5 ∨ s = 6 ∨ s = 10 ∨ s = 11)
def bit (c k : Int) : Int := c / 2 ^ (k % 12).toNat % 2
def ba (r : Ru) (g : Nat → Int) (n i : Nat) (k : Int) : Int :=
  if k < r.low ∨ r.high < k ∨ bit r.classes k = 0 then 1
  else if r.above = true ∧ k < g i then 2
  else if hs (so k (g i)) = true then 3
  else if (i = 0 ∧ pf (so k (g i)) = false) ∨ (i + 1 = n ∧ so k (g i) ≠ 0) then 4
  else 0
def bb (r : Ru) (g : Nat → Int) (i : Nat) (pk : Int) (pa : Bool) (k : Int) : Int :=
  if i = 0 then 0
  else if r.leap < ap k pk ∨ ap k pk = 6 then 5
  else if ap k pk ≠ 0 ∧ pf (so k (g i)) = true ∧ so k (g i) = so pk (g (i - 1)) then 6
  else if ap k pk = 0 ∧ pa = true then 7
  else 0

/-- Are all keys? -/
def ks (g : Nat → Int) : Nat → Bool
  | 0 => true
  | n + 1 => ks g n && decide (0 ≤ g n ∧ g n ≤ 127)
theorem ks_iff {g : Nat → Int} {n : Nat} : ks g n = true ↔ ∀ j, j < n → 0 ≤ g j ∧ g j ≤ 127 := by
  induction n with
  | zero => simp [ks]
  | succ n ih =>
    simp only [ks, Bool.and_eq_true, decide_eq_true_eq, ih]
    constructor
    · intro h j hj
      rcases Nat.lt_succ_iff_lt_or_eq.1 hj with h1 | rfl
      · exact h.1 j h1
      · exact h.2
    · intro h
      exact ⟨fun j hj => h j (by omega), h n (by omega)⟩
theorem ks_no {g : Nat → Int} {n j : Nat} (hj : j < n) (h : g j < 0 ∨ 127 < g j) : ks g n = false := by
  cases e : ks g n
  · rfl
  · have := ks_iff.1 e j hj; omega

/-- What is wrong. -/
def wr (r : Ru) (g : Nat → Int) (n : Nat) : Int :=
  if n = 0 ∨ 64 < n then 5 else if ks g n = true ∧ 0 ≤ r.low ∧ r.low ≤ r.high ∧ r.high ≤ 127 ∧ 0 ≤ r.leap ∧ 0 ≤ r.classes ∧ r.classes ≤ 4095 then 0 else 3
theorem ok_iff {r : Ru} : r.Ok ↔ 0 ≤ r.low ∧ r.low ≤ r.high ∧ r.high ≤ 127 ∧ 0 ≤ r.leap ∧ 0 ≤ r.classes ∧ r.classes ≤ 4095 :=
  ⟨fun h => ⟨h.l0, h.lh, h.hm, h.lp, h.c0, h.cm⟩, fun h => ⟨h.1, h.2.1, h.2.2.1, h.2.2.2.1, h.2.2.2.2.1, h.2.2.2.2.2⟩⟩
end Go.Proofs.Ytmgkbnlmdhnjnae.U.M
