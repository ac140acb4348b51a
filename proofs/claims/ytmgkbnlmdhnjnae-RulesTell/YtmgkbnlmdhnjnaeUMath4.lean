/- What the first line that breaks nothing is, key by key. -/
import Derived.Test.YtmgkbnlmdhnjnaeU11
namespace Go.Proofs.Ytmgkbnlmdhnjnae.U
set_option linter.unusedVariables false

theorem M.stk_ext {x y : Nat → Int} {i : Nat} (h : ∀ j, j < i → x j = y j) : M.stk x i = M.stk y i := by
  cases i with
  | zero => rfl
  | succ i => exact h i (by omega)
theorem M.sta_ext {x y : Nat → Int} {i : Nat} (h : ∀ j, j < i → x j = y j) : M.sta x i = M.sta y i := by
  cases i with
  | zero => rfl
  | succ i => simp only [M.sta]; rw [h i (by omega), M.stk_ext (fun j hj => h j (by omega))]
/-- At place i stands the least key from which there is a way on. -/
def FQ (r : M.Ru) (g : Nat → Int) (n : Nat) (x : Nat → Int) (i : Nat) : Prop :=
  M.ba r g n i (x i) = 0 ∧ M.bb r g i (M.stk x i) (M.sta x i) (x i) = 0 ∧ 0 < M.ct r g n (n - (i + 1)) (x i) (M.sta x (i + 1)) ∧
    ∀ k, M.ba r g n i k = 0 → M.bb r g i (M.stk x i) (M.sta x i) k = 0 → 0 < M.ct r g n (n - (i + 1)) k (k == M.stk x i) → x i ≤ k
theorem FQ.ext {r : M.Ru} {g : Nat → Int} {n : Nat} {x y : Nat → Int} {i : Nat} (h : ∀ j, j < i + 1 → x j = y j) (hx : FQ r g n x i) : FQ r g n y i := by
  have e1 := M.stk_ext (x := x) (y := y) (i := i) (fun j hj => h j (by omega))
  have e2 := M.sta_ext (x := x) (y := y) (i := i) (fun j hj => h j (by omega))
  have e3 := M.sta_ext (x := x) (y := y) (i := i + 1) h
  have e4 := h i (by omega)
  unfold FQ at hx ⊢
  rw [← e1, ← e2, ← e3, ← e4]
  exact hx
theorem M.vs_some {r : M.Ru} {g : Nat → Int} {n i : Nat} {Wb : Int → Bool → Int} {k : Int} {a : Bool} : (M.vs r g n i Wb k a).isSome = true ↔ M.ba r g n i k = 0 ∧ 0 < Wb k a := by
  unfold M.vs
  split
  · rename_i h; simp [h]
  · rename_i h; simp [h]
theorem M.fo_iff {r : M.Ru} {g : Nat → Int} {i : Nat} {pk : Int} {pa : Bool} {k : Int} {a : Bool} : M.fo r g i pk pa k a = true ↔ a = (k == pk) ∧ M.bb r g i pk pa k = 0 := by
  unfold M.fo; simp
def ex (x : Nat → Int) (i : Nat) (K : Int) : Nat → Int := fun j => if j = i then K else x j
theorem ex_same {x : Nat → Int} {i : Nat} {K : Int} : ex x i K i = K := if_pos rfl
theorem ex_less {x : Nat → Int} {i j : Nat} {K : Int} (h : j < i) : ex x i K j = x j := if_neg (by omega)
theorem FQ.take {r : M.Ru} {g : Nat → Int} {n : Nat} {x : Nat → Int} {i : Nat} {K : Int} {A : Bool} (h : LB (M.vs r g n i (M.ct r g n (n - (i + 1)))) (M.fo r g i (M.stk x i) (M.sta x i)) K A true) :
    FQ r g n (ex x i K) i ∧ A = (K == M.stk x i) := by
  have e1 : M.stk (ex x i K) i = M.stk x i := M.stk_ext (fun j hj => ex_less hj)
  have e2 : M.sta (ex x i K) i = M.sta x i := M.sta_ext (fun j hj => ex_less hj)
  have e3 : M.sta (ex x i K) (i + 1) = (K == M.stk x i) := by simp only [M.sta]; rw [ex_same, e1]
  rcases h with ⟨_, h1, h2, h3⟩ | ⟨h1, _⟩
  · rw [M.vs_some] at h1
    rw [M.fo_iff] at h2
    refine ⟨⟨?_, ?_, ?_, ?_⟩, h2.1⟩
    · rw [ex_same]; exact h1.1
    · rw [ex_same, e1, e2]; exact h2.2
    · rw [ex_same, e3, ← h2.1]; exact h1.2
    · intro k p q s
      rw [ex_same]
      rw [e1, e2] at q
      rw [e1] at s
      exact h3 k _ (M.vs_some.2 ⟨p, s⟩) (M.fo_iff.2 ⟨rfl, q⟩)
  · cases h1
theorem FQ.none {r : M.Ru} {g : Nat → Int} {n : Nat} {i : Nat} {K pk : Int} {A pa : Bool} (hi : i < n) (h : LB (M.vs r g n i (M.ct r g n (n - (i + 1)))) (M.fo r g i pk pa) K A false) : M.ct r g n (n - i) pk pa = 0 := by
  rcases h with ⟨h1, _⟩ | ⟨_, h1⟩
  · cases h1
  · rw [M.ct_step r g n i hi]
    unfold M.wy
    rw [M.sm_zero]
    · rfl
    · intro j hj
      split
      · rename_i hf
        cases e : M.vs r g n i (M.ct r g n (n - (i + 1))) (M.ck j) (M.ca j)
        · rfl
        · exact absurd hf (fun hf => h1 _ _ (by rw [e]; rfl) hf)
      · rfl
/-- What Find answers: a list as a function, or none. -/
def FnR (r : M.Ru) (g : Nat → Int) (n : Nat) (x : Nat → Int) (m : Nat) (E : Int) : Prop :=
  (M.wr r g n ≠ 0 ∧ m = 0 ∧ E = M.wr r g n) ∨ (M.wr r g n = 0 ∧ m = 0 ∧ E = 6 ∧ M.ct r g n n (-1) false = 0) ∨ (M.wr r g n = 0 ∧ m = n ∧ E = 0 ∧ ∀ i, i < n → FQ r g n x i)
end Go.Proofs.Ytmgkbnlmdhnjnae.U
