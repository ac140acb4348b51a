/- The next matrix while it is made. -/
import Derived.Test.YtmgkbnlmdhnjnaeUMath8
namespace Go.Proofs.Ytmgkbnlmdhnjnae.U.M
set_option linter.unusedVariables false

theorem tr_iff {r : Ru} {g : Nat → Int} {n p i j : Nat} : tr r g n p i j = 1 ↔ ca j = (ck j == ck i) ∧ bq r g n p (ck j) (ck i) (ca i) = 0 := by
  unfold tr
  by_cases h : fo r g p (ck i) (ca i) (ck j) (ca j) = true ∧ ba r g n p (ck j) = 0
  · rw [if_pos h]
    have h1 := fo_iff.1 h.1
    exact ⟨fun _ => ⟨h1.1, by rw [bq_bb h.2]; exact h1.2⟩, fun _ => rfl⟩
  · rw [if_neg h]
    refine ⟨fun x => absurd x (by decide), fun x => ?_⟩
    exfalso
    by_cases hb : ba r g n p (ck j) = 0
    · rw [bq_bb hb] at x
      exact h ⟨fo_iff.2 x, hb⟩
    · rw [bq_ba hb] at x
      exact hb x.2
theorem tr_zero {r : Ru} {g : Nat → Int} {n p i j : Nat} (h : ¬ (ca j = (ck j == ck i) ∧ bq r g n p (ck j) (ck i) (ca i) = 0)) : tr r g n p i j = 0 := by
  rcases tr_01 r g n p i j with e | e
  · exact e
  · exact absurd (tr_iff.1 e) h
theorem bq_keys {r : Ru} (hr : r.Ok) {g : Nat → Int} {n p : Nat} {k pk : Int} {pa : Bool} (h : bq r g n p k pk pa = 0) : r.low ≤ k ∧ k ≤ r.high := by
  by_cases hb : ba r g n p k = 0
  · exact ba_keys hr hb
  · rw [bq_ba hb] at h; exact absurd h hb
theorem tr_out {r : Ru} (hr : r.Ok) {g : Nat → Int} {n p i j : Nat} (h : ck j < r.low ∨ r.high < ck j) : tr r g n p i j = 0 := tr_zero (fun x => by have := bq_keys hr x.2; omega)
theorem nx_low {r : Ru} (hr : r.Ok) {g : Nat → Int} {n p : Nat} {U : Nat → Int} {i j : Nat} : nx U (tr r g n p) i r.low j = min (sm (fun i' => U i' * tr r g n p i' j) i) top := by
  unfold nx
  by_cases h : ck j < r.low
  · rw [if_pos h, tr_out hr (Or.inl h), Int.mul_zero, Int.add_zero]
  · rw [if_neg h, Int.add_zero]
theorem nx_start {r : Ru} (hr : r.Ok) {g : Nat → Int} {n p : Nat} {U : Nat → Int} {j : Nat} : nx U (tr r g n p) 0 r.low j = 0 := by
  rw [nx_low hr]; rfl
theorem nx_skip {r : Ru} (hr : r.Ok) {g : Nat → Int} {n p : Nat} {U : Nat → Int} {i : Nat} (h : U i = 0) : nx U (tr r g n p) i r.low = nx U (tr r g n p) (i + 1) r.low := by
  funext j
  rw [nx_low hr, nx_low hr]
  simp only [sm]
  rw [h, Int.zero_mul, Int.add_zero]
theorem nx_next {r : Ru} (hr : r.Ok) {g : Nat → Int} {n p : Nat} {U : Nat → Int} {i : Nat} : nx U (tr r g n p) i (r.high + 1) = nx U (tr r g n p) (i + 1) r.low := by
  funext j
  rw [nx_low hr]
  unfold nx
  simp only [sm]
  by_cases h : ck j < r.high + 1
  · rw [if_pos h]
  · rw [if_neg h, tr_out hr (Or.inr (by omega)), Int.mul_zero]
theorem nx_no {r : Ru} {g : Nat → Int} {n p : Nat} {U : Nat → Int} {i : Nat} {k : Int} (h : bq r g n p k (ck i) (ca i) ≠ 0) : nx U (tr r g n p) i k = nx U (tr r g n p) i (k + 1) := by
  funext j
  unfold nx
  by_cases e : ck j = k
  · have : tr r g n p i j = 0 := tr_zero (fun x => h (e ▸ x.2))
    rw [this, Int.mul_zero]
    simp
  · have : ck j < k ↔ ck j < k + 1 := by omega
    simp only [this]
theorem nx_yes {r : Ru} {g : Nat → Int} {n p : Nat} {U : Nat → Int} {i j0 : Nat} {k : Int} (hU : 0 ≤ U i) (h : bq r g n p k (ck i) (ca i) = 0) (h1 : ck j0 = k) (h2 : ca j0 = (k == ck i)) :
    (fun j => if j = j0 then min (nx U (tr r g n p) i k j0 + U i) 1000000000 else nx U (tr r g n p) i k j) = nx U (tr r g n p) i (k + 1) := by
  funext j
  by_cases e : j = j0
  · rw [if_pos e]
    subst e
    have ht : tr r g n p i j = 1 := tr_iff.2 ⟨by rw [h1]; exact h2, by rw [h1]; exact h⟩
    unfold nx
    rw [if_neg (by omega), if_pos (by omega), ht]
    unfold top
    omega
  · rw [if_neg e]
    unfold nx
    by_cases e2 : ck j = k
    · have ht : tr r g n p i j = 0 := tr_zero (fun x => e (code_inj (e2.trans h1.symm) (by rw [h2, x.1, e2])))
      rw [ht, Int.mul_zero]
      simp
    · have : ck j < k ↔ ck j < k + 1 := by omega
      simp only [this]
theorem nx_end {r : Ru} (hr : r.Ok) {g : Nat → Int} {n p0 m : Nat} {F : Nat → Int} (hF : ∀ j, 0 ≤ F j) : nx (fs r g n p0 F m) (tr r g n (p0 + m)) 256 r.low = fs r g n p0 F (m + 1) := by
  funext j
  rw [nx_low hr, fs_step r g n p0 F hF]
theorem nx_bd {U : Nat → Int} {a : Nat → Nat → Int} (hU : ∀ i, 0 ≤ U i) (ha : ∀ i j, a i j = 0 ∨ a i j = 1) (i : Nat) (kk : Int) (j : Nat) : 0 ≤ nx U a i kk j ∧ nx U a i kk j ≤ 1000000000 := by
  have h : ∀ i, 0 ≤ U i * a i j := fun i => by rcases ha i j with e | e <;> rw [e] <;> have := hU i <;> omega
  have h1 : 0 ≤ sm (fun i' => U i' * a i' j) i := sm_pos (fun i' _ => h i')
  have h2 := h i
  unfold nx top
  split <;> omega
theorem code_k (k a : Nat) (ha : a < 2) : ck (2 * k + a) = k ∧ ca (2 * k + a) = (a == 1) := by
  unfold ck ca
  refine ⟨by omega, ?_⟩
  have : (2 * k + a) % 2 = a := by omega
  rw [this]
end Go.Proofs.Ytmgkbnlmdhnjnae.U.M
