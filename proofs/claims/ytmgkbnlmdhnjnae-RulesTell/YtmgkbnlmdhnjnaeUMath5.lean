/- The search is complete: the plain part. -/
import Derived.Test.YtmgkbnlmdhnjnaeUMath4
namespace Go.Proofs.Ytmgkbnlmdhnjnae.U
set_option linter.unusedVariables false

theorem M.ct_pos {r : M.Ru} (hr : r.Ok) {g : Nat → Int} {n i : Nat} (hi : i < n) {pk : Int} {pa : Bool} {k : Int} (h1 : M.ba r g n i k = 0) (h2 : M.bb r g i pk pa k = 0) (h3 : 0 < M.ct r g n (n - (i + 1)) k (k == pk)) : 0 < M.ct r g n (n - i) pk pa := by
  have hk := M.ba_keys hr h1
  have h4 := hr.l0
  have h5 := hr.hm
  obtain ⟨j, hj, e1, e2⟩ := M.code (a := (k == pk)) (show 0 ≤ k by omega) (show k ≤ 127 by omega)
  rw [M.ct_step r g n i hi]
  unfold M.wy
  have hp : ∀ j, j < 256 → 0 ≤ (if M.fo r g i pk pa (M.ck j) (M.ca j) = true then (M.vs r g n i (M.ct r g n (n - (i + 1))) (M.ck j) (M.ca j)).getD 0 else 0) := fun j hj => by
    split
    · cases e : M.vs r g n i (M.ct r g n (n - (i + 1))) (M.ck j) (M.ca j)
      · simp
      · have := M.vs_bd hr _ _ _ e; simp; omega
    · exact Int.le_refl _
  have hg := M.sm_ge (f := fun j => if M.fo r g i pk pa (M.ck j) (M.ca j) = true then (M.vs r g n i (M.ct r g n (n - (i + 1))) (M.ck j) (M.ca j)).getD 0 else 0) hp hj
  have hv : M.vs r g n i (M.ct r g n (n - (i + 1))) k (k == pk) = some (M.ct r g n (n - (i + 1)) k (k == pk)) := by unfold M.vs; rw [if_pos ⟨h1, h3⟩]
  simp only [e1, e2, M.fo_iff.2 ⟨rfl, h2⟩, if_true, hv, Option.getD_some] at hg
  have ht : (0 : Int) < M.top := by decide
  omega
/-- A line that breaks nothing. -/
def Fine (r : M.Ru) (g : Nat → Int) (n : Nat) (y : Nat → Int) : Prop := ∀ i, i < n → M.br r g n y i = 0
theorem Fine.at' {r : M.Ru} {g : Nat → Int} {n : Nat} {y : Nat → Int} (h : Fine r g n y) {i : Nat} (hi : i < n) : M.ba r g n i (y i) = 0 ∧ M.bb r g i (M.stk y i) (M.sta y i) (y i) = 0 := by
  have h1 := h i hi
  by_cases c : M.ba r g n i (y i) = 0
  · rw [M.br_bb c] at h1; exact ⟨c, h1⟩
  · rw [M.br_ba c] at h1; exact absurd h1 c
theorem Fine.pos {r : M.Ru} (hr : r.Ok) {g : Nat → Int} {n : Nat} {y : Nat → Int} (h : Fine r g n y) : ∀ d i, n - i = d → i ≤ n → 0 < M.ct r g n (n - i) (M.stk y i) (M.sta y i) := by
  intro d
  induction d with
  | zero => intro i hd hi; rw [hd]; simp [M.ct]
  | succ d ih =>
    intro i hd hi
    have h1 := h.at' (i := i) (by omega)
    have h2 := ih (i + 1) (by omega) (by omega)
    exact M.ct_pos hr (by omega) h1.1 h1.2 (by simpa only [M.stk, M.sta] using h2)
theorem Fine.all {r : M.Ru} (hr : r.Ok) {g : Nat → Int} {n : Nat} {y : Nat → Int} (h : Fine r g n y) : 0 < M.ct r g n n (-1) false := by
  have := h.pos hr n 0 (by omega) (by omega)
  simpa [M.stk, M.sta] using this
theorem FQ.fine {r : M.Ru} {g : Nat → Int} {n : Nat} {x : Nat → Int} (h : ∀ i, i < n → FQ r g n x i) : Fine r g n x := fun i hi => by
  rw [M.br_bb (h i hi).1]; exact (h i hi).2.1
theorem FQ.keys {r : M.Ru} (hr : r.Ok) {g : Nat → Int} {n : Nat} {x : Nat → Int} (h : ∀ i, i < n → FQ r g n x i) : M.ks x n = true := M.ks_iff.2 fun j hj => by
  have := M.ba_keys hr (h j hj).1
  have h4 := hr.l0
  have h5 := hr.hm
  omega
theorem FQ.first {r : M.Ru} (hr : r.Ok) {g : Nat → Int} {n : Nat} {x y : Nat → Int} (h : ∀ i, i < n → FQ r g n x i) (hy : Fine r g n y) {i : Nat} (hi : i < n) (he : ∀ j, j < i → x j = y j) : x i ≤ y i := by
  have h1 := hy.at' hi
  have h2 := hy.pos hr (n - (i + 1)) (i + 1) rfl (by omega)
  have e1 := M.stk_ext he
  have e2 := M.sta_ext he
  refine (h i hi).2.2.2 (y i) h1.1 ?_ ?_
  · rw [e1, e2]; exact h1.2
  · rw [e1]; simpa only [M.stk, M.sta] using h2
theorem FQ.unique {r : M.Ru} (hr : r.Ok) {g : Nat → Int} {n : Nat} {x y : Nat → Int} (h : ∀ i, i < n → FQ r g n x i) (hy : ∀ i, i < n → FQ r g n y i) : ∀ i, i < n → x i = y i := by
  intro i
  induction i using Nat.strongRecOn with
  | ind i ih =>
    intro hi
    have a := FQ.first hr h (FQ.fine hy) hi (fun j hj => ih j hj (by omega))
    have b := FQ.first hr hy (FQ.fine h) hi (fun j hj => (ih j hj (by omega)).symm)
    omega
theorem CkQ.zero {f : Nat → Int} {n : Nat} {W I : Int} (h : CkQ f n W I) (hf : ∀ i, i < n → f i = 0) : W = 0 ∧ I = 0 := by
  rcases h with ⟨h1, h2, _⟩ | ⟨i, h1, h2, h3, h4, _⟩
  · exact ⟨h1, h2⟩
  · exact absurd (hf i h1) h4
theorem CkQ.fine {f : Nat → Int} {n : Nat} {I : Int} (h : CkQ f n 0 I) : ∀ i, i < n → f i = 0 := by
  rcases h with ⟨h1, h2, h3⟩ | ⟨i, h1, h2, h3, h4, _⟩
  · exact h3
  · exact absurd h3.symm h4
/-- What is found is told to break nothing. -/
theorem CkR.found {r : M.Ru} {g : Nat → Int} {n : Nat} {x : Nat → Int} {W I E : Int} (hw : M.wr r g n = 0) (hx : ∀ i, i < n → FQ r g n x i) (h : CkR r g n x n W I E) : W = 0 ∧ E = 0 := by
  obtain ⟨_, _, _, hr⟩ := M.wr_zero hw
  rcases h with ⟨h1, _⟩ | ⟨_, h1, _⟩ | ⟨_, _, h1, _⟩ | ⟨_, _, _, h1, h2⟩
  · exact absurd hw h1
  · exact absurd rfl h1
  · rw [FQ.keys hr hx] at h1; cases h1
  · exact ⟨(h2.zero (FQ.fine hx)).1, h1⟩
/-- What is told to break nothing breaks nothing. -/
theorem CkR.fine {r : M.Ru} {g : Nat → Int} {n : Nat} {y : Nat → Int} {l : Nat} {I : Int} (h : CkR r g n y l 0 I 0) : M.wr r g n = 0 ∧ l = n ∧ Fine r g n y := by
  rcases h with ⟨h1, _, _, h2⟩ | ⟨_, h1, _, _, h2⟩ | ⟨_, _, _, _, _, h2⟩ | ⟨h1, h2, _, _, h3⟩
  · exact absurd h2.symm h1
  · cases h2
  · cases h2
  · exact ⟨h1, h2, h3.fine⟩
theorem CkR.wrong {r : M.Ru} {g : Nat → Int} {n : Nat} {y : Nat → Int} {l : Nat} {W I E : Int} (hw : M.wr r g n ≠ 0) (h : CkR r g n y l W I E) : W = 0 ∧ I = 0 ∧ E = M.wr r g n := by
  rcases h with ⟨_, h1, h2, h3⟩ | ⟨h1, _⟩ | ⟨h1, _⟩ | ⟨h1, _⟩
  · exact ⟨h1, h2, h3⟩
  · exact absurd h1 hw
  · exact absurd h1 hw
  · exact absurd h1 hw
theorem M.ct_alive : M.ct ⟨0, 127, false, 0, 1⟩ (fun _ => 60) 1 1 (-1) false = 11 := by decide +kernel
theorem M.cn_alive : M.cn ⟨0, 127, false, 0, 1⟩ (fun _ => 60) 1 = 11 ∧ M.wr ⟨0, 127, false, 0, 1⟩ (fun _ => 60) 1 = 0 := by
  have hw : M.wr ⟨0, 127, false, 0, 1⟩ (fun _ => 60) 1 = 0 := M.wr_ok (by omega) ⟨by decide, ⟨by decide, by decide, by decide, by decide, by decide, by decide⟩⟩
  refine ⟨?_, hw⟩
  unfold M.cn; rw [if_pos hw]; exact M.ct_alive
end Go.Proofs.Ytmgkbnlmdhnjnae.U
