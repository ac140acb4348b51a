/- Sums over states; how many ways go on. -/
import Derived.Test.YtmgkbnlmdhnjnaeUMath
namespace Go.Proofs.Ytmgkbnlmdhnjnae.U.M
set_option linter.unusedVariables false

/-- A sum. -/
def sm (f : Nat → Int) : Nat → Int
  | 0 => 0
  | n + 1 => sm f n + f n
theorem sm_congr {f f' : Nat → Int} {n : Nat} (h : ∀ j, j < n → f j = f' j) : sm f n = sm f' n := by
  induction n with
  | zero => rfl
  | succ n ih => simp only [sm]; rw [ih (fun j hj => h j (by omega)), h n (by omega)]
theorem sm_zero {f : Nat → Int} {n : Nat} (h : ∀ j, j < n → f j = 0) : sm f n = 0 := by
  induction n with
  | zero => rfl
  | succ n ih => simp only [sm]; rw [ih (fun j hj => h j (by omega)), h n (by omega)]; rfl
theorem sm_pos {f : Nat → Int} {n : Nat} (h : ∀ j, j < n → 0 ≤ f j) : 0 ≤ sm f n := by
  induction n with
  | zero => exact Int.le_refl _
  | succ n ih => simp only [sm]; have := ih (fun j hj => h j (by omega)); have := h n (by omega); omega
theorem sm_ge {f : Nat → Int} {n j : Nat} (h : ∀ j, j < n → 0 ≤ f j) (hj : j < n) : f j ≤ sm f n := by
  induction n with
  | zero => omega
  | succ n ih =>
    simp only [sm]
    have h1 := sm_pos (f := f) (n := n) (fun j hj => h j (by omega))
    have h2 := h n (by omega)
    by_cases e : j = n
    · subst e; omega
    · have := ih (fun j hj => h j (by omega)) (by omega); omega
theorem sm_upd {f f' : Nat → Int} {n j0 : Nat} {v : Int} (hj : j0 < n) (h0 : f j0 = 0) (h1 : f' j0 = v) (h : ∀ j, j < n → j ≠ j0 → f' j = f j) : sm f' n = sm f n + v := by
  induction n with
  | zero => omega
  | succ n ih =>
    simp only [sm]
    by_cases e : j0 = n
    · subst e
      rw [sm_congr (f := f') (f' := f) (fun j hj => h j (by omega) (by omega)), h0, h1]; omega
    · rw [ih (by omega) (fun j hj => h j (by omega)), h n (by omega) (fun x => e x.symm)]; omega
theorem sm_pos_ex {f : Nat → Int} {n : Nat} (h : 0 < sm f n) : ∃ j, j < n ∧ 0 < f j := by
  induction n with
  | zero => simp [sm] at h
  | succ n ih =>
    simp only [sm] at h
    by_cases e : 0 < f n
    · exact ⟨n, by omega, e⟩
    · obtain ⟨j, hj, hf⟩ := ih (by omega)
      exact ⟨j, by omega, hf⟩

/-- The state with number j. -/
def ck (j : Nat) : Int := ((j / 2 : Nat) : Int)
def ca (j : Nat) : Bool := j % 2 == 1
theorem code {k : Int} {a : Bool} (h0 : 0 ≤ k) (hm : k ≤ 127) : ∃ j, j < 256 ∧ ck j = k ∧ ca j = a := by
  refine ⟨2 * k.toNat + (if a then 1 else 0), ?_, ?_, ?_⟩
  · split <;> omega
  · unfold ck; split <;> omega
  · unfold ca; cases a <;> simp <;> omega
theorem code_inj {j j' : Nat} (h1 : ck j = ck j') (h2 : ca j = ca j') : j = j' := by
  unfold ck at h1; unfold ca at h2
  have : j % 2 = j' % 2 := by
    rcases Nat.mod_two_eq_zero_or_one j with e | e <;> rcases Nat.mod_two_eq_zero_or_one j' with e' | e' <;> simp [e, e'] at h2 ⊢
  omega
def top : Int := 1000000000
/-- A sum over what a function has at states, at most 'top'. -/
def wy (V : Int → Bool → Option Int) (F : Int → Bool → Bool) : Int := min (sm (fun j => if F (ck j) (ca j) = true then (V (ck j) (ca j)).getD 0 else 0) 256) top
/-- The same, of those that are no longer to come. -/
def wl (V : Int → Bool → Option Int) (F : Int → Bool → Bool) (L : Int → Bool → Bool) : Int := min (sm (fun j => if L (ck j) (ca j) = false ∧ F (ck j) (ca j) = true then (V (ck j) (ca j)).getD 0 else 0) 256) top
theorem wl_start {V : Int → Bool → Option Int} {F L : Int → Bool → Bool} (h : ∀ j, j < 256 → L (ck j) (ca j) = (V (ck j) (ca j)).isSome) : wl V F L = 0 := by
  unfold wl
  rw [sm_zero]
  · rfl
  · intro j hj
    have := h j hj
    cases e : V (ck j) (ca j)
    · simp
    · rw [e] at this; simp [this]
theorem wl_end {V : Int → Bool → Option Int} {F L : Int → Bool → Bool} (h : ∀ j, j < 256 → L (ck j) (ca j) = false) : wl V F L = wy V F := by
  unfold wl wy
  rw [sm_congr (f' := fun j => if F (ck j) (ca j) = true then (V (ck j) (ca j)).getD 0 else 0)]
  intro j hj
  simp [h j hj]
theorem wl_bd {V : Int → Bool → Option Int} {F L : Int → Bool → Bool} (h : ∀ k a c, V k a = some c → 0 ≤ c) : 0 ≤ wl V F L ∧ wl V F L ≤ top := by
  unfold wl
  have : 0 ≤ sm (fun j => if L (ck j) (ca j) = false ∧ F (ck j) (ca j) = true then (V (ck j) (ca j)).getD 0 else 0) 256 := sm_pos (fun j hj => by
    split
    · cases e : V (ck j) (ca j)
      · simp
      · simp; exact h _ _ _ e
    · exact Int.le_refl _)
  unfold top
  omega
theorem wl_step {V : Int → Bool → Option Int} {F L L' : Int → Bool → Bool} {k : Int} {a : Bool} {c : Int} (hV : ∀ k a c, V k a = some c → 0 ≤ c) (h0 : 0 ≤ k) (hm : k ≤ 127) (hc : V k a = some c) (hL : L k a = true) (hL' : L' k a = false)
    (ho : ∀ k' a', (k' ≠ k ∨ a' ≠ a) → 0 ≤ k' → k' ≤ 127 → L' k' a' = L k' a') : wl V F L' = min (wl V F L + (if F k a = true then c else 0)) top := by
  obtain ⟨j0, hj, e1, e2⟩ := code (a := a) h0 hm
  have hs := sm_upd (f := fun j => if L (ck j) (ca j) = false ∧ F (ck j) (ca j) = true then (V (ck j) (ca j)).getD 0 else 0) (f' := fun j => if L' (ck j) (ca j) = false ∧ F (ck j) (ca j) = true then (V (ck j) (ca j)).getD 0 else 0) (v := if F k a = true then c else 0) hj
    (by simp [e1, e2, hL]) (by simp [e1, e2, hL', hc]) (fun j hj2 hne => by
      have h1 : 0 ≤ ck j ∧ ck j ≤ 127 := by unfold ck; omega
      have h2 : ck j ≠ k ∨ ca j ≠ a := by
        by_cases x : ck j = k
        · right; intro y; exact hne (code_inj (x.trans e1.symm) (y.trans e2.symm))
        · left; exact x
      simp only [ho _ _ h2 h1.1 h1.2])
  unfold wl
  rw [hs]
  have hc0 : 0 ≤ (if F k a = true then c else 0) := by
    split
    · exact hV _ _ _ hc
    · exact Int.le_refl _
  have h5 : 0 ≤ top := by decide
  omega
end Go.Proofs.Ytmgkbnlmdhnjnae.U.M
