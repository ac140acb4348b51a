/- Plain facts on clocks: a mark that changes nothing changes nothing. -/
import Derived.Test.YtmccbokjigjpnaeKMath
namespace Go.Proofs.Ytmccbokjigjpnae.K.M
set_option linter.unusedVariables false
variable {A P : Nat → Int} {R : Nat → Bool} {n : Nat}

/-- A ramp between equal paces is none, nor is one behind the last mark. -/
def rn (P : Nat → Int) (R : Nat → Bool) (n i : Nat) : Bool := R i && (decide (i + 1 < n) && !decide (P (i + 1) = P i))
theorem rn_yes (i : Nat) : rn P R n i = true ↔ R i = true ∧ i + 1 < n ∧ P (i + 1) ≠ P i := by
  unfold rn; simp
theorem pc_rn (h : Rt A P n) (i : Nat) (hi : i < n) (t : Int) : pc A P (rn P R n) n i t = pc A P R n i t := by
  by_cases ht : t ≤ A i
  · rw [pc_out i t ht, pc_out i t ht]
  · by_cases e : rn P R n i = true
    · obtain ⟨a, b, c⟩ := (rn_yes i).1 e
      rw [pc_ramp i t (by omega) e b, pc_ramp i t (by omega) a b]
    · rw [pc_even i t (by omega) (fun x => e x.1)]
      by_cases f : R i = true ∧ i + 1 < n
      · have hP : P (i + 1) = P i := by
          by_cases g : P (i + 1) = P i
          · exact g
          · exact absurd ((rn_yes i).2 ⟨f.1, f.2, g⟩) e
        rw [pc_ramp i t (by omega) f.1 f.2, hP, rp_same _ _ _ (by have := h.rise i f.2; omega)]
      · rw [pc_even i t (by omega) f]
theorem tw_rn (h : Rt A P n) (t : Int) : ∀ k, k ≤ n → tw A P (rn P R n) n k t = tw A P R n k t
  | 0, _ => rfl
  | k + 1, hk => by
    show tw A P (rn P R n) n k t + pc A P (rn P R n) n k t = tw A P R n k t + pc A P R n k t
    rw [tw_rn h t k (by omega), pc_rn h k (by omega) t]

/-- A mark more, behind mark k. -/
def ins {α : Type} (X : Nat → α) (k : Nat) (x : α) (i : Nat) : α := if i ≤ k then X i else if i = k + 1 then x else X (i - 1)
theorem ins_lo {α : Type} (X : Nat → α) (k : Nat) (x : α) (i : Nat) (h : i ≤ k) : ins X k x i = X i := by unfold ins; rw [if_pos h]
theorem ins_at {α : Type} (X : Nat → α) (k : Nat) (x : α) : ins X k x (k + 1) = x := by unfold ins; rw [if_neg (by omega), if_pos rfl]
theorem ins_hi {α : Type} (X : Nat → α) (k : Nat) (x : α) (i : Nat) (h : k < i) : ins X k x (i + 1) = X i := by
  unfold ins; rw [if_neg (by omega), if_neg (by omega)]; rfl

/-- What is asked of a mark that is the same. -/
theorem pc_eq {A' P' : Nat → Int} {R' : Nat → Bool} {n' : Nat} (i j : Nat) (t : Int) (a : A' j = A i) (p : P' j = P i) (r : R' j = R i) (hn : j + 1 < n' ↔ i + 1 < n) (a2 : i + 1 < n → A' (j + 1) = A (i + 1)) (p2 : i + 1 < n → R i = true → P' (j + 1) = P (i + 1)) : pc A' P' R' n' j t = pc A P R n i t := by
  have he : ex A' n' j t = ex A n i t := by
    by_cases x : i + 1 < n
    · unfold ex; simp only [hn, a2 x]
    · rw [ex_last i t x, ex_last j t (fun y => x (hn.1 y))]
  by_cases ht : t ≤ A i
  · rw [pc_out i t ht, pc_out j t (by omega)]
  · by_cases e : R i = true ∧ i + 1 < n
    · rw [pc_ramp i t (by omega) e.1 e.2, pc_ramp j t (by omega) (by rw [r]; exact e.1) (hn.2 e.2), he, a, p, a2 e.2, p2 e.2 e.1]
    · rw [pc_even i t (by omega) e, pc_even j t (by omega) (fun x => e ⟨by rw [← r]; exact x.1, hn.1 x.2⟩), he, a, p]

theorem pc_cut (h : Rt A P n) (k : Nat) (hk : k < n) (cut t : Int) (hR : R k = false) (h2 : Rt (ins A k cut) (ins P k (P k)) (n + 1)) :
    pc (ins A k cut) (ins P k (P k)) (ins R k false) (n + 1) k t + pc (ins A k cut) (ins P k (P k)) (ins R k false) (n + 1) (k + 1) t = pc A P R n k t := by
  have e1 : A k < cut := by have := h2.rise k (by omega); rwa [ins_lo A k cut k (by omega), ins_at] at this
  have e2 : k + 1 < n → cut < A (k + 1) := fun x => by
    have := h2.rise (k + 1) (by omega); rwa [ins_at, ins_hi A k cut (k + 1) (by omega)] at this
  have r0 : ins R k false k = false := by rw [ins_lo _ _ _ _ (by omega)]; exact hR
  have r1 : ins R k false (k + 1) = false := ins_at _ _ _
  have a0 : ins A k cut k = A k := ins_lo _ _ _ _ (by omega)
  have a1 : ins A k cut (k + 1) = cut := ins_at _ _ _
  have p0 : ins P k (P k) k = P k := ins_lo _ _ _ _ (by omega)
  have p1 : ins P k (P k) (k + 1) = P k := ins_at _ _ _
  by_cases t1 : t ≤ A k
  · rw [pc_out k t t1, pc_out k t (by omega), pc_out (k + 1) t (by omega)]; rfl
  · have q0 := pc_even (A := A) (P := P) (R := R) (n := n) k t (by omega) (fun x => by rw [hR] at x; exact absurd x.1 (by simp))
    have q1 := pc_even (A := ins A k cut) (P := ins P k (P k)) (R := ins R k false) (n := n + 1) k t (by omega) (fun x => by rw [r0] at x; exact absurd x.1 (by simp))
    rw [q0, q1, a0, p0]
    by_cases t2 : t ≤ cut
    · rw [pc_out (k + 1) t (by omega), ex_in k t (fun _ => by omega), ex_in k t (fun x => by have := e2 x; omega)]; omega
    · have q2 := pc_even (A := ins A k cut) (P := ins P k (P k)) (R := ins R k false) (n := n + 1) (k + 1) t (by omega) (fun x => by rw [r1] at x; exact absurd x.1 (by simp))
      rw [q2, p1, a1, ex_full k t (by omega) (by omega), a1]
      have he : ex (ins A k cut) (n + 1) (k + 1) t = ex A n k t := by
        unfold ex
        rw [ins_hi A k cut (k + 1) (by omega)]
        simp only [show k + 1 + 1 < n + 1 ↔ k + 1 < n by omega]
      rw [he]
      generalize ex A n k t = E
      grind
theorem tw_cut (h : Rt A P n) (k : Nat) (hk : k < n) (cut t : Int) (hR : R k = false) (h2 : Rt (ins A k cut) (ins P k (P k)) (n + 1)) :
    tw (ins A k cut) (ins P k (P k)) (ins R k false) (n + 1) (n + 1) t = tw A P R n n t := by
  have lo : ∀ j, j ≤ k → tw (ins A k cut) (ins P k (P k)) (ins R k false) (n + 1) j t = tw A P R n j t := by
    intro j
    induction j with
    | zero => intro _; rfl
    | succ j ih =>
      intro hj
      show tw _ _ _ _ j t + pc _ _ _ _ j t = tw _ _ _ _ j t + pc _ _ _ _ j t
      rw [ih (by omega)]; exact congrArg _ (pc_eq j j t (ins_lo _ _ _ _ (by omega)) (ins_lo _ _ _ _ (by omega)) (ins_lo _ _ _ _ (by omega)) (by omega) (fun _ => ins_lo _ _ _ _ (by omega)) (fun _ _ => ins_lo _ _ _ _ (by omega)))
  have hi : ∀ m, k + 1 + m ≤ n → tw (ins A k cut) (ins P k (P k)) (ins R k false) (n + 1) (k + 1 + m + 1) t = tw A P R n (k + 1 + m) t := by
    intro m
    induction m with
    | zero =>
      intro _
      show tw _ _ _ _ k t + pc _ _ _ _ k t + pc _ _ _ _ (k + 1) t = tw _ _ _ _ k t + pc _ _ _ _ k t
      rw [lo k (by omega), Int.add_assoc, pc_cut h k hk cut t hR h2]
    | succ m ih =>
      intro hm
      show tw _ _ _ _ (k + 1 + m + 1) t + pc _ _ _ _ (k + 1 + m + 1) t = tw _ _ _ _ (k + 1 + m) t + pc _ _ _ _ (k + 1 + m) t
      rw [ih (by omega)]; exact congrArg _ (pc_eq (k + 1 + m) (k + 1 + m + 1) t (ins_hi _ _ _ _ (by omega)) (ins_hi _ _ _ _ (by omega)) (ins_hi _ _ _ _ (by omega)) (by omega) (fun _ => ins_hi _ _ _ _ (by omega)) (fun _ _ => ins_hi _ _ _ _ (by omega)))
  have := hi (n - k - 1) (by omega)
  rwa [show k + 1 + (n - k - 1) = n by omega] at this
/-- The whole: with ramps that are none taken for even. -/
theorem tw_cut_rn (h : Rt A P n) (k : Nat) (hk : k < n) (cut t : Int) (hR : rn P R n k = false) (h2 : Rt (ins A k cut) (ins P k (P k)) (n + 1)) :
    tw (ins A k cut) (ins P k (P k)) (ins (rn P R n) k false) (n + 1) (n + 1) t = tw A P R n n t := by
  rw [tw_cut h k hk cut t hR h2, tw_rn h t n (by omega)]
end Go.Proofs.Ytmccbokjigjpnae.K.M
