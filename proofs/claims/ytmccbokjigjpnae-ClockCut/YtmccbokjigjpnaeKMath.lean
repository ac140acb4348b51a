/- Plain facts on clocks: what marks make of a tick, that it rises by two a tick, and how large it gets. -/
import Derived.Test.YtmccbokjigjpnaeRows
namespace Go.Proofs.Ytmccbokjigjpnae.K.M

/-- Up to where a mark counts. -/
def ex (A : Nat → Int) (n i : Nat) (t : Int) : Int := if i + 1 < n ∧ A (i + 1) < t then A (i + 1) else t
/-- One mark's part of twice the time. -/
def pc (A P : Nat → Int) (R : Nat → Bool) (n i : Nat) (t : Int) : Int :=
  if t ≤ A i then 0
  else if R i = true ∧ i + 1 < n then (2 * P i * (A (i + 1) - A i) + (P (i + 1) - P i) * (ex A n i t - A i)) * (ex A n i t - A i) / (A (i + 1) - A i)
  else 2 * P i * (ex A n i t - A i)
/-- What the first k marks make. -/
def tw (A P : Nat → Int) (R : Nat → Bool) (n : Nat) : Nat → Int → Int
  | 0, _ => 0
  | k + 1, t => tw A P R n k t + pc A P R n k t

/-- Marks with nothing wrong. -/
structure Rt (A P : Nat → Int) (n : Nat) : Prop where
  one : 1 ≤ n
  many : n ≤ 256
  pace : ∀ i, i < n → 1 ≤ P i ∧ P i ≤ 65536
  tick : ∀ i, i < n → 0 ≤ A i ∧ A i ≤ 1048576
  first : A 0 = 0
  rise : ∀ i, i + 1 < n → A i < A (i + 1)

variable {A P : Nat → Int} {R : Nat → Bool} {n : Nat}

theorem Rt.le (h : Rt A P n) (i j : Nat) (hij : i ≤ j) (hj : j < n) : A i ≤ A j := by
  induction j with
  | zero => have : i = 0 := by omega
            subst this; omega
  | succ j ih =>
    by_cases e : i = j + 1
    · subst e; omega
    · have := ih (by omega) (by omega); have := h.rise j hj; omega

/-- A part of a ramp, above the line. -/
theorem num_ge (p q L d : Int) (hp : 1 ≤ p) (hq : 1 ≤ q) (hd : 0 ≤ d) (hL : d ≤ L) : 0 ≤ 2 * p * L + (q - p) * d := by
  have h1 : 2 * p * L + (q - p) * d = p * (2 * L - d) + q * d := by grind
  have h2 : 0 ≤ p * (2 * L - d) := Int.mul_nonneg (by omega) (by omega)
  have h3 : 0 ≤ q * d := Int.mul_nonneg (by omega) hd
  omega
theorem num_le (p q L d : Int) (hp : p ≤ 65536) (hq : q ≤ 65536) (hd : 0 ≤ d) (hL : d ≤ L) : 2 * p * L + (q - p) * d ≤ 131072 * L := by
  have h1 : 131072 * L - (2 * p * L + (q - p) * d) = (65536 - p) * (2 * L - d) + (65536 - q) * d := by grind
  have h2 : 0 ≤ (65536 - p) * (2 * L - d) := Int.mul_nonneg (by omega) (by omega)
  have h3 : 0 ≤ (65536 - q) * d := Int.mul_nonneg (by omega) hd
  omega
/-- A ramp's part. -/
def rp (p q L d : Int) : Int := (2 * p * L + (q - p) * d) * d / L
theorem rp_ge (p q L d : Int) (hp : 1 ≤ p) (hq : 1 ≤ q) (hd : 0 ≤ d) (hL : d ≤ L) (h0 : 0 < L) : 0 ≤ rp p q L d :=
  Int.ediv_nonneg (Int.mul_nonneg (num_ge p q L d hp hq hd hL) hd) (by omega)
theorem rp_le (p q L d : Int) (hp : p ≤ 65536) (hq : q ≤ 65536) (hd : 0 ≤ d) (hL : d ≤ L) (h0 : 0 < L) : rp p q L d ≤ 131072 * d := by
  have h1 : (2 * p * L + (q - p) * d) * d ≤ 131072 * L * d := Int.mul_le_mul_of_nonneg_right (num_le p q L d hp hq hd hL) hd
  have h2 : (131072 * L * d) / L = 131072 * d := by
    rw [show 131072 * L * d = L * (131072 * d) by grind]; exact Int.mul_ediv_cancel_left _ (by omega)
  have h3 := Int.ediv_le_ediv h0 h1
  unfold rp; omega
theorem rp_step (p q L d : Int) (hp : 1 ≤ p) (hq : 1 ≤ q) (hd : 0 ≤ d) (hL : d + 1 ≤ L) : rp p q L d + 2 ≤ rp p q L (d + 1) := by
  have h1 : (2 * p * L + (q - p) * (d + 1)) * (d + 1) = (2 * p * L + (q - p) * d) * d + (p * (2 * L - 2 * d - 1) + q * (2 * d + 1)) := by grind
  have h2 : 1 * (2 * L - 2 * d - 1) ≤ p * (2 * L - 2 * d - 1) := Int.mul_le_mul_of_nonneg_right hp (by omega)
  have h3 : 1 * (2 * d + 1) ≤ q * (2 * d + 1) := Int.mul_le_mul_of_nonneg_right hq (by omega)
  have h4 : (2 * p * L + (q - p) * d) * d + 2 * L ≤ (2 * p * L + (q - p) * (d + 1)) * (d + 1) := by omega
  have h5 := Int.ediv_le_ediv (show 0 < L by omega) h4
  rw [Int.add_mul_ediv_right _ _ (by omega)] at h5
  exact h5
theorem rp_zero (p q L : Int) : rp p q L 0 = 0 := by unfold rp; simp
theorem rp_same (p L d : Int) (h0 : 0 < L) : rp p p L d = 2 * p * d := by
  unfold rp
  rw [show (2 * p * L + (p - p) * d) * d = L * (2 * p * d) by grind]; exact Int.mul_ediv_cancel_left _ (by omega)
/-- The document's way to write it. -/
theorem rp_doc (p q L d : Int) : (2 * p * d * L + (q - p) * d * d) / L = rp p q L d := by
  unfold rp; rw [show 2 * p * d * L + (q - p) * d * d = (2 * p * L + (q - p) * d) * d by grind]
/-- All of a ramp. -/
theorem rp_all (p q L : Int) (h0 : 0 < L) : rp p q L L = (p + q) * L := by
  unfold rp
  rw [show (2 * p * L + (q - p) * L) * L = L * ((p + q) * L) by grind]; exact Int.mul_ediv_cancel_left _ (by omega)

theorem pc_out (i : Nat) (t : Int) (h : t ≤ A i) : pc A P R n i t = 0 := by unfold pc; rw [if_pos h]
theorem pc_ramp (i : Nat) (t : Int) (h : A i < t) (hr : R i = true) (hi : i + 1 < n) : pc A P R n i t = rp (P i) (P (i + 1)) (A (i + 1) - A i) (ex A n i t - A i) := by
  unfold pc; rw [if_neg (by omega), if_pos ⟨hr, hi⟩]; rfl
theorem pc_even (i : Nat) (t : Int) (h : A i < t) (hr : ¬ (R i = true ∧ i + 1 < n)) : pc A P R n i t = 2 * P i * (ex A n i t - A i) := by
  unfold pc; rw [if_neg (by omega), if_neg hr]
theorem ex_last (i : Nat) (t : Int) (h : ¬ i + 1 < n) : ex A n i t = t := by unfold ex; rw [if_neg (fun x => h x.1)]
theorem ex_full (i : Nat) (t : Int) (h : i + 1 < n) (ht : A (i + 1) ≤ t) : ex A n i t = A (i + 1) := by
  unfold ex; split
  · rfl
  · rename_i h2; have : ¬ A (i + 1) < t := fun x => h2 ⟨h, x⟩
    omega
theorem ex_in (i : Nat) (t : Int) (ht : i + 1 < n → t ≤ A (i + 1)) : ex A n i t = t := by
  unfold ex; split
  · rename_i h2; have := ht h2.1; omega
  · rfl

theorem Rt.pc_bd (h : Rt A P n) (i : Nat) (hi : i < n) (t : Int) (ht : A i < t) : A i < ex A n i t ∧ ex A n i t ≤ t ∧ (i + 1 < n → ex A n i t ≤ A (i + 1)) ∧ 0 ≤ pc A P R n i t ∧ pc A P R n i t ≤ 131072 * (ex A n i t - A i) := by
  obtain ⟨p1, p2⟩ := h.pace i hi
  have he : A i < ex A n i t ∧ ex A n i t ≤ t ∧ (i + 1 < n → ex A n i t ≤ A (i + 1)) := by
    unfold ex; split
    · rename_i h2; have := h.rise i h2.1; exact ⟨by omega, by omega, fun _ => by omega⟩
    · rename_i h2; exact ⟨by omega, by omega, fun x => by have : ¬ A (i + 1) < t := fun y => h2 ⟨x, y⟩
                                                          omega⟩
  refine ⟨he.1, he.2.1, he.2.2, ?_⟩
  by_cases hr : R i = true ∧ i + 1 < n
  · rw [pc_ramp i t ht hr.1 hr.2]
    obtain ⟨q1, q2⟩ := h.pace (i + 1) hr.2
    have := h.rise i hr.2
    have := he.2.2 hr.2
    exact ⟨rp_ge _ _ _ _ p1 q1 (by omega) (by omega) (by omega), rp_le _ _ _ _ p2 q2 (by omega) (by omega) (by omega)⟩
  · rw [pc_even i t ht hr]
    have hd : 0 < ex A n i t - A i := by omega
    clear he
    generalize ex A n i t - A i = d at *
    refine ⟨Int.mul_nonneg (by omega) (by omega), ?_⟩
    exact Int.mul_le_mul_of_nonneg_right (by omega) (by omega)

/-- How far the first k marks reach. -/
theorem Rt.tw_bd (h : Rt A P n) (t : Int) : ∀ k, k < n → A k ≤ t → 0 ≤ tw A P R n k t ∧ tw A P R n k t ≤ 131072 * A k
  | 0, _, _ => by rw [h.first]; show (0 : Int) ≤ 0 ∧ (0 : Int) ≤ 131072 * 0; omega
  | k + 1, hk, ht => by
    have hr := h.rise k hk
    obtain ⟨a, b⟩ := Rt.tw_bd h t k (by omega) (by omega)
    obtain ⟨e1, e2, e3, e4, e5⟩ := h.pc_bd (R := R) k (by omega) t (by omega)
    have := e3 hk
    show 0 ≤ tw A P R n k t + pc A P R n k t ∧ tw A P R n k t + pc A P R n k t ≤ _
    omega
/-- Marks that are not ahead of a tick add nothing. -/
theorem Rt.tw_stop (h : Rt A P n) (t : Int) (k : Nat) (ht : t ≤ A k) : ∀ m, k ≤ m → m ≤ n → tw A P R n m t = tw A P R n k t
  | 0, hk, _ => by obtain rfl : k = 0 := by omega
                   rfl
  | m + 1, hk, hm => by
    by_cases e : k = m + 1
    · rw [e]
    · have := Rt.tw_stop h t k ht m (by omega) (by omega)
      show tw A P R n m t + pc A P R n m t = _
      rw [pc_out m t (by have := h.le k m (by omega) (by omega); omega)]
      omega
theorem Rt.tw_all (h : Rt A P n) (t : Int) (ht : 0 ≤ t) : ∀ k, k ≤ n → 0 ≤ tw A P R n k t ∧ tw A P R n k t ≤ 131072 * t
  | 0, _ => by show (0 : Int) ≤ 0 ∧ (0 : Int) ≤ 131072 * t; omega
  | k + 1, hk => by
    by_cases e : A k < t
    · obtain ⟨a, b⟩ := h.tw_bd (R := R) t k (by omega) (by omega)
      obtain ⟨e1, e2, e3, e4, e5⟩ := h.pc_bd (R := R) k (by omega) t (by omega)
      show 0 ≤ tw A P R n k t + pc A P R n k t ∧ tw A P R n k t + pc A P R n k t ≤ _
      omega
    · have := Rt.tw_all h t ht k (by omega)
      rw [h.tw_stop t k (by omega) (k + 1) (by omega) (by omega)]
      exact this
theorem pc_full (i : Nat) (t : Int) (h : Rt A P n) (hi : i + 1 < n) (ht : A (i + 1) ≤ t) : pc A P R n i (t + 1) = pc A P R n i t := by
  have hr := h.rise i hi
  by_cases e : R i = true ∧ i + 1 < n
  · rw [pc_ramp i t (by omega) e.1 e.2, pc_ramp i (t + 1) (by omega) e.1 e.2, ex_full i t hi ht, ex_full i (t + 1) hi (by omega)]
  · rw [pc_even i t (by omega) e, pc_even i (t + 1) (by omega) e, ex_full i t hi ht, ex_full i (t + 1) hi (by omega)]
theorem pc_next (i : Nat) (t : Int) (h : Rt A P n) (hi : i < n) (h1 : A i ≤ t) (h2 : i + 1 < n → t < A (i + 1)) : pc A P R n i t + 2 ≤ pc A P R n i (t + 1) := by
  obtain ⟨p1, p2⟩ := h.pace i hi
  have e1 : ex A n i t = t := ex_in i t (fun x => by have := h2 x; omega)
  have e2 : ex A n i (t + 1) = t + 1 := ex_in i (t + 1) (fun x => by have := h2 x; omega)
  by_cases e : R i = true ∧ i + 1 < n
  · have := h2 e.2
    obtain ⟨q1, q2⟩ := h.pace (i + 1) e.2
    rw [pc_ramp i (t + 1) (by omega) e.1 e.2, e2]
    have hs := rp_step (P i) (P (i + 1)) (A (i + 1) - A i) (t - A i) p1 q1 (by omega) (by omega)
    rw [show t + 1 - A i = t - A i + 1 by omega]
    by_cases z : A i < t
    · rw [pc_ramp i t z e.1 e.2, e1]; exact hs
    · have : t - A i = 0 := by omega
      rw [pc_out i t (by omega)]
      rw [this, rp_zero] at hs
      rw [this]; exact hs
  · rw [pc_even i (t + 1) (by omega) e, e2]
    have hs : 2 * P i * (t + 1 - A i) = 2 * P i * (t - A i) + 2 * P i := by grind
    by_cases z : A i < t
    · rw [pc_even i t z e, e1, hs]; omega
    · have : t - A i = 0 := by omega
      rw [pc_out i t (by omega), hs, this]; omega
/-- A tick more is two units more at least. -/
theorem Rt.step (h : Rt A P n) (t : Int) (ht : 0 ≤ t) : tw A P R n n t + 2 ≤ tw A P R n n (t + 1) := by
  have key : ∀ k, k < n → A k ≤ t → (tw A P R n k (t + 1) = tw A P R n k t) := by
    intro k
    induction k with
    | zero => intro _ _; rfl
    | succ k ih =>
      intro hk hA
      have := h.rise k hk
      show tw A P R n k (t + 1) + pc A P R n k (t + 1) = tw A P R n k t + pc A P R n k t
      rw [ih (by omega) (by omega), pc_full k t h hk hA]
  have fin : ∀ k, k < n → (A k ≤ t → tw A P R n (k + 1) t + 2 ≤ tw A P R n (k + 1) (t + 1) ∨ (k + 1 < n ∧ A (k + 1) ≤ t)) := by
    intro k hk hA
    by_cases e : k + 1 < n ∧ A (k + 1) ≤ t
    · exact Or.inr e
    · left
      show tw A P R n k t + pc A P R n k t + 2 ≤ tw A P R n k (t + 1) + pc A P R n k (t + 1)
      have := pc_next (R := R) k t h hk hA (fun x => by have : ¬ A (k + 1) ≤ t := fun y => e ⟨x, y⟩
                                                        omega)
      rw [key k hk hA]; omega
  have main : ∀ m k, k + m + 1 = n → A k ≤ t → tw A P R n n t + 2 ≤ tw A P R n n (t + 1) := by
    intro m
    induction m with
    | zero =>
      intro k hk hA
      rcases fin k (by omega) hA with g | g
      · rw [show n = k + 1 by omega] at g ⊢; exact g
      · omega
    | succ m ih =>
      intro k hk hA
      rcases fin k (by omega) hA with g | g
      · by_cases e : A (k + 1) ≤ t
        · exact ih (k + 1) (by omega) e
        · rw [h.tw_stop t (k + 1) (by omega) n (by omega) (by omega), h.tw_stop (t + 1) (k + 1) (by omega) n (by omega) (by omega)]
          exact g
      · exact ih (k + 1) (by omega) g.2
  have o := h.one
  exact main (n - 1) 0 (by omega) (by rw [h.first]; exact ht)
theorem Rt.zero (h : Rt A P n) : tw A P R n n 0 = 0 := by
  rw [h.tw_stop 0 0 (by rw [h.first]; omega) n (by omega) (by omega)]; rfl
theorem Rt.steps (h : Rt A P n) (t : Int) (ht : 0 ≤ t) : ∀ k : Nat, tw A P R n n t + 2 * k ≤ tw A P R n n (t + k)
  | 0 => by simp
  | k + 1 => by
    have := Rt.steps h t ht k
    have := h.step (R := R) (t + k) (by omega)
    rw [show t + ((k + 1 : Nat) : Int) = t + k + 1 by omega]
    omega
theorem Rt.rises (h : Rt A P n) (t m : Int) (ht : 0 ≤ t) (hm : 0 ≤ m) : tw A P R n n t + 2 * m ≤ tw A P R n n (t + m) := by
  have := h.steps (R := R) t ht m.toNat
  rwa [show ((m.toNat : Nat) : Int) = m by omega] at this
theorem Rt.from_zero (h : Rt A P n) (t : Int) (ht : 0 ≤ t) : 2 * t ≤ tw A P R n n t := by
  have := h.rises (R := R) 0 t (by omega) ht
  rw [h.zero] at this; simp only [Int.zero_add] at this; exact this

/-- Which sample. -/
def sm (A P : Nat → Int) (R : Nat → Bool) (n : Nat) (u d t : Int) : Int := tw A P R n n t * u / d
theorem Rt.sm_mono (h : Rt A P n) (u d s t : Int) (hu : 0 < u) (hd : 0 < d) (hs : 0 ≤ s) (hst : s ≤ t) : sm A P R n u d s ≤ sm A P R n u d t := by
  have h1 := h.rises (R := R) s (t - s) hs (by omega)
  rw [show s + (t - s) = t by omega] at h1
  unfold sm
  exact Int.ediv_le_ediv hd (Int.mul_le_mul_of_nonneg_right (by omega) (by omega))

/-- What is wrong with one mark. -/
def bad (A P : Nat → Int) (i : Nat) : Int :=
  if P i < 1 ∨ 65536 < P i ∨ A i < 0 ∨ 1048576 < A i then 3
  else if (i = 0 ∧ A 0 ≠ 0) ∨ (0 < i ∧ A i ≤ A (i - 1)) then 8 else 0
def wk (A P : Nat → Int) : Nat → Int
  | 0 => 0
  | k + 1 => if wk A P k ≠ 0 then wk A P k else bad A P k
/-- What is wrong with marks. -/
def wr (A P : Nat → Int) (n : Nat) : Int := if n = 0 ∨ 256 < n then 5 else wk A P n
theorem wk_stop (k : Nat) (h : wk A P k = 0) (hb : bad A P k ≠ 0) : ∀ m, k < m → wk A P m = bad A P k
  | 0, hm => by omega
  | m + 1, hm => by
    show (if wk A P m ≠ 0 then wk A P m else bad A P m) = _
    by_cases e : m = k
    · subst e; rw [if_neg (by omega)]
    · rw [wk_stop k h hb m (by omega), if_pos hb]
theorem wk_next (k : Nat) (h : wk A P k = 0) (hb : bad A P k = 0) : wk A P (k + 1) = 0 := by
  show (if wk A P k ≠ 0 then wk A P k else bad A P k) = 0
  rw [if_neg (by omega), hb]
theorem wk_back (k : Nat) (h : wk A P (k + 1) = 0) : wk A P k = 0 ∧ bad A P k = 0 := by
  have h2 : (if wk A P k ≠ 0 then wk A P k else bad A P k) = 0 := h
  split at h2
  · rename_i e; exact absurd h2 e
  · rename_i e; exact ⟨by omega, h2⟩
theorem wk_all (h : wk A P n = 0) : ∀ i, i < n → bad A P i = 0 := by
  induction n with
  | zero => intro i hi; omega
  | succ n ih =>
    intro i hi
    obtain ⟨a, b⟩ := wk_back n h
    by_cases e : i = n
    · rw [e]; exact b
    · exact ih a i (by omega)
theorem bad_ok (i : Nat) (h : bad A P i = 0) : 1 ≤ P i ∧ P i ≤ 65536 ∧ 0 ≤ A i ∧ A i ≤ 1048576 ∧ (i = 0 → A 0 = 0) ∧ (0 < i → A (i - 1) < A i) := by
  unfold bad at h
  split at h
  · omega
  · rename_i e
    split at h
    · omega
    · rename_i f
      refine ⟨by omega, by omega, by omega, by omega, fun z => ?_, fun z => ?_⟩
      · by_cases g : A 0 = 0
        · exact g
        · exact absurd (Or.inl ⟨z, g⟩) f
      · have : ¬ A i ≤ A (i - 1) := fun g => f (Or.inr ⟨z, g⟩)
        omega
theorem ok_bad (i : Nat) (h1 : 1 ≤ P i) (h2 : P i ≤ 65536) (h3 : 0 ≤ A i) (h4 : A i ≤ 1048576) (h5 : i = 0 → A 0 = 0) (h6 : 0 < i → A (i - 1) < A i) : bad A P i = 0 := by
  unfold bad
  rw [if_neg (by omega), if_neg]
  rintro (⟨a, b⟩ | ⟨a, b⟩)
  · exact b (h5 a)
  · have := h6 a; omega
theorem wr_rt (h : wr A P n = 0) : Rt A P n := by
  unfold wr at h
  split at h
  · omega
  · rename_i e
    have ha := wk_all h
    refine ⟨by omega, by omega, fun i hi => ?_, fun i hi => ?_, ?_, fun i hi => ?_⟩
    · have := bad_ok i (ha i hi); omega
    · have := bad_ok i (ha i hi); omega
    · exact (bad_ok 0 (ha 0 (by omega))).2.2.2.2.1 rfl
    · have := (bad_ok (i + 1) (ha (i + 1) hi)).2.2.2.2.2 (by omega)
      simpa using this
theorem wr_vals : wr A P n = 0 ∨ wr A P n = 3 ∨ wr A P n = 5 ∨ wr A P n = 8 := by
  have h : ∀ k, wk A P k = 0 ∨ wk A P k = 3 ∨ wk A P k = 8 := by
    intro k
    induction k with
    | zero => exact Or.inl rfl
    | succ k ih =>
      show (if wk A P k ≠ 0 then wk A P k else bad A P k) = 0 ∨ (if wk A P k ≠ 0 then wk A P k else bad A P k) = 3 ∨ (if wk A P k ≠ 0 then wk A P k else bad A P k) = 8
      split
      · exact ih
      · unfold bad
        split
        · simp
        · split <;> simp
  unfold wr
  split
  · simp
  · rcases h n with e | e | e <;> simp [e]
theorem bad_range (i : Nat) (h : P i < 1 ∨ 65536 < P i ∨ A i < 0 ∨ 1048576 < A i) : bad A P i = 3 := by unfold bad; rw [if_pos h]
theorem bad_fit (i : Nat) (h : ¬ (P i < 1 ∨ 65536 < P i ∨ A i < 0 ∨ 1048576 < A i)) (h2 : (i = 0 ∧ A 0 ≠ 0) ∨ (0 < i ∧ A i ≤ A (i - 1))) : bad A P i = 8 := by unfold bad; rw [if_neg h, if_pos h2]
theorem wr_many (h : n = 0 ∨ 256 < n) : wr A P n = 5 := by unfold wr; rw [if_pos h]
theorem wr_at (k : Nat) (v : Int) (hk : k < n) (hn : ¬ (n = 0 ∨ 256 < n)) (h : wk A P k = 0) (hb : bad A P k = v) (hv : v ≠ 0) : wr A P n = v := by
  unfold wr; rw [if_neg hn, wk_stop k h (by rw [hb]; exact hv) n hk, hb]
theorem wr_end (hn : ¬ (n = 0 ∨ 256 < n)) (h : wk A P n = 0) : wr A P n = 0 := by unfold wr; rw [if_neg hn, h]
/-- The first tick that is not ahead of a sample. -/
structure Fst (A P : Nat → Int) (R : Nat → Bool) (n : Nat) (u d place H : Int) : Prop where
  lo : 0 ≤ H
  hi : H ≤ 1048577
  below : ∀ t, 0 ≤ t → t < H → sm A P R n u d t < place
  at_ : H < 1048577 → place ≤ sm A P R n u d H
theorem Fst.one {u d place H K : Int} (a : Fst A P R n u d place H) (b : Fst A P R n u d place K) : H = K := by
  rcases Int.lt_trichotomy H K with h | h | h
  · have := b.below H a.lo h; have := a.at_ (by have := b.hi; omega); omega
  · exact h
  · have := a.below K b.lo h; have := b.at_ (by have := a.hi; omega); omega
end Go.Proofs.Ytmccbokjigjpnae.K.M
