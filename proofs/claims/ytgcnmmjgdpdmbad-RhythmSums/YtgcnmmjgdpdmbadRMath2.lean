/- Plain facts on rows of written values: what they are together, that none is shorter than the one behind it. -/
import Derived.Test.YtgcnmmjgdpdmbadRMath
namespace Go.Proofs.Ytgcnmmjgdpdmbad.F.M

/-- The value at a place: q whole notes, then those of r. -/
def eV (q r k : Nat) : Nat × Nat := if k < q then (0, 0) else ((tl r)[k - q]?).getD (0, 0)
def eN (q r : Nat) : Nat := q + (tl r).length
def pS (q r : Nat) : Nat → Nat
  | 0 => 0
  | i + 1 => pS q r i + nv (eV q r i).1 (eV q r i).2
def mv (q r i : Nat) : Nat := if i = 0 then 2048 else nv (eV q r (i - 1)).1 (eV q r (i - 1)).2

theorem eV_whole (q r k : Nat) (h : k < q) : eV q r k = (0, 0) := if_pos h
theorem eV_tail (q r j : Nat) (x : Nat × Nat) (h : (tl r)[j]? = some x) : eV q r (q + j) = x := by
  unfold eV; rw [if_neg (by omega), show q + j - q = j by omega, h]; rfl

theorem drop_head (r l j : Nat) (hl : l < 1024) (h0 : 0 < l) (h : (tl r).drop j = tl l) : (tl r)[j]? = some (hv l, dt l) ∧ (tl r).drop (j + 1) = tl (rs l) := by
  obtain ⟨_, _, _, _, _, e, _⟩ := tl_step l hl h0
  rw [e] at h
  constructor
  · rw [← List.head?_drop, h]; rfl
  · rw [← List.drop_drop, h]; rfl
theorem drop_end (r j : Nat) (h : (tl r).drop j = tl 0) (hj : j ≤ (tl r).length) : j = (tl r).length := by
  rw [tl_zero] at h
  have := List.drop_eq_nil_iff.1 h
  omega
theorem drop_some (r l j : Nat) (hl : l < 1024) (h0 : 0 < l) (h : (tl r).drop j = tl l) : j < (tl r).length := by
  have := (drop_head r l j hl h0 h).1
  exact (List.getElem?_eq_some_iff.1 this).1

theorem sumN_append (a b : List (Nat × Nat)) : sumN (a ++ b) = sumN a + sumN b := by
  induction a with
  | nil => simp [sumN]
  | cons x a ih => simp [sumN, ih]; omega
theorem pS_whole (q r i : Nat) (h : i ≤ q) : pS q r i = i * 1024 := by
  induction i with
  | zero => rfl
  | succ i ih => rw [pS, ih (by omega), eV_whole q r i (by omega)]; show _ + nv 0 0 = _; have : nv 0 0 = 1024 := by decide
                 omega
theorem pS_tail (q r j : Nat) (h : j ≤ (tl r).length) : pS q r (q + j) = q * 1024 + sumN ((tl r).take j) := by
  induction j with
  | zero => simp [pS_whole q r q (Nat.le_refl _), sumN]
  | succ j ih =>
    rw [show q + (j + 1) = (q + j) + 1 by omega, pS, ih (by omega)]
    have hg : (tl r)[j]? = some (tl r)[j] := List.getElem?_eq_getElem (by omega)
    rw [eV_tail q r j _ hg, List.take_add_one, hg, sumN_append]
    simp [sumN]; omega
theorem pS_all (q r : Nat) (hr : r < 1024) : pS q r (eN q r) = q * 1024 + r := by
  unfold eN
  rw [pS_tail q r _ (Nat.le_refl _), List.take_length, tl_sum r hr]
theorem pS_mono (q r i j : Nat) (h : i ≤ j) : pS q r i ≤ pS q r j := by
  induction j with
  | zero => have : i = 0 := by omega
            subst this; omega
  | succ j ih =>
    by_cases e : i = j + 1
    · subst e; omega
    · have := ih (by omega); rw [pS]; omega

theorem fall_at (m : Nat) (l : List (Nat × Nat)) (h : fall m l = true) (j : Nat) (x : Nat × Nat) (hx : l[j]? = some x) :
    x.1 ≤ 10 ∧ x.2 ≤ 3 ∧ x.1 + x.2 ≤ 10 ∧ nv x.1 x.2 ≤ m ∧ ∀ y, 0 < j → l[j - 1]? = some y → nv x.1 x.2 ≤ nv y.1 y.2 := by
  induction l generalizing m j with
  | nil => simp at hx
  | cons z l ih =>
    simp only [fall, Bool.and_eq_true, decide_eq_true_eq] at h
    obtain ⟨⟨h1, h2, h3, h4⟩, h5⟩ := h
    cases j with
    | zero => simp at hx; subst hx; exact ⟨h1, h2, h3, h4, fun y h => by omega⟩
    | succ j =>
      simp at hx
      obtain ⟨g1, g2, g3, g4, g5⟩ := ih _ h5 j hx
      refine ⟨g1, g2, g3, by omega, fun y _ hy => ?_⟩
      simp at hy
      by_cases e : j = 0
      · subst e; simp at hy; subst hy; exact g4
      · exact g5 y (by omega) (by rw [show j = j - 1 + 1 by omega] at hy; simpa using hy)

theorem eV_ok (q r i : Nat) (hr : r < 1024) (h : i < eN q r) : (eV q r i).1 ≤ 10 ∧ (eV q r i).2 ≤ 3 ∧ (eV q r i).1 + (eV q r i).2 ≤ 10 ∧ nv (eV q r i).1 (eV q r i).2 ≤ mv q r i := by
  have n0 : nv 0 0 = 1024 := by decide
  by_cases hq : i < q
  · rw [eV_whole q r i hq]
    refine ⟨by omega, by omega, by omega, ?_⟩
    unfold mv
    split
    · show nv 0 0 ≤ _; omega
    · rw [eV_whole q r (i - 1) (by omega)]; exact Nat.le_refl _
  · obtain ⟨j, rfl⟩ : ∃ j, i = q + j := ⟨i - q, by omega⟩
    have hj : j < (tl r).length := by unfold eN at h; omega
    have hg : (tl r)[j]? = some (tl r)[j] := List.getElem?_eq_getElem hj
    obtain ⟨g1, g2, g3, g4, g5⟩ := fall_at _ _ (tl_fall r hr) j _ hg
    rw [eV_tail q r j _ hg]
    refine ⟨g1, g2, g3, ?_⟩
    unfold mv
    split
    · omega
    · by_cases e : j = 0
      · subst e
        rw [show q + 0 - 1 = q - 1 by omega, eV_whole q r (q - 1) (by omega)]
        show _ ≤ nv 0 0; omega
      · have hg' : (tl r)[j - 1]? = some (tl r)[j - 1] := List.getElem?_eq_getElem (by omega)
        rw [show q + j - 1 = q + (j - 1) by omega, eV_tail q r (j - 1) _ hg']
        exact g5 _ (by omega) hg'

/-- What a value's length is, in lowest terms. -/
def LU (d : Nat) : Int := 2 ^ (d + 1) - 1
def LD (h d : Nat) : Int := 2 ^ (h + d)
def allHD (P : Nat → Nat → Bool) : Bool := allBelow (fun h => allBelow (fun d => P h d) 4) 11
theorem of_allHD (P : Nat → Nat → Bool) (hp : allHD P = true) (h d : Nat) (hh : h ≤ 10) (hd : d ≤ 3) : P h d = true :=
  of_allBelow _ _ (of_allBelow _ _ hp h (by omega)) d (by omega)
theorem L_all : allHD (fun h d => ok (LU d) (LD h d) && decide (1 ≤ LU d) && decide (LU d ≤ 15) && decide (1 ≤ LD h d) && decide (LD h d ≤ 8192) && (decide (10 < h + d) || decide (LU d * 1024 = (nv h d : Nat) * LD h d ∧ 1 ≤ nv h d ∧ nv h d ≤ 2048))) = true := by decide +kernel
theorem L_ok (h d : Nat) (hh : h ≤ 10) (hd : d ≤ 3) : ok (LU d) (LD h d) = true ∧ 1 ≤ LU d ∧ LU d ≤ 15 ∧ 1 ≤ LD h d ∧ LD h d ≤ 8192 := by
  have := of_allHD _ L_all h d hh hd
  simp only [Bool.and_eq_true, decide_eq_true_eq] at this
  exact ⟨this.1.1.1.1.1, this.1.1.1.1.2, this.1.1.1.2, this.1.1.2, this.1.2⟩
theorem L_nv (h d : Nat) (hh : h ≤ 10) (hd : d ≤ 3) (hs : h + d ≤ 10) : LU d * 1024 = (nv h d : Nat) * LD h d ∧ 1 ≤ nv h d ∧ nv h d ≤ 2048 := by
  have := of_allHD _ L_all h d hh hd
  simp only [Bool.and_eq_true, Bool.or_eq_true, decide_eq_true_eq] at this
  rcases this.2 with e | e
  · omega
  · exact e
theorem L_make (h d : Nat) (hh : h ≤ 10) (hd : d ≤ 3) : mu (LU d) (LD h d) = LU d ∧ md (LU d) (LD h d) = LD h d ∧ me (LU d) (LD h d) = 0 := by
  obtain ⟨k, a, b, c, e⟩ := L_ok h d hh hd
  obtain ⟨_, _, _, _, g⟩ := ok_yes _ _ k
  have hb : bd (lu (LU d) (LD h d)) (ld (LU d) (LD h d)) = true := by
    rw [lu_one _ _ g, ld_one _ _ g]; unfold bd; simp; omega
  rw [mu_yes _ _ c, md_yes _ _ c, me_yes _ _ c, up_yes _ _ hb, dn_yes _ _ hb, er_yes _ _ hb, lu_one _ _ g, ld_one _ _ g]
  exact ⟨rfl, rfl, rfl⟩

/-- What so many parts of 1/1024 are, in lowest terms. -/
theorem parts_bd (S : Nat) (h : S ≤ 67108864) : bd (lu S 1024) (ld S 1024) = true ∧ ok (lu S 1024) (ld S 1024) = true ∧ lu S 1024 * 1024 = S * ld S 1024 ∧ 1 ≤ ld S 1024 ∧ ld S 1024 ≤ 1024 ∧ 0 ≤ lu S 1024 ∧ lu S 1024 ≤ 67108864 := by
  have e1 := lu_mul (S : Int) 1024
  have e2 := ld_mul (S : Int) 1024
  have p := gi_pos (S : Int) 1024 (by omega)
  have pl := ld_pos (S : Int) 1024 (by omega)
  have a1 := lu_abs (S : Int) 1024
  generalize gi (S : Int) 1024 = g at *
  have l0 : 0 ≤ lu (S : Int) 1024 := by
    unfold lu; exact Int.tdiv_nonneg (by omega) (by unfold gi; omega)
  have hd : ld (S : Int) 1024 ≤ 1024 := by
    have : 1 * ld (S : Int) 1024 ≤ g * ld (S : Int) 1024 := Int.mul_le_mul_of_nonneg_right p (by omega)
    omega
  have hu : lu (S : Int) 1024 ≤ 67108864 := by omega
  have hb : bd (lu (S : Int) 1024) (ld (S : Int) 1024) = true := by unfold bd; simp; omega
  have hx : lu (S : Int) 1024 * 1024 = S * ld (S : Int) 1024 := by
    calc lu (S : Int) 1024 * 1024 = lu (S : Int) 1024 * (g * ld (S : Int) 1024) := by rw [e2]
      _ = (g * lu (S : Int) 1024) * ld (S : Int) 1024 := by rw [← Int.mul_assoc, Int.mul_comm _ g]
      _ = S * ld (S : Int) 1024 := by rw [e1]
  exact ⟨hb, ok_of _ _ (by omega) hb, hx, pl, hd, l0, hu⟩

/-- Two lengths are together the length of their parts together. -/
theorem plus_parts (S n : Nat) (a b c d : Int) (hb : 1 ≤ b) (hd : 1 ≤ d) (h1 : a * 1024 = S * b) (h2 : c * 1024 = n * d) (h : S + n ≤ 67108864) :
    up (a * d + c * b) (b * d) = lu (S + n : Nat) 1024 ∧ dn (a * d + c * b) (b * d) = ld (S + n : Nat) 1024 ∧ er (a * d + c * b) (b * d) = 0 := by
  have hbd := (parts_bd (S + n) h).1
  have hp : 1 ≤ b * d := mul_pos' b d hb hd
  have e : (a * d + c * b) * 1024 = ((S + n : Nat) : Int) * (b * d) := by
    have e1 : a * d * 1024 = S * (b * d) := by
      rw [Int.mul_right_comm, h1, Int.mul_assoc]
    have e2 : c * b * 1024 = n * (b * d) := by
      rw [Int.mul_right_comm, h2, Int.mul_assoc, Int.mul_comm d b]
    rw [Int.add_mul, e1, e2, ← Int.add_mul]; congr 1
  obtain ⟨x1, x2, x3⟩ := er_congr (a * d + c * b) (b * d) ((S + n : Nat) : Int) 1024 hp (by omega) e
  rw [x1, x2, x3, up_yes _ _ hbd, dn_yes _ _ hbd, er_yes _ _ hbd]
  exact ⟨rfl, rfl, rfl⟩
theorem sign_parts (n m : Nat) (a b c d : Int) (hb : 1 ≤ b) (hd : 1 ≤ d) (h1 : a * 1024 = n * b) (h2 : c * 1024 = m * d) (h : n ≤ m) : sg (a * d) (c * b) ≤ 0 := by
  have e : a * d ≤ c * b := by
    have e1 : a * d * 1024 = n * (b * d) := by rw [Int.mul_right_comm, h1, Int.mul_assoc]
    have e2 : c * b * 1024 = m * (b * d) := by rw [Int.mul_right_comm, h2, Int.mul_assoc, Int.mul_comm d b]
    have : (n : Int) * (b * d) ≤ m * (b * d) := Int.mul_le_mul_of_nonneg_right (by omega) (by have := mul_pos' b d hb hd; omega)
    omega
  unfold sg
  split
  · omega
  · rw [if_neg (by omega)]; omega
theorem parts_back (u d : Int) (T : Nat) (hk : ok u d = true) (h : (T : Int) * d = u * 1024) : lu T 1024 = u ∧ ld T 1024 = d := by
  obtain ⟨_, _, h1, _, g⟩ := ok_yes _ _ hk
  exact low_is (T : Int) 1024 u d (by omega) h1 g h
end Go.Proofs.Ytgcnmmjgdpdmbad.F.M
