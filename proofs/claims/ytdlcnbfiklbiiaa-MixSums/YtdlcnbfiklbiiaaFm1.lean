/- Plain facts on rounding to IEEE 754's double format: the nearest word as a plain function that rises, exact where it can be, and sums, products, quotients in its words. -/
import Derived.Test.YtdlcnbfiklbiiaaFl1
namespace Go.Proofs.Ytdlcnbfiklbiiaa.Fl
set_option linter.unusedVariables false
open Ieee

theorem log2_lt (n : Nat) : n < 2 ^ (n.log2 + 1) := Nat.lt_log2_self
theorem le_log2 (n : Nat) (h : n ≠ 0) : 2 ^ n.log2 ≤ n := Nat.log2_self_le h
theorem ct_zero (n d : Nat) (h : 2 * n < 2 ^ d) : ct n d = 0 := by
  unfold ct
  have h1 : n / 2 ^ d = 0 := Nat.div_eq_of_lt (by omega)
  have h2 : n % 2 ^ d = n := Nat.mod_eq_of_lt (by omega)
  have h3 : decide (2 ^ d < 2 * n) = false := by simp only [decide_eq_false_iff_not]; omega
  have h4 : (2 ^ d == 2 * n) = false := by simp only [beq_eq_false_iff_ne]; omega
  rw [h1, h2, h3, h4]; rfl
theorem cut_all (neg : Bool) (n d : Nat) : Toward.even.cut neg n d = ct n d := by
  by_cases h : d ≤ n.log2 + 2
  · unfold Toward.cut ct
    rw [Nat.min_eq_left h, Nat.shiftLeft_eq, Nat.one_mul]
  · have hn := log2_lt n
    have hp : 2 ^ (n.log2 + 2) = 2 * 2 ^ (n.log2 + 1) := by rw [Nat.pow_succ 2 (n.log2 + 1)]; omega
    have hq : 2 ^ (n.log2 + 2) ≤ 2 ^ d := Nat.pow_le_pow_right (by decide) (by omega)
    rw [ct_zero n d (by omega), ← ct_zero n (n.log2 + 2) (by omega)]
    unfold Toward.cut ct
    rw [Nat.min_eq_right (by omega), Nat.shiftLeft_eq, Nat.one_mul]
theorem ct_scale (n d j : Nat) : ct (n * 2 ^ j) (d + j) = ct n d := by
  unfold ct
  have hj : 0 < 2 ^ j := Nat.two_pow_pos _
  have e1 : n * 2 ^ j / 2 ^ (d + j) = n / 2 ^ d := by rw [Nat.pow_add]; exact Nat.mul_div_mul_right _ _ hj
  have e2 : n * 2 ^ j % 2 ^ (d + j) = n % 2 ^ d * 2 ^ j := by rw [Nat.pow_add]; exact Nat.mul_mod_mul_right _ _ _
  rw [e1, e2, Nat.pow_add]
  have e3 : 2 * (n % 2 ^ d * 2 ^ j) = 2 * (n % 2 ^ d) * 2 ^ j := by rw [Nat.mul_assoc]
  rw [e3]
  have e4 : decide (2 ^ d * 2 ^ j < 2 * (n % 2 ^ d) * 2 ^ j) = decide (2 ^ d < 2 * (n % 2 ^ d)) := by
    have : 2 ^ d * 2 ^ j < 2 * (n % 2 ^ d) * 2 ^ j ↔ 2 ^ d < 2 * (n % 2 ^ d) := Nat.mul_lt_mul_right hj
    simp only [this]
  have e5 : (2 ^ d * 2 ^ j == 2 * (n % 2 ^ d) * 2 ^ j) = (2 ^ d == 2 * (n % 2 ^ d)) := by
    have : 2 ^ d * 2 ^ j = 2 * (n % 2 ^ d) * 2 ^ j ↔ 2 ^ d = 2 * (n % 2 ^ d) := Nat.mul_left_inj (by omega)
    rw [Bool.eq_iff_iff]; simp only [beq_iff_eq]; exact this
  rw [e4, e5]

/-- The rung nearest to X units of 2 ^ (-1074 - s). -/
def rr (s X : Nat) : Nat := (X.log2 - 52 - s) * 4503599627370496 + ct X (s + (X.log2 - 52 - s))
theorem log2_mul (n j : Nat) (h : n ≠ 0) : (n * 2 ^ j).log2 = n.log2 + j := by
  refine (Nat.log2_eq_iff (Nat.mul_ne_zero h (by have := Nat.two_pow_pos j; omega))).2 ⟨?_, ?_⟩
  · rw [Nat.pow_add]; exact Nat.mul_le_mul_right _ (le_log2 n h)
  · rw [show n.log2 + j + 1 = n.log2 + 1 + j by omega, Nat.pow_add]
    exact Nat.mul_lt_mul_of_pos_right (log2_lt n) (Nat.two_pow_pos _)
theorem rr_zero (s : Nat) : rr s 0 = 0 := by
  unfold rr
  have : (0 : Nat).log2 = 0 := by decide
  rw [this]
  have h := ct_zero 0 (s + (0 - 52 - s)) (by have := Nat.two_pow_pos (s + (0 - 52 - s)); omega)
  rw [h]; simp
theorem rr_scale (s X j : Nat) : rr (s + j) (X * 2 ^ j) = rr s X := by
  by_cases h : X = 0
  · subst h; rw [Nat.zero_mul, rr_zero, rr_zero]
  · unfold rr
    rw [log2_mul X j h]
    have e : X.log2 + j - 52 - (s + j) = X.log2 - 52 - s := by omega
    rw [e, show s + j + (X.log2 - 52 - s) = s + (X.log2 - 52 - s) + j by omega, ct_scale]
theorem ct_le (n k d : Nat) (h : n ≤ k * 2 ^ d) : ct n d ≤ k := by have := ct_mono _ _ d h; rwa [ct_exact] at this
theorem le_ct (n k d : Nat) (h : k * 2 ^ d ≤ n) : k ≤ ct n d := by have := ct_mono _ _ d h; rwa [ct_exact] at this
theorem rr_hi (s X : Nat) : rr s X ≤ (X.log2 - 52 - s) * 4503599627370496 + 9007199254740992 := by
  unfold rr
  refine Nat.add_le_add_left (ct_le _ _ _ ?_) _
  have h := log2_lt X
  rw [show (9007199254740992 : Nat) = 2 ^ 53 by decide, ← Nat.pow_add]
  exact Nat.le_trans (Nat.le_of_lt h) (Nat.pow_le_pow_right (by decide) (by omega))
theorem rr_lo (s X : Nat) (h : 0 < X.log2 - 52 - s) : (X.log2 - 52 - s) * 4503599627370496 + 4503599627370496 ≤ rr s X := by
  unfold rr
  refine Nat.add_le_add_left (le_ct _ _ _ ?_) _
  have h0 : X ≠ 0 := by rintro rfl; revert h; rw [show (0 : Nat).log2 = 0 by decide]; omega
  have h1 := le_log2 X h0
  rw [show (4503599627370496 : Nat) = 2 ^ 52 by decide, ← Nat.pow_add]
  exact Nat.le_trans (Nat.pow_le_pow_right (by decide) (by omega)) h1
theorem log2_mono (X Y : Nat) (h : X ≤ Y) : X.log2 ≤ Y.log2 := by
  by_cases c : X = 0
  · subst c; rw [show (0 : Nat).log2 = 0 by decide]; omega
  · refine Decidable.byContradiction fun g => ?_
    have h1 := le_log2 X c
    have h2 := log2_lt Y
    have h3 : 2 ^ (Y.log2 + 1) ≤ 2 ^ X.log2 := Nat.pow_le_pow_right (by decide) (by omega)
    omega
theorem rr_mono (s X Y : Nat) (h : X ≤ Y) : rr s X ≤ rr s Y := by
  have hl := log2_mono X Y h
  by_cases c : X.log2 - 52 - s = Y.log2 - 52 - s
  · unfold rr; rw [c]; exact Nat.add_le_add_left (ct_mono _ _ _ h) _
  · have h1 := rr_hi s X
    have h2 := rr_lo s Y (by omega)
    omega
theorem vl_log (r : Nat) (h : 4503599627370496 ≤ r) : (vl r).log2 = 52 + ex r := by
  have hm := mg_nor r h
  unfold vl
  rw [log2_mul _ _ (by omega)]
  congr 1
  exact (Nat.log2_eq_iff (by omega)).2 ⟨by omega, by omega⟩
theorem vl_low (r : Nat) (h : r < 4503599627370496) : vl r = r := by
  unfold vl mg ex
  rw [if_pos h, show r / 4503599627370496 - 1 = 0 by omega]; omega
/-- A word's own number is rounded to it. -/
theorem rr_vl (s r : Nat) : rr s (vl r * 2 ^ s) = r := by
  have hs := rr_scale 0 (vl r) s
  rw [show 0 + s = s by omega] at hs
  rw [hs]
  by_cases h : r < 4503599627370496
  · rw [vl_low r h]
    have hl : r.log2 - 52 - 0 = 0 := by
      have := log2_mono r 4503599627370495 (by omega)
      rw [show (4503599627370495 : Nat).log2 = 51 by decide] at this
      omega
    unfold rr
    rw [hl]
    have := ct_exact r 0
    rw [Nat.pow_zero, Nat.mul_one] at this
    rw [show 0 + 0 = 0 from rfl, this]; omega
  · unfold rr
    rw [vl_log r (by omega), show 52 + ex r - 52 - 0 = ex r by omega, show 0 + ex r = ex r by omega]
    unfold vl
    rw [ct_exact]
    exact (rung_nor r (by omega)).symm
theorem rr_le (s X r : Nat) (h : X ≤ vl r * 2 ^ s) : rr s X ≤ r := by have := rr_mono s _ _ h; rwa [rr_vl] at this
theorem le_rr (s X r : Nat) (h : vl r * 2 ^ s ≤ X) : r ≤ rr s X := by have := rr_mono s _ _ h; rwa [rr_vl] at this
/-- What has at most 53 digits is a word's number. -/
theorem rep (M e : Nat) (h : M < 9007199254740992) : ∃ r, vl r = M * 2 ^ e := by
  induction e generalizing M with
  | zero =>
    by_cases c : M < 4503599627370496
    · exact ⟨M, by rw [vl_low M c]; omega⟩
    · refine ⟨M, ?_⟩
      unfold vl mg ex
      rw [if_neg c, show M / 4503599627370496 - 1 = 0 by omega]
      omega
  | succ e ih =>
    by_cases c : M < 4503599627370496
    · obtain ⟨r, hr⟩ := ih (2 * M) (by omega)
      exact ⟨r, by rw [hr, Nat.pow_succ, Nat.mul_comm 2 M, Nat.mul_assoc, Nat.mul_comm 2 (2 ^ e)]⟩
    · refine ⟨(e + 1) * 4503599627370496 + M, ?_⟩
      unfold vl mg ex
      rw [if_neg (by omega), show ((e + 1) * 4503599627370496 + M) / 4503599627370496 - 1 = e + 1 by omega, show 4503599627370496 + ((e + 1) * 4503599627370496 + M) % 4503599627370496 = M by omega]
theorem vl_mono {x y : Nat} (h : x ≤ y) : vl x ≤ vl y := by
  rcases Nat.lt_or_ge x y with g | g
  · exact Nat.le_of_lt (vl_lt g)
  · obtain rfl : x = y := by omega
    exact Nat.le_refl _
theorem le_of_vl {x y : Nat} (h : vl x ≤ vl y) : x ≤ y := by
  refine Decidable.byContradiction fun g => ?_
  have := vl_lt (x := y) (y := x) (by omega)
  omega
theorem vl_inj {x y : Nat} (h : vl x = vl y) : x = y := by
  have h1 := le_of_vl (x := x) (y := y) (by omega)
  have h2 := le_of_vl (x := y) (y := x) (by omega)
  omega

/-- A word out of a sign and a rung. -/
def wd (n : Bool) (r : Nat) : Nat := if n then 9223372036854775808 + r else r
theorem word_is (n : Bool) (r : Nat) : double.word n r = wd n r := by unfold Format.word wd; rw [dS]
/-- The nearest word, in these words. -/
theorem near_is (n : Bool) (m : Nat) (p : Int) (s j : Nat) (h : p + 1074 + s = j) : double.nearest n m p = wd n (min (rr s (m * 2 ^ j)) 9218868437227405312) := by
  unfold Format.nearest
  by_cases h0 : m = 0
  · subst h0
    rw [if_pos rfl, word_is, Nat.zero_mul, rr_zero]
    simp
  rw [if_neg h0, dB, dI, dL, dF]
  simp only [word_is, cut_all]
  refine congrArg (fun x => wd n (min x 9218868437227405312)) ?_
  unfold rr
  rw [log2_mul m j h0]
  generalize hL : m.log2 = L
  obtain ⟨k, hk⟩ : ∃ k : Nat, L + j - 52 - s = k := ⟨_, rfl⟩
  have e1 : max (p + (L : Int) - ((52 : Nat) : Int)) (-1074) = (k : Int) - 1074 := by omega
  rw [e1, hk]
  have e2 : ((k : Int) - 1074 - -1074).toNat = k := by omega
  rw [e2]
  refine congrArg (fun x => k * 4503599627370496 + x) ?_
  rw [Nat.shiftLeft_eq]
  rcases Nat.le_total (s + k) j with g | g
  · have e3 : (p - ((k : Int) - 1074)).toNat = j - (s + k) := by omega
    have e4 : ((k : Int) - 1074 - p).toNat = 0 := by omega
    rw [e3, e4]
    have e5 : m * 2 ^ j = m * 2 ^ (j - (s + k)) * 2 ^ (s + k) := by rw [Nat.mul_assoc, ← Nat.pow_add]; congr 2; omega
    have := ct_exact (m * 2 ^ (j - (s + k))) 0
    rw [Nat.pow_zero, Nat.mul_one] at this
    rw [this, e5, ct_exact]
  · have e3 : (p - ((k : Int) - 1074)).toNat = 0 := by omega
    have e4 : ((k : Int) - 1074 - p).toNat = s + k - j := by omega
    rw [e3, e4, Nat.pow_zero, Nat.mul_one]
    have := ct_scale m (s + k - j) j
    rw [show s + k - j + j = s + k by omega] at this
    exact this.symm
end Go.Proofs.Ytdlcnbfiklbiiaa.Fl
