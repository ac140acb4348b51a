/- Plain facts on numbers of IEEE 754's double format: the order of those above 0, products, twice and half. -/
import Derived.Laws.FloatArith
namespace Go.Proofs.Ytdlcnbfiklbiiaa.Fl
set_option linter.unusedVariables false
open Ieee

theorem dB : double.binade = 4503599627370496 := by decide
theorem dS : double.signWeight = 9223372036854775808 := by decide
theorem dI : double.infRung = 9218868437227405312 := by decide
theorem dL : double.leastPlace = -1074 := by decide
theorem dF : double.fractionBits = 52 := rfl

/-- The digits and the place of a word without a sign. -/
def mg (x : Nat) : Nat := if x < 4503599627370496 then x else 4503599627370496 + x % 4503599627370496
def ex (x : Nat) : Nat := x / 4503599627370496 - 1
theorem read_pos (x : Nat) (h : x < 9218868437227405312) : double.read x = .number false (mg x) (-1074 + (ex x : Nat)) := by
  unfold Format.read
  rw [dB, dS, dI, dL]
  have h1 : x / 9223372036854775808 = 0 := by omega
  have h2 : x % 9223372036854775808 = x := by omega
  simp only [h1, h2]
  by_cases c : x < 4503599627370496
  · have e : x / 4503599627370496 = 0 := by omega
    simp [c, mg, ex, e]
  · simp [c, mg, ex, h]

/-- How great it is, in units of the least number. -/
def vl (x : Nat) : Nat := mg x * 2 ^ ex x
theorem vl_step (x : Nat) : vl x < vl (x + 1) := by
  unfold vl mg ex
  by_cases c : x < 4503599627370496
  · have e : x / 4503599627370496 = 0 := by omega
    by_cases c2 : x + 1 < 4503599627370496
    · have e2 : (x + 1) / 4503599627370496 = 0 := by omega
      simp [c, c2, e, e2]
    · obtain rfl : x = 4503599627370495 := by omega
      decide
  · have c2 : ¬ x + 1 < 4503599627370496 := by omega
    rw [if_neg c, if_neg c2]
    by_cases c3 : (x + 1) % 4503599627370496 = 0
    · have e1 : x % 4503599627370496 = 4503599627370495 := by omega
      have e2 : (x + 1) / 4503599627370496 - 1 = (x / 4503599627370496 - 1) + 1 := by omega
      rw [e1, c3, e2, Nat.pow_succ]
      have : 0 < 2 ^ (x / 4503599627370496 - 1) := Nat.two_pow_pos _
      omega
    · have e1 : (x + 1) % 4503599627370496 = x % 4503599627370496 + 1 := by omega
      have e2 : (x + 1) / 4503599627370496 - 1 = x / 4503599627370496 - 1 := by omega
      rw [e1, e2]
      exact Nat.mul_lt_mul_of_pos_right (by omega) (Nat.two_pow_pos _)
theorem vl_lt {x y : Nat} (h : x < y) : vl x < vl y := by
  obtain ⟨d, rfl⟩ : ∃ d, y = x + 1 + d := ⟨y - (x + 1), by omega⟩
  induction d with
  | zero => exact vl_step x
  | succ d ih =>
    have := ih (by omega)
    have h2 := vl_step (x + 1 + d)
    rw [show x + 1 + (d + 1) = x + 1 + d + 1 by omega]
    omega
theorem vl_cmp (x y : Nat) : compare (vl x) (vl y) = compare x y := by
  rcases Nat.lt_trichotomy x y with h | h | h
  · rw [Nat.compare_eq_lt.2 h, Nat.compare_eq_lt.2 (vl_lt h)]
  · subst h; rw [Nat.compare_eq_eq.2 rfl, Nat.compare_eq_eq.2 rfl]
  · rw [Nat.compare_eq_gt.2 h, Nat.compare_eq_gt.2 (vl_lt h)]

theorem cmp_cast (a b : Nat) : compare (a : Int) (b : Int) = compare a b := by
  rcases Nat.lt_trichotomy a b with h | h | h
  · rw [Nat.compare_eq_lt.2 h, Int.compare_eq_lt.2 (by omega)]
  · subst h; rw [Nat.compare_eq_eq.2 rfl, Int.compare_eq_eq.2 rfl]
  · rw [Nat.compare_eq_gt.2 h, Int.compare_eq_gt.2 (by omega)]
theorem cmp_mul (a b k : Nat) (hk : 0 < k) : compare (a * k) (b * k) = compare a b := by
  rcases Nat.lt_trichotomy a b with h | h | h
  · rw [Nat.compare_eq_lt.2 h, Nat.compare_eq_lt.2 (Nat.mul_lt_mul_of_pos_right h hk)]
  · subst h; rw [Nat.compare_eq_eq.2 rfl, Nat.compare_eq_eq.2 rfl]
  · rw [Nat.compare_eq_gt.2 h, Nat.compare_eq_gt.2 (Nat.mul_lt_mul_of_pos_right h hk)]

/-- Words without a sign stand to each other as their numbers do. -/
theorem order_pos (x y : Nat) (hx : x < 9218868437227405312) (hy : y < 9218868437227405312) : double.order x y = some (compare x y) := by
  unfold Format.order
  rw [read_pos x hx, read_pos y hy]
  simp only [Datum.order, signed]
  rw [← vl_cmp]
  unfold vl
  congr 1
  simp only [Bool.false_eq_true, if_false]
  rw [cmp_cast, Nat.shiftLeft_eq, Nat.shiftLeft_eq]
  generalize ex x = i at *
  generalize ex y = j at *
  rcases Nat.le_total i j with h | h
  · rw [show (-1074 + (i : Int) - min (-1074 + (i : Int)) (-1074 + (j : Int))).toNat = 0 by omega, show (-1074 + (j : Int) - min (-1074 + (i : Int)) (-1074 + (j : Int))).toNat = j - i by omega]
    have e : 2 ^ j = 2 ^ (j - i) * 2 ^ i := by rw [← Nat.pow_add]; congr 1; omega
    rw [e, ← Nat.mul_assoc, cmp_mul _ _ _ (Nat.two_pow_pos _)]
    simp
  · rw [show (-1074 + (j : Int) - min (-1074 + (i : Int)) (-1074 + (j : Int))).toNat = 0 by omega, show (-1074 + (i : Int) - min (-1074 + (i : Int)) (-1074 + (j : Int))).toNat = i - j by omega]
    have e : 2 ^ i = 2 ^ (i - j) * 2 ^ j := by rw [← Nat.pow_add]; congr 1; omega
    rw [e, ← Nat.mul_assoc, cmp_mul _ _ _ (Nat.two_pow_pos _)]
    simp

/-- What is a word's sign, and what is not a number at all. -/
theorem read_cases (x : Nat) (h : x < 18446744073709551616) : x < 9218868437227405312 ∨ double.read x = .infinity false ∨ (∃ m i, double.read x = .number true m i) ∨ double.read x = .infinity true ∨ (∃ s t, double.read x = .nan s t) := by
  by_cases c : x < 9218868437227405312
  · exact .inl c
  · right
    unfold Format.read
    rw [dB, dS, dI, dL]
    by_cases c2 : x < 9223372036854775808
    · have h1 : x / 9223372036854775808 = 0 := by omega
      have h2 : x % 9223372036854775808 = x := by omega
      simp only [h1, h2]
      rw [if_neg (by omega), if_neg (by omega)]
      by_cases c3 : x = 9218868437227405312
      · left; rw [if_pos c3]; rfl
      · right; right; right; rw [if_neg c3]; exact ⟨_, _, rfl⟩
    · have h1 : x / 9223372036854775808 = 1 := by omega
      simp only [h1]
      by_cases d1 : x % 9223372036854775808 < 4503599627370496
      · right; left; rw [if_pos d1]; exact ⟨_, _, rfl⟩
      · rw [if_neg d1]
        by_cases d2 : x % 9223372036854775808 < 9218868437227405312
        · right; left; rw [if_pos d2]; exact ⟨_, _, rfl⟩
        · rw [if_neg d2]
          by_cases d3 : x % 9223372036854775808 = 9218868437227405312
          · right; right; left; rw [if_pos d3]; rfl
          · right; right; right; rw [if_neg d3]; exact ⟨_, _, rfl⟩

theorem signed_neg (m k : Nat) : signed true m k ≤ 0 := by
  unfold signed
  simp only [if_true, Nat.shiftLeft_eq]
  omega
theorem signed_pos (m k : Nat) (h : 0 < m) : 0 < signed false m k := by
  unfold signed
  simp only [Bool.false_eq_true, if_false, Nat.shiftLeft_eq]
  have := Nat.mul_pos h (Nat.two_pow_pos k)
  omega
theorem mg_pos (x : Nat) (h : 0 < x) : 0 < mg x := by unfold mg; split <;> omega
theorem order_neg (x y : Nat) (m : Nat) (i : Int) (hx : double.read x = .number true m i) (hy : y < 9218868437227405312) (h0 : 0 < y) : double.order x y = some .lt := by
  unfold Format.order
  rw [hx, read_pos y hy]
  simp only [Datum.order]
  congr 1
  rw [Int.compare_eq_lt]
  have h1 := signed_neg m (i - min i (-1074 + (ex y : Nat))).toNat
  have h2 := signed_pos (mg y) (-1074 + (ex y : Nat) - min i (-1074 + (ex y : Nat))).toNat (mg_pos y h0)
  omega

/-- Between two words above 0: a word without a sign, between them. -/
def btw (lo hi x : Nat) : Bool := decide (lo ≤ x ∧ x ≤ hi)
theorem ge_is (x lo : Nat) (hx : x < 18446744073709551616) (hlo : 0 < lo) (hl : lo < 9218868437227405312) :
    (double.order x lo == some .gt || double.order x lo == some .eq) = true → (lo ≤ x ∧ x < 9218868437227405312) ∨ double.read x = .infinity false := by
  intro h
  rcases read_cases x hx with c | c | ⟨m, i, c⟩ | c | ⟨s, t, c⟩
  · left
    rw [order_pos x lo c hl] at h
    rcases Nat.lt_trichotomy x lo with g | g | g
    · rw [Nat.compare_eq_lt.2 g] at h; simp at h
    · omega
    · omega
  · exact .inr c
  · rw [order_neg x lo m i c hl hlo] at h; simp at h
  · unfold Format.order at h; rw [c, read_pos lo hl] at h; simp [Datum.order] at h
  · unfold Format.order at h; rw [c, read_pos lo hl] at h; simp [Datum.order] at h
theorem le_inf (x hi : Nat) (hh : hi < 9218868437227405312) (h : double.read x = .infinity false) : (double.order x hi == some .lt || double.order x hi == some .eq) = false := by
  unfold Format.order; rw [h, read_pos hi hh]; simp [Datum.order]
theorem ge_no (x lo : Nat) (hx : x < 18446744073709551616) (hlo : 0 < lo) (hl : lo < 9218868437227405312) (h : x < lo) : (double.order x lo == some .gt || double.order x lo == some .eq) = false := by
  rw [order_pos x lo (by omega) hl, Nat.compare_eq_lt.2 h]; rfl
theorem ge_yes (x lo : Nat) (hl : lo < 9218868437227405312) (h : lo ≤ x) (h2 : x < 9218868437227405312) : (double.order x lo == some .gt || double.order x lo == some .eq) = true := by
  rw [order_pos x lo h2 hl]
  rcases Nat.lt_or_ge lo x with g | g
  · rw [Nat.compare_eq_gt.2 g]; rfl
  · rw [Nat.compare_eq_eq.2 (by omega)]; rfl
theorem le_yes (x hi : Nat) (hh : hi < 9218868437227405312) (h : x ≤ hi) : (double.order x hi == some .lt || double.order x hi == some .eq) = true := by
  rw [order_pos x hi (by omega) hh]
  rcases Nat.lt_or_ge x hi with g | g
  · rw [Nat.compare_eq_lt.2 g]; rfl
  · rw [Nat.compare_eq_eq.2 (by omega)]; rfl
theorem le_no (x hi : Nat) (hh : hi < 9218868437227405312) (h : hi < x) (h2 : x < 9218868437227405312) : (double.order x hi == some .lt || double.order x hi == some .eq) = false := by
  rw [order_pos x hi h2 hh, Nat.compare_eq_gt.2 h]; rfl
/-- Both tests together are 'between'. -/
theorem both (x lo hi : Nat) (hx : x < 18446744073709551616) (hlo : 0 < lo) (hl : lo < 9218868437227405312) (hh : hi < 9218868437227405312) :
    ((double.order x lo == some .gt || double.order x lo == some .eq) && (double.order x hi == some .lt || double.order x hi == some .eq)) = btw lo hi x := by
  by_cases c : lo ≤ x ∧ x ≤ hi
  · rw [ge_yes x lo hl c.1 (by omega), le_yes x hi hh c.2]; unfold btw; simp [c]
  · have e : btw lo hi x = false := by unfold btw; simp only [decide_eq_false_iff_not]; exact c
    rw [e]
    cases g : (double.order x lo == some .gt || double.order x lo == some .eq)
    · rfl
    · rcases ge_is x lo hx hlo hl g with h | h
      · rw [le_no x hi hh (by omega) h.2]; rfl
      · rw [le_inf x hi hh h]; rfl

/-- n cut by d digits, to the nearest, of two the even one. -/
def ct (n d : Nat) : Nat := n / 2 ^ d + (decide (2 ^ d < 2 * (n % 2 ^ d)) || (2 ^ d == 2 * (n % 2 ^ d) && n / 2 ^ d % 2 == 1)).toNat
theorem cut_is (n d : Nat) (h : d ≤ n.log2 + 2) : Toward.even.cut false n d = ct n d := by
  unfold Toward.cut ct
  rw [Nat.min_eq_left h, Nat.shiftLeft_eq, Nat.one_mul]
theorem toNat_le (b : Bool) : b.toNat ≤ 1 := by cases b <;> decide
theorem ct_mono (n m d : Nat) (h : n ≤ m) : ct n d ≤ ct m d := by
  unfold ct
  have hp : 0 < 2 ^ d := Nat.two_pow_pos _
  have hq := Nat.div_le_div_right (c := 2 ^ d) h
  rcases Nat.lt_or_ge (n / 2 ^ d) (m / 2 ^ d) with g | g
  · have := toNat_le (decide (2 ^ d < 2 * (n % 2 ^ d)) || (2 ^ d == 2 * (n % 2 ^ d) && n / 2 ^ d % 2 == 1))
    omega
  · have e : n / 2 ^ d = m / 2 ^ d := by omega
    have h1 := Nat.div_add_mod n (2 ^ d)
    have h2 := Nat.div_add_mod m (2 ^ d)
    have hr : n % 2 ^ d ≤ m % 2 ^ d := by rw [e] at h1; omega
    rw [e]
    generalize n % 2 ^ d = r at *
    generalize m % 2 ^ d = s at *
    clear hq g h1 h2 h e
    generalize 2 ^ d = g at *
    refine Nat.add_le_add_left ?_ _
    by_cases c1 : g < 2 * r
    · have c2 : g < 2 * s := by omega
      simp [c1, c2]
    · by_cases c2 : g = 2 * r
      · by_cases c3 : g < 2 * s
        · rw [decide_eq_true c3]; simp; exact toNat_le _
        · obtain rfl : r = s := by omega
          exact Nat.le_refl _
      · have : (g == 2 * r) = false := by simpa using c2
        simp [c1, this]
theorem ct_exact (m d : Nat) : ct (m * 2 ^ d) d = m := by
  unfold ct
  have hp : 0 < 2 ^ d := Nat.two_pow_pos _
  rw [Nat.mul_mod_left, Nat.mul_div_cancel _ hp]
  have : (2 ^ d == 0) = false := by simp
  simp

/-- The product's digits, cut. -/
def rn (N : Nat) : Nat := if N < 40564819207303340847894502572032 then ct N 52 else 4503599627370496 + ct N 53
theorem p105 : 40564819207303340847894502572032 = 2 ^ 105 := by decide
theorem rn_mono (n m : Nat) (h : n ≤ m) : rn n ≤ rn m := by
  unfold rn
  by_cases c1 : n < 40564819207303340847894502572032
  · by_cases c2 : m < 40564819207303340847894502572032
    · rw [if_pos c1, if_pos c2]; exact ct_mono _ _ _ h
    · rw [if_pos c1, if_neg c2]
      have h1 := ct_mono n (9007199254740992 * 2 ^ 52) 52 (by rw [p105] at c1; omega)
      rw [ct_exact] at h1
      have h2 := ct_mono (4503599627370496 * 2 ^ 53) m 53 (by rw [p105] at c2; omega)
      rw [ct_exact] at h2
      omega
  · rw [if_neg c1, if_neg (by omega)]
    have := ct_mono n m 53 h
    omega
/-- The product of two words above 0 that are normal. -/
def pr (x y : Nat) : Nat := (ex x + ex y - 1022) * 4503599627370496 + rn (mg x * mg y)
theorem mg_nor (x : Nat) (h : 4503599627370496 ≤ x) : 4503599627370496 ≤ mg x ∧ mg x < 9007199254740992 := by unfold mg; rw [if_neg (by omega)]; omega
theorem rung_nor (x : Nat) (h : 4503599627370496 ≤ x) : x = ex x * 4503599627370496 + mg x := by unfold mg ex; rw [if_neg (by omega)]; omega
theorem mul_bd (a b : Nat) (h1 : 4503599627370496 ≤ a ∧ a < 9007199254740992) (h2 : 4503599627370496 ≤ b ∧ b < 9007199254740992) : 2 ^ 104 ≤ a * b ∧ a * b < 2 ^ 106 := by
  have e1 : 2 ^ 104 = 4503599627370496 * 4503599627370496 := by decide
  have e2 : 2 ^ 106 = 9007199254740992 * 9007199254740992 := by decide
  rw [e1, e2]
  exact ⟨Nat.mul_le_mul h1.1 h2.1, Nat.lt_of_le_of_lt (Nat.mul_le_mul_left _ (Nat.le_of_lt h2.2)) (Nat.mul_lt_mul_of_pos_right h1.2 (by omega))⟩
theorem rn_bd (N : Nat) (h : 2 ^ 104 ≤ N ∧ N < 2 ^ 106) : 4503599627370496 ≤ rn N ∧ rn N ≤ 13510798882111488 := by
  have h1 := rn_mono (4503599627370496 * 2 ^ 52) N (by omega)
  have h2 := rn_mono N (9007199254740992 * 2 ^ 53) (by omega)
  have e1 : rn (4503599627370496 * 2 ^ 52) = 4503599627370496 := by unfold rn; rw [if_pos (by decide), ct_exact]
  have e2 : rn (9007199254740992 * 2 ^ 53) = 4503599627370496 + 9007199254740992 := by unfold rn; rw [if_neg (by decide), ct_exact]
  rw [e1] at h1
  rw [e2] at h2
  omega
theorem near_mul (N : Nat) (k : Nat) (hN : 2 ^ 104 ≤ N ∧ N < 2 ^ 106) (hk : k ≤ 2000) : double.nearest false N (-1126 + (k : Int)) = k * 4503599627370496 + rn N := by
  have hb := rn_bd N hN
  have h0 : N ≠ 0 := by have := hN.1; have e : (0 : Nat) < 2 ^ 104 := by decide
                        omega
  unfold Format.nearest
  rw [if_neg h0, dB, dI, dL, dF]
  simp only [Format.word, Bool.false_eq_true, if_false]
  by_cases c : N < 40564819207303340847894502572032
  · have hl : N.log2 = 104 := (Nat.log2_eq_iff h0).2 ⟨hN.1, by rw [p105] at c; exact c⟩
    rw [hl]
    have e1 : max (-1126 + (k : Int) + ((104 : Nat) : Int) - ((52 : Nat) : Int)) (-1074) = -1074 + (k : Int) := by omega
    rw [e1]
    have e2 : (-1126 + (k : Int) - (-1074 + (k : Int))).toNat = 0 := by omega
    have e3 : (-1074 + (k : Int) - (-1126 + (k : Int))).toNat = 52 := by omega
    have e4 : (-1074 + (k : Int) - -1074).toNat = k := by omega
    rw [e2, e3, e4, Nat.shiftLeft_zero, cut_is _ _ (by omega)]
    have e5 : rn N = ct N 52 := if_pos c
    rw [← e5]
    generalize rn N = R at hb ⊢
    clear e5 hl hN h0 c e1 e2 e3 e4
    rw [Nat.min_eq_left (by omega)]
  · have hl : N.log2 = 105 := (Nat.log2_eq_iff h0).2 ⟨by rw [p105] at c; omega, hN.2⟩
    rw [hl]
    have e1 : max (-1126 + (k : Int) + ((105 : Nat) : Int) - ((52 : Nat) : Int)) (-1074) = -1073 + (k : Int) := by omega
    rw [e1]
    have e2 : (-1126 + (k : Int) - (-1073 + (k : Int))).toNat = 0 := by omega
    have e3 : (-1073 + (k : Int) - (-1126 + (k : Int))).toNat = 53 := by omega
    have e4 : (-1073 + (k : Int) - -1074).toNat = k + 1 := by omega
    rw [e2, e3, e4, Nat.shiftLeft_zero, cut_is _ _ (by omega)]
    have e5 : rn N = 4503599627370496 + ct N 53 := if_neg c
    have e6 : ct N 53 = rn N - 4503599627370496 := by omega
    rw [e6]
    generalize rn N = R at hb ⊢
    clear e5 e6 hl hN h0 c e1 e2 e3 e4
    rw [Nat.min_eq_left (by omega)]
    omega
theorem mul_nor (x y : Nat) (hx : 4503599627370496 ≤ x) (hx2 : x < 9218868437227405312) (hy : 4503599627370496 ≤ y) (hy2 : y < 9218868437227405312) (h1 : 1022 ≤ ex x + ex y) (h2 : ex x + ex y ≤ 3022) :
    double.mul x y = some (pr x y) := by
  unfold Format.mul
  rw [read_pos x hx2, read_pos y hy2]
  simp only [Datum.product, Option.map_some, Format.write, Bool.xor_self]
  have e : (-1074 + (ex x : Int) + (-1074 + (ex y : Int))) = -1126 + ((ex x + ex y - 1022 : Nat) : Int) := by omega
  rw [e, near_mul (mg x * mg y) (ex x + ex y - 1022) (mul_bd _ _ (mg_nor x hx) (mg_nor y hy)) (by omega)]
  rfl
theorem pr_mono (a x y : Nat) (hx : 4503599627370496 ≤ x) (h : x ≤ y) (h2 : 1022 ≤ ex a + ex x) (he : ex x = ex y) : pr a x ≤ pr a y := by
  unfold pr
  rw [he]
  refine Nat.add_le_add_left (rn_mono _ _ (Nat.mul_le_mul_left _ ?_)) _
  have := rung_nor x hx
  have := rung_nor y (by omega)
  omega
end Go.Proofs.Ytdlcnbfiklbiiaa.Fl
