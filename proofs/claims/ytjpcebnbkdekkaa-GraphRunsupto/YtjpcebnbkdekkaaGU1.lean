/- Plain facts on numbers of IEEE 754's double format: the order of those above 0, products, twice and half. -/
import Derived.Laws.FloatArith
namespace Go.Proofs.Ytjpcebnbkdekkaa.Fl
set_option linter.unusedVariables false
open Ieee

theorem dB : double.binade = 4503599627370496 := by decide
theorem dS : double.signWeight = 9223372036854775808 := by decide
theorem dI : double.infRung = 9218868437227405312 := by decide
theorem dL : double.leastPlace = -1074 := by decide
theorem dF : double.fractionBits = 52 := rfl

/-- The digits and the place of a word without a sign. -/
def mg (x : Nat) : Nat := if x < 4503599627370496 then x else 4503599627370496 + x % 4503599627370496
def ex (x : Nat) : Nat := x / 4503599627370496 - 1
theorem read_pos (x : Nat) (h : x < 9218868437227405312) : double.read x = .number false (mg x) (-1074 + (ex x : Nat)) := by
  unfold Format.read
  rw [dB, dS, dI, dL]
  have h1 : x / 9223372036854775808 = 0 := by omega
  have h2 : x % 9223372036854775808 = x := by omega
  simp only [h1, h2]
  by_cases c : x < 4503599627370496
  · have e : x / 4503599627370496 = 0 := by omega
    simp [c, mg, ex, e]
  · simp [c, mg, ex, h]

/-- How great it is, in units of the least number. -/
def vl (x : Nat) : Nat := mg x * 2 ^ ex x
theorem vl_step (x : Nat) : vl x < vl (x + 1) := by
  unfold vl mg ex
  by_cases c : x < 4503599627370496
  · have e : x / 4503599627370496 = 0 := by omega
    by_cases c2 : x + 1 < 4503599627370496
    · have e2 : (x + 1) / 4503599627370496 = 0 := by omega
      simp [c, c2, e, e2]
    · obtain rfl : x = 4503599627370495 := by omega
      decide
  · have c2 : ¬ x + 1 < 4503599627370496 := by omega
    rw [if_neg c, if_neg c2]
    by_cases c3 : (x + 1) % 4503599627370496 = 0
    · have e1 : x % 4503599627370496 = 4503599627370495 := by omega
      have e2 : (x + 1) / 4503599627370496 - 1 = (x / 4503599627370496 - 1) + 1 := by omega
      rw [e1, c3, e2, Nat.pow_succ]
      have : 0 < 2 ^ (x / 4503599627370496 - 1) := Nat.two_pow_pos _
      omega
    · have e1 : (x + 1) % 4503599627370496 = x % 4503599627370496 + 1 := by omega
      have e2 : (x + 1) / 4503599627370496 - 1 = x / 4503599627370496 - 1 := by omega
      rw [e1, e2]
      exact Nat.mul_lt_mul_of_pos_right (by omega) (Nat.two_pow_pos _)
theorem vl_lt {x y : Nat} (h : x < y) : vl x < vl y := by
  obtain ⟨d, rfl⟩ : ∃ d, y = x + 1 + d := ⟨y - (x + 1), by omega⟩
  induction d with
  | zero => exact vl_step x
  | succ d ih =>
    have := ih (by omega)
    have h2 := vl_step (x + 1 + d)
    rw [show x + 1 + (d + 1) = x + 1 + d + 1 by omega]
    omega
theorem vl_cmp (x y : Nat) : compare (vl x) (vl y) = compare x y := by
  rcases Nat.lt_trichotomy x y with h | h | h
  · rw [Nat.compare_eq_lt.2 h, Nat.compare_eq_lt.2 (vl_lt h)]
  · subst h; rw [Nat.compare_eq_eq.2 rfl, Nat.compare_eq_eq.2 rfl]
  · rw [Nat.compare_eq_gt.2 h, Nat.compare_eq_gt.2 (vl_lt h)]

theorem cmp_cast (a b : Nat) : compare (a : Int) (b : Int) = compare a b := by
  rcases Nat.lt_trichotomy a b with h | h | h
  · rw [Nat.compare_eq_lt.2 h, Int.compare_eq_lt.2 (by omega)]
  · subst h; rw [Nat.compare_eq_eq.2 rfl, Int.compare_eq_eq.2 rfl]
  · rw [Nat.compare_eq_gt.2 h, Int.compare_eq_gt.2 (by omega)]
theorem cmp_mul (a b k : Nat) (hk : 0 < k) : compare (a * k) (b * k) = compare a b := by
  rcases Nat.lt_trichotomy a b with h | h | h
  · rw [Nat.compare_eq_lt.2 h, Nat.compare_eq_lt.2 (Nat.mul_lt_mul_of_pos_right h hk)]
  · subst h; rw [Nat.compare_eq_eq.2 rfl, Nat.compare_eq_eq.2 rfl]
  · rw [Nat.compare_eq_gt.2 h, Nat.compare_eq_gt.2 (Nat.mul_lt_mul_of_pos_right h hk)]

/-- Words without a sign stand to each other as their numbers do. -/
theorem order_pos (x y : Nat) (hx : x < 9218868437227405312) (hy : y < 9218868437227405312) : double.order x y = some (compare x y) := by
  unfold Format.order
  rw [read_pos x hx, read_pos y hy]
  simp only [Datum.order, signed]
  rw [← vl_cmp]
  unfold vl
  congr 1
  simp only [Bool.false_eq_true, if_false]
  rw [cmp_cast, Nat.shiftLeft_eq, Nat.shiftLeft_eq]
  generalize ex x = i at *
  generalize ex y = j at *
  rcases Nat.le_total i j with h | h
  · rw [show (-1074 + (i : Int) - min (-1074 + (i : Int)) (-1074 + (j : Int))).toNat = 0 by omega, show (-1074 + (j : Int) - min (-1074 + (i : Int)) (-1074 + (j : Int))).toNat = j - i by omega]
    have e : 2 ^ j = 2 ^ (j - i) * 2 ^ i := by rw [← Nat.pow_add]; congr 1; omega
    rw [e, ← Nat.mul_assoc, cmp_mul _ _ _ (Nat.two_pow_pos _)]
    simp
  · rw [show (-1074 + (j : Int) - min (-1074 + (i : Int)) (-1074 + (j : Int))).toNat = 0 by omega, show (-1074 + (i : Int) - min (-1074 + (i : Int)) (-1074 + (j : Int))).toNat = i - j by omega]
    have e : 2 ^ i = 2 ^ (i - j) * 2 ^ j := by rw [← Nat.pow_add]; congr 1; omega
    rw [e, ← Nat.mul_assoc, cmp_mul _ _ _ (Nat.two_pow_pos _)]
    simp

/-- What is a word's sign, and what is not a number at all. -/
theorem read_cases (x : Nat) (h : x < 18446744073709551616) : x < 9218868437227405312 ∨ double.read x = .infinity false ∨ (∃ m i, double.read x = .number true m i) ∨ double.read x = .infinity true ∨ (∃ s t, double.read x = .nan s t) := by
  by_cases c : x < 9218868437227405312
  · exact .inl c
  · right
    unfold Format.read
    rw [dB, dS, dI, dL]
    by_cases c2 : x < 9223372036854775808
    · have h1 : x / 9223372036854775808 = 0 := by omega
      have h2 : x % 9223372036854775808 = x := by omega
      simp only [h1, h2]
      rw [if_neg (by omega), if_neg (by omega)]
      by_cases c3 : x = 9218868437227405312
      · left; rw [if_pos c3]; rfl
      · right; right; right; rw [if_neg c3]; exact ⟨_, _, rfl⟩
    · have h1 : x / 9223372036854775808 = 1 := by omega
      simp only [h1]
      by_cases d1 : x % 9223372036854775808 < 4503599627370496
      · right; left; rw [if_pos d1]; exact ⟨_, _, rfl⟩
      · rw [if_neg d1]
        by_cases d2 : x % 9223372036854775808 < 9218868437227405312
        · right; left; rw [if_pos d2]; exact ⟨_, _, rfl⟩
        · rw [if_neg d2]
          by_cases d3 : x % 9223372036854775808 = 9218868437227405312
          · right; right; left; rw [if_pos d3]; rfl
          · right; right; right; rw [if_neg d3]; exact ⟨_, _, rfl⟩

theorem signed_neg (m k : Nat) : signed true m k ≤ 0 := by
  unfold signed
  simp only [if_true, Nat.shiftLeft_eq]
  omega
theorem signed_pos (m k : Nat) (h : 0 < m) : 0 < signed false m k := by
  unfold signed
  simp only [Bool.false_eq_true, if_false, Nat.shiftLeft_eq]
  have := Nat.mul_pos h (Nat.two_pow_pos k)
  omega
theorem mg_pos (x : Nat) (h : 0 < x) : 0 < mg x := by unfold mg; split <;> omega
theorem order_neg (x y : Nat) (m : Nat) (i : Int) (hx : double.read x = .number true m i) (hy : y < 9218868437227405312) (h0 : 0 < y) : double.order x y = some .lt := by
  unfold Format.order
  rw [hx, read_pos y hy]
  simp only [Datum.order]
  congr 1
  rw [Int.compare_eq_lt]
  have h1 := signed_neg m (i - min i (-1074 + (ex y : Nat))).toNat
  have h2 := signed_pos (mg y) (-1074 + (ex y : Nat) - min i (-1074 + (ex y : Nat))).toNat (mg_pos y h0)
  omega

/-- Between two words above 0: a word without a sign, between them. -/
def btw (lo hi x : Nat) : Bool := decide (lo ≤ x ∧ x ≤ hi)
theorem ge_is (x lo : Nat) (hx : x < 18446744073709551616) (hlo : 0 < lo) (hl : lo < 9218868437227405312) :
    (double.order x lo == some .gt || double.order x lo == some .eq) = true → (lo ≤ x ∧ x < 9218868437227405312) ∨ double.read x = .infinity false := by
  intro h
  rcases read_cases x hx with c | c | ⟨m, i, c⟩ | c | ⟨s, t, c⟩
  · left
    rw [order_pos x lo c hl] at h
    rcases Nat.lt_trichotomy x lo with g | g | g
    · rw [Nat.compare_eq_lt.2 g] at h; simp at h
    · omega
    · omega
  · exact .inr c
  · rw [order_neg x lo m i c hl hlo] at h; simp at h
  · unfold Format.order at h; rw [c, read_pos lo hl] at h; simp [Datum.order] at h
  · unfold Format.order at h; rw [c, read_pos lo hl] at h; simp [Datum.order] at h
theorem le_inf (x hi : Nat) (hh : hi < 9218868437227405312) (h : double.read x = .infinity false) : (double.order x hi == some .lt || double.order x hi == some .eq) = false := by
  unfold Format.order; rw [h, read_pos hi hh]; simp [Datum.order]
theorem ge_no (x lo : Nat) (hx : x < 18446744073709551616) (hlo : 0 < lo) (hl : lo < 9218868437227405312) (h : x < lo) : (double.order x lo == some .gt || double.order x lo == some .eq) = false := by
  rw [order_pos x lo (by omega) hl, Nat.compare_eq_lt.2 h]; rfl
theorem ge_yes (x lo : Nat) (hl : lo < 9218868437227405312) (h : lo ≤ x) (h2 : x < 9218868437227405312) : (double.order x lo == some .gt || double.order x lo == some .eq) = true := by
  rw [order_pos x lo h2 hl]
  rcases Nat.lt_or_ge lo x with g | g
  · rw [Nat.compare_eq_gt.2 g]; rfl
  · rw [Nat.compare_eq_eq.2 (by omega)]; rfl
theorem le_yes (x hi : Nat) (hh : hi < 9218868437227405312) (h : x ≤ hi) : (double.order x hi == some .lt || double.order x hi == some .eq) = true := by
  rw [order_pos x hi (by omega) hh]
  rcases Nat.lt_or_ge x hi with g | g
  · rw [Nat.compare_eq_lt.2 g]; rfl
  · rw [Nat.compare_eq_eq.2 (by omega)]; rfl
theorem le_no (x hi : Nat) (hh : hi < 9218868437227405312) (h : hi < x) (h2 : x < 9218868437227405312) : (double.order x hi == some .lt || double.order x hi == some .eq) = false := by
  rw [order_pos x hi h2 hh, Nat.compare_eq_gt.2 h]; rfl
/-- Both tests together are 'between'. -/
theorem both (x lo hi : Nat) (hx : x < 18446744073709551616) (hlo : 0 < lo) (hl : lo < 9218868437227405312) (hh : hi < 9218868437227405312) :
    ((double.order x lo == some .gt || double.order x lo == some .eq) && (double.order x hi == some .lt || double.order x hi == some .eq)) = btw lo hi x := by
  by_cases c : lo ≤ x ∧ x ≤ hi
  · rw [ge_yes x lo hl c.1 (by omega), le_yes x hi hh c.2]; unfold btw; simp [c]
  · have e : btw lo hi x = false := by unfold btw; simp only [decide_eq_false_iff_not]; exact c
    rw [e]
    cases g : (double.order x lo == some .gt || double.order x lo == some .eq)
    · rfl
    · rcases ge_is x lo hx hlo hl g with h | h
      · rw [le_no x hi hh (by omega) h.2]; rfl
      · rw [le_inf x hi hh h]; rfl

/-- n cut by d digits, to the nearest, of two the even one. -/
def ct (n d : Nat) : Nat := n / 2 ^ d + (decide (2 ^ d < 2 * (n % 2 ^ d)) || (2 ^ d == 2 * (n % 2 ^ d) && n / 2 ^ d % 2 == 1)).toNat
theorem cut_is (n d : Nat) (h : d ≤ n.log2 + 2) : Toward.even.cut false n d = ct n d := by
  unfold Toward.cut ct
  rw [Nat.min_eq_left h, Nat.shiftLeft_eq, Nat.one_mul]
theorem toNat_le (b : Bool) : b.toNat ≤ 1 := by cases b <;> decide
theorem ct_mono (n m d : Nat) (h : n ≤ m) : ct n d ≤ ct m d := by
  unfold ct
  have hp : 0 < 2 ^ d := Nat.two_pow_pos _
  have hq := Nat.div_le_div_right (c := 2 ^ d) h
  rcases Nat.lt_or_ge (n / 2 ^ d) (m / 2 ^ d) with g | g
  · have := toNat_le (decide (2 ^ d < 2 * (n % 2 ^ d)) || (2 ^ d == 2 * (n % 2 ^ d) && n / 2 ^ d % 2 == 1))
    omega
  · have e : n / 2 ^ d = m / 2 ^ d := by omega
    have h1 := Nat.div_add_mod n (2 ^ d)
    have h2 := Nat.div_add_mod m (2 ^ d)
    have hr : n % 2 ^ d ≤ m % 2 ^ d := by rw [e] at h1; omega
    rw [e]
    generalize n % 2 ^ d = r at *
    generalize m % 2 ^ d = s at *
    clear hq g h1 h2 h e
    generalize 2 ^ d = g at *
    refine Nat.add_le_add_left ?_ _
    by_cases c1 : g < 2 * r
    · have c2 : g < 2 * s := by omega
      simp [c1, c2]
    · by_cases c2 : g = 2 * r
      · by_cases c3 : g < 2 * s
        · rw [decide_eq_true c3]; simp; exact toNat_le _
        · obtain rfl : r = s := by omega
          exact Nat.le_refl _
      · have : (g == 2 * r) = false := by simpa using c2
        simp [c1, this]
theorem ct_exact (m d : Nat) : ct (m * 2 ^ d) d = m := by
  unfold ct
  have hp : 0 < 2 ^ d := Nat.two_pow_pos _
  rw [Nat.mul_mod_left, Nat.mul_div_cancel _ hp]
  have : (2 ^ d == 0) = false := by simp
  simp

/-- The product's digits, cut. -/
def rn (N : Nat) : Nat := if N < 40564819207303340847894502572032 then ct N 52 else 4503599627370496 + ct N 53
theorem p105 : 40564819207303340847894502572032 = 2 ^ 105 := by decide
theorem rn_mono (n m : Nat) (h : n ≤ m) : rn n ≤ rn m := by
  unfold rn
  by_cases c1 : n < 40564819207303340847894502572032
  · by_cases c2 : m < 40564819207303340847894502572032
    · rw [if_pos c1, if_pos c2]; exact ct_mono _ _ _ h
    · rw [if_pos c1, if_neg c2]
      have h1 := ct_mono n (9007199254740992 * 2 ^ 52) 52 (by rw [p105] at c1; omega)
      rw [ct_exact] at h1
      have h2 := ct_mono (4503599627370496 * 2 ^ 53) m 53 (by rw [p105] at c2; omega)
      rw [ct_exact] at h2
      omega
  · rw [if_neg c1, if_neg (by omega)]
    have := ct_mono n m 53 h
    omega
/-- The product of two words above 0 that are normal. -/
def pr (x y : Nat) : Nat := (ex x + ex y - 1022) * 4503599627370496 + rn (mg x * mg y)
theorem mg_nor (x : Nat) (h : 4503599627370496 ≤ x) : 4503599627370496 ≤ mg x ∧ mg x < 9007199254740992 := by unfold mg; rw [if_neg (by omega)]; omega
theorem rung_nor (x : Nat) (h : 4503599627370496 ≤ x) : x = ex x * 4503599627370496 + mg x := by unfold mg ex; rw [if_neg (by omega)]; omega
theorem mul_bd (a b : Nat) (h1 : 4503599627370496 ≤ a ∧ a < 9007199254740992) (h2 : 4503599627370496 ≤ b ∧ b < 9007199254740992) : 2 ^ 104 ≤ a * b ∧ a * b < 2 ^ 106 := by
  have e1 : 2 ^ 104 = 4503599627370496 * 4503599627370496 := by decide
  have e2 : 2 ^ 106 = 9007199254740992 * 9007199254740992 := by decide
  rw [e1, e2]
  exact ⟨Nat.mul_le_mul h1.1 h2.1, Nat.lt_of_le_of_lt (Nat.mul_le_mul_left _ (Nat.le_of_lt h2.2)) (Nat.mul_lt_mul_of_pos_right h1.2 (by omega))⟩
theorem rn_bd (N : Nat) (h : 2 ^ 104 ≤ N ∧ N < 2 ^ 106) : 4503599627370496 ≤ rn N ∧ rn N ≤ 13510798882111488 := by
  have h1 := rn_mono (4503599627370496 * 2 ^ 52) N (by omega)
  have h2 := rn_mono N (9007199254740992 * 2 ^ 53) (by omega)
  have e1 : rn (4503599627370496 * 2 ^ 52) = 4503599627370496 := by unfold rn; rw [if_pos (by decide), ct_exact]
  have e2 : rn (9007199254740992 * 2 ^ 53) = 4503599627370496 + 9007199254740992 := by unfold rn; rw [if_neg (by decide), ct_exact]
  rw [e1] at h1
  rw [e2] at h2
  omega
theorem near_mul (N : Nat) (k : Nat) (hN : 2 ^ 104 ≤ N ∧ N < 2 ^ 106) (hk : k ≤ 2000) : double.nearest false N (-1126 + (k : Int)) = k * 4503599627370496 + rn N := by
  have hb := rn_bd N hN
  have h0 : N ≠ 0 := by have := hN.1; have e : (0 : Nat) < 2 ^ 104 := by decide
                        omega
  unfold Format.nearest
  rw [if_neg h0, dB, dI, dL, dF]
  simp only [Format.word, Bool.false_eq_true, if_false]
  by_cases c : N < 40564819207303340847894502572032
  · have hl : N.log2 = 104 := (Nat.log2_eq_iff h0).2 ⟨hN.1, by rw [p105] at c; exact c⟩
    rw [hl]
    have e1 : max (-1126 + (k : Int) + ((104 : Nat) : Int) - ((52 : Nat) : Int)) (-1074) = -1074 + (k : Int) := by omega
    rw [e1]
    have e2 : (-1126 + (k : Int) - (-1074 + (k : Int))).toNat = 0 := by omega
    have e3 : (-1074 + (k : Int) - (-1126 + (k : Int))).toNat = 52 := by omega
    have e4 : (-1074 + (k : Int) - -1074).toNat = k := by omega
    rw [e2, e3, e4, Nat.shiftLeft_zero, cut_is _ _ (by omega)]
    have e5 : rn N = ct N 52 := if_pos c
    rw [← e5]
    generalize rn N = R at hb ⊢
    clear e5 hl hN h0 c e1 e2 e3 e4
    rw [Nat.min_eq_left (by omega)]
  · have hl : N.log2 = 105 := (Nat.log2_eq_iff h0).2 ⟨by rw [p105] at c; omega, hN.2⟩
    rw [hl]
    have e1 : max (-1126 + (k : Int) + ((105 : Nat) : Int) - ((52 : Nat) : Int)) (-1074) = -1073 + (k : Int) := by omega
    rw [e1]
    have e2 : (-1126 + (k : Int) - (-1073 + (k : Int))).toNat = 0 := by omega
    have e3 : (-1073 + (k : Int) - (-1126 + (k : Int))).toNat = 53 := by omega
    have e4 : (-1073 + (k : Int) - -1074).toNat = k + 1 := by omega
    rw [e2, e3, e4, Nat.shiftLeft_zero, cut_is _ _ (by omega)]
    have e5 : rn N = 4503599627370496 + ct N 53 := if_neg c
    have e6 : ct N 53 = rn N - 4503599627370496 := by omega
    rw [e6]
    generalize rn N = R at hb ⊢
    clear e5 e6 hl hN h0 c e1 e2 e3 e4
    rw [Nat.min_eq_left (by omega)]
    omega
theorem mul_nor (x y : Nat) (hx : 4503599627370496 ≤ x) (hx2 : x < 9218868437227405312) (hy : 4503599627370496 ≤ y) (hy2 : y < 9218868437227405312) (h1 : 1022 ≤ ex x + ex y) (h2 : ex x + ex y ≤ 3022) :
    double.mul x y = some (pr x y) := by
  unfold Format.mul
  rw [read_pos x hx2, read_pos y hy2]
  simp only [Datum.product, Option.map_some, Format.write, Bool.xor_self]
  have e : (-1074 + (ex x : Int) + (-1074 + (ex y : Int))) = -1126 + ((ex x + ex y - 1022 : Nat) : Int) := by omega
  rw [e, near_mul (mg x * mg y) (ex x + ex y - 1022) (mul_bd _ _ (mg_nor x hx) (mg_nor y hy)) (by omega)]
  rfl
theorem pr_mono (a x y : Nat) (hx : 4503599627370496 ≤ x) (h : x ≤ y) (h2 : 1022 ≤ ex a + ex x) (he : ex x = ex y) : pr a x ≤ pr a y := by
  unfold pr
  rw [he]
  refine Nat.add_le_add_left (rn_mono _ _ (Nat.mul_le_mul_left _ ?_)) _
  have := rung_nor x hx
  have := rung_nor y (by omega)
  omega
end Go.Proofs.Ytjpcebnbkdekkaa.Fl

/- Plain facts on rounding to IEEE 754's double format: the nearest word as a plain function that rises, exact where it can be, and sums, products, quotients in its words. -/
namespace Go.Proofs.Ytjpcebnbkdekkaa.Fl
set_option linter.unusedVariables false
open Ieee

theorem log2_lt (n : Nat) : n < 2 ^ (n.log2 + 1) := Nat.lt_log2_self
theorem le_log2 (n : Nat) (h : n ≠ 0) : 2 ^ n.log2 ≤ n := Nat.log2_self_le h
theorem ct_zero (n d : Nat) (h : 2 * n < 2 ^ d) : ct n d = 0 := by
  unfold ct
  have h1 : n / 2 ^ d = 0 := Nat.div_eq_of_lt (by omega)
  have h2 : n % 2 ^ d = n := Nat.mod_eq_of_lt (by omega)
  have h3 : decide (2 ^ d < 2 * n) = false := by simp only [decide_eq_false_iff_not]; omega
  have h4 : (2 ^ d == 2 * n) = false := by simp only [beq_eq_false_iff_ne]; omega
  rw [h1, h2, h3, h4]; rfl
theorem cut_all (neg : Bool) (n d : Nat) : Toward.even.cut neg n d = ct n d := by
  by_cases h : d ≤ n.log2 + 2
  · unfold Toward.cut ct
    rw [Nat.min_eq_left h, Nat.shiftLeft_eq, Nat.one_mul]
  · have hn := log2_lt n
    have hp : 2 ^ (n.log2 + 2) = 2 * 2 ^ (n.log2 + 1) := by rw [Nat.pow_succ 2 (n.log2 + 1)]; omega
    have hq : 2 ^ (n.log2 + 2) ≤ 2 ^ d := Nat.pow_le_pow_right (by decide) (by omega)
    rw [ct_zero n d (by omega), ← ct_zero n (n.log2 + 2) (by omega)]
    unfold Toward.cut ct
    rw [Nat.min_eq_right (by omega), Nat.shiftLeft_eq, Nat.one_mul]
theorem ct_scale (n d j : Nat) : ct (n * 2 ^ j) (d + j) = ct n d := by
  unfold ct
  have hj : 0 < 2 ^ j := Nat.two_pow_pos _
  have e1 : n * 2 ^ j / 2 ^ (d + j) = n / 2 ^ d := by rw [Nat.pow_add]; exact Nat.mul_div_mul_right _ _ hj
  have e2 : n * 2 ^ j % 2 ^ (d + j) = n % 2 ^ d * 2 ^ j := by rw [Nat.pow_add]; exact Nat.mul_mod_mul_right _ _ _
  rw [e1, e2, Nat.pow_add]
  have e3 : 2 * (n % 2 ^ d * 2 ^ j) = 2 * (n % 2 ^ d) * 2 ^ j := by rw [Nat.mul_assoc]
  rw [e3]
  have e4 : decide (2 ^ d * 2 ^ j < 2 * (n % 2 ^ d) * 2 ^ j) = decide (2 ^ d < 2 * (n % 2 ^ d)) := by
    have : 2 ^ d * 2 ^ j < 2 * (n % 2 ^ d) * 2 ^ j ↔ 2 ^ d < 2 * (n % 2 ^ d) := Nat.mul_lt_mul_right hj
    simp only [this]
  have e5 : (2 ^ d * 2 ^ j == 2 * (n % 2 ^ d) * 2 ^ j) = (2 ^ d == 2 * (n % 2 ^ d)) := by
    have : 2 ^ d * 2 ^ j = 2 * (n % 2 ^ d) * 2 ^ j ↔ 2 ^ d = 2 * (n % 2 ^ d) := Nat.mul_left_inj (by omega)
    rw [Bool.eq_iff_iff]; simp only [beq_iff_eq]; exact this
  rw [e4, e5]

/-- The rung nearest to X units of 2 ^ (-1074 - s). -/
def rr (s X : Nat) : Nat := (X.log2 - 52 - s) * 4503599627370496 + ct X (s + (X.log2 - 52 - s))
theorem log2_mul (n j : Nat) (h : n ≠ 0) : (n * 2 ^ j).log2 = n.log2 + j := by
  refine (Nat.log2_eq_iff (Nat.mul_ne_zero h (by have := Nat.two_pow_pos j; omega))).2 ⟨?_, ?_⟩
  · rw [Nat.pow_add]; exact Nat.mul_le_mul_right _ (le_log2 n h)
  · rw [show n.log2 + j + 1 = n.log2 + 1 + j by omega, Nat.pow_add]
    exact Nat.mul_lt_mul_of_pos_right (log2_lt n) (Nat.two_pow_pos _)
theorem rr_zero (s : Nat) : rr s 0 = 0 := by
  unfold rr
  have : (0 : Nat).log2 = 0 := by decide
  rw [this]
  have h := ct_zero 0 (s + (0 - 52 - s)) (by have := Nat.two_pow_pos (s + (0 - 52 - s)); omega)
  rw [h]; simp
theorem rr_scale (s X j : Nat) : rr (s + j) (X * 2 ^ j) = rr s X := by
  by_cases h : X = 0
  · subst h; rw [Nat.zero_mul, rr_zero, rr_zero]
  · unfold rr
    rw [log2_mul X j h]
    have e : X.log2 + j - 52 - (s + j) = X.log2 - 52 - s := by omega
    rw [e, show s + j + (X.log2 - 52 - s) = s + (X.log2 - 52 - s) + j by omega, ct_scale]
theorem ct_le (n k d : Nat) (h : n ≤ k * 2 ^ d) : ct n d ≤ k := by have := ct_mono _ _ d h; rwa [ct_exact] at this
theorem le_ct (n k d : Nat) (h : k * 2 ^ d ≤ n) : k ≤ ct n d := by have := ct_mono _ _ d h; rwa [ct_exact] at this
theorem rr_hi (s X : Nat) : rr s X ≤ (X.log2 - 52 - s) * 4503599627370496 + 9007199254740992 := by
  unfold rr
  refine Nat.add_le_add_left (ct_le _ _ _ ?_) _
  have h := log2_lt X
  rw [show (9007199254740992 : Nat) = 2 ^ 53 by decide, ← Nat.pow_add]
  exact Nat.le_trans (Nat.le_of_lt h) (Nat.pow_le_pow_right (by decide) (by omega))
theorem rr_lo (s X : Nat) (h : 0 < X.log2 - 52 - s) : (X.log2 - 52 - s) * 4503599627370496 + 4503599627370496 ≤ rr s X := by
  unfold rr
  refine Nat.add_le_add_left (le_ct _ _ _ ?_) _
  have h0 : X ≠ 0 := by rintro rfl; revert h; rw [show (0 : Nat).log2 = 0 by decide]; omega
  have h1 := le_log2 X h0
  rw [show (4503599627370496 : Nat) = 2 ^ 52 by decide, ← Nat.pow_add]
  exact Nat.le_trans (Nat.pow_le_pow_right (by decide) (by omega)) h1
theorem log2_mono (X Y : Nat) (h : X ≤ Y) : X.log2 ≤ Y.log2 := by
  by_cases c : X = 0
  · subst c; rw [show (0 : Nat).log2 = 0 by decide]; omega
  · refine Decidable.byContradiction fun g => ?_
    have h1 := le_log2 X c
    have h2 := log2_lt Y
    have h3 : 2 ^ (Y.log2 + 1) ≤ 2 ^ X.log2 := Nat.pow_le_pow_right (by decide) (by omega)
    omega
theorem rr_mono (s X Y : Nat) (h : X ≤ Y) : rr s X ≤ rr s Y := by
  have hl := log2_mono X Y h
  by_cases c : X.log2 - 52 - s = Y.log2 - 52 - s
  · unfold rr; rw [c]; exact Nat.add_le_add_left (ct_mono _ _ _ h) _
  · have h1 := rr_hi s X
    have h2 := rr_lo s Y (by omega)
    omega
theorem vl_log (r : Nat) (h : 4503599627370496 ≤ r) : (vl r).log2 = 52 + ex r := by
  have hm := mg_nor r h
  unfold vl
  rw [log2_mul _ _ (by omega)]
  congr 1
  exact (Nat.log2_eq_iff (by omega)).2 ⟨by omega, by omega⟩
theorem vl_low (r : Nat) (h : r < 4503599627370496) : vl r = r := by
  unfold vl mg ex
  rw [if_pos h, show r / 4503599627370496 - 1 = 0 by omega]; omega
/-- A word's own number is rounded to it. -/
theorem rr_vl (s r : Nat) : rr s (vl r * 2 ^ s) = r := by
  have hs := rr_scale 0 (vl r) s
  rw [show 0 + s = s by omega] at hs
  rw [hs]
  by_cases h : r < 4503599627370496
  · rw [vl_low r h]
    have hl : r.log2 - 52 - 0 = 0 := by
      have := log2_mono r 4503599627370495 (by omega)
      rw [show (4503599627370495 : Nat).log2 = 51 by decide] at this
      omega
    unfold rr
    rw [hl]
    have := ct_exact r 0
    rw [Nat.pow_zero, Nat.mul_one] at this
    rw [show 0 + 0 = 0 from rfl, this]; omega
  · unfold rr
    rw [vl_log r (by omega), show 52 + ex r - 52 - 0 = ex r by omega, show 0 + ex r = ex r by omega]
    unfold vl
    rw [ct_exact]
    exact (rung_nor r (by omega)).symm
theorem rr_le (s X r : Nat) (h : X ≤ vl r * 2 ^ s) : rr s X ≤ r := by have := rr_mono s _ _ h; rwa [rr_vl] at this
theorem le_rr (s X r : Nat) (h : vl r * 2 ^ s ≤ X) : r ≤ rr s X := by have := rr_mono s _ _ h; rwa [rr_vl] at this
/-- What has at most 53 digits is a word's number. -/
theorem rep (M e : Nat) (h : M < 9007199254740992) : ∃ r, vl r = M * 2 ^ e := by
  induction e generalizing M with
  | zero =>
    by_cases c : M < 4503599627370496
    · exact ⟨M, by rw [vl_low M c]; omega⟩
    · refine ⟨M, ?_⟩
      unfold vl mg ex
      rw [if_neg c, show M / 4503599627370496 - 1 = 0 by omega]
      omega
  | succ e ih =>
    by_cases c : M < 4503599627370496
    · obtain ⟨r, hr⟩ := ih (2 * M) (by omega)
      exact ⟨r, by rw [hr, Nat.pow_succ, Nat.mul_comm 2 M, Nat.mul_assoc, Nat.mul_comm 2 (2 ^ e)]⟩
    · refine ⟨(e + 1) * 4503599627370496 + M, ?_⟩
      unfold vl mg ex
      rw [if_neg (by omega), show ((e + 1) * 4503599627370496 + M) / 4503599627370496 - 1 = e + 1 by omega, show 4503599627370496 + ((e + 1) * 4503599627370496 + M) % 4503599627370496 = M by omega]
theorem vl_mono {x y : Nat} (h : x ≤ y) : vl x ≤ vl y := by
  rcases Nat.lt_or_ge x y with g | g
  · exact Nat.le_of_lt (vl_lt g)
  · obtain rfl : x = y := by omega
    exact Nat.le_refl _
theorem le_of_vl {x y : Nat} (h : vl x ≤ vl y) : x ≤ y := by
  refine Decidable.byContradiction fun g => ?_
  have := vl_lt (x := y) (y := x) (by omega)
  omega
theorem vl_inj {x y : Nat} (h : vl x = vl y) : x = y := by
  have h1 := le_of_vl (x := x) (y := y) (by omega)
  have h2 := le_of_vl (x := y) (y := x) (by omega)
  omega

/-- A word out of a sign and a rung. -/
def wd (n : Bool) (r : Nat) : Nat := if n then 9223372036854775808 + r else r
theorem word_is (n : Bool) (r : Nat) : double.word n r = wd n r := by unfold Format.word wd; rw [dS]
/-- The nearest word, in these words. -/
theorem near_is (n : Bool) (m : Nat) (p : Int) (s j : Nat) (h : p + 1074 + s = j) : double.nearest n m p = wd n (min (rr s (m * 2 ^ j)) 9218868437227405312) := by
  unfold Format.nearest
  by_cases h0 : m = 0
  · subst h0
    rw [if_pos rfl, word_is, Nat.zero_mul, rr_zero]
    simp
  rw [if_neg h0, dB, dI, dL, dF]
  simp only [word_is, cut_all]
  refine congrArg (fun x => wd n (min x 9218868437227405312)) ?_
  unfold rr
  rw [log2_mul m j h0]
  generalize hL : m.log2 = L
  obtain ⟨k, hk⟩ : ∃ k : Nat, L + j - 52 - s = k := ⟨_, rfl⟩
  have e1 : max (p + (L : Int) - ((52 : Nat) : Int)) (-1074) = (k : Int) - 1074 := by omega
  rw [e1, hk]
  have e2 : ((k : Int) - 1074 - -1074).toNat = k := by omega
  rw [e2]
  refine congrArg (fun x => k * 4503599627370496 + x) ?_
  rw [Nat.shiftLeft_eq]
  rcases Nat.le_total (s + k) j with g | g
  · have e3 : (p - ((k : Int) - 1074)).toNat = j - (s + k) := by omega
    have e4 : ((k : Int) - 1074 - p).toNat = 0 := by omega
    rw [e3, e4]
    have e5 : m * 2 ^ j = m * 2 ^ (j - (s + k)) * 2 ^ (s + k) := by rw [Nat.mul_assoc, ← Nat.pow_add]; congr 2; omega
    have := ct_exact (m * 2 ^ (j - (s + k))) 0
    rw [Nat.pow_zero, Nat.mul_one] at this
    rw [this, e5, ct_exact]
  · have e3 : (p - ((k : Int) - 1074)).toNat = 0 := by omega
    have e4 : ((k : Int) - 1074 - p).toNat = s + k - j := by omega
    rw [e3, e4, Nat.pow_zero, Nat.mul_one]
    have := ct_scale m (s + k - j) j
    rw [show s + k - j + j = s + k by omega] at this
    exact this.symm
end Go.Proofs.Ytjpcebnbkdekkaa.Fl

/- Plain facts on sums, products, quotients and the order of finite words of IEEE 754's double format, with their signs. -/
namespace Go.Proofs.Ytjpcebnbkdekkaa.Fl
set_option linter.unusedVariables false
open Ieee

def sg (x : Nat) : Bool := decide (9223372036854775808 ≤ x)
def rg (x : Nat) : Nat := x % 9223372036854775808
/-- A word of a number. -/
def Fi (x : Nat) : Prop := x < 18446744073709551616 ∧ rg x < 9218868437227405312
/-- Its number, in units of the least one. -/
def va (x : Nat) : Int := if sg x then -(vl (rg x) : Int) else (vl (rg x) : Int)

theorem rg_wd (n : Bool) (r : Nat) (h : r < 9223372036854775808) : rg (wd n r) = r := by unfold rg wd; cases n <;> simp <;> omega
theorem sg_wd (n : Bool) (r : Nat) (h : r < 9223372036854775808) : sg (wd n r) = n := by unfold sg wd; cases n <;> simp <;> omega
theorem fi_wd (n : Bool) (r : Nat) (h : r < 9218868437227405312) : Fi (wd n r) := by
  refine ⟨by unfold wd; cases n <;> simp <;> omega, ?_⟩
  rw [rg_wd n r (by omega)]; exact h
theorem va_wd (n : Bool) (r : Nat) (h : r < 9223372036854775808) : va (wd n r) = if n then -(vl r : Int) else (vl r : Int) := by unfold va; rw [rg_wd n r h, sg_wd n r h]
theorem va_abs (x : Nat) : (va x).natAbs = vl (rg x) := by unfold va; cases sg x <;> simp
theorem wd_self (x : Nat) (h : x < 18446744073709551616) : wd (sg x) (rg x) = x := by
  unfold wd sg rg
  by_cases c : 9223372036854775808 ≤ x
  · simp [c]; omega
  · simp [c]; omega

theorem read_fi (x : Nat) (h : Fi x) : double.read x = .number (sg x) (mg (rg x)) (-1074 + (ex (rg x) : Nat)) := by
  obtain ⟨h1, h2⟩ := h
  unfold Format.read
  rw [dB, dS, dI, dL]
  have hs : (x / 9223372036854775808 % 2 == 1) = sg x := by
    unfold sg
    by_cases c : 9223372036854775808 ≤ x
    · have : x / 9223372036854775808 = 1 := by omega
      simp [c, this]
    · have : x / 9223372036854775808 = 0 := by omega
      simp [c, this]
  simp only [hs]
  rw [show x % 9223372036854775808 = rg x from rfl]
  by_cases c : rg x < 4503599627370496
  · rw [if_pos c]
    unfold mg ex
    rw [if_pos c, show rg x / 4503599627370496 - 1 = 0 by omega]
    rfl
  · rw [if_neg c, if_pos h2]
    unfold mg ex
    rw [if_neg c]

theorem signed_is (s : Bool) (m e : Nat) : signed s m e = if s then -((m * 2 ^ e : Nat) : Int) else ((m * 2 ^ e : Nat) : Int) := by
  unfold signed; rw [Nat.shiftLeft_eq]
theorem signed_scale (s : Bool) (m e j : Nat) : signed s m e * ((2 ^ j : Nat) : Int) = signed s m (e + j) := by
  rw [signed_is, signed_is, Nat.pow_add, ← Nat.mul_assoc]
  cases s
  · simp
  · simp only [if_true, Int.neg_mul, ← Int.natCast_mul]
theorem va_signed (x : Nat) (b : Nat) (h : b ≤ ex (rg x)) : va x = signed (sg x) (mg (rg x)) (ex (rg x) - b) * ((2 ^ b : Nat) : Int) := by
  rw [signed_scale, signed_is, show ex (rg x) - b + b = ex (rg x) by omega]
  rfl

theorem mul_fi (x y : Nat) (hx : Fi x) (hy : Fi y) : double.mul x y = some (wd (sg x ^^ sg y) (min (rr 1074 (vl (rg x) * vl (rg y))) 9218868437227405312)) := by
  unfold Format.mul
  rw [read_fi x hx, read_fi y hy]
  simp only [Datum.product, Option.map_some, Format.write]
  rw [near_is _ _ _ 1074 (ex (rg x) + ex (rg y)) (by omega)]
  unfold vl
  rw [Nat.pow_add, show mg (rg x) * mg (rg y) * (2 ^ ex (rg x) * 2 ^ ex (rg y)) = mg (rg x) * 2 ^ ex (rg x) * (mg (rg y) * 2 ^ ex (rg y)) by ac_rfl]

/-- The word of a sum whose exact number is V. -/
def sm (n : Bool) (V : Int) : Nat := wd (if V = 0 then n else decide (V < 0)) (min (rr 0 V.natAbs) 9218868437227405312)
theorem two_pos (b : Nat) : (0 : Int) < ((2 ^ b : Nat) : Int) := by have := Nat.two_pow_pos b; omega
theorem sum_core (s t : Bool) (m n a b : Nat) (U V : Int) (hU : U = signed s m a) (hV : V = signed t n b) (c : Nat) (ha : c ≤ a) (hb : c ≤ b) :
    double.write (.number (if signed s m (a - c) + signed t n (b - c) = 0 then s && t else decide (signed s m (a - c) + signed t n (b - c) < 0)) (signed s m (a - c) + signed t n (b - c)).natAbs (-1074 + (c : Int))) = sm (s && t) (U + V) := by
  have e : U + V = (signed s m (a - c) + signed t n (b - c)) * ((2 ^ c : Nat) : Int) := by
    rw [Int.add_mul, signed_scale, signed_scale, show a - c + c = a by omega, show b - c + c = b by omega, hU, hV]
  generalize signed s m (a - c) + signed t n (b - c) = S at *
  have hp := two_pos c
  simp only [Format.write]
  rw [near_is _ _ _ 0 c (by omega)]
  unfold sm
  rw [e, Int.natAbs_mul, Int.natAbs_natCast]
  have h1 : S * ((2 ^ c : Nat) : Int) = 0 ↔ S = 0 := by
    rw [Int.mul_eq_zero]; constructor
    · rintro (h | h)
      · exact h
      · omega
    · exact fun h => .inl h
  have h2 : S * ((2 ^ c : Nat) : Int) < 0 ↔ S < 0 := by
    constructor
    · intro h
      refine Decidable.byContradiction fun g => ?_
      have := Int.mul_nonneg (a := S) (by omega) (Int.le_of_lt hp)
      omega
    · exact fun h => Int.mul_neg_of_neg_of_pos h hp
  simp only [h1, h2]
theorem add_fi (x y : Nat) (hx : Fi x) (hy : Fi y) : double.add x y = some (sm (sg x && sg y) (va x + va y)) := by
  unfold Format.add
  rw [read_fi x hx, read_fi y hy]
  simp only [Datum.sum, Option.map_some]
  generalize hi : ex (rg x) = i
  generalize hj : ex (rg y) = j
  obtain ⟨c, hc, h1, h2⟩ : ∃ c : Nat, min (-1074 + (i : Int)) (-1074 + (j : Int)) = -1074 + (c : Int) ∧ c ≤ i ∧ c ≤ j := ⟨min i j, by omega, by omega, by omega⟩
  rw [hc, show (-1074 + (i : Int) - (-1074 + (c : Int))).toNat = i - c by omega, show (-1074 + (j : Int) - (-1074 + (c : Int))).toNat = j - c by omega]
  have h3 := va_signed x 0 (by omega)
  have h4 := va_signed y 0 (by omega)
  rw [hi] at h3
  rw [hj] at h4
  simp only [Nat.sub_zero, Nat.pow_zero] at h3 h4
  congr 1
  exact sum_core (sg x) (sg y) (mg (rg x)) (mg (rg y)) i j (va x) (va y) (by rw [h3]; simp) (by rw [h4]; simp) c h1 h2
theorem signed_not (s : Bool) (m e : Nat) : signed (!s) m e = - signed s m e := by rw [signed_is, signed_is]; cases s <;> simp
theorem sub_fi (x y : Nat) (hx : Fi x) (hy : Fi y) : double.sub x y = some (sm (sg x && !sg y) (va x - va y)) := by
  unfold Format.sub
  rw [read_fi x hx, read_fi y hy]
  simp only [Datum.opposite, Datum.sum, Option.map_some]
  generalize hi : ex (rg x) = i
  generalize hj : ex (rg y) = j
  obtain ⟨c, hc, h1, h2⟩ : ∃ c : Nat, min (-1074 + (i : Int)) (-1074 + (j : Int)) = -1074 + (c : Int) ∧ c ≤ i ∧ c ≤ j := ⟨min i j, by omega, by omega, by omega⟩
  rw [hc, show (-1074 + (i : Int) - (-1074 + (c : Int))).toNat = i - c by omega, show (-1074 + (j : Int) - (-1074 + (c : Int))).toNat = j - c by omega]
  have h3 := va_signed x 0 (by omega)
  have h4 := va_signed y 0 (by omega)
  rw [hi] at h3
  rw [hj] at h4
  simp only [Nat.sub_zero, Nat.pow_zero] at h3 h4
  congr 1
  rw [Int.sub_eq_add_neg]
  exact sum_core (sg x) (!sg y) (mg (rg x)) (mg (rg y)) i j (va x) (- va y) (by rw [h3]; simp) (by rw [h4, signed_not]; simp) c h1 h2
theorem order_fi (x y : Nat) (hx : Fi x) (hy : Fi y) : double.order x y = some (compare (va x) (va y)) := by
  unfold Format.order
  rw [read_fi x hx, read_fi y hy]
  simp only [Datum.order]
  congr 1
  generalize hi : ex (rg x) = i
  generalize hj : ex (rg y) = j
  obtain ⟨c, hc, h1, h2⟩ : ∃ c : Nat, min (-1074 + (i : Int)) (-1074 + (j : Int)) = -1074 + (c : Int) ∧ c ≤ i ∧ c ≤ j := ⟨min i j, by omega, by omega, by omega⟩
  rw [hc, show (-1074 + (i : Int) - (-1074 + (c : Int))).toNat = i - c by omega, show (-1074 + (j : Int) - (-1074 + (c : Int))).toNat = j - c by omega]
  have h3 := va_signed x c (by omega)
  have h4 := va_signed y c (by omega)
  rw [hi] at h3
  rw [hj] at h4
  rw [h3, h4]
  have hp := two_pos c
  generalize signed (sg x) (mg (rg x)) (i - c) = A
  generalize signed (sg y) (mg (rg y)) (j - c) = B
  rcases Int.lt_trichotomy A B with g | g | g
  · rw [Int.compare_eq_lt.2 g, Int.compare_eq_lt.2 (Int.mul_lt_mul_of_pos_right g hp)]
  · subst g; rw [Int.compare_eq_eq.2 rfl, Int.compare_eq_eq.2 rfl]
  · rw [Int.compare_eq_gt.2 g, Int.compare_eq_gt.2 (Int.mul_lt_mul_of_pos_right g hp)]

/-- The words of powers of two from 1 on. -/
theorem vl_two (k : Nat) : vl ((k + 1023) * 4503599627370496) = 2 ^ (k + 1074) := by
  unfold vl mg ex
  rw [if_neg (by omega), show (k + 1023) * 4503599627370496 / 4503599627370496 - 1 = k + 1022 by omega, show (k + 1023) * 4503599627370496 % 4503599627370496 = 0 by omega, Nat.add_zero, show (4503599627370496 : Nat) = 2 ^ 52 by decide, ← Nat.pow_add, show 52 + (k + 1022) = k + 1074 by omega]
/-- A quotient's digits, with one more that tells whether anything is left over: not above a power of two where the quotient isn't. -/
theorem quo_bd (m n i j k mo Q s e : Nat) (hn : n ≠ 0) (hmo : 54 + n.log2 - m.log2 = mo) (hQ : 2 * (m * 2 ^ mo / n) + (m * 2 ^ mo % n != 0).toNat = Q) (hs : (i : Int) - j - mo - 1 + 1074 + s = e) (hk : m * 2 ^ i ≤ n * 2 ^ j * 2 ^ k) : Q * 2 ^ e ≤ 2 ^ (k + 1074 + s) := by
  by_cases c0 : m = 0
  · subst c0
    have : Q = 0 := by rw [← hQ]; simp
    rw [this, Nat.zero_mul]; exact Nat.zero_le _
  have hl : m.log2 + i ≤ n.log2 + j + k := by
    have h1 := log2_mono _ _ hk
    rw [log2_mul m i c0, Nat.mul_assoc, ← Nat.pow_add, log2_mul n (j + k) hn] at h1
    omega
  obtain ⟨t, ht⟩ : ∃ t : Nat, j + k + mo = t + i := ⟨j + k + mo - i, by omega⟩
  have hd : m * 2 ^ mo ≤ n * 2 ^ t := by
    have h1 : m * 2 ^ i * 2 ^ mo ≤ n * 2 ^ j * 2 ^ k * 2 ^ mo := Nat.mul_le_mul_right _ hk
    have e1 : n * 2 ^ j * 2 ^ k * 2 ^ mo = n * 2 ^ t * 2 ^ i := by
      rw [Nat.mul_assoc n, Nat.mul_assoc n, Nat.mul_assoc n, ← Nat.pow_add, ← Nat.pow_add, ← Nat.pow_add, ht]
    have e2 : m * 2 ^ i * 2 ^ mo = m * 2 ^ mo * 2 ^ i := by ac_rfl
    rw [e1, e2] at h1
    exact Nat.le_of_mul_le_mul_right h1 (Nat.two_pow_pos _)
  have hq : Q ≤ 2 ^ (t + 1) := by
    rw [← hQ, Nat.pow_succ]
    have h1 : m * 2 ^ mo / n ≤ 2 ^ t := Nat.div_le_of_le_mul hd
    by_cases c : m * 2 ^ mo / n = 2 ^ t
    · have h2 := Nat.div_add_mod (m * 2 ^ mo) n
      rw [c] at h2
      have h3 : m * 2 ^ mo % n = 0 := by omega
      rw [h3, c]; simp; omega
    · have := toNat_le (m * 2 ^ mo % n != 0)
      omega
  refine Nat.le_trans (Nat.mul_le_mul_right _ hq) ?_
  rw [← Nat.pow_add]
  exact Nat.pow_le_pow_right (by decide) (by omega)
/-- A quotient: its sign; and where it is not above a power of two, neither is what is rounded. -/
theorem div_fi (x y : Nat) (hx : Fi x) (hy : Fi y) (h0 : rg y ≠ 0) : ∃ r : Nat, double.div x y = some (wd (sg x ^^ sg y) r) ∧ r ≤ 9218868437227405312 ∧ (∀ k : Nat, vl (rg x) ≤ vl (rg y) * 2 ^ k → r ≤ (k + 1023) * 4503599627370496) ∧ (rg x = 0 → r = 0) := by
  have hn : mg (rg y) ≠ 0 := by have := mg_pos (rg y) (by omega); omega
  obtain ⟨mo, hmo⟩ : ∃ mo, 54 + (mg (rg y)).log2 - (mg (rg x)).log2 = mo := ⟨_, rfl⟩
  obtain ⟨Q, hQ⟩ : ∃ Q, 2 * (mg (rg x) * 2 ^ mo / mg (rg y)) + (mg (rg x) * 2 ^ mo % mg (rg y) != 0).toNat = Q := ⟨_, rfl⟩
  have hd : double.div x y = some (double.nearest (sg x ^^ sg y) Q (-1074 + (ex (rg x) : Int) - (-1074 + (ex (rg y) : Int)) - (mo : Int) - 1)) := by
    unfold Format.div
    rw [read_fi x hx, read_fi y hy]
    simp only [Datum.quotient]
    rw [if_neg hn, dF, show 52 + 2 = 54 from rfl, hmo, Nat.shiftLeft_eq, hQ]
    rfl
  obtain ⟨s, e, hs⟩ : ∃ s e : Nat, -1074 + (ex (rg x) : Int) - (-1074 + (ex (rg y) : Int)) - (mo : Int) - 1 + 1074 + s = e := ⟨ex (rg y) + mo + 1, ex (rg x) + 1074, by omega⟩
  rw [near_is _ _ _ s e hs] at hd
  refine ⟨_, hd, Nat.min_le_right _ _, fun k hk => ?_, fun hz => ?_⟩
  · refine Nat.le_trans (Nat.min_le_left _ _) (rr_le _ _ _ ?_)
    rw [vl_two, ← Nat.pow_add]
    exact quo_bd _ _ _ _ k mo Q s e hn hmo hQ (by omega) hk
  · have hm : mg (rg x) = 0 := by rw [hz]; decide
    have : Q = 0 := by rw [← hQ, hm]; simp
    rw [this, Nat.zero_mul, rr_zero]; exact Nat.min_eq_left (by decide)

theorem rep53 (K : Nat) : ∃ r, vl r = 9007199254740992 * 2 ^ K := by
  obtain ⟨r, hr⟩ := rep 4503599627370496 (1 + K) (by decide)
  exact ⟨r, by rw [hr, Nat.pow_add, ← Nat.mul_assoc]⟩
theorem le53 (n K : Nat) (h : n ≤ 9007199254740992) : n * 2 ^ K ≤ 2 ^ (53 + K) := by
  rw [Nat.pow_add]; exact Nat.mul_le_mul_right _ h
/-- Whole numbers as words. -/
theorem int_fi (n : Int) (h : n.natAbs ≤ 9007199254740992) : ∃ r, r < 5000000000000000000 ∧ floatOfInt .f64 n = wd (decide (n < 0)) r ∧ vl r = n.natAbs * 2 ^ 1074 := by
  unfold floatOfInt FloatKind.nearest FloatKind.encode FloatKind.format
  simp only [Format.write]
  rw [near_is _ _ _ 0 1074 (by omega)]
  obtain ⟨r, hr⟩ : ∃ r, vl r = n.natAbs * 2 ^ 1074 := by
    by_cases c : n.natAbs = 9007199254740992
    · rw [c]; exact rep53 1074
    · exact rep _ 1074 (by omega)
  have hb : r ≤ (53 + 1023) * 4503599627370496 := by
    refine le_of_vl ?_
    rw [hr, vl_two 53]
    exact le53 _ 1074 h
  refine ⟨r, by omega, ?_, hr⟩
  have := rr_vl 0 r
  rw [Nat.pow_zero, Nat.mul_one, hr] at this
  rw [this, Nat.min_eq_left (by omega)]
theorem int_va (n : Int) (h : n.natAbs ≤ 9007199254740992) : Fi (floatOfInt .f64 n) ∧ va (floatOfInt .f64 n) = n * ((2 ^ 1074 : Nat) : Int) ∧ sg (floatOfInt .f64 n) = decide (n < 0) ∧ vl (rg (floatOfInt .f64 n)) = n.natAbs * 2 ^ 1074 := by
  obtain ⟨r, hb, h1, h2⟩ := int_fi n h
  rw [h1]
  have hv := va_wd (decide (n < 0)) r (by omega)
  refine ⟨fi_wd _ _ (by omega), ?_, sg_wd _ _ (by omega), by rw [rg_wd _ _ (by omega), h2]⟩
  rw [hv, h2]
  rw [Int.natCast_mul]
  by_cases c : n < 0
  · simp only [c, decide_true, if_true]
    rw [show ((n.natAbs : Nat) : Int) = -n by omega, Int.neg_mul, Int.neg_neg]
  · simp only [c, decide_false, Bool.false_eq_true, if_false]
    rw [show ((n.natAbs : Nat) : Int) = n by omega]
/-- The other sign. -/
theorem neg_is (n : Bool) (r : Nat) (h : r < 9223372036854775808) : wd n r ^^^ 9223372036854775808 = wd (!n) r := by
  have e : (9223372036854775808 : Nat) = 2 ^ 63 := by decide
  unfold wd
  cases n
  · simp only [Bool.false_eq_true, if_false, Bool.not_false, if_true]
    rw [e]
    have := Nat.two_pow_add_eq_or_of_lt (i := 63) (b := r) (by omega) 1
    rw [Nat.mul_one] at this
    rw [this]
    apply Nat.eq_of_testBit_eq
    intro k
    rw [Nat.testBit_xor, Nat.testBit_or]
    by_cases c : k = 63
    · subst c
      have : r.testBit 63 = false := Nat.testBit_lt_two_pow (by omega)
      simp [this]
    · have : (2 ^ 63).testBit k = false := by rw [Nat.testBit_two_pow]; simp; omega
      simp [this]
  · simp only [Bool.false_eq_true, if_false, Bool.not_true, if_true]
    rw [e]
    have := Nat.two_pow_add_eq_or_of_lt (i := 63) (b := r) (by omega) 1
    rw [Nat.mul_one] at this
    rw [this]
    apply Nat.eq_of_testBit_eq
    intro k
    rw [Nat.testBit_xor, Nat.testBit_or]
    by_cases c : k = 63
    · subst c
      have : r.testBit 63 = false := Nat.testBit_lt_two_pow (by omega)
      simp [this]
    · have : (2 ^ 63).testBit k = false := by rw [Nat.testBit_two_pow]; simp; omega
      simp [this]
end Go.Proofs.Ytjpcebnbkdekkaa.Fl

/- Plain facts on words of IEEE 754's double format: products by what is not above 1, sums and their signs, quotients by powers of two, tests against bounds, and whole numbers out of words. -/
namespace Go.Proofs.Ytjpcebnbkdekkaa.Fl
set_option linter.unusedVariables false
open Ieee

/-- The rung of 1. -/
theorem vl_one : vl 4607182418800017408 = 2 ^ 1074 := by
  rw [show (4607182418800017408 : Nat) = (0 + 1023) * 4503599627370496 from rfl, vl_two, Nat.zero_add]
theorem two_shift (m e k K v : Nat) (h : v * 2 ^ k = m * 2 ^ e) : m * 2 ^ 3 * 2 ^ (e + K) = v * 2 ^ (k + (K + 3)) := by
  rw [Nat.pow_add 2 k, ← Nat.mul_assoc, h, Nat.pow_add 2 e, Nat.pow_add 2 K]
  ac_rfl
theorem pow_off (m e k K : Nat) (hK : K ≤ e) (h : m * 2 ^ e ≤ 2 ^ (k + K)) : m * 2 ^ (e - K) ≤ 2 ^ k := by
  rw [show e = e - K + K by omega, Nat.pow_add, Nat.pow_add, ← Nat.mul_assoc] at h
  exact Nat.le_of_mul_le_mul_right h (Nat.two_pow_pos _)
theorem pow_off2 (m e k K : Nat) (hK : e ≤ K) (h : m * 2 ^ e ≤ 2 ^ (k + K)) : m ≤ 2 ^ k * 2 ^ (K - e) := by
  rw [← Nat.pow_add]
  rw [show k + K = k + (K - e) + e by omega, Nat.pow_add 2 (k + (K - e))] at h
  exact Nat.le_of_mul_le_mul_right h (Nat.two_pow_pos _)
theorem mul_pow (a b K : Nat) (h : b ≤ 2 ^ K) : a * b ≤ a * 2 ^ K := Nat.mul_le_mul_left _ h
/-- A product by what is not above 1 is not above the other one. -/
theorem mul_one_le (x y : Nat) (hx : Fi x) (hy : Fi y) (h : rg y ≤ 4607182418800017408) : ∃ r, double.mul x y = some (wd (sg x ^^ sg y) r) ∧ r ≤ rg x := by
  have hr : rr 1074 (vl (rg x) * vl (rg y)) ≤ rg x := by
    refine rr_le _ _ _ (mul_pow _ _ 1074 ?_)
    rw [← vl_one]; exact vl_mono h
  refine ⟨_, mul_fi x y hx hy, Nat.le_trans (Nat.min_le_left _ _) hr⟩
theorem mul_zero (x y : Nat) (hx : Fi x) (hy : Fi y) (h : rg y = 0) : double.mul x y = some (wd (sg x ^^ sg y) 0) := by
  rw [mul_fi x y hx hy, h, show vl 0 = 0 by decide, Nat.mul_zero, rr_zero, Nat.min_eq_left (by decide)]

/-- Sums. -/
theorem sm_fi (n : Bool) (V : Int) (r : Nat) (hr : r < 9218868437227405312) (h : V.natAbs ≤ vl r) : Fi (sm n V) ∧ rg (sm n V) ≤ r ∧ va (sm n V) = if V < 0 then -(vl (rr 0 V.natAbs) : Int) else (vl (rr 0 V.natAbs) : Int) := by
  have h1 : rr 0 V.natAbs ≤ r := rr_le _ _ _ (by rw [Nat.pow_zero, Nat.mul_one]; exact h)
  have h2 : min (rr 0 V.natAbs) 9218868437227405312 = rr 0 V.natAbs := Nat.min_eq_left (by omega)
  unfold sm
  rw [h2]
  refine ⟨fi_wd _ _ (by omega), by rw [rg_wd _ _ (by omega)]; exact h1, ?_⟩
  rw [va_wd _ _ (by omega)]
  by_cases c : V = 0
  · subst c
    rw [show (0 : Int).natAbs = 0 from rfl, rr_zero, show vl 0 = 0 by decide]
    simp
  · rw [if_neg c]
    by_cases d : V < 0
    · rw [if_pos d]; simp [d]
    · rw [if_neg d]; simp [d]
theorem sm_neg (n m : Bool) (V : Int) (r : Nat) (hr : r < 9218868437227405312) (h : V.natAbs ≤ vl r) : va (sm n (-V)) = - va (sm m V) := by
  have h1 := (sm_fi n (-V) r hr (by rw [Int.natAbs_neg]; exact h)).2.2
  have h2 := (sm_fi m V r hr h).2.2
  rw [h1, h2, Int.natAbs_neg]
  by_cases c : V = 0
  · subst c
    rw [show (0 : Int).natAbs = 0 from rfl, rr_zero, show vl 0 = 0 by decide]; simp
  · by_cases d : V < 0
    · rw [if_neg (by omega), if_pos d, Int.neg_neg]
    · rw [if_pos (by omega), if_neg d]

/-- Quotients by powers of two. -/
theorem ex_sub (x k : Nat) (hx : 4503599627370496 ≤ x) (hk : k ≤ ex x) : mg (x - k * 4503599627370496) = mg x ∧ ex (x - k * 4503599627370496) = ex x - k := by
  have h := rung_nor x hx
  have hm := mg_nor x hx
  unfold mg ex at *
  rw [if_neg (by omega)] at *
  constructor
  · rw [if_neg (by omega)]; omega
  · omega
theorem vl_sub (x k : Nat) (hx : 4503599627370496 ≤ x) (hk : k ≤ ex x) : vl (x - k * 4503599627370496) * 2 ^ k = vl x := by
  unfold vl
  rw [(ex_sub x k hx hk).1, (ex_sub x k hx hk).2, Nat.mul_assoc, ← Nat.pow_add]
  congr 2; omega
theorem log_nor (m : Nat) (h : 4503599627370496 ≤ m ∧ m < 9007199254740992) : m.log2 = 52 := (Nat.log2_eq_iff (by omega)).2 ⟨by omega, by omega⟩
theorem two_rd (k : Nat) (hk : k ≤ 1000) : sg ((k + 1023) * 4503599627370496) = false ∧ rg ((k + 1023) * 4503599627370496) = (k + 1023) * 4503599627370496 ∧ Fi ((k + 1023) * 4503599627370496) ∧ mg ((k + 1023) * 4503599627370496) = 4503599627370496 ∧ ex ((k + 1023) * 4503599627370496) = k + 1022 := by
  have hr : rg ((k + 1023) * 4503599627370496) = (k + 1023) * 4503599627370496 := by unfold rg; omega
  refine ⟨by unfold sg; simp; omega, hr, ⟨by omega, by rw [hr]; omega⟩, ?_, ?_⟩
  · unfold mg; rw [if_neg (by omega)]; omega
  · unfold ex; omega
theorem div_two (x k : Nat) (hx : Fi x) (hn : 4503599627370496 ≤ rg x) (hk : k ≤ ex (rg x)) (hk2 : k ≤ 1000) : double.div x ((k + 1023) * 4503599627370496) = some (wd (sg x) (rg x - k * 4503599627370496)) := by
  obtain ⟨t1, t2, t3, t4, t5⟩ := two_rd k hk2
  have hm := mg_nor (rg x) hn
  unfold Format.div
  rw [read_fi x hx, read_fi _ t3, t1, t2, t4, t5]
  simp only [Datum.quotient]
  rw [if_neg (by decide), dF, log_nor _ hm, show (4503599627370496 : Nat).log2 = 52 by decide, show 52 + 2 + 52 - 52 = 54 from rfl, Nat.shiftLeft_eq]
  have e1 : mg (rg x) * 2 ^ 54 / 4503599627370496 = mg (rg x) * 4 := by omega
  have e2 : mg (rg x) * 2 ^ 54 % 4503599627370496 = 0 := by omega
  rw [e1, e2]
  simp only [Option.map_some, Format.write, Bool.xor_false]
  rw [show 2 * (mg (rg x) * 4) + (0 != 0 : Bool).toNat = mg (rg x) * 2 ^ 3 by simp; omega]
  rw [near_is _ _ _ (k + (997 + 3)) (ex (rg x) + 997) (by omega), two_shift _ _ k _ _ (vl_sub _ _ hn hk), rr_vl]
  have hf := hx.2
  rw [Nat.min_eq_left (by omega)]

/-- Words that are no numbers. -/
theorem read_not (x : Nat) (h : x < 18446744073709551616) (h2 : ¬ Fi x) : double.read x = .infinity false ∨ double.read x = .infinity true ∨ ∃ s t, double.read x = .nan s t := by
  have hr : ¬ rg x < 9218868437227405312 := fun g => h2 ⟨h, g⟩
  unfold Format.read
  rw [dB, dS, dI, dL, show x % 9223372036854775808 = rg x from rfl]
  simp only []
  rw [if_neg (by omega), if_neg hr]
  by_cases c : rg x = 9218868437227405312
  · rw [if_pos c]
    cases (x / 9223372036854775808 % 2 == 1)
    · exact .inl rfl
    · exact .inr (.inl rfl)
  · rw [if_neg c]; exact .inr (.inr ⟨_, _, rfl⟩)
def geT (x y : Nat) : Bool := double.order x y == some .gt || double.order x y == some .eq
def leT (x y : Nat) : Bool := double.order x y == some .lt || double.order x y == some .eq
theorem geT_fi (x y : Nat) (hx : Fi x) (hy : Fi y) : geT x y = decide (va y ≤ va x) := by
  unfold geT
  rw [order_fi x y hx hy]
  rcases Int.lt_trichotomy (va x) (va y) with g | g | g
  · rw [Int.compare_eq_lt.2 g]; simp; omega
  · rw [Int.compare_eq_eq.2 g]; simp; omega
  · rw [Int.compare_eq_gt.2 g]; simp; omega
theorem leT_fi (x y : Nat) (hx : Fi x) (hy : Fi y) : leT x y = decide (va x ≤ va y) := by
  unfold leT
  rw [order_fi x y hx hy]
  rcases Int.lt_trichotomy (va x) (va y) with g | g | g
  · rw [Int.compare_eq_lt.2 g]; simp; omega
  · rw [Int.compare_eq_eq.2 g]; simp; omega
  · rw [Int.compare_eq_gt.2 g]; simp; omega
/-- What is not below one number and not above another one is a number. -/
theorem both_fi (x lo hi : Nat) (hx : x < 18446744073709551616) (hl : Fi lo) (hh : Fi hi) (h1 : geT x lo = true) (h2 : leT x hi = true) : Fi x := by
  refine Classical.byContradiction fun g => ?_
  unfold geT Format.order at h1
  unfold leT Format.order at h2
  rw [read_fi _ hl] at h1
  rw [read_fi _ hh] at h2
  rcases read_not x hx g with c | c | ⟨s, t, c⟩
  · rw [c] at h2; simp [Datum.order] at h2
  · rw [c] at h1; simp [Datum.order] at h1
  · rw [c] at h1; simp [Datum.order] at h1
theorem rg_le (x k : Nat) (h : (va x).natAbs ≤ 2 ^ (k + 1074)) : rg x ≤ (k + 1023) * 4503599627370496 := by
  rw [va_abs] at h
  refine le_of_vl ?_
  rw [vl_two]; exact h

/-- The whole number in front of a word's point. -/
theorem cut_zero_le (s : Bool) (n d B : Nat) (h : n ≤ B * 2 ^ d) : Toward.zero.cut s n d ≤ B := by
  unfold Toward.cut
  simp only [Bool.toNat_false, Nat.add_zero, Nat.shiftLeft_eq, Nat.one_mul]
  rcases Nat.le_total d (n.log2 + 2) with g | g
  · rw [Nat.min_eq_left g]
    exact Nat.div_le_of_le_mul (by rw [Nat.mul_comm]; exact h)
  · rw [Nat.min_eq_right g]
    have h1 := log2_lt n
    have h2 : 2 ^ (n.log2 + 1) ≤ 2 ^ (n.log2 + 2) := Nat.pow_le_pow_right (by decide) (by omega)
    rw [Nat.div_eq_of_lt (by omega)]
    exact Nat.zero_le _
theorem toInt_fi (x k : Nat) (hx : Fi x) (h : rg x ≤ (k + 1023) * 4503599627370496) : ∃ q : Nat, q ≤ 2 ^ k ∧ (double.read x).toInt .zero = some (if sg x then -(q : Int) else (q : Int)) := by
  rw [read_fi x hx]
  have hv : mg (rg x) * 2 ^ ex (rg x) ≤ 2 ^ (k + 1074) := by
    have := vl_mono h
    rw [vl_two] at this; exact this
  simp only [Datum.toInt, Datum.integral]
  generalize mg (rg x) = m at *
  generalize ex (rg x) = e at *
  rw [signed_is, Nat.pow_zero, Nat.mul_one]
  refine ⟨_, ?_, rfl⟩
  refine cut_zero_le _ _ _ _ ?_
  rw [Nat.shiftLeft_eq]
  rcases Nat.le_total e 1074 with g | g
  · rw [show (-1074 + (e : Int)).toNat = 0 by omega, show (-(-1074 + (e : Int))).toNat = 1074 - e by omega, Nat.pow_zero, Nat.mul_one]
    exact pow_off2 _ _ _ _ g hv
  · rw [show (-1074 + (e : Int)).toNat = e - 1074 by omega, show (-(-1074 + (e : Int))).toNat = 0 by omega, Nat.pow_zero, Nat.mul_one]
    exact pow_off _ _ _ _ g hv
theorem toInt_u32 (x : Nat) (hx : Fi x) (h : rg x ≤ (31 + 1023) * 4503599627370496) (hs : sg x = false ∨ rg x = 0) : ∃ n : Int, 0 ≤ n ∧ n ≤ 2147483648 ∧ floatToIntVal .f64 x .u32 = some n := by
  unfold floatToIntVal FloatKind.decode FloatKind.format
  simp only []
  rcases hs with c | c
  · obtain ⟨q, h1, h2⟩ := toInt_fi x 31 hx h
    rw [c] at h2
    simp only [Bool.false_eq_true, if_false] at h2
    rw [h2]
    refine ⟨q, by omega, by omega, ?_⟩
    simp only []
    rw [if_pos ⟨by rw [show IntKind.u32.min = 0 by decide]; omega, by rw [show IntKind.u32.max = 4294967295 by decide]; omega⟩]
  · have hz : (double.read x).toInt .zero = some 0 := by
      rw [read_fi x hx, c]
      simp only [Datum.toInt, Datum.integral]
      rw [show mg 0 = 0 by decide]
      have : ∀ a d, Toward.zero.cut (sg x) (0 <<< a) d = 0 := fun a d => by
        rw [Nat.zero_shiftLeft]
        have := cut_zero_le (sg x) 0 d 0 (by omega)
        omega
      rw [this, signed_is]; cases sg x <;> rfl
    rw [hz]
    refine ⟨0, by omega, by omega, ?_⟩
    simp only []
    rw [if_pos ⟨by decide, by decide⟩]
end Go.Proofs.Ytjpcebnbkdekkaa.Fl

/- Floats as what can be told of them: none where a word is no number. Sums, differences, products of these; the sign of nought; the other sign. -/
namespace Go.Proofs.Ytjpcebnbkdekkaa.Fl
set_option linter.unusedVariables false
set_option linter.unusedSimpArgs false
open Ieee

/-- A word is no number. -/
def nn (x : Nat) : Bool := (double.read x).isNaN
/-- What can be told of a word. -/
def ab (x : Nat) : Option Nat := if nn x then none else some x
def o2 (f : Nat → Nat → Option Nat) (a b : Option Nat) : Option Nat := a.bind fun x => b.bind fun y => f x y
def om := o2 double.mul
def oa := o2 double.add
def os := o2 double.sub
theorem nn_read {x : Nat} (h : nn x = true) : ∃ s t, double.read x = .nan s t := by
  unfold nn Datum.isNaN at h
  cases hr : double.read x with
  | nan s t => exact ⟨s, t, rfl⟩
  | number a b c => rw [hr] at h; simp at h
  | infinity a => rw [hr] at h; simp at h
theorem mul_ab (x y : Nat) : double.mul x y = om (ab x) (ab y) := by
  unfold om o2 ab
  cases hx : nn x
  · cases hy : nn y
    · rfl
    · obtain ⟨s, t, h⟩ := nn_read hy
      simp only [Bool.false_eq_true, if_false, if_true, Option.bind]
      unfold Format.mul; rw [h]; cases double.read x <;> rfl
  · obtain ⟨s, t, h⟩ := nn_read hx
    simp only [if_true, Option.bind]
    unfold Format.mul; rw [h]; cases double.read y <;> rfl
theorem add_ab (x y : Nat) : double.add x y = oa (ab x) (ab y) := by
  unfold oa o2 ab
  cases hx : nn x
  · cases hy : nn y
    · rfl
    · obtain ⟨s, t, h⟩ := nn_read hy
      simp only [Bool.false_eq_true, if_false, if_true, Option.bind]
      unfold Format.add; rw [h]; cases double.read x <;> rfl
  · obtain ⟨s, t, h⟩ := nn_read hx
    simp only [if_true, Option.bind]
    unfold Format.add; rw [h]; cases double.read y <;> rfl
theorem sub_ab (x y : Nat) : double.sub x y = os (ab x) (ab y) := by
  unfold os o2 ab
  cases hx : nn x
  · cases hy : nn y
    · rfl
    · obtain ⟨s, t, h⟩ := nn_read hy
      simp only [Bool.false_eq_true, if_false, if_true, Option.bind]
      unfold Format.sub; rw [h]; cases double.read x <;> rfl
  · obtain ⟨s, t, h⟩ := nn_read hx
    simp only [if_true, Option.bind]
    unfold Format.sub; rw [h]; cases double.read y <;> rfl
/-- What the tape tells where an operation has no number. -/
def cutN (t : Nat) : Nat := (t % 2) * 2 ^ 63 + 0x7ff0000000000000 + 1 + (t / 2) % (2 ^ 52 - 1)
theorem read_hi (x : Nat) (h1 : x < 18446744073709551616) (h2 : 9218868437227405312 < rg x) : nn x = true := by
  have : double.read x = .nan (x / 9223372036854775808 % 2 == 1) (rg x - 9218868437227405312) := by
    unfold Format.read
    rw [dB, dS, dI, dL]
    show (if rg x < 4503599627370496 then _ else _) = _
    rw [if_neg (by omega), if_neg (by show ¬ rg x < _; omega), if_neg (by show ¬ rg x = _; omega)]
    rfl
  unfold nn; rw [this]; rfl
theorem cutN_nn (t : Nat) : nn (cutN t) = true ∧ cutN t < 18446744073709551616 := by
  have h1 : cutN t < 18446744073709551616 := by unfold cutN; omega
  refine ⟨read_hi _ h1 ?_, h1⟩
  have : t % 2 = 0 ∨ t % 2 = 1 := by omega
  have h3 : t / 2 % (2 ^ 52 - 1) < 2 ^ 52 - 1 := Nat.mod_lt _ (by decide)
  unfold rg cutN
  generalize t / 2 % (2 ^ 52 - 1) = q at *
  rcases this with e | e
  · rw [e]; omega
  · rw [e]; omega
theorem nn_of (x : Nat) (h : nn x = true) : 9218868437227405312 < rg x := by
  unfold nn Format.read at h
  rw [dB, dS, dI, dL] at h
  have e : x % 9223372036854775808 = rg x := rfl
  rw [e] at h
  by_cases c : rg x < 4503599627370496
  · simp [c, Datum.isNaN] at h
  · by_cases d : rg x < 9218868437227405312
    · simp [c, d, Datum.isNaN] at h
    · by_cases e : rg x = 9218868437227405312
      · simp [c, d, e, Datum.isNaN] at h
      · omega
/-- A number that is written is one. -/
theorem near_lt (n : Bool) (m : Nat) (p : Int) : ∃ r, double.nearest n m p = wd n r ∧ r ≤ 9218868437227405312 ∧ ∀ n', double.nearest n' m p = wd n' r := by
  by_cases c : m = 0
  · exact ⟨0, by unfold Format.nearest; rw [if_pos c, word_is], by omega, fun n' => by unfold Format.nearest; rw [if_pos c, word_is]⟩
  · refine ⟨min ((max (p + m.log2 - double.fractionBits) double.leastPlace - double.leastPlace).toNat * double.binade + ct (m <<< (p - max (p + m.log2 - double.fractionBits) double.leastPlace).toNat) (max (p + m.log2 - double.fractionBits) double.leastPlace - p).toNat) double.infRung, ?_, ?_, fun n' => ?_⟩
    · unfold Format.nearest; rw [if_neg c, word_is]
      simp only [cut_all]
    · rw [dI]; exact Nat.min_le_right _ _
    · unfold Format.nearest; rw [if_neg c, word_is]
      simp only [cut_all]
/-- A datum that is no 'no number' is written as one that is none, and its opposite as the other sign. -/
theorem write_ok (d : Datum) (h : d.isNaN = false) : ∃ n r, double.write d = wd n r ∧ r ≤ 9218868437227405312 ∧ double.write d.opposite = wd (!n) r := by
  cases d with
  | nan s t => simp [Datum.isNaN] at h
  | infinity s => exact ⟨s, 9218868437227405312, by show double.word s double.infRung = _; rw [word_is, dI], Nat.le_refl _, by show double.word (!s) double.infRung = _; rw [word_is, dI]⟩
  | number s m e =>
    obtain ⟨r, h1, h2, h3⟩ := near_lt s m e
    exact ⟨s, r, h1, h2, h3 (!s)⟩
theorem nn_wd (n : Bool) (r : Nat) (h : r ≤ 9218868437227405312) : nn (wd n r) = false ∧ wd n r < 18446744073709551616 := by
  refine ⟨?_, by unfold wd; cases n <;> simp <;> omega⟩
  cases hc : nn (wd n r) with
  | false => rfl
  | true => have := nn_of _ hc; rw [rg_wd _ _ (by omega)] at this; omega
theorem sum_nn {d e f : Datum} (h : d.sum e = some f) : f.isNaN = false := by
  cases d <;> cases e <;> simp [Datum.sum] at h
  · rw [← h]; rfl
  · rw [← h]; rfl
  · rw [← h]; rfl
  · rw [← h.2]; rfl
theorem product_nn {d e f : Datum} (h : d.product e = some f) : f.isNaN = false := by
  cases d <;> cases e <;> simp [Datum.product] at h
  · rw [← h]; rfl
  · rw [← h.2]; rfl
  · rw [← h.2]; rfl
  · rw [← h]; rfl
theorem op_ok {d : Option Datum} (hd : ∀ f, d = some f → f.isNaN = false) {r : Nat} (h : d.map double.write = some r) : ab r = some r ∧ r < 18446744073709551616 := by
  cases d with
  | none => simp at h
  | some f =>
    obtain ⟨n, q, h1, h2, h3⟩ := write_ok f (hd f rfl)
    simp at h
    rw [h1] at h
    obtain ⟨g1, g2⟩ := nn_wd n q h2
    rw [← h]
    exact ⟨by unfold ab; rw [g1]; rfl, g2⟩
theorem mul_some {x y r : Nat} (h : double.mul x y = some r) : ab r = some r ∧ r < 18446744073709551616 := op_ok (fun f hf => product_nn hf) h
theorem add_some {x y r : Nat} (h : double.add x y = some r) : ab r = some r ∧ r < 18446744073709551616 := op_ok (fun f hf => sum_nn hf) h
theorem sub_some {x y r : Nat} (h : double.sub x y = some r) : ab r = some r ∧ r < 18446744073709551616 := op_ok (fun f hf => sum_nn hf) h
end Go.Proofs.Ytjpcebnbkdekkaa.Fl

/- The sign of nought, the other sign, the order, as far as they can be told. -/
namespace Go.Proofs.Ytjpcebnbkdekkaa.Fl
set_option linter.unusedVariables false
set_option linter.unusedSimpArgs false
open Ieee

/-- Nought without its sign. -/
def z1 (x : Nat) : Nat := if x = 9223372036854775808 then 0 else x
def oz (a : Option Nat) : Option Nat := a.map z1
theorem read_0 : double.read 0 = .number false 0 (-1074) := by decide
theorem read_n0 : double.read 9223372036854775808 = .number true 0 (-1074) := by decide
theorem z1_wd0 (n : Bool) : z1 (wd n 0) = 0 := by cases n <;> rfl
theorem z1_0 {x : Nat} (h : z1 x ≠ x) : x = 9223372036854775808 := by
  unfold z1 at h
  by_cases c : x = 9223372036854775808
  · exact c
  · rw [if_neg c] at h; exact absurd rfl h
theorem near_0 (n : Bool) (p : Int) : double.nearest n 0 p = wd n 0 := by unfold Format.nearest; rw [if_pos rfl, word_is]
theorem mul_z (y : Nat) : oz (double.mul 0 y) = oz (double.mul 9223372036854775808 y) := by
  unfold Format.mul
  rw [read_0, read_n0]
  cases double.read y with
  | nan s t => rfl
  | infinity s => rfl
  | number s m e =>
    show oz (some (double.nearest _ (0 * m) _)) = oz (some (double.nearest _ (0 * m) _))
    rw [Nat.zero_mul, near_0, near_0]
    show some (z1 _) = some (z1 _)
    rw [z1_wd0, z1_wd0]
theorem mul_z' (x : Nat) : oz (double.mul x 0) = oz (double.mul x 9223372036854775808) := by
  unfold Format.mul
  rw [read_0, read_n0]
  cases double.read x with
  | nan s t => rfl
  | infinity s => rfl
  | number s m e =>
    show oz (some (double.nearest _ (m * 0) _)) = oz (some (double.nearest _ (m * 0) _))
    rw [Nat.mul_zero, near_0, near_0]
    show some (z1 _) = some (z1 _)
    rw [z1_wd0, z1_wd0]
theorem signed_z (s : Bool) (e : Nat) : signed s 0 e = 0 := by unfold signed; rw [Nat.zero_shiftLeft]; cases s <;> rfl
theorem sum_zz (s t : Bool) (d : Datum) (p : Int) : oz ((Datum.sum (.number s 0 p) d).map double.write) = oz ((Datum.sum (.number t 0 p) d).map double.write) := by
  cases d with
  | nan s t => rfl
  | infinity s => rfl
  | number u m e =>
    unfold Datum.sum
    simp only [signed_z, Int.zero_add]
    by_cases c : signed u m (e - min p e).toNat = 0
    · rw [if_pos c, if_pos c, c]
      show oz (some (double.nearest _ 0 _)) = oz (some (double.nearest _ 0 _))
      rw [near_0, near_0]
      show some (z1 _) = some (z1 _)
      rw [z1_wd0, z1_wd0]
    · rw [if_neg c, if_neg c]
theorem sum_zz' (s t : Bool) (d : Datum) (p : Int) : oz ((Datum.sum d (.number s 0 p)).map double.write) = oz ((Datum.sum d (.number t 0 p)).map double.write) := by
  cases d with
  | nan s t => rfl
  | infinity s => rfl
  | number u m e =>
    unfold Datum.sum
    simp only [signed_z, Int.add_zero]
    by_cases c : signed u m (e - min e p).toNat = 0
    · rw [if_pos c, if_pos c, c]
      show oz (some (double.nearest _ 0 _)) = oz (some (double.nearest _ 0 _))
      rw [near_0, near_0]
      show some (z1 _) = some (z1 _)
      rw [z1_wd0, z1_wd0]
    · rw [if_neg c, if_neg c]
theorem add_z (y : Nat) : oz (double.add 0 y) = oz (double.add 9223372036854775808 y) := by
  unfold Format.add; rw [read_0, read_n0]; exact sum_zz _ _ _ _
theorem add_z' (x : Nat) : oz (double.add x 0) = oz (double.add x 9223372036854775808) := by
  unfold Format.add; rw [read_0, read_n0]; exact sum_zz' _ _ _ _
theorem sub_z (y : Nat) : oz (double.sub 0 y) = oz (double.sub 9223372036854775808 y) := by
  unfold Format.sub; rw [read_0, read_n0]; exact sum_zz _ _ _ _
theorem sub_z' (x : Nat) : oz (double.sub x 0) = oz (double.sub x 9223372036854775808) := by
  unfold Format.sub; rw [read_0, read_n0]; exact sum_zz' _ _ _ _
theorem cong_z {f : Nat → Nat → Option Nat} (h1 : ∀ y, oz (f 0 y) = oz (f 9223372036854775808 y)) (h2 : ∀ x, oz (f x 0) = oz (f x 9223372036854775808)) (a b : Option Nat) : oz (o2 f a b) = oz (o2 f (oz a) (oz b)) := by
  cases a with
  | none => rfl
  | some x =>
    cases b with
    | none => rfl
    | some y =>
      show oz (f x y) = oz (f (z1 x) (z1 y))
      have e1 : oz (f x y) = oz (f (z1 x) y) := by
        by_cases c : z1 x = x
        · rw [c]
        · obtain rfl := z1_0 c; exact (h1 y).symm
      rw [e1]
      by_cases c : z1 y = y
      · rw [c]
      · obtain rfl := z1_0 c; exact (h2 _).symm
theorem om_z (a b : Option Nat) : oz (om a b) = oz (om (oz a) (oz b)) := cong_z mul_z mul_z' a b
theorem oa_z (a b : Option Nat) : oz (oa a b) = oz (oa (oz a) (oz b)) := cong_z add_z add_z' a b
theorem os_z (a b : Option Nat) : oz (os a b) = oz (os (oz a) (oz b)) := cong_z sub_z sub_z' a b
/-- The other sign. -/
def ng' (x : Nat) : Nat := if x < 9223372036854775808 then x + 9223372036854775808 else x - 9223372036854775808
def og (a : Option Nat) : Option Nat := a.map ng'
theorem ng_wd (n : Bool) (r : Nat) (h : r < 9223372036854775808) : ng' (wd n r) = wd (!n) r := by
  unfold ng' wd
  cases n
  · show (if r < 9223372036854775808 then r + 9223372036854775808 else r - 9223372036854775808) = 9223372036854775808 + r
    rw [if_pos h]; omega
  · show (if 9223372036854775808 + r < 9223372036854775808 then 9223372036854775808 + r + 9223372036854775808 else 9223372036854775808 + r - 9223372036854775808) = r
    rw [if_neg (by omega)]; omega
theorem ng_xor (x : Nat) (h : x < 18446744073709551616) : x ^^^ 9223372036854775808 = ng' x := by
  have hr : rg x < 9223372036854775808 := Nat.mod_lt _ (by decide)
  have := neg_is (sg x) (rg x) hr
  rw [wd_self x h] at this
  rw [this, ← ng_wd _ _ hr, wd_self x h]
theorem read_ng (x : Nat) (h : x < 18446744073709551616) : double.read (ng' x) = (double.read x).opposite := by
  have hr : (ng' x) % 9223372036854775808 = x % 9223372036854775808 := by unfold ng'; split <;> omega
  have hs : (ng' x / 9223372036854775808 % 2 == 1) = !(x / 9223372036854775808 % 2 == 1) := by
    unfold ng'
    by_cases c : x < 9223372036854775808
    · rw [if_pos c, show (x + 9223372036854775808) / 9223372036854775808 = 1 by omega, show x / 9223372036854775808 = 0 by omega]; rfl
    · rw [if_neg c, show (x - 9223372036854775808) / 9223372036854775808 = 0 by omega, show x / 9223372036854775808 = 1 by omega]; rfl
  unfold Format.read
  rw [dS, dB, dI, dL]
  simp only [hr, hs]
  generalize x % 9223372036854775808 = r
  generalize (x / 9223372036854775808 % 2 == 1) = b
  by_cases c1 : r < 4503599627370496
  · rw [if_pos c1, if_pos c1]; rfl
  · rw [if_neg c1, if_neg c1]
    by_cases c2 : r < 9218868437227405312
    · rw [if_pos c2, if_pos c2]; rfl
    · rw [if_neg c2, if_neg c2]
      by_cases c3 : r = 9218868437227405312
      · rw [if_pos c3, if_pos c3]; rfl
      · rw [if_neg c3, if_neg c3]; rfl
theorem nn_ng (x : Nat) (h : x < 18446744073709551616) : nn (ng' x) = nn x := by
  unfold nn; rw [read_ng x h]; cases double.read x <;> rfl
theorem ab_ng (x : Nat) (h : x < 18446744073709551616) : ab (ng' x) = og (ab x) := by
  unfold ab; rw [nn_ng x h]; cases nn x <;> rfl
theorem ng_lt (x : Nat) (h : x < 18446744073709551616) : ng' x < 18446744073709551616 := by unfold ng'; split <;> omega
theorem opp_opp (d : Datum) : d.opposite.opposite = d := by cases d <;> simp [Datum.opposite]
theorem signed_opp (s : Bool) (m e : Nat) : signed (!s) m e = - signed s m e := signed_not s m e
theorem write_opp (d : Option Datum) (h : ∀ f, d = some f → f.isNaN = false) : (d.map Datum.opposite).map double.write = og (d.map double.write) := by
  cases d with
  | none => rfl
  | some f =>
    obtain ⟨n, r, h1, h2, h3⟩ := write_ok f (h f rfl)
    show some (double.write f.opposite) = some (ng' (double.write f))
    rw [h1, h3, ng_wd n r (by omega)]
theorem prod_opp (d e : Datum) : Datum.product d.opposite e = (Datum.product d e).map Datum.opposite := by
  cases d with
  | nan s t => rfl
  | infinity s => cases e with
    | nan s t => rfl
    | infinity t => simp [Datum.opposite, Datum.product]
    | number t n j => simp only [Datum.opposite, Datum.product]; by_cases c : n = 0 <;> simp [c, Datum.opposite]
  | number s m i => cases e with
    | nan s t => rfl
    | infinity t => simp only [Datum.opposite, Datum.product]; by_cases c : m = 0 <;> simp [c, Datum.opposite]
    | number t n j => simp [Datum.opposite, Datum.product]
theorem mul_ng (c x : Nat) (h : x < 18446744073709551616) : double.mul c (ng' x) = og (double.mul c x) := by
  unfold Format.mul
  rw [read_ng x h, ← write_opp _ (fun f hf => product_nn hf)]
  congr 1
  generalize double.read c = d
  generalize double.read x = e
  cases d with
  | nan s t => cases e <;> rfl
  | infinity s => cases e with
    | nan s t => rfl
    | infinity t => simp [Datum.opposite, Datum.product]
    | number t n j => simp only [Datum.opposite, Datum.product]; by_cases c : n = 0 <;> simp [c, Datum.opposite]
  | number s m i => cases e with
    | nan s t => rfl
    | infinity t => simp only [Datum.opposite, Datum.product]; by_cases c : m = 0 <;> simp [c, Datum.opposite]
    | number t n j => simp [Datum.opposite, Datum.product]
theorem z1_ng0 (n m : Bool) : z1 (wd n 0) = z1 (ng' (wd m 0)) := by cases n <;> cases m <;> decide
theorem sum_opp (d e : Datum) : oz ((Datum.sum d.opposite e.opposite).map double.write) = oz (og ((Datum.sum d e).map double.write)) := by
  cases d with
  | nan s t => rfl
  | infinity s => cases e with
    | nan s t => rfl
    | infinity t =>
      by_cases c : s = t
      · subst c
        simp only [Datum.opposite, Datum.sum, if_true, Option.map]
        show some (z1 (double.word (!s) double.infRung)) = some (z1 (ng' (double.word s double.infRung)))
        rw [dI, word_is, word_is, ng_wd _ _ (by omega)]
      · have c' : ¬ (!s) = (!t) := fun h => c (by cases s <;> cases t <;> simp_all)
        simp [Datum.opposite, Datum.sum, c, c', oz, og]
    | number t n j =>
      show some (z1 (double.word (!s) double.infRung)) = some (z1 (ng' (double.word s double.infRung)))
      rw [dI, word_is, word_is, ng_wd _ _ (by omega)]
  | number s m i => cases e with
    | nan s t => rfl
    | infinity t =>
      show some (z1 (double.word (!t) double.infRung)) = some (z1 (ng' (double.word t double.infRung)))
      rw [dI, word_is, word_is, ng_wd _ _ (by omega)]
    | number t n j =>
      simp only [Datum.opposite, Datum.sum, signed_opp]
      rw [show (-signed s m (i - min i j).toNat + -signed t n (j - min i j).toNat) = -(signed s m (i - min i j).toNat + signed t n (j - min i j).toNat) by omega]
      generalize signed s m (i - min i j).toNat + signed t n (j - min i j).toNat = T
      by_cases c : T = 0
      · subst c
        show some (z1 (double.nearest _ 0 _)) = some (z1 (ng' (double.nearest _ 0 _)))
        rw [near_0, near_0]
        exact congrArg some (z1_ng0 _ _)
      · rw [if_neg c, if_neg (by omega), Int.natAbs_neg]
        show some (z1 (double.nearest _ _ _)) = some (z1 (ng' (double.nearest _ _ _)))
        obtain ⟨r, h1, h2, h3⟩ := near_lt (decide (T < 0)) T.natAbs (min i j)
        rw [h1, h3, ng_wd _ _ (by omega)]
        congr 3
        by_cases d : T < 0
        · simp [d]; omega
        · simp [d]; omega
theorem add_ng (x y : Nat) (hx : x < 18446744073709551616) (hy : y < 18446744073709551616) : oz (double.add (ng' x) (ng' y)) = oz (og (double.add x y)) := by
  unfold Format.add; rw [read_ng x hx, read_ng y hy]; exact sum_opp _ _
theorem sub_ng (x y : Nat) (hx : x < 18446744073709551616) (hy : y < 18446744073709551616) : oz (double.sub (ng' x) (ng' y)) = oz (og (double.sub x y)) := by
  unfold Format.sub; rw [read_ng x hx, read_ng y hy]; exact sum_opp _ _
end Go.Proofs.Ytjpcebnbkdekkaa.Fl

/- Plain facts on the quarter's numbers, the circle's and the sine, as words of IEEE 754's double format. -/
namespace Go.Proofs.Ytjpcebnbkdekkaa.Vo
set_option linter.unusedVariables false
open Ieee Fl

/-- Both parts of the points that lie a turn behind each other. -/
def tre : List Nat := [4607182418800017408, 4607179706000002317, 4607171569234046334, 4607158013403433019, 4607139046673687847, 4607114680469659605, 4607084929468638489, 4607049811591515052, 4607009347991985331, 4606963563043808652, 4606912484326125786, 4606856142606846310, 4606794571824115166, 4606727809065869589, 4606655894547498728, 4606578871587619392, 4606496786581982538, 4606409688975526206, 4606317631232591735, 4606220668805321210, 4606118860100255158, 4606012266443150639, 4605900952042040899, 4605784983948558853, 4605664432017547689, 4605539368864982920, 4605409869824231239, 4605276012900672514, 4605137878724712264, 4604995550503212917, 4604849113969373110, 4604698657331085213, 4604544271217802196, 4604386048625945830, 4604224084862889126, 4604058477489546736, 4603889326261607901, 4603716733069447360, 4603540801876750395, 4603361638657888997, 4603179351334086863, 4602994049708411689, 4602805845399633908, 4602550884377336518, 4602163548591158855, 4601771097584682090, 4601373767755717836, 4600971798440897942, 4600565431771507055, 4600154912527631787, 4599740487990714345, 4599322407794599437, 4598900923775164177, 4598476289818621571, 4597922303871901489, 4597061974398750584, 4596196889902818847, 4595327571478659033, 4594454542771183948, 4593485039402578736, 4591727299969791051, 4589965306122607122, 4587232218149935175, 4582730748936808155]
def tim : List Nat := [0, 4582730748936808062, 4587232218149935124, 4589965306122607094, 4591727299969791020, 4593485039402578702, 4594454542771183930, 4595327571478659015, 4596196889902818828, 4597061974398750565, 4597922303871901469, 4598476289818621561, 4598900923775164167, 4599322407794599427, 4599740487990714335, 4600154912527631777, 4600565431771507045, 4600971798440897933, 4601373767755717828, 4601771097584682082, 4602163548591158848, 4602550884377336511, 4602805845399633904, 4602994049708411685, 4603179351334086860, 4603361638657888994, 4603540801876750392, 4603716733069447356, 4603889326261607897, 4604058477489546732, 4604224084862889123, 4604386048625945827, 4604544271217802193, 4604698657331085211, 4604849113969373108, 4604995550503212915, 4605137878724712262, 4605276012900672513, 4605409869824231239, 4605539368864982920, 4605664432017547689, 4605784983948558854, 4605900952042040900, 4606012266443150640, 4606118860100255160, 4606220668805321213, 4606317631232591739, 4606409688975526210, 4606496786581982543, 4606578871587619398, 4606655894547498734, 4606727809065869596, 4606794571824115173, 4606856142606846318, 4606912484326125795, 4606963563043808661, 4607009347991985341, 4607049811591515062, 4607084929468638499, 4607114680469659616, 4607139046673687859, 4607158013403433031, 4607171569234046347, 4607179706000002330]
def re (i : Nat) : Nat := tre.getD i 0
def im (i : Nat) : Nat := tim.getD i 0
abbrev wc : Nat := 4607179706000002317
abbrev wd' : Nat := 4582730748936808062
/-- The quarter. -/
def qr (i : Nat) : Nat := if i = 64 then 4607182418800017408 else im i
def stepB (i : Nat) : Bool := double.mul (re i) wc == some ((double.mul (re i) wc).getD 0) && double.mul (im i) wd' == some ((double.mul (im i) wd').getD 0) && double.sub ((double.mul (re i) wc).getD 0) ((double.mul (im i) wd').getD 0) == some (re (i + 1)) && (double.mul (re i) wd' == some ((double.mul (re i) wd').getD 0)) && (double.mul (im i) wc == some ((double.mul (im i) wc).getD 0)) && (double.add ((double.mul (re i) wd').getD 0) ((double.mul (im i) wc).getD 0) == some (im (i + 1)))
theorem steps_ok : (List.range 63).all stepB = true := by decide +kernel
theorem tab_re : re 0 = 4607182418800017408 ∧ im 0 = 0 := by decide +kernel
/-- One turn more. -/
theorem turn_ok (i : Nat) (h : i < 63) : ∃ a b c d, double.mul (re i) wc = some a ∧ double.mul (im i) wd' = some b ∧ double.sub a b = some (re (i + 1)) ∧ double.mul (re i) wd' = some c ∧ double.mul (im i) wc = some d ∧ double.add c d = some (im (i + 1)) := by
  have := List.all_eq_true.1 steps_ok i (by simp; omega)
  unfold stepB at this
  simp only [Bool.and_eq_true, beq_iff_eq] at this
  obtain ⟨⟨⟨⟨⟨h1, h2⟩, h3⟩, h4⟩, h5⟩, h6⟩ := this
  exact ⟨_, _, _, _, h1, h2, h3, h4, h5, h6⟩
/-- The circle. -/
def ng (x : Nat) : Nat := x ^^^ 9223372036854775808
def cr (k : Nat) : Nat := if k ≤ 64 then qr k else if k ≤ 128 then qr (128 - k) else if k ≤ 192 then ng (qr (k - 128)) else ng (qr (256 - k))
def nx (k : Nat) : Nat := (k + 1) % 256
def dk (k : Nat) : Nat := (double.sub (cr (nx k)) (cr k)).getD 0
def tabB (k : Nat) : Bool :=
  decide (cr k < 18446744073709551616) && decide (rg (cr k) ≤ 4607182418800017408) && decide (dk k < 18446744073709551616) && decide (rg (dk k) ≤ 4607182418800017408) && decide (rg (dk k) ≠ 0) &&
  decide (double.sub (cr (nx k)) (cr k) = some (dk k)) && decide ((va (cr k)).natAbs ≤ vl 4607182418800017408) && decide ((va (cr k) + va (dk k)).natAbs ≤ vl 4607182418800017408) &&
  decide (va (cr ((k + 128) % 256)) = - va (cr k)) && decide (sg (dk ((k + 128) % 256)) = !sg (dk k)) && decide (rg (dk ((k + 128) % 256)) = rg (dk k))
theorem tab_ok : (List.range 256).all tabB = true := by decide +kernel
structure Tb (k : Nat) : Prop where
  c1 : Fi (cr k)
  c2 : rg (cr k) ≤ 4607182418800017408
  d1 : Fi (dk k)
  d2 : rg (dk k) ≤ 4607182418800017408
  d3 : rg (dk k) ≠ 0
  s1 : double.sub (cr (nx k)) (cr k) = some (dk k)
  v1 : (va (cr k)).natAbs ≤ vl 4607182418800017408
  v2 : (va (cr k) + va (dk k)).natAbs ≤ vl 4607182418800017408
  o1 : va (cr ((k + 128) % 256)) = - va (cr k)
  o2 : sg (dk ((k + 128) % 256)) = !sg (dk k)
  o3 : rg (dk ((k + 128) % 256)) = rg (dk k)
theorem tab (k : Nat) (h : k < 256) : Tb k := by
  have := List.all_eq_true.1 tab_ok k (by simp; omega)
  unfold tabB at this
  simp only [Bool.and_eq_true, decide_eq_true_eq] at this
  obtain ⟨⟨⟨⟨⟨⟨⟨⟨⟨⟨h1, h2⟩, h3⟩, h4⟩, h5⟩, h6⟩, h7⟩, h8⟩, h9⟩, h10⟩, h11⟩ := this
  exact ⟨⟨h1, by omega⟩, h2, ⟨h3, by omega⟩, h4, h5, h6, h7, h8, h9, h10, h11⟩

/-- A part of a step on the circle: from 0 to 1. -/
structure Pa (f : Nat) : Prop where
  f1 : Fi f
  f2 : rg f ≤ 4607182418800017408
  f3 : sg f = false
def pt (k f : Nat) : Nat := (double.mul (dk k) f).getD 0
def sn (k f : Nat) : Nat := (double.add (cr k) (pt k f)).getD 0
theorem part_ok (k f : Nat) (h : k < 256) (hf : Pa f) : ∃ r, double.mul (dk k) f = some (pt k f) ∧ pt k f = wd (sg (dk k)) r ∧ r ≤ rg (dk k) ∧ Fi (pt k f) ∧ r = min (rr 1074 (vl (rg (dk k)) * vl (rg f))) 9218868437227405312 := by
  have t := tab k h
  obtain ⟨r, h1, h2⟩ := mul_one_le (dk k) f t.d1 hf.f1 hf.f2
  have h3 := mul_fi (dk k) f t.d1 hf.f1
  rw [hf.f3, Bool.xor_false] at h1 h3
  have hr : rg (dk k) < 9218868437227405312 := t.d1.2
  have e : pt k f = wd (sg (dk k)) r := by unfold pt; rw [h1]; rfl
  refine ⟨r, by rw [e, h1], e, h2, by rw [e]; exact fi_wd _ _ (by omega), ?_⟩
  have h4 : some (wd (sg (dk k)) r) = some (wd (sg (dk k)) (min (rr 1074 (vl (rg (dk k)) * vl (rg f))) 9218868437227405312)) := by rw [← h1, h3]
  have h5 : wd (sg (dk k)) r = wd (sg (dk k)) (min (rr 1074 (vl (rg (dk k)) * vl (rg f))) 9218868437227405312) := Option.some.inj h4
  have h6 := congrArg rg h5
  rw [rg_wd _ _ (by omega), rg_wd _ _ (Nat.lt_of_le_of_lt (Nat.min_le_right _ _) (by decide))] at h6
  exact h6
theorem between (a d p : Int) (M : Nat) (h1 : a.natAbs ≤ M) (h2 : (a + d).natAbs ≤ M) (hp : (0 ≤ p ∧ p ≤ d) ∨ (d ≤ p ∧ p ≤ 0)) : (a + p).natAbs ≤ M := by omega
theorem sine_ok (k f : Nat) (h : k < 256) (hf : Pa f) : double.add (cr k) (pt k f) = some (sn k f) ∧ Fi (sn k f) ∧ rg (sn k f) ≤ 4607182418800017408 ∧ (va (cr k) + va (pt k f)).natAbs ≤ vl 4607182418800017408 ∧ sn k f = sm (sg (cr k) && sg (pt k f)) (va (cr k) + va (pt k f)) := by
  have t := tab k h
  obtain ⟨r, h1, h2, h3, h4, h5⟩ := part_ok k f h hf
  have hr : rg (dk k) < 9218868437227405312 := t.d1.2
  have ha := add_fi (cr k) (pt k f) t.c1 h4
  have e : sn k f = sm (sg (cr k) && sg (pt k f)) (va (cr k) + va (pt k f)) := by unfold sn; rw [ha]; rfl
  have hb : (va (cr k) + va (pt k f)).natAbs ≤ vl 4607182418800017408 := by
    refine between _ (va (dk k)) _ _ t.v1 t.v2 ?_
    rw [h2, va_wd _ _ (by omega)]
    have hv := vl_mono h3
    unfold va
    cases sg (dk k)
    · left; simp; omega
    · right; simp; omega
  have hs := sm_fi (sg (cr k) && sg (pt k f)) _ 4607182418800017408 (by decide) hb
  refine ⟨by rw [e, ha], by rw [e]; exact hs.1, by rw [e]; exact hs.2.1, hb, e⟩
/-- Half a circle on: the same with the other sign. -/
theorem sine_opp (k f : Nat) (h : k < 256) (hf : Pa f) : va (sn ((k + 128) % 256) f) = - va (sn k f) := by
  have t := tab k h
  have h' : (k + 128) % 256 < 256 := Nat.mod_lt _ (by decide)
  obtain ⟨r, h1, h2, h3, h4, h5⟩ := part_ok k f h hf
  obtain ⟨r', h1', h2', h3', h4', h5'⟩ := part_ok _ f h' hf
  have hr : rg (dk k) < 9218868437227405312 := t.d1.2
  obtain ⟨_, _, _, hb, e⟩ := sine_ok k f h hf
  obtain ⟨_, _, _, _, e'⟩ := sine_ok _ f h' hf
  have er : r' = r := by rw [h5', h5, t.o3]
  have hq : r < 9223372036854775808 := Nat.lt_of_le_of_lt h3 (Nat.lt_trans hr (by decide))
  clear h5 h5' h1 h1' h4 h4' 
  have ep : va (pt ((k + 128) % 256) f) = - va (pt k f) := by
    rw [h2', h2, er, t.o2, va_wd _ _ hq, va_wd _ _ hq]
    cases sg (dk k) <;> simp
  rw [e', e, t.o1, ep, show -va (cr k) + -va (pt k f) = -(va (cr k) + va (pt k f)) by omega]
  exact sm_neg _ _ _ 4607182418800017408 (by decide) hb
end Go.Proofs.Ytjpcebnbkdekkaa.Vo

/- Plain facts on waves at a phase, as words. -/
namespace Go.Proofs.Ytjpcebnbkdekkaa.Vo
set_option linter.unusedVariables false
open Ieee Fl

theorem zmul (K : Nat) : (0 : Int).natAbs * 2 ^ K = 0 := Nat.zero_mul _
theorem q_ok (n : Int) (k : Nat) (hk : k ≤ 40) (h : n.natAbs ≤ 2 ^ k) : ∃ r, double.div (floatOfInt .f64 n) ((k + 1023) * 4503599627370496) = some (wd (decide (n < 0)) r) ∧ r ≤ 4607182418800017408 ∧ (n = 0 → r = 0) := by
  have hp : 2 ^ k ≤ 2 ^ 40 := Nat.pow_le_pow_right (by decide) hk
  obtain ⟨i1, i2, i3, i4⟩ := int_va n (by omega)
  obtain ⟨t1, t2, t3, t4, t5⟩ := two_rd k (by omega)
  obtain ⟨r, h1, h2, h3, h4⟩ := div_fi (floatOfInt .f64 n) ((k + 1023) * 4503599627370496) i1 t3 (by rw [t2]; omega)
  rw [i3, t1, Bool.xor_false] at h1
  refine ⟨r, h1, ?_, fun hz => h4 ?_⟩
  · have := h3 0 (by
      rw [i4, t2, vl_two, Nat.pow_zero, Nat.mul_one, Nat.pow_add]
      exact Nat.mul_le_mul_right _ h)
    omega
  · refine vl_inj ?_
    rw [i4, hz, zmul 1074]; decide
/-- A whole number over a power of two. -/
def qt (n : Int) (k : Nat) : Nat := (double.div (floatOfInt .f64 n) ((k + 1023) * 4503599627370496)).getD 0
/-- Within 1. -/
structure Wv (x : Nat) : Prop where
  w1 : Fi x
  w2 : rg x ≤ 4607182418800017408
theorem qt_ok (n : Int) (k : Nat) (hk : k ≤ 40) (h : n.natAbs ≤ 2 ^ k) : double.div (floatOfInt .f64 n) ((k + 1023) * 4503599627370496) = some (qt n k) ∧ Wv (qt n k) ∧ sg (qt n k) = decide (n < 0) ∧ (n = 0 → qt n k = 0) := by
  obtain ⟨r, h1, h2, h3⟩ := q_ok n k hk h
  have e : qt n k = wd (decide (n < 0)) r := by unfold qt; rw [h1]; rfl
  refine ⟨by rw [e, h1], ?_, ?_, ?_⟩
  · rw [e]; exact ⟨fi_wd _ _ (by omega), by rw [rg_wd _ _ (by omega)]; exact h2⟩
  · rw [e]; exact sg_wd _ _ (by omega)
  · intro hz
    rw [e, h3 hz, hz]; rfl
def fp (n : Int) : Nat := qt (n % 16777216) 24
theorem fp_ok (n : Int) : double.div (floatOfInt .f64 (n % 16777216)) 4715268809856909312 = some (fp n) ∧ Pa (fp n) := by
  obtain ⟨h1, h2, h3, h4⟩ := qt_ok (n % 16777216) 24 (by decide) (by omega)
  exact ⟨h1, h2.w1, h2.w2, by rw [show fp n = qt (n % 16777216) 24 from rfl, h3]; simp; omega⟩
/-- The sine at a phase. -/
def sv (n : Int) : Nat := sn (n / 16777216).toNat (fp n)
/-- A phase from nought: below 0 from half a round on. -/
def sw (n : Int) : Int := if n < 2147483648 then n else n - 4294967296
def tw (n : Int) : Int := if n ≤ 1073741824 then n else if n ≤ 3221225472 then 2147483648 - n else n - 4294967296
def sq (n : Int) : Nat := if n < 2147483648 then 4607182418800017408 else 13830554455654793216
/-- A wave. -/
def shp (kind n : Int) : Nat := if kind = 1 then sv n else if kind = 2 then qt (sw n) 31 else if kind = 3 then sq n else if kind = 4 then qt (tw n) 30 else 0
def she (kind : Int) : Int := if 1 ≤ kind ∧ kind ≤ 4 then 0 else 1
theorem saw_ok (n : Int) (h0 : 0 ≤ n) (h1 : n < 4294967296) : double.div (floatOfInt .f64 (sw n)) 4746794007248502784 = some (qt (sw n) 31) ∧ Wv (qt (sw n) 31) := by
  obtain ⟨a, b, _, _⟩ := qt_ok (sw n) 31 (by decide) (by unfold sw; split <;> omega)
  exact ⟨a, b⟩
theorem tri_ok (n : Int) (h0 : 0 ≤ n) (h1 : n < 4294967296) : double.div (floatOfInt .f64 (tw n)) 4742290407621132288 = some (qt (tw n) 30) ∧ Wv (qt (tw n) 30) := by
  obtain ⟨a, b, _, _⟩ := qt_ok (tw n) 30 (by decide) (by unfold tw; split; omega; split <;> omega)
  exact ⟨a, b⟩
theorem sq_ok (n : Int) : Wv (sq n) := by
  unfold sq; split
  · exact ⟨⟨by decide, by decide⟩, by decide⟩
  · exact ⟨⟨by decide, by decide⟩, by decide⟩
theorem sv_ok (n : Int) (h0 : 0 ≤ n) (h1 : n < 4294967296) : Wv (sv n) := by
  have := sine_ok (n / 16777216).toNat (fp n) (by omega) (fp_ok n).2
  exact ⟨this.2.1, this.2.2.1⟩
theorem shp_ok (kind n : Int) (h0 : 0 ≤ n) (h1 : n < 4294967296) : Wv (shp kind n) := by
  unfold shp
  split
  · exact sv_ok n h0 h1
  split
  · exact (saw_ok n h0 h1).2
  split
  · exact sq_ok n
  split
  · exact (tri_ok n h0 h1).2
  · exact ⟨⟨by decide, by decide⟩, by decide⟩
/-- Half a circle on. -/
theorem sv_opp (n : Int) (h0 : 0 ≤ n) (h1 : n < 4294967296) : va (sv ((n + 2147483648) % 4294967296)) = - va (sv n) := by
  have h := sine_opp (n / 16777216).toNat (fp n) (by omega) (fp_ok n).2
  unfold sv
  rw [show ((n + 2147483648) % 4294967296 / 16777216).toNat = ((n / 16777216).toNat + 128) % 256 by omega, show fp ((n + 2147483648) % 4294967296) = fp n by unfold fp; congr 1; omega]
  exact h
theorem wv_bd (x : Nat) (h : Wv x) : (va x).natAbs ≤ vl 4607182418800017408 := by rw [va_abs]; exact vl_mono h.w2
/-- Within 1, as the tests ask. -/
theorem one_va : va 4607182418800017408 = (vl 4607182418800017408 : Int) ∧ va 13830554455654793216 = -(vl 4607182418800017408 : Int) := ⟨va_wd false 4607182418800017408 (by decide), va_wd true 4607182418800017408 (by decide)⟩
theorem wv_in (x : Nat) (h : Wv x) : geT x 13830554455654793216 = true ∧ leT x 4607182418800017408 = true := by
  have hb := wv_bd x h
  rw [geT_fi x _ h.w1 ⟨by decide, by decide⟩, leT_fi x _ h.w1 ⟨by decide, by decide⟩, one_va.1, one_va.2]
  constructor
  · simp; omega
  · simp; omega
end Go.Proofs.Ytjpcebnbkdekkaa.Vo
