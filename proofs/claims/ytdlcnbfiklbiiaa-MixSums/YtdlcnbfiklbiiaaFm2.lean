/- Plain facts on sums, products, quotients and the order of finite words of IEEE 754's double format, with their signs. -/
import Derived.Test.YtdlcnbfiklbiiaaFm1
namespace Go.Proofs.Ytdlcnbfiklbiiaa.Fl
set_option linter.unusedVariables false
open Ieee

def sg (x : Nat) : Bool := decide (9223372036854775808 ≤ x)
def rg (x : Nat) : Nat := x % 9223372036854775808
/-- A word of a number. -/
def Fi (x : Nat) : Prop := x < 18446744073709551616 ∧ rg x < 9218868437227405312
/-- Its number, in units of the least one. -/
def va (x : Nat) : Int := if sg x then -(vl (rg x) : Int) else (vl (rg x) : Int)

theorem rg_wd (n : Bool) (r : Nat) (h : r < 9223372036854775808) : rg (wd n r) = r := by unfold rg wd; cases n <;> simp <;> omega
theorem sg_wd (n : Bool) (r : Nat) (h : r < 9223372036854775808) : sg (wd n r) = n := by unfold sg wd; cases n <;> simp <;> omega
theorem fi_wd (n : Bool) (r : Nat) (h : r < 9218868437227405312) : Fi (wd n r) := by
  refine ⟨by unfold wd; cases n <;> simp <;> omega, ?_⟩
  rw [rg_wd n r (by omega)]; exact h
theorem va_wd (n : Bool) (r : Nat) (h : r < 9223372036854775808) : va (wd n r) = if n then -(vl r : Int) else (vl r : Int) := by unfold va; rw [rg_wd n r h, sg_wd n r h]
theorem va_abs (x : Nat) : (va x).natAbs = vl (rg x) := by unfold va; cases sg x <;> simp
theorem wd_self (x : Nat) (h : x < 18446744073709551616) : wd (sg x) (rg x) = x := by
  unfold wd sg rg
  by_cases c : 9223372036854775808 ≤ x
  · simp [c]; omega
  · simp [c]; omega

theorem read_fi (x : Nat) (h : Fi x) : double.read x = .number (sg x) (mg (rg x)) (-1074 + (ex (rg x) : Nat)) := by
  obtain ⟨h1, h2⟩ := h
  unfold Format.read
  rw [dB, dS, dI, dL]
  have hs : (x / 9223372036854775808 % 2 == 1) = sg x := by
    unfold sg
    by_cases c : 9223372036854775808 ≤ x
    · have : x / 9223372036854775808 = 1 := by omega
      simp [c, this]
    · have : x / 9223372036854775808 = 0 := by omega
      simp [c, this]
  simp only [hs]
  rw [show x % 9223372036854775808 = rg x from rfl]
  by_cases c : rg x < 4503599627370496
  · rw [if_pos c]
    unfold mg ex
    rw [if_pos c, show rg x / 4503599627370496 - 1 = 0 by omega]
    rfl
  · rw [if_neg c, if_pos h2]
    unfold mg ex
    rw [if_neg c]

theorem signed_is (s : Bool) (m e : Nat) : signed s m e = if s then -((m * 2 ^ e : Nat) : Int) else ((m * 2 ^ e : Nat) : Int) := by
  unfold signed; rw [Nat.shiftLeft_eq]
theorem signed_scale (s : Bool) (m e j : Nat) : signed s m e * ((2 ^ j : Nat) : Int) = signed s m (e + j) := by
  rw [signed_is, signed_is, Nat.pow_add, ← Nat.mul_assoc]
  cases s
  · simp
  · simp only [if_true, Int.neg_mul, ← Int.natCast_mul]
theorem va_signed (x : Nat) (b : Nat) (h : b ≤ ex (rg x)) : va x = signed (sg x) (mg (rg x)) (ex (rg x) - b) * ((2 ^ b : Nat) : Int) := by
  rw [signed_scale, signed_is, show ex (rg x) - b + b = ex (rg x) by omega]
  rfl

theorem mul_fi (x y : Nat) (hx : Fi x) (hy : Fi y) : double.mul x y = some (wd (sg x ^^ sg y) (min (rr 1074 (vl (rg x) * vl (rg y))) 9218868437227405312)) := by
  unfold Format.mul
  rw [read_fi x hx, read_fi y hy]
  simp only [Datum.product, Option.map_some, Format.write]
  rw [near_is _ _ _ 1074 (ex (rg x) + ex (rg y)) (by omega)]
  unfold vl
  rw [Nat.pow_add, show mg (rg x) * mg (rg y) * (2 ^ ex (rg x) * 2 ^ ex (rg y)) = mg (rg x) * 2 ^ ex (rg x) * (mg (rg y) * 2 ^ ex (rg y)) by ac_rfl]

/-- The word of a sum whose exact number is V. -/
def sm (n : Bool) (V : Int) : Nat := wd (if V = 0 then n else decide (V < 0)) (min (rr 0 V.natAbs) 9218868437227405312)
theorem two_pos (b : Nat) : (0 : Int) < ((2 ^ b : Nat) : Int) := by have := Nat.two_pow_pos b; omega
theorem sum_core (s t : Bool) (m n a b : Nat) (U V : Int) (hU : U = signed s m a) (hV : V = signed t n b) (c : Nat) (ha : c ≤ a) (hb : c ≤ b) :
    double.write (.number (if signed s m (a - c) + signed t n (b - c) = 0 then s && t else decide (signed s m (a - c) + signed t n (b - c) < 0)) (signed s m (a - c) + signed t n (b - c)).natAbs (-1074 + (c : Int))) = sm (s && t) (U + V) := by
  have e : U + V = (signed s m (a - c) + signed t n (b - c)) * ((2 ^ c : Nat) : Int) := by
    rw [Int.add_mul, signed_scale, signed_scale, show a - c + c = a by omega, show b - c + c = b by omega, hU, hV]
  generalize signed s m (a - c) + signed t n (b - c) = S at *
  have hp := two_pos c
  simp only [Format.write]
  rw [near_is _ _ _ 0 c (by omega)]
  unfold sm
  rw [e, Int.natAbs_mul, Int.natAbs_natCast]
  have h1 : S * ((2 ^ c : Nat) : Int) = 0 ↔ S = 0 := by
    rw [Int.mul_eq_zero]; constructor
    · rintro (h | h)
      · exact h
      · omega
    · exact fun h => .inl h
  have h2 : S * ((2 ^ c : Nat) : Int) < 0 ↔ S < 0 := by
    constructor
    · intro h
      refine Decidable.byContradiction fun g => ?_
      have := Int.mul_nonneg (a := S) (by omega) (Int.le_of_lt hp)
      omega
    · exact fun h => Int.mul_neg_of_neg_of_pos h hp
  simp only [h1, h2]
theorem add_fi (x y : Nat) (hx : Fi x) (hy : Fi y) : double.add x y = some (sm (sg x && sg y) (va x + va y)) := by
  unfold Format.add
  rw [read_fi x hx, read_fi y hy]
  simp only [Datum.sum, Option.map_some]
  generalize hi : ex (rg x) = i
  generalize hj : ex (rg y) = j
  obtain ⟨c, hc, h1, h2⟩ : ∃ c : Nat, min (-1074 + (i : Int)) (-1074 + (j : Int)) = -1074 + (c : Int) ∧ c ≤ i ∧ c ≤ j := ⟨min i j, by omega, by omega, by omega⟩
  rw [hc, show (-1074 + (i : Int) - (-1074 + (c : Int))).toNat = i - c by omega, show (-1074 + (j : Int) - (-1074 + (c : Int))).toNat = j - c by omega]
  have h3 := va_signed x 0 (by omega)
  have h4 := va_signed y 0 (by omega)
  rw [hi] at h3
  rw [hj] at h4
  simp only [Nat.sub_zero, Nat.pow_zero] at h3 h4
  congr 1
  exact sum_core (sg x) (sg y) (mg (rg x)) (mg (rg y)) i j (va x) (va y) (by rw [h3]; simp) (by rw [h4]; simp) c h1 h2
theorem signed_not (s : Bool) (m e : Nat) : signed (!s) m e = - signed s m e := by rw [signed_is, signed_is]; cases s <;> simp
theorem sub_fi (x y : Nat) (hx : Fi x) (hy : Fi y) : double.sub x y = some (sm (sg x && !sg y) (va x - va y)) := by
  unfold Format.sub
  rw [read_fi x hx, read_fi y hy]
  simp only [Datum.opposite, Datum.sum, Option.map_some]
  generalize hi : ex (rg x) = i
  generalize hj : ex (rg y) = j
  obtain ⟨c, hc, h1, h2⟩ : ∃ c : Nat, min (-1074 + (i : Int)) (-1074 + (j : Int)) = -1074 + (c : Int) ∧ c ≤ i ∧ c ≤ j := ⟨min i j, by omega, by omega, by omega⟩
  rw [hc, show (-1074 + (i : Int) - (-1074 + (c : Int))).toNat = i - c by omega, show (-1074 + (j : Int) - (-1074 + (c : Int))).toNat = j - c by omega]
  have h3 := va_signed x 0 (by omega)
  have h4 := va_signed y 0 (by omega)
  rw [hi] at h3
  rw [hj] at h4
  simp only [Nat.sub_zero, Nat.pow_zero] at h3 h4
  congr 1
  rw [Int.sub_eq_add_neg]
  exact sum_core (sg x) (!sg y) (mg (rg x)) (mg (rg y)) i j (va x) (- va y) (by rw [h3]; simp) (by rw [h4, signed_not]; simp) c h1 h2
theorem order_fi (x y : Nat) (hx : Fi x) (hy : Fi y) : double.order x y = some (compare (va x) (va y)) := by
  unfold Format.order
  rw [read_fi x hx, read_fi y hy]
  simp only [Datum.order]
  congr 1
  generalize hi : ex (rg x) = i
  generalize hj : ex (rg y) = j
  obtain ⟨c, hc, h1, h2⟩ : ∃ c : Nat, min (-1074 + (i : Int)) (-1074 + (j : Int)) = -1074 + (c : Int) ∧ c ≤ i ∧ c ≤ j := ⟨min i j, by omega, by omega, by omega⟩
  rw [hc, show (-1074 + (i : Int) - (-1074 + (c : Int))).toNat = i - c by omega, show (-1074 + (j : Int) - (-1074 + (c : Int))).toNat = j - c by omega]
  have h3 := va_signed x c (by omega)
  have h4 := va_signed y c (by omega)
  rw [hi] at h3
  rw [hj] at h4
  rw [h3, h4]
  have hp := two_pos c
  generalize signed (sg x) (mg (rg x)) (i - c) = A
  generalize signed (sg y) (mg (rg y)) (j - c) = B
  rcases Int.lt_trichotomy A B with g | g | g
  · rw [Int.compare_eq_lt.2 g, Int.compare_eq_lt.2 (Int.mul_lt_mul_of_pos_right g hp)]
  · subst g; rw [Int.compare_eq_eq.2 rfl, Int.compare_eq_eq.2 rfl]
  · rw [Int.compare_eq_gt.2 g, Int.compare_eq_gt.2 (Int.mul_lt_mul_of_pos_right g hp)]

/-- The words of powers of two from 1 on. -/
theorem vl_two (k : Nat) : vl ((k + 1023) * 4503599627370496) = 2 ^ (k + 1074) := by
  unfold vl mg ex
  rw [if_neg (by omega), show (k + 1023) * 4503599627370496 / 4503599627370496 - 1 = k + 1022 by omega, show (k + 1023) * 4503599627370496 % 4503599627370496 = 0 by omega, Nat.add_zero, show (4503599627370496 : Nat) = 2 ^ 52 by decide, ← Nat.pow_add, show 52 + (k + 1022) = k + 1074 by omega]
/-- A quotient's digits, with one more that tells whether anything is left over: not above a power of two where the quotient isn't. -/
theorem quo_bd (m n i j k mo Q s e : Nat) (hn : n ≠ 0) (hmo : 54 + n.log2 - m.log2 = mo) (hQ : 2 * (m * 2 ^ mo / n) + (m * 2 ^ mo % n != 0).toNat = Q) (hs : (i : Int) - j - mo - 1 + 1074 + s = e) (hk : m * 2 ^ i ≤ n * 2 ^ j * 2 ^ k) : Q * 2 ^ e ≤ 2 ^ (k + 1074 + s) := by
  by_cases c0 : m = 0
  · subst c0
    have : Q = 0 := by rw [← hQ]; simp
    rw [this, Nat.zero_mul]; exact Nat.zero_le _
  have hl : m.log2 + i ≤ n.log2 + j + k := by
    have h1 := log2_mono _ _ hk
    rw [log2_mul m i c0, Nat.mul_assoc, ← Nat.pow_add, log2_mul n (j + k) hn] at h1
    omega
  obtain ⟨t, ht⟩ : ∃ t : Nat, j + k + mo = t + i := ⟨j + k + mo - i, by omega⟩
  have hd : m * 2 ^ mo ≤ n * 2 ^ t := by
    have h1 : m * 2 ^ i * 2 ^ mo ≤ n * 2 ^ j * 2 ^ k * 2 ^ mo := Nat.mul_le_mul_right _ hk
    have e1 : n * 2 ^ j * 2 ^ k * 2 ^ mo = n * 2 ^ t * 2 ^ i := by
      rw [Nat.mul_assoc n, Nat.mul_assoc n, Nat.mul_assoc n, ← Nat.pow_add, ← Nat.pow_add, ← Nat.pow_add, ht]
    have e2 : m * 2 ^ i * 2 ^ mo = m * 2 ^ mo * 2 ^ i := by ac_rfl
    rw [e1, e2] at h1
    exact Nat.le_of_mul_le_mul_right h1 (Nat.two_pow_pos _)
  have hq : Q ≤ 2 ^ (t + 1) := by
    rw [← hQ, Nat.pow_succ]
    have h1 : m * 2 ^ mo / n ≤ 2 ^ t := Nat.div_le_of_le_mul hd
    by_cases c : m * 2 ^ mo / n = 2 ^ t
    · have h2 := Nat.div_add_mod (m * 2 ^ mo) n
      rw [c] at h2
      have h3 : m * 2 ^ mo % n = 0 := by omega
      rw [h3, c]; simp; omega
    · have := toNat_le (m * 2 ^ mo % n != 0)
      omega
  refine Nat.le_trans (Nat.mul_le_mul_right _ hq) ?_
  rw [← Nat.pow_add]
  exact Nat.pow_le_pow_right (by decide) (by omega)
/-- A quotient: its sign; and where it is not above a power of two, neither is what is rounded. -/
theorem div_fi (x y : Nat) (hx : Fi x) (hy : Fi y) (h0 : rg y ≠ 0) : ∃ r : Nat, double.div x y = some (wd (sg x ^^ sg y) r) ∧ r ≤ 9218868437227405312 ∧ (∀ k : Nat, vl (rg x) ≤ vl (rg y) * 2 ^ k → r ≤ (k + 1023) * 4503599627370496) ∧ (rg x = 0 → r = 0) := by
  have hn : mg (rg y) ≠ 0 := by have := mg_pos (rg y) (by omega); omega
  obtain ⟨mo, hmo⟩ : ∃ mo, 54 + (mg (rg y)).log2 - (mg (rg x)).log2 = mo := ⟨_, rfl⟩
  obtain ⟨Q, hQ⟩ : ∃ Q, 2 * (mg (rg x) * 2 ^ mo / mg (rg y)) + (mg (rg x) * 2 ^ mo % mg (rg y) != 0).toNat = Q := ⟨_, rfl⟩
  have hd : double.div x y = some (double.nearest (sg x ^^ sg y) Q (-1074 + (ex (rg x) : Int) - (-1074 + (ex (rg y) : Int)) - (mo : Int) - 1)) := by
    unfold Format.div
    rw [read_fi x hx, read_fi y hy]
    simp only [Datum.quotient]
    rw [if_neg hn, dF, show 52 + 2 = 54 from rfl, hmo, Nat.shiftLeft_eq, hQ]
    rfl
  obtain ⟨s, e, hs⟩ : ∃ s e : Nat, -1074 + (ex (rg x) : Int) - (-1074 + (ex (rg y) : Int)) - (mo : Int) - 1 + 1074 + s = e := ⟨ex (rg y) + mo + 1, ex (rg x) + 1074, by omega⟩
  rw [near_is _ _ _ s e hs] at hd
  refine ⟨_, hd, Nat.min_le_right _ _, fun k hk => ?_, fun hz => ?_⟩
  · refine Nat.le_trans (Nat.min_le_left _ _) (rr_le _ _ _ ?_)
    rw [vl_two, ← Nat.pow_add]
    exact quo_bd _ _ _ _ k mo Q s e hn hmo hQ (by omega) hk
  · have hm : mg (rg x) = 0 := by rw [hz]; decide
    have : Q = 0 := by rw [← hQ, hm]; simp
    rw [this, Nat.zero_mul, rr_zero]; exact Nat.min_eq_left (by decide)

theorem rep53 (K : Nat) : ∃ r, vl r = 9007199254740992 * 2 ^ K := by
  obtain ⟨r, hr⟩ := rep 4503599627370496 (1 + K) (by decide)
  exact ⟨r, by rw [hr, Nat.pow_add, ← Nat.mul_assoc]⟩
theorem le53 (n K : Nat) (h : n ≤ 9007199254740992) : n * 2 ^ K ≤ 2 ^ (53 + K) := by
  rw [Nat.pow_add]; exact Nat.mul_le_mul_right _ h
/-- Whole numbers as words. -/
theorem int_fi (n : Int) (h : n.natAbs ≤ 9007199254740992) : ∃ r, r < 5000000000000000000 ∧ floatOfInt .f64 n = wd (decide (n < 0)) r ∧ vl r = n.natAbs * 2 ^ 1074 := by
  unfold floatOfInt FloatKind.nearest FloatKind.encode FloatKind.format
  simp only [Format.write]
  rw [near_is _ _ _ 0 1074 (by omega)]
  obtain ⟨r, hr⟩ : ∃ r, vl r = n.natAbs * 2 ^ 1074 := by
    by_cases c : n.natAbs = 9007199254740992
    · rw [c]; exact rep53 1074
    · exact rep _ 1074 (by omega)
  have hb : r ≤ (53 + 1023) * 4503599627370496 := by
    refine le_of_vl ?_
    rw [hr, vl_two 53]
    exact le53 _ 1074 h
  refine ⟨r, by omega, ?_, hr⟩
  have := rr_vl 0 r
  rw [Nat.pow_zero, Nat.mul_one, hr] at this
  rw [this, Nat.min_eq_left (by omega)]
theorem int_va (n : Int) (h : n.natAbs ≤ 9007199254740992) : Fi (floatOfInt .f64 n) ∧ va (floatOfInt .f64 n) = n * ((2 ^ 1074 : Nat) : Int) ∧ sg (floatOfInt .f64 n) = decide (n < 0) ∧ vl (rg (floatOfInt .f64 n)) = n.natAbs * 2 ^ 1074 := by
  obtain ⟨r, hb, h1, h2⟩ := int_fi n h
  rw [h1]
  have hv := va_wd (decide (n < 0)) r (by omega)
  refine ⟨fi_wd _ _ (by omega), ?_, sg_wd _ _ (by omega), by rw [rg_wd _ _ (by omega), h2]⟩
  rw [hv, h2]
  rw [Int.natCast_mul]
  by_cases c : n < 0
  · simp only [c, decide_true, if_true]
    rw [show ((n.natAbs : Nat) : Int) = -n by omega, Int.neg_mul, Int.neg_neg]
  · simp only [c, decide_false, Bool.false_eq_true, if_false]
    rw [show ((n.natAbs : Nat) : Int) = n by omega]
/-- The other sign. -/
theorem neg_is (n : Bool) (r : Nat) (h : r < 9223372036854775808) : wd n r ^^^ 9223372036854775808 = wd (!n) r := by
  have e : (9223372036854775808 : Nat) = 2 ^ 63 := by decide
  unfold wd
  cases n
  · simp only [Bool.false_eq_true, if_false, Bool.not_false, if_true]
    rw [e]
    have := Nat.two_pow_add_eq_or_of_lt (i := 63) (b := r) (by omega) 1
    rw [Nat.mul_one] at this
    rw [this]
    apply Nat.eq_of_testBit_eq
    intro k
    rw [Nat.testBit_xor, Nat.testBit_or]
    by_cases c : k = 63
    · subst c
      have : r.testBit 63 = false := Nat.testBit_lt_two_pow (by omega)
      simp [this]
    · have : (2 ^ 63).testBit k = false := by rw [Nat.testBit_two_pow]; simp; omega
      simp [this]
  · simp only [Bool.false_eq_true, if_false, Bool.not_true, if_true]
    rw [e]
    have := Nat.two_pow_add_eq_or_of_lt (i := 63) (b := r) (by omega) 1
    rw [Nat.mul_one] at this
    rw [this]
    apply Nat.eq_of_testBit_eq
    intro k
    rw [Nat.testBit_xor, Nat.testBit_or]
    by_cases c : k = 63
    · subst c
      have : r.testBit 63 = false := Nat.testBit_lt_two_pow (by omega)
      simp [this]
    · have : (2 ^ 63).testBit k = false := by rw [Nat.testBit_two_pow]; simp; omega
      simp [this]
end Go.Proofs.Ytdlcnbfiklbiiaa.Fl
