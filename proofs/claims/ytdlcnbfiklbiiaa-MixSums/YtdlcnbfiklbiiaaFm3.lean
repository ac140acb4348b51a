/- Plain facts on words of IEEE 754's double format: products by what is not above 1, sums and their signs, quotients by powers of two, tests against bounds, and whole numbers out of words. -/
import Derived.Test.YtdlcnbfiklbiiaaFm2
namespace Go.Proofs.Ytdlcnbfiklbiiaa.Fl
set_option linter.unusedVariables false
open Ieee

/-- The rung of 1. -/
theorem vl_one : vl 4607182418800017408 = 2 ^ 1074 := by
  rw [show (4607182418800017408 : Nat) = (0 + 1023) * 4503599627370496 from rfl, vl_two, Nat.zero_add]
theorem two_shift (m e k K v : Nat) (h : v * 2 ^ k = m * 2 ^ e) : m * 2 ^ 3 * 2 ^ (e + K) = v * 2 ^ (k + (K + 3)) := by
  rw [Nat.pow_add 2 k, ← Nat.mul_assoc, h, Nat.pow_add 2 e, Nat.pow_add 2 K]
  ac_rfl
theorem pow_off (m e k K : Nat) (hK : K ≤ e) (h : m * 2 ^ e ≤ 2 ^ (k + K)) : m * 2 ^ (e - K) ≤ 2 ^ k := by
  rw [show e = e - K + K by omega, Nat.pow_add, Nat.pow_add, ← Nat.mul_assoc] at h
  exact Nat.le_of_mul_le_mul_right h (Nat.two_pow_pos _)
theorem pow_off2 (m e k K : Nat) (hK : e ≤ K) (h : m * 2 ^ e ≤ 2 ^ (k + K)) : m ≤ 2 ^ k * 2 ^ (K - e) := by
  rw [← Nat.pow_add]
  rw [show k + K = k + (K - e) + e by omega, Nat.pow_add 2 (k + (K - e))] at h
  exact Nat.le_of_mul_le_mul_right h (Nat.two_pow_pos _)
theorem mul_pow (a b K : Nat) (h : b ≤ 2 ^ K) : a * b ≤ a * 2 ^ K := Nat.mul_le_mul_left _ h
/-- A product by what is not above 1 is not above the other one. -/
theorem mul_one_le (x y : Nat) (hx : Fi x) (hy : Fi y) (h : rg y ≤ 4607182418800017408) : ∃ r, double.mul x y = some (wd (sg x ^^ sg y) r) ∧ r ≤ rg x := by
  have hr : rr 1074 (vl (rg x) * vl (rg y)) ≤ rg x := by
    refine rr_le _ _ _ (mul_pow _ _ 1074 ?_)
    rw [← vl_one]; exact vl_mono h
  refine ⟨_, mul_fi x y hx hy, Nat.le_trans (Nat.min_le_left _ _) hr⟩
theorem mul_zero (x y : Nat) (hx : Fi x) (hy : Fi y) (h : rg y = 0) : double.mul x y = some (wd (sg x ^^ sg y) 0) := by
  rw [mul_fi x y hx hy, h, show vl 0 = 0 by decide, Nat.mul_zero, rr_zero, Nat.min_eq_left (by decide)]

/-- Sums. -/
theorem sm_fi (n : Bool) (V : Int) (r : Nat) (hr : r < 9218868437227405312) (h : V.natAbs ≤ vl r) : Fi (sm n V) ∧ rg (sm n V) ≤ r ∧ va (sm n V) = if V < 0 then -(vl (rr 0 V.natAbs) : Int) else (vl (rr 0 V.natAbs) : Int) := by
  have h1 : rr 0 V.natAbs ≤ r := rr_le _ _ _ (by rw [Nat.pow_zero, Nat.mul_one]; exact h)
  have h2 : min (rr 0 V.natAbs) 9218868437227405312 = rr 0 V.natAbs := Nat.min_eq_left (by omega)
  unfold sm
  rw [h2]
  refine ⟨fi_wd _ _ (by omega), by rw [rg_wd _ _ (by omega)]; exact h1, ?_⟩
  rw [va_wd _ _ (by omega)]
  by_cases c : V = 0
  · subst c
    rw [show (0 : Int).natAbs = 0 from rfl, rr_zero, show vl 0 = 0 by decide]
    simp
  · rw [if_neg c]
    by_cases d : V < 0
    · rw [if_pos d]; simp [d]
    · rw [if_neg d]; simp [d]
theorem sm_neg (n m : Bool) (V : Int) (r : Nat) (hr : r < 9218868437227405312) (h : V.natAbs ≤ vl r) : va (sm n (-V)) = - va (sm m V) := by
  have h1 := (sm_fi n (-V) r hr (by rw [Int.natAbs_neg]; exact h)).2.2
  have h2 := (sm_fi m V r hr h).2.2
  rw [h1, h2, Int.natAbs_neg]
  by_cases c : V = 0
  · subst c
    rw [show (0 : Int).natAbs = 0 from rfl, rr_zero, show vl 0 = 0 by decide]; simp
  · by_cases d : V < 0
    · rw [if_neg (by omega), if_pos d, Int.neg_neg]
    · rw [if_pos (by omega), if_neg d]

/-- Quotients by powers of two. -/
theorem ex_sub (x k : Nat) (hx : 4503599627370496 ≤ x) (hk : k ≤ ex x) : mg (x - k * 4503599627370496) = mg x ∧ ex (x - k * 4503599627370496) = ex x - k := by
  have h := rung_nor x hx
  have hm := mg_nor x hx
  unfold mg ex at *
  rw [if_neg (by omega)] at *
  constructor
  · rw [if_neg (by omega)]; omega
  · omega
theorem vl_sub (x k : Nat) (hx : 4503599627370496 ≤ x) (hk : k ≤ ex x) : vl (x - k * 4503599627370496) * 2 ^ k = vl x := by
  unfold vl
  rw [(ex_sub x k hx hk).1, (ex_sub x k hx hk).2, Nat.mul_assoc, ← Nat.pow_add]
  congr 2; omega
theorem log_nor (m : Nat) (h : 4503599627370496 ≤ m ∧ m < 9007199254740992) : m.log2 = 52 := (Nat.log2_eq_iff (by omega)).2 ⟨by omega, by omega⟩
theorem two_rd (k : Nat) (hk : k ≤ 1000) : sg ((k + 1023) * 4503599627370496) = false ∧ rg ((k + 1023) * 4503599627370496) = (k + 1023) * 4503599627370496 ∧ Fi ((k + 1023) * 4503599627370496) ∧ mg ((k + 1023) * 4503599627370496) = 4503599627370496 ∧ ex ((k + 1023) * 4503599627370496) = k + 1022 := by
  have hr : rg ((k + 1023) * 4503599627370496) = (k + 1023) * 4503599627370496 := by unfold rg; omega
  refine ⟨by unfold sg; simp; omega, hr, ⟨by omega, by rw [hr]; omega⟩, ?_, ?_⟩
  · unfold mg; rw [if_neg (by omega)]; omega
  · unfold ex; omega
theorem div_two (x k : Nat) (hx : Fi x) (hn : 4503599627370496 ≤ rg x) (hk : k ≤ ex (rg x)) (hk2 : k ≤ 1000) : double.div x ((k + 1023) * 4503599627370496) = some (wd (sg x) (rg x - k * 4503599627370496)) := by
  obtain ⟨t1, t2, t3, t4, t5⟩ := two_rd k hk2
  have hm := mg_nor (rg x) hn
  unfold Format.div
  rw [read_fi x hx, read_fi _ t3, t1, t2, t4, t5]
  simp only [Datum.quotient]
  rw [if_neg (by decide), dF, log_nor _ hm, show (4503599627370496 : Nat).log2 = 52 by decide, show 52 + 2 + 52 - 52 = 54 from rfl, Nat.shiftLeft_eq]
  have e1 : mg (rg x) * 2 ^ 54 / 4503599627370496 = mg (rg x) * 4 := by omega
  have e2 : mg (rg x) * 2 ^ 54 % 4503599627370496 = 0 := by omega
  rw [e1, e2]
  simp only [Option.map_some, Format.write, Bool.xor_false]
  rw [show 2 * (mg (rg x) * 4) + (0 != 0 : Bool).toNat = mg (rg x) * 2 ^ 3 by simp; omega]
  rw [near_is _ _ _ (k + (997 + 3)) (ex (rg x) + 997) (by omega), two_shift _ _ k _ _ (vl_sub _ _ hn hk), rr_vl]
  have hf := hx.2
  rw [Nat.min_eq_left (by omega)]

/-- Words that are no numbers. -/
theorem read_not (x : Nat) (h : x < 18446744073709551616) (h2 : ¬ Fi x) : double.read x = .infinity false ∨ double.read x = .infinity true ∨ ∃ s t, double.read x = .nan s t := by
  have hr : ¬ rg x < 9218868437227405312 := fun g => h2 ⟨h, g⟩
  unfold Format.read
  rw [dB, dS, dI, dL, show x % 9223372036854775808 = rg x from rfl]
  simp only []
  rw [if_neg (by omega), if_neg hr]
  by_cases c : rg x = 9218868437227405312
  · rw [if_pos c]
    cases (x / 9223372036854775808 % 2 == 1)
    · exact .inl rfl
    · exact .inr (.inl rfl)
  · rw [if_neg c]; exact .inr (.inr ⟨_, _, rfl⟩)
def geT (x y : Nat) : Bool := double.order x y == some .gt || double.order x y == some .eq
def leT (x y : Nat) : Bool := double.order x y == some .lt || double.order x y == some .eq
theorem geT_fi (x y : Nat) (hx : Fi x) (hy : Fi y) : geT x y = decide (va y ≤ va x) := by
  unfold geT
  rw [order_fi x y hx hy]
  rcases Int.lt_trichotomy (va x) (va y) with g | g | g
  · rw [Int.compare_eq_lt.2 g]; simp; omega
  · rw [Int.compare_eq_eq.2 g]; simp; omega
  · rw [Int.compare_eq_gt.2 g]; simp; omega
theorem leT_fi (x y : Nat) (hx : Fi x) (hy : Fi y) : leT x y = decide (va x ≤ va y) := by
  unfold leT
  rw [order_fi x y hx hy]
  rcases Int.lt_trichotomy (va x) (va y) with g | g | g
  · rw [Int.compare_eq_lt.2 g]; simp; omega
  · rw [Int.compare_eq_eq.2 g]; simp; omega
  · rw [Int.compare_eq_gt.2 g]; simp; omega
/-- What is not below one number and not above another one is a number. -/
theorem both_fi (x lo hi : Nat) (hx : x < 18446744073709551616) (hl : Fi lo) (hh : Fi hi) (h1 : geT x lo = true) (h2 : leT x hi = true) : Fi x := by
  refine Classical.byContradiction fun g => ?_
  unfold geT Format.order at h1
  unfold leT Format.order at h2
  rw [read_fi _ hl] at h1
  rw [read_fi _ hh] at h2
  rcases read_not x hx g with c | c | ⟨s, t, c⟩
  · rw [c] at h2; simp [Datum.order] at h2
  · rw [c] at h1; simp [Datum.order] at h1
  · rw [c] at h1; simp [Datum.order] at h1
theorem rg_le (x k : Nat) (h : (va x).natAbs ≤ 2 ^ (k + 1074)) : rg x ≤ (k + 1023) * 4503599627370496 := by
  rw [va_abs] at h
  refine le_of_vl ?_
  rw [vl_two]; exact h

/-- The whole number in front of a word's point. -/
theorem cut_zero_le (s : Bool) (n d B : Nat) (h : n ≤ B * 2 ^ d) : Toward.zero.cut s n d ≤ B := by
  unfold Toward.cut
  simp only [Bool.toNat_false, Nat.add_zero, Nat.shiftLeft_eq, Nat.one_mul]
  rcases Nat.le_total d (n.log2 + 2) with g | g
  · rw [Nat.min_eq_left g]
    exact Nat.div_le_of_le_mul (by rw [Nat.mul_comm]; exact h)
  · rw [Nat.min_eq_right g]
    have h1 := log2_lt n
    have h2 : 2 ^ (n.log2 + 1) ≤ 2 ^ (n.log2 + 2) := Nat.pow_le_pow_right (by decide) (by omega)
    rw [Nat.div_eq_of_lt (by omega)]
    exact Nat.zero_le _
theorem toInt_fi (x k : Nat) (hx : Fi x) (h : rg x ≤ (k + 1023) * 4503599627370496) : ∃ q : Nat, q ≤ 2 ^ k ∧ (double.read x).toInt .zero = some (if sg x then -(q : Int) else (q : Int)) := by
  rw [read_fi x hx]
  have hv : mg (rg x) * 2 ^ ex (rg x) ≤ 2 ^ (k + 1074) := by
    have := vl_mono h
    rw [vl_two] at this; exact this
  simp only [Datum.toInt, Datum.integral]
  generalize mg (rg x) = m at *
  generalize ex (rg x) = e at *
  rw [signed_is, Nat.pow_zero, Nat.mul_one]
  refine ⟨_, ?_, rfl⟩
  refine cut_zero_le _ _ _ _ ?_
  rw [Nat.shiftLeft_eq]
  rcases Nat.le_total e 1074 with g | g
  · rw [show (-1074 + (e : Int)).toNat = 0 by omega, show (-(-1074 + (e : Int))).toNat = 1074 - e by omega, Nat.pow_zero, Nat.mul_one]
    exact pow_off2 _ _ _ _ g hv
  · rw [show (-1074 + (e : Int)).toNat = e - 1074 by omega, show (-(-1074 + (e : Int))).toNat = 0 by omega, Nat.pow_zero, Nat.mul_one]
    exact pow_off _ _ _ _ g hv
theorem toInt_u32 (x : Nat) (hx : Fi x) (h : rg x ≤ (31 + 1023) * 4503599627370496) (hs : sg x = false ∨ rg x = 0) : ∃ n : Int, 0 ≤ n ∧ n ≤ 2147483648 ∧ floatToIntVal .f64 x .u32 = some n := by
  unfold floatToIntVal FloatKind.decode FloatKind.format
  simp only []
  rcases hs with c | c
  · obtain ⟨q, h1, h2⟩ := toInt_fi x 31 hx h
    rw [c] at h2
    simp only [Bool.false_eq_true, if_false] at h2
    rw [h2]
    refine ⟨q, by omega, by omega, ?_⟩
    simp only []
    rw [if_pos ⟨by rw [show IntKind.u32.min = 0 by decide]; omega, by rw [show IntKind.u32.max = 4294967295 by decide]; omega⟩]
  · have hz : (double.read x).toInt .zero = some 0 := by
      rw [read_fi x hx, c]
      simp only [Datum.toInt, Datum.integral]
      rw [show mg 0 = 0 by decide]
      have : ∀ a d, Toward.zero.cut (sg x) (0 <<< a) d = 0 := fun a d => by
        rw [Nat.zero_shiftLeft]
        have := cut_zero_le (sg x) 0 d 0 (by omega)
        omega
      rw [this, signed_is]; cases sg x <;> rfl
    rw [hz]
    refine ⟨0, by omega, by omega, ?_⟩
    simp only []
    rw [if_pos ⟨by decide, by decide⟩]
end Go.Proofs.Ytdlcnbfiklbiiaa.Fl
