/- Plain facts on how often pitches swing, as words of IEEE 754's double format. -/
import Derived.Test.YtdjdnjaijpafgacDoorFl1
namespace Go.Proofs.YtdjdnjaijpafgacDoor.Fl
set_option linter.unusedVariables false
open Ieee

/-- The twelve numbers of the document's table. -/
def tb : Nat → Nat
  | 0 => 4607182418800017408
  | 1 => 4607450216769616227
  | 2 => 4607733938835150528
  | 3 => 4608034531892639510
  | 4 => 4608352999143469708
  | 5 => 4608690403442486367
  | 6 => 4609047870845172686
  | 7 => 4609426594365755314
  | 8 => 4609827837958778431
  | 9 => 4610252940737434544
  | 10 => 4610703321442730284
  | _ => 4611180483178402631

def half1 : Nat := 4607450216769616227
theorem tb_step : ∀ i, i < 11 → double.mul (tb i) half1 = some (tb (i + 1)) := by
  intro i hi
  match i, hi with
  | 0, _ => decide +kernel
  | 1, _ => decide +kernel
  | 2, _ => decide +kernel
  | 3, _ => decide +kernel
  | 4, _ => decide +kernel
  | 5, _ => decide +kernel
  | 6, _ => decide +kernel
  | 7, _ => decide +kernel
  | 8, _ => decide +kernel
  | 9, _ => decide +kernel
  | 10, _ => decide +kernel
  | n + 11, hi => omega
theorem tb_bd : ∀ i, i < 12 → 4607182418800017408 ≤ tb i ∧ tb i < 4611686018427387904 := by
  intro i hi
  match i, hi with
  | 0, _ => decide
  | 1, _ => decide
  | 2, _ => decide
  | 3, _ => decide
  | 4, _ => decide
  | 5, _ => decide
  | 6, _ => decide
  | 7, _ => decide
  | 8, _ => decide
  | 9, _ => decide
  | 10, _ => decide
  | 11, _ => decide
  | n + 12, hi => omega
theorem tb_mono1 : ∀ i, i < 11 → tb i ≤ tb (i + 1) := by
  intro i hi
  match i, hi with
  | 0, _ => decide
  | 1, _ => decide
  | 2, _ => decide
  | 3, _ => decide
  | 4, _ => decide
  | 5, _ => decide
  | 6, _ => decide
  | 7, _ => decide
  | 8, _ => decide
  | 9, _ => decide
  | 10, _ => decide
  | n + 11, hi => omega
theorem tb_mono (i j : Nat) (h : i ≤ j) (hj : j < 12) : tb i ≤ tb j := by
  induction j with
  | zero => obtain rfl : i = 0 := by omega
            exact Nat.le_refl _
  | succ j ih =>
    by_cases e : i = j + 1
    · subst e; exact Nat.le_refl _
    · exact Nat.le_trans (ih (by omega) (by omega)) (tb_mono1 j (by omega))
theorem tb_ex (i : Nat) (h : i < 12) : ex (tb i) = 1022 := by
  have := tb_bd i h
  unfold ex; omega

theorem pr_one (a : Nat) (h : 4503599627370496 ≤ a) : pr a 4607182418800017408 = a := by
  unfold pr
  have e1 : ex 4607182418800017408 = 1022 := by decide
  have e2 : mg 4607182418800017408 = 4503599627370496 := by decide
  have hm := mg_nor a h
  have e3 : rn (mg a * 4503599627370496) = mg a := by
    unfold rn
    rw [if_pos (by omega)]
    exact ct_exact (mg a) 52
  rw [e1, e2, e3]
  have := rung_nor a h
  omega
theorem pr_top (a y : Nat) (h : 4503599627370496 ≤ a) (hy : ex y = 1022) (hy2 : 4503599627370496 ≤ y) : pr a y ≤ a + 4503599627370496 := by
  unfold pr
  have hm := mg_nor a h
  have hn := mg_nor y hy2
  have h1 := rn_mono (mg a * mg y) (mg a * 2 ^ 53) (Nat.mul_le_mul_left _ (by omega))
  have e3 : rn (mg a * 2 ^ 53) = 4503599627370496 + mg a := by
    unfold rn
    rw [if_neg (by omega), ct_exact]
  rw [e3] at h1
  have := rung_nor a h
  rw [hy]
  omega
theorem pr_low (a y : Nat) (h : 4503599627370496 ≤ a) (h2 : 4607182418800017408 ≤ y) (hy : ex y = 1022) : a ≤ pr a y := by
  have e1 : ex 4607182418800017408 = 1022 := by decide
  have h1 := pr_mono a 4607182418800017408 y (by omega) h2 (by omega) (by omega)
  rw [pr_one a h] at h1
  exact h1

/-- Twice, and half. -/
theorem twice (x : Nat) (h : 4503599627370496 ≤ x) (h2 : x < 9007199254740992000) : double.mul x 4611686018427387904 = some (x + 4503599627370496) := by
  have e1 : ex 4611686018427387904 = 1023 := by decide
  have e2 : mg 4611686018427387904 = 4503599627370496 := by decide
  have hx : ex x ≤ 1999 := by unfold ex; omega
  have hm := mg_nor x h
  have hr := rung_nor x h
  rw [mul_nor x _ h (by omega) (by decide) (by decide) (by rw [e1]; omega) (by rw [e1]; omega)]
  unfold pr
  rw [e1, e2]
  have e3 : rn (mg x * 4503599627370496) = mg x := by
    unfold rn
    rw [if_pos (by omega)]
    exact ct_exact (mg x) 52
  rw [e3]
  refine congrArg some ?_
  omega
theorem log_nor (m : Nat) (h : 4503599627370496 ≤ m ∧ m < 9007199254740992) : m.log2 = 52 := (Nat.log2_eq_iff (by omega)).2 ⟨by omega, by omega⟩
theorem halve (x : Nat) (h : 9007199254740992 ≤ x) (h2 : x < 9218868437227405312) : double.div x 4611686018427387904 = some (x - 4503599627370496) := by
  have e1 : ex 4611686018427387904 = 1023 := by decide
  have e2 : mg 4611686018427387904 = 4503599627370496 := by decide
  have hm := mg_nor x (by omega)
  have hr := rung_nor x (by omega)
  have hx : 1 ≤ ex x := by unfold ex; omega
  have hl := log_nor (mg x) hm
  have hl2 : Nat.log2 4503599627370496 = 52 := log_nor _ (by omega)
  unfold Format.div
  rw [read_pos x h2, read_pos _ (by decide), e1, e2, dF]
  simp only [Datum.quotient, Bool.xor_self]
  rw [if_neg (by decide), hl, hl2]
  simp only [Option.map_some, Format.write]
  have a1 : 52 + 2 + 52 - 52 = 54 := by decide
  have a2 : mg x <<< 54 / 4503599627370496 = mg x * 4 := by rw [Nat.shiftLeft_eq]; omega
  have a3 : (mg x <<< 54 % 4503599627370496 != 0) = false := by rw [Nat.shiftLeft_eq]; simp; omega
  rw [a1, a2, a3]
  have a4 : 2 * (mg x * 4) + Bool.toNat false = mg x * 2 ^ 3 := by simp; omega
  rw [a4]
  have hl3 : (mg x * 2 ^ 3).log2 = 55 := (Nat.log2_eq_iff (by omega)).2 ⟨by omega, by omega⟩
  unfold Format.nearest
  rw [if_neg (by omega), dB, dI, dL, dF, hl3]
  simp only [Format.word, Bool.false_eq_true, if_false]
  have b1 : -1074 + (ex x : Int) - (-1074 + ((1023 : Nat) : Int)) - ((54 : Nat) : Int) - 1 = (ex x : Int) - 1078 := by omega
  rw [b1]
  have b2 : max ((ex x : Int) - 1078 + ((55 : Nat) : Int) - ((52 : Nat) : Int)) (-1074) = (ex x : Int) - 1075 := by omega
  rw [b2]
  have b3 : ((ex x : Int) - 1078 - ((ex x : Int) - 1075)).toNat = 0 := by omega
  have b4 : ((ex x : Int) - 1075 - ((ex x : Int) - 1078)).toNat = 3 := by omega
  have b5 : ((ex x : Int) - 1075 - -1074).toNat = ex x - 1 := by omega
  rw [b3, b4, b5, Nat.shiftLeft_zero, cut_is _ _ (by omega), ct_exact]
  refine congrArg some ?_
  generalize mg x = m at *
  generalize ex x = e at *
  clear a1 a2 a3 a4 b1 b2 b3 b4 b5 hl hl2 hl3 e1 e2
  rw [Nat.min_eq_left (by omega)]
  omega

/-- How often the key k (from the A of octave 4 on) swings, if that A's number is a. -/
def hz (a : Nat) (k : Int) : Nat := ((pr a (tb (k % 12).toNat) : Int) + k / 12 * 4503599627370496).toNat
theorem a_bd (a : Nat) (h1 : 4607182418800017408 ≤ a) (h2 : a ≤ 4681608360884174848) : 1022 ≤ ex a ∧ ex a ≤ 1038 := by unfold ex; omega
theorem pr_bd (a : Nat) (i : Nat) (hi : i < 12) (h1 : 4607182418800017408 ≤ a) : a ≤ pr a (tb i) ∧ pr a (tb i) ≤ a + 4503599627370496 := by
  have := tb_bd i hi
  exact ⟨pr_low a _ (by omega) this.1 (tb_ex i hi), pr_top a _ (by omega) (tb_ex i hi) (by omega)⟩
theorem mul_tb (a i : Nat) (hi : i < 12) (h1 : 4607182418800017408 ≤ a) (h2 : a ≤ 4681608360884174848) : double.mul a (tb i) = some (pr a (tb i)) := by
  have := tb_bd i hi
  have := a_bd a h1 h2
  have := tb_ex i hi
  exact mul_nor a (tb i) (by omega) (by omega) (by omega) (by omega) (by omega) (by omega)
theorem r_bd (k : Int) : (k % 12).toNat < 12 := by omega
theorem hz_mono (a : Nat) (k l : Int) (h1 : 4607182418800017408 ≤ a) (h2 : a ≤ 4681608360884174848) (h : k ≤ l) : hz a k ≤ hz a l := by
  unfold hz
  have b1 := pr_bd a _ (r_bd k) h1
  have b2 := pr_bd a _ (r_bd l) h1
  have t1 := tb_bd _ (r_bd k)
  have hx := a_bd a h1 h2
  by_cases c : k / 12 = l / 12
  · have hm := pr_mono a _ _ (by omega) (tb_mono (k % 12).toNat (l % 12).toNat (by omega) (r_bd l)) (by rw [tb_ex _ (r_bd k)]; omega) (by rw [tb_ex _ (r_bd k), tb_ex _ (r_bd l)])
    rw [c]; omega
  · have : k / 12 + 1 ≤ l / 12 := by omega
    omega
theorem hz_bd (a : Nat) (k : Int) (h1 : 4607182418800017408 ≤ a) (h2 : a ≤ 4681608360884174848) (h3 : -600 ≤ k) (h4 : k ≤ 600) : 4377498837804122112 ≤ hz a k ∧ hz a k ≤ 4913427193461211136 := by
  unfold hz
  have b1 := pr_bd a _ (r_bd k) h1
  omega
theorem hz_up (a : Nat) (k : Int) (h1 : 4607182418800017408 ≤ a) (h2 : a ≤ 4681608360884174848) (h3 : -600 ≤ k) (h4 : k ≤ 600) : hz a (k + 12) = hz a k + 4503599627370496 := by
  unfold hz
  have b1 := pr_bd a _ (r_bd k) h1
  rw [show (k + 12) % 12 = k % 12 by omega, show (k + 12) / 12 = k / 12 + 1 by omega]
  omega
end Go.Proofs.YtdjdnjaijpafgacDoor.Fl
