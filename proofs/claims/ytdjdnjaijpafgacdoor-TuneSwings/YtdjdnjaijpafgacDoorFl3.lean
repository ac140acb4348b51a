/- Plain facts on whole numbers as words of IEEE 754's double format, and on quotients. -/
import Derived.Test.YtdjdnjaijpafgacDoorFl2
namespace Go.Proofs.YtdjdnjaijpafgacDoor.Fl
set_option linter.unusedVariables false
open Ieee

theorem fi_is (n : Int) (h1 : 1 ≤ n) (h2 : n ≤ 1073741824) : 4607182418800017408 ≤ floatOfInt .f64 n ∧ floatOfInt .f64 n ≤ 4751297606875873280 := by
  unfold floatOfInt FloatKind.nearest FloatKind.encode FloatKind.format
  have hn : decide (n < 0) = false := by simp; omega
  rw [hn]
  obtain ⟨u, rfl⟩ : ∃ u : Nat, n = u := ⟨n.toNat, by omega⟩
  rw [Int.natAbs_natCast]
  simp only [Format.write]
  have h0 : u ≠ 0 := by omega
  have hl1 := Nat.log2_self_le h0
  have hl2 : u < 2 ^ (u.log2 + 1) := Nat.lt_log2_self
  have hl3 : u.log2 ≤ 30 := by
    have : u.log2 < 31 := (Nat.log2_lt h0).2 (by omega)
    omega
  generalize hL : u.log2 = l at *
  unfold Format.nearest
  rw [if_neg h0, dB, dI, dL, dF, hL]
  simp only [Format.word, Bool.false_eq_true, if_false]
  have e1 : max ((0 : Int) + (l : Int) - ((52 : Nat) : Int)) (-1074) = (l : Int) - 52 := by omega
  rw [e1]
  have e2 : (0 - ((l : Int) - 52)).toNat = 52 - l := by omega
  have e3 : ((l : Int) - 52 - 0).toNat = 0 := by omega
  have e4 : ((l : Int) - 52 - -1074).toNat = 1022 + l := by omega
  rw [e2, e3, e4, Nat.shiftLeft_eq, cut_is _ _ (by omega)]
  have e5 : ct (u * 2 ^ (52 - l)) 0 = u * 2 ^ (52 - l) := by
    have := ct_exact (u * 2 ^ (52 - l)) 0
    rw [Nat.pow_zero, Nat.mul_one] at this
    exact this
  rw [e5]
  have b1 : 2 ^ 52 ≤ u * 2 ^ (52 - l) := by
    have : 2 ^ 52 = 2 ^ l * 2 ^ (52 - l) := by rw [← Nat.pow_add]; congr 1; omega
    rw [this]; exact Nat.mul_le_mul_right _ hl1
  have b2 : u * 2 ^ (52 - l) < 2 ^ 53 := by
    have : 2 ^ 53 = 2 ^ (l + 1) * 2 ^ (52 - l) := by rw [← Nat.pow_add]; congr 1; omega
    rw [this]; exact Nat.mul_lt_mul_of_pos_right hl2 (Nat.two_pow_pos _)
  generalize u * 2 ^ (52 - l) = m at *
  have b3 : m < 9007199254740992 := by omega
  have b4 : 4503599627370496 ≤ m := by omega
  clear b1 b2 hl1 hl2 hL e5 e1 e2 e3 e4 hn
  rw [Nat.min_eq_left (by omega)]
  omega
theorem div_nor (x y : Nat) (hx2 : x < 9218868437227405312) (hy : 4503599627370496 ≤ y) (hy2 : y < 9218868437227405312) : ∃ r, double.div x y = some r := by
  unfold Format.div
  rw [read_pos x hx2, read_pos y hy2]
  simp only [Datum.quotient]
  have := mg_pos y (by omega)
  rw [if_neg (by omega)]
  exact ⟨_, rfl⟩
/-- What a pure tuning tells. -/
def tm (a : Nat) (u d : Int) : Nat := ((double.mul a (floatOfInt .f64 u)).bind fun x => double.div x (floatOfInt .f64 d)).getD 0
def t1 (a : Nat) (u : Int) : Nat := (double.mul a (floatOfInt .f64 u)).getD 0
theorem pr_lt (a f : Nat) (h1 : 4607182418800017408 ≤ a) (h2 : a ≤ 4681608360884174848) (hf : 4607182418800017408 ≤ f) (hf2 : f ≤ 4751297606875873280) : double.mul a f = some (pr a f) ∧ pr a f < 9218868437227405312 := by
  have ha := a_bd a h1 h2
  have hb1 : 1022 ≤ ex f := by unfold ex; omega
  have hb2 : ex f ≤ 1054 := by unfold ex; omega
  have hr := (rn_bd _ (mul_bd _ _ (mg_nor a (by omega)) (mg_nor f (by omega)))).2
  refine ⟨mul_nor a f (by omega) (by omega) (by omega) (by omega) (by omega) (by omega), ?_⟩
  unfold pr
  generalize rn (mg a * mg f) = R at *
  generalize ex a = p at *
  generalize ex f = q at *
  clear hf hf2 h1 h2
  have : p + q - 1022 ≤ 1070 := by omega
  have : (p + q - 1022) * 4503599627370496 ≤ 1070 * 4503599627370496 := Nat.mul_le_mul_right _ this
  omega
theorem tm_is (a : Nat) (u d : Int) (h1 : 4607182418800017408 ≤ a) (h2 : a ≤ 4681608360884174848) (hu : 1 ≤ u) (hu2 : u ≤ 1073741824) (hd : 1 ≤ d) (hd2 : d ≤ 1073741824) :
    double.mul a (floatOfInt .f64 u) = some (t1 a u) ∧ double.div (t1 a u) (floatOfInt .f64 d) = some (tm a u d) := by
  have hf := fi_is u hu hu2
  have hg := fi_is d hd hd2
  unfold t1 tm
  generalize floatOfInt .f64 u = f at *
  generalize floatOfInt .f64 d = g at *
  obtain ⟨hm, hp⟩ := pr_lt a f h1 h2 hf.1 hf.2
  obtain ⟨r, hq⟩ := div_nor (pr a f) g hp (by omega) (by omega)
  rw [hm]
  refine ⟨rfl, ?_⟩
  rw [Option.getD_some, Option.bind_some, hq]
  rfl
end Go.Proofs.YtdjdnjaijpafgacDoor.Fl
