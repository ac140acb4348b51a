/- Plain facts on waves at a phase, as words. -/
import Derived.Test.YtjfmpgfpehnnjahVoMath
namespace Go.Proofs.Ytjfmpgfpehnnjah.Vo
set_option linter.unusedVariables false
open Ieee Fl

theorem zmul (K : Nat) : (0 : Int).natAbs * 2 ^ K = 0 := Nat.zero_mul _
theorem q_ok (n : Int) (k : Nat) (hk : k ≤ 40) (h : n.natAbs ≤ 2 ^ k) : ∃ r, double.div (floatOfInt .f64 n) ((k + 1023) * 4503599627370496) = some (wd (decide (n < 0)) r) ∧ r ≤ 4607182418800017408 ∧ (n = 0 → r = 0) := by
  have hp : 2 ^ k ≤ 2 ^ 40 := Nat.pow_le_pow_right (by decide) hk
  obtain ⟨i1, i2, i3, i4⟩ := int_va n (by omega)
  obtain ⟨t1, t2, t3, t4, t5⟩ := two_rd k (by omega)
  obtain ⟨r, h1, h2, h3, h4⟩ := div_fi (floatOfInt .f64 n) ((k + 1023) * 4503599627370496) i1 t3 (by rw [t2]; omega)
  rw [i3, t1, Bool.xor_false] at h1
  refine ⟨r, h1, ?_, fun hz => h4 ?_⟩
  · have := h3 0 (by
      rw [i4, t2, vl_two, Nat.pow_zero, Nat.mul_one, Nat.pow_add]
      exact Nat.mul_le_mul_right _ h)
    omega
  · refine vl_inj ?_
    rw [i4, hz, zmul 1074]; decide
/-- A whole number over a power of two. -/
def qt (n : Int) (k : Nat) : Nat := (double.div (floatOfInt .f64 n) ((k + 1023) * 4503599627370496)).getD 0
/-- Within 1. -/
structure Wv (x : Nat) : Prop where
  w1 : Fi x
  w2 : rg x ≤ 4607182418800017408
theorem qt_ok (n : Int) (k : Nat) (hk : k ≤ 40) (h : n.natAbs ≤ 2 ^ k) : double.div (floatOfInt .f64 n) ((k + 1023) * 4503599627370496) = some (qt n k) ∧ Wv (qt n k) ∧ sg (qt n k) = decide (n < 0) ∧ (n = 0 → qt n k = 0) := by
  obtain ⟨r, h1, h2, h3⟩ := q_ok n k hk h
  have e : qt n k = wd (decide (n < 0)) r := by unfold qt; rw [h1]; rfl
  refine ⟨by rw [e, h1], ?_, ?_, ?_⟩
  · rw [e]; exact ⟨fi_wd _ _ (by omega), by rw [rg_wd _ _ (by omega)]; exact h2⟩
  · rw [e]; exact sg_wd _ _ (by omega)
  · intro hz
    rw [e, h3 hz, hz]; rfl
def fp (n : Int) : Nat := qt (n % 16777216) 24
theorem fp_ok (n : Int) : double.div (floatOfInt .f64 (n % 16777216)) 4715268809856909312 = some (fp n) ∧ Pa (fp n) := by
  obtain ⟨h1, h2, h3, h4⟩ := qt_ok (n % 16777216) 24 (by decide) (by omega)
  exact ⟨h1, h2.w1, h2.w2, by rw [show fp n = qt (n % 16777216) 24 from rfl, h3]; simp; omega⟩
/-- The sine at a phase. -/
def sv (n : Int) : Nat := sn (n / 16777216).toNat (fp n)
/-- A phase from nought: below 0 from half a round on. -/
def sw (n : Int) : Int := if n < 2147483648 then n else n - 4294967296
def tw (n : Int) : Int := if n ≤ 1073741824 then n else if n ≤ 3221225472 then 2147483648 - n else n - 4294967296
def sq (n : Int) : Nat := if n < 2147483648 then 4607182418800017408 else 13830554455654793216
/-- A wave. -/
def shp (kind n : Int) : Nat := if kind = 1 then sv n else if kind = 2 then qt (sw n) 31 else if kind = 3 then sq n else if kind = 4 then qt (tw n) 30 else 0
def she (kind : Int) : Int := if 1 ≤ kind ∧ kind ≤ 4 then 0 else 1
theorem saw_ok (n : Int) (h0 : 0 ≤ n) (h1 : n < 4294967296) : double.div (floatOfInt .f64 (sw n)) 4746794007248502784 = some (qt (sw n) 31) ∧ Wv (qt (sw n) 31) := by
  obtain ⟨a, b, _, _⟩ := qt_ok (sw n) 31 (by decide) (by unfold sw; split <;> omega)
  exact ⟨a, b⟩
theorem tri_ok (n : Int) (h0 : 0 ≤ n) (h1 : n < 4294967296) : double.div (floatOfInt .f64 (tw n)) 4742290407621132288 = some (qt (tw n) 30) ∧ Wv (qt (tw n) 30) := by
  obtain ⟨a, b, _, _⟩ := qt_ok (tw n) 30 (by decide) (by unfold tw; split; omega; split <;> omega)
  exact ⟨a, b⟩
theorem sq_ok (n : Int) : Wv (sq n) := by
  unfold sq; split
  · exact ⟨⟨by decide, by decide⟩, by decide⟩
  · exact ⟨⟨by decide, by decide⟩, by decide⟩
theorem sv_ok (n : Int) (h0 : 0 ≤ n) (h1 : n < 4294967296) : Wv (sv n) := by
  have := sine_ok (n / 16777216).toNat (fp n) (by omega) (fp_ok n).2
  exact ⟨this.2.1, this.2.2.1⟩
theorem shp_ok (kind n : Int) (h0 : 0 ≤ n) (h1 : n < 4294967296) : Wv (shp kind n) := by
  unfold shp
  split
  · exact sv_ok n h0 h1
  split
  · exact (saw_ok n h0 h1).2
  split
  · exact sq_ok n
  split
  · exact (tri_ok n h0 h1).2
  · exact ⟨⟨by decide, by decide⟩, by decide⟩
/-- Half a circle on. -/
theorem sv_opp (n : Int) (h0 : 0 ≤ n) (h1 : n < 4294967296) : va (sv ((n + 2147483648) % 4294967296)) = - va (sv n) := by
  have h := sine_opp (n / 16777216).toNat (fp n) (by omega) (fp_ok n).2
  unfold sv
  rw [show ((n + 2147483648) % 4294967296 / 16777216).toNat = ((n / 16777216).toNat + 128) % 256 by omega, show fp ((n + 2147483648) % 4294967296) = fp n by unfold fp; congr 1; omega]
  exact h
theorem wv_bd (x : Nat) (h : Wv x) : (va x).natAbs ≤ vl 4607182418800017408 := by rw [va_abs]; exact vl_mono h.w2
/-- Within 1, as the tests ask. -/
theorem one_va : va 4607182418800017408 = (vl 4607182418800017408 : Int) ∧ va 13830554455654793216 = -(vl 4607182418800017408 : Int) := ⟨va_wd false 4607182418800017408 (by decide), va_wd true 4607182418800017408 (by decide)⟩
theorem wv_in (x : Nat) (h : Wv x) : geT x 13830554455654793216 = true ∧ leT x 4607182418800017408 = true := by
  have hb := wv_bd x h
  rw [geT_fi x _ h.w1 ⟨by decide, by decide⟩, leT_fi x _ h.w1 ⟨by decide, by decide⟩, one_va.1, one_va.2]
  constructor
  · simp; omega
  · simp; omega
end Go.Proofs.Ytjfmpgfpehnnjah.Vo
