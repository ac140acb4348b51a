/- Both Rounds agree below one. -/
import Derived.Test.YtdlcnbfiklbiiaaDb8
namespace Go.Proofs.Ytdlcnbfiklbiiaa.Db
open Go.RowKit Go.Maps Go.Sort Ieee
set_option linter.unusedVariables false
set_option linter.unusedSimpArgs false

/-- Both Rounds answer the same. -/
def Agree (b : Nat) : Prop := ∃ n : Int, (∀ w, Calls Try.prog 12 #[.float .f64 b] w fun e w' => e = .returned (.int .i64 n) ∧ Below w.heap.size w w') ∧ ∀ w, Calls Try.prog 13 #[.float .f64 b] w fun e w' => e = .returned (.int .i64 n) ∧ Below w.heap.size w w'
theorem read_one : Format.read double 4607182418800017408 = .number false 4503599627370496 (-52) := by decide +kernel
theorem read_none : Format.read double 13830554455654793216 = .number true 4503599627370496 (-52) := by decide +kernel
theorem order_self (b : Nat) (h : (Format.read double b).isNaN = false) : (double.order b b != some .eq) = false := by
  unfold Format.order
  cases hd : Format.read double b with
  | nan s t => rw [hd] at h; cases h
  | infinity s => cases s <;> rfl
  | number s m p =>
    unfold Datum.order
    simp only [Int.min_self]
    rw [Int.compare_eq_eq.2 rfl]; rfl
/-- Against one and minus one. -/
theorem order_ones (b m u v : Nat) (s : Bool) (p : Int) (hb : Format.read double b = .number s m p) (hu : u = (p - min p (-52)).toNat) (hv : v = (-52 - min p (-52)).toNat) :
    double.order b 4607182418800017408 = some (compare (if s then -((m * 2 ^ u : Nat) : Int) else ((m * 2 ^ u : Nat) : Int)) ((4503599627370496 * 2 ^ v : Nat) : Int)) ∧
    double.order b 13830554455654793216 = some (compare (if s then -((m * 2 ^ u : Nat) : Int) else ((m * 2 ^ u : Nat) : Int)) (-((4503599627370496 * 2 ^ v : Nat) : Int))) := by
  constructor
  · unfold Format.order
    rw [hb, read_one]
    unfold Datum.order
    simp only [← hu, ← hv]
    rw [signed_eq, signed_eq]; rfl
  · unfold Format.order
    rw [hb, read_none]
    unfold Datum.order
    simp only [← hu, ← hv]
    rw [signed_eq, signed_eq]; rfl
/-- Below one. -/
theorem ones_below (b m : Nat) (s : Bool) (p : Int) (hb : Format.read double b = .number s m p) (hm : m < 9007199254740992) (hp : p ≤ -53) :
    (double.order b 4607182418800017408 == some .gt || double.order b 4607182418800017408 == some .eq) = false ∧ (double.order b 13830554455654793216 == some .lt || double.order b 13830554455654793216 == some .eq) = false := by
  obtain ⟨v, hv⟩ : ∃ v, v = (-52 - min p (-52)).toNat := ⟨_, rfl⟩
  obtain ⟨h1, h2⟩ := order_ones b m 0 v s p hb (by omega) hv
  have hv1 : 1 ≤ v := by omega
  have hV : 2 * 4503599627370496 ≤ 4503599627370496 * 2 ^ v := by
    have : 2 ^ 1 ≤ 2 ^ v := Nat.pow_le_pow_right (by omega) hv1
    omega
  rw [Nat.pow_zero, Nat.mul_one] at h1 h2
  generalize 4503599627370496 * 2 ^ v = V at *
  rw [h1, h2]
  have c1 : compare (if s then -((m : Nat) : Int) else ((m : Nat) : Int)) ((V : Nat) : Int) = .lt := Int.compare_eq_lt.2 (by split <;> omega)
  have c2 : compare (if s then -((m : Nat) : Int) else ((m : Nat) : Int)) (-((V : Nat) : Int)) = .gt := Int.compare_eq_gt.2 (by split <;> omega)
  rw [c1, c2]
  exact ⟨rfl, rfl⟩
theorem agree_of {b : Nat} (h : ∃ n : Int, (∀ w, Calls Try.prog 12 #[.float .f64 b] w fun e w' => e = .returned (.int .i64 n) ∧ w' = w) ∧ ∀ w, Calls Try.prog 13 #[.float .f64 b] w fun e w' => e = .returned (.int .i64 n) ∧ Below w.heap.size w w') : Agree b := by
  obtain ⟨n, h1, h2⟩ := h
  exact ⟨n, fun w => (h1 w).mono fun e w' ⟨a, c⟩ => ⟨a, by rw [c]; exact Below.refl _ _⟩, h2⟩
theorem agree_normal (b m : Nat) (s : Bool) (p : Int) (hb : Format.read double b = .number s m p) (h1 : 4503599627370496 ≤ m) (h2 : m < 9007199254740992) (hp1 : -1074 ≤ p) (hp2 : p ≤ -53) : Agree b := by
  obtain ⟨y, hm, hy⟩ := mul_normal b s m p hb h1 h2 hp1 (by omega)
  obtain ⟨d, hd⟩ : ∃ d : Nat, p + 15 = -(d : Int) := ⟨(-(p + 15)).toNat, by omega⟩
  rw [hd] at hy
  have ho := ones_below b m s p hb h2 hp2
  exact agree_of (both_small b y m d s hm hy h2 (by omega) (by omega) (order_self b (by rw [hb]; rfl)) ho.1 ho.2)
theorem agree_small (b m : Nat) (s : Bool) (hb : Format.read double b = .number s m (-1074)) (h1 : m < 4503599627370496) : Agree b := by
  obtain ⟨y, m', p', hm, hy, hm', hp1, hp2, _⟩ := mul_small b s m hb h1
  obtain ⟨d, hd⟩ : ∃ d : Nat, p' = -(d : Int) := ⟨(-p').toNat, by omega⟩
  rw [hd] at hy
  have ho := ones_below b m s (-1074) hb (by omega) (by omega)
  exact agree_of (both_small b y m' d s hm hy hm' (by omega) (by omega) (order_self b (by rw [hb]; rfl)) ho.1 ho.2)
/-- An infinity. -/
theorem inf_y (s : Bool) : ∃ y, y = Format.word double s (Format.infRung double) ∧ Format.read double y = .infinity s := ⟨_, rfl, by cases s <;> decide +kernel⟩
theorem round_inf (b : Nat) (s : Bool) (w : World) (hm : double.mul b 4674736413210574848 = some (Format.word double s (Format.infRung double))) :
    Calls Try.prog 12 #[.float .f64 b] w fun e w' => e = .returned (.int .i64 (if s then -32768 else 32767)) ∧ w' = w := by
  have hy : Format.read double (Format.word double s (Format.infRung double)) = .infinity s := by cases s <;> decide +kernel
  have hr := fun w => even_run _ _ hy rfl w
  have hn : (double.order (Format.write double ((Datum.infinity s).integral .even)) (Format.write double ((Datum.infinity s).integral .even)) != some .eq) = false := by cases s <;> decide +kernel
  cases s with
  | false => exact round_high b _ _ w hm hr hn (by decide +kernel)
  | true => exact round_low b _ _ w hm hr hn (by decide +kernel) (by decide +kernel)
theorem agree_inf (b : Nat) (s : Bool) (hb : Format.read double b = .infinity s) : Agree b := by
  have hm : double.mul b 4674736413210574848 = some (Format.word double s (Format.infRung double)) := by
    unfold Format.mul; rw [hb, read_k]
    cases s <;> rfl
  have hn := order_self b (by rw [hb]; rfl)
  refine agree_of ⟨_, fun w => round_inf b s w hm, fun w => ?_⟩
  cases s with
  | false => exact ref_high b w hn (by unfold Format.order; rw [hb, read_one]; rfl)
  | true => exact ref_low b w hn (by unfold Format.order; rw [hb, read_one]; rfl) (by unfold Format.order; rw [hb, read_none]; rfl)
end Go.Proofs.Ytdlcnbfiklbiiaa.Db
