/- Doubles in plain words: whole numbers as doubles; what is read of any word; a product by 32768. -/
import Derived.Test.YtdlcnbfiklbiiaaDb2
namespace Go.Proofs.Ytdlcnbfiklbiiaa.Db
open Ieee
set_option linter.unusedVariables false
set_option linter.unusedSimpArgs false

/-- A double is this whole number. -/
def W (r : Nat) (n : Int) : Prop := ∃ (s : Bool) (k j : Nat), Format.read double r = .number s (k * 2 ^ j) (-(j : Int)) ∧ n = (if s then -(k : Int) else (k : Int))
theorem signed_eq (s : Bool) (m u : Nat) : signed s m u = (if s then -((m * 2 ^ u : Nat) : Int) else ((m * 2 ^ u : Nat) : Int)) := by
  unfold signed; rw [Nat.shiftLeft_eq]
theorem signed_place (s : Bool) (k j J : Nat) (h : j ≤ J) : signed s (k * 2 ^ j) (J - j) = (if s then -(k : Int) else (k : Int)) * ((2 ^ J : Nat) : Int) := by
  rw [signed_eq, Nat.mul_assoc, ← Nat.pow_add, show j + (J - j) = J by omega]
  cases s
  · simp
  · simp [Int.neg_mul]
theorem compare_mul (a b : Int) (g : Nat) (hg : 0 < g) : compare (a * (g : Int)) (b * (g : Int)) = compare a b := by
  have hg' : (0 : Int) < (g : Int) := by omega
  rcases Int.lt_trichotomy a b with h | h | h
  · rw [Int.compare_eq_lt.2 h, Int.compare_eq_lt.2 (Int.mul_lt_mul_of_pos_right h hg')]
  · subst h; rw [Int.compare_eq_eq.2 rfl, Int.compare_eq_eq.2 rfl]
  · rw [Int.compare_eq_gt.2 h, Int.compare_eq_gt.2 (Int.mul_lt_mul_of_pos_right h hg')]
theorem W.order {r q : Nat} {a b : Int} (h : W r a) (h2 : W q b) : double.order r q = some (compare a b) := by
  obtain ⟨s, k, j, e1, rfl⟩ := h
  obtain ⟨t, l, i, e2, rfl⟩ := h2
  unfold Format.order
  rw [e1, e2]
  unfold Datum.order
  obtain ⟨J, hJ⟩ : ∃ J, J = max j i := ⟨_, rfl⟩
  have b1 : min (-(j : Int)) (-(i : Int)) = -(J : Int) := by omega
  simp only [b1]
  rw [show (-(j : Int) - -(J : Int)).toNat = J - j by omega, show (-(i : Int) - -(J : Int)).toNat = J - i by omega, signed_place _ _ _ _ (by omega), signed_place _ _ _ _ (by omega), compare_mul _ _ _ (Nat.two_pow_pos J)]
theorem W.toInt {r : Nat} {a : Int} (h : W r a) : (Format.read double r).toInt .zero = some a := by
  obtain ⟨s, k, j, e1, rfl⟩ := h
  rw [e1]
  unfold Datum.toInt Datum.integral
  have h0 : (-(j : Int)).toNat = 0 := by omega
  have h1 : (- -(j : Int)).toNat = j := by omega
  simp only [h0, h1, Nat.shiftLeft_zero, cut_exact]
  rw [signed_eq, Nat.pow_zero, Nat.mul_one]
/-- A whole number of at most 53 digits is written as it is. -/
theorem W.write (s : Bool) (k : Nat) (h : k < 9007199254740992) : W (Format.write double (.number s k 0)) (if s then -(k : Int) else (k : Int)) := by
  show W (Format.nearest double s k 0) _
  by_cases h0 : k = 0
  · subst h0
    obtain ⟨j, hj⟩ : ∃ j : Nat, (j : Int) = 1074 := ⟨1074, rfl⟩
    refine ⟨s, 0, j, ?_, rfl⟩
    have : Format.nearest double s 0 0 = Format.word double s 0 := by unfold Format.nearest; rw [if_pos rfl]
    rw [this, read_small s 0 (by omega), Nat.zero_mul, hj]
  · have hl : k.log2 ≤ 52 := by
      have b := (Nat.log2_lt h0 (k := 53)).2 (by omega)
      omega
    obtain ⟨j, hj⟩ := read_nearest s k 0 h0 h (by omega) (by omega)
    exact ⟨s, k, j, by rw [hj, Int.zero_sub], rfl⟩
theorem W_max : W 4674736138332667904 32767 := ⟨false, 32767, 38, by decide +kernel, rfl⟩
theorem W_min : W 13898108450065350656 (-32768) := ⟨true, 32768, 37, by decide +kernel, rfl⟩
/-- What any word stands for. -/
theorem read_any (b : Nat) : (∃ s t, Format.read double b = .nan s t) ∨ (∃ s, Format.read double b = .infinity s) ∨ ∃ s m p, Format.read double b = .number s m p ∧ ((m < 4503599627370496 ∧ p = -1074) ∨ (4503599627370496 ≤ m ∧ m < 9007199254740992 ∧ -1074 ≤ p ∧ p ≤ 971)) := by
  unfold Format.read
  simp only [signR, binR, infR, least]
  generalize (b / 9223372036854775808 % 2 == 1) = s
  generalize b % 9223372036854775808 = r
  by_cases c1 : r < 4503599627370496
  · rw [if_pos c1]; exact .inr (.inr ⟨s, r, _, rfl, .inl ⟨c1, rfl⟩⟩)
  rw [if_neg c1]
  by_cases c2 : r < 2047 * 4503599627370496
  · rw [if_pos c2]
    exact .inr (.inr ⟨s, _, _, rfl, .inr ⟨by omega, by omega, by omega, by omega⟩⟩)
  rw [if_neg c2]
  by_cases c3 : r = 2047 * 4503599627370496
  · rw [if_pos c3]; exact .inr (.inl ⟨s, rfl⟩)
  · rw [if_neg c3]; exact .inl ⟨s, _, rfl⟩
/-- A number of at most 53 digits, noughts behind, is written as it is. -/
theorem read_nearest2 (neg : Bool) (T t : Nat) (e : Int) (h0 : T ≠ 0) (h2 : T < 9007199254740992) (he1 : -1074 ≤ e) (he2 : e + T.log2 ≤ 1023) :
    ∃ j : Nat, Format.read double (Format.nearest double neg (T * 2 ^ t) (e - t)) = .number neg (T * 2 ^ j) (e - j) := by
  have hn : T * 2 ^ t ≠ 0 := Nat.mul_ne_zero h0 (Nat.ne_of_gt (Nat.two_pow_pos t))
  have hl : T.log2 ≤ 52 := by
    have b := (Nat.log2_lt h0 (k := 53)).2 (by omega)
    omega
  have hlo : 2 ^ T.log2 ≤ T := (Nat.le_log2 h0).1 (Nat.le_refl _)
  have hhi : T < 2 ^ (T.log2 + 1) := (Nat.log2_lt h0).1 (by omega)
  have hls := log2_shift T t h0
  obtain ⟨L, hL⟩ : ∃ L, L = T.log2 := ⟨_, rfl⟩
  rw [← hL] at hl hlo hhi he2 hls
  obtain ⟨j, hj⟩ : ∃ j : Nat, (j : Int) = min (52 - (L : Int)) (e + 1074) := ⟨(min (52 - (L : Int)) (e + 1074)).toNat, by omega⟩
  have hcut : ∀ q : Int, q = e - j → Toward.even.cut neg ((T * 2 ^ t) <<< (e - t - q).toNat) (q - (e - t)).toNat = T * 2 ^ j := by
    intro q hq
    by_cases c : t ≤ j
    · rw [show (e - t - q).toNat = j - t by omega, show (q - (e - t)).toNat = 0 by omega, Nat.shiftLeft_eq, Nat.mul_assoc, ← Nat.pow_add, show t + (j - t) = j by omega]
      have e5 := cut_exact .even neg (T * 2 ^ j) 0
      rw [Nat.pow_zero, Nat.mul_one] at e5
      exact e5
    · rw [show (e - t - q).toNat = 0 by omega, show (q - (e - t)).toNat = t - j by omega, Nat.shiftLeft_zero]
      have e5 := cut_exact .even neg (T * 2 ^ j) (t - j)
      rw [Nat.mul_assoc, ← Nat.pow_add, show j + (t - j) = t by omega] at e5
      exact e5
  have hM2 : T * 2 ^ j < 9007199254740992 := by
    have : T * 2 ^ j < 2 ^ (L + 1) * 2 ^ j := (Nat.mul_lt_mul_right (Nat.two_pow_pos j)).2 hhi
    rw [← Nat.pow_add] at this
    have h3 : 2 ^ (L + 1 + j) ≤ 2 ^ 53 := Nat.pow_le_pow_right (by omega) (by omega)
    omega
  have hnear : Format.nearest double neg (T * 2 ^ t) (e - t) = Format.word double neg (min ((e - j + 1074).toNat * 4503599627370496 + T * 2 ^ j) (2047 * 4503599627370496)) := by
    unfold Format.nearest
    rw [if_neg hn, hls, least, infR, binR, fracR]
    have e1 : max (e - (t : Int) + ((L + t : Nat) : Int) - ((52 : Nat) : Int)) (-1074) = e - j := by omega
    simp only [e1]
    rw [hcut _ rfl, show (e - (j : Int) - -1074).toNat = (e - (j : Int) + 1074).toNat from by congr 1]
  refine ⟨j, ?_⟩
  rw [hnear, Nat.min_eq_left (by omega)]
  by_cases c : e - (j : Int) = -1074 ∧ T * 2 ^ j < 4503599627370496
  · have r := read_small neg (T * 2 ^ j) c.2
    rw [c.1]
    exact (congrArg (fun x => Format.read double (Format.word double neg x)) (by omega)).trans r
  · have hM1 : 4503599627370496 ≤ T * 2 ^ j := by
      by_cases d : e - (j : Int) = -1074
      · have : ¬ T * 2 ^ j < 4503599627370496 := fun h => c ⟨d, h⟩
        omega
      · have : 2 ^ L * 2 ^ j ≤ T * 2 ^ j := Nat.mul_le_mul_right _ hlo
        rw [← Nat.pow_add, show L + j = 52 by omega] at this
        omega
    exact read_normal neg (T * 2 ^ j) (e - j) hM1 hM2 (by omega) (by omega)
theorem read_k : Format.read double 4674736413210574848 = .number false 4503599627370496 (-37) := by decide +kernel
/-- Times 32768, normal. -/
theorem mul_normal (b : Nat) (s : Bool) (m : Nat) (p : Int) (hb : Format.read double b = .number s m p) (h1 : 4503599627370496 ≤ m) (h2 : m < 9007199254740992) (hp1 : -1074 ≤ p) (hp2 : p ≤ 956) :
    ∃ y, double.mul b 4674736413210574848 = some y ∧ Format.read double y = .number s m (p + 15) := by
  have hy : double.mul b 4674736413210574848 = some (Format.nearest double s (m * 4503599627370496) (p + -37)) := by
    unfold Format.mul; rw [hb, read_k]
    show some (Format.nearest double (s ^^ false) (m * 4503599627370496) (p + -37)) = _
    cases s <;> rfl
  refine ⟨_, hy, ?_⟩
  have e := nearest_normal s m 52 (p + 15) h1 h2 (by omega) (by omega)
  rw [show p + -37 = p + 15 - ((52 : Nat) : Int) by omega]
  rw [show m * 4503599627370496 = m * 2 ^ 52 by omega, e]
  exact read_normal s m (p + 15) h1 h2 (by omega) (by omega)
/-- Times 32768, very small. -/
theorem mul_small (b : Nat) (s : Bool) (m : Nat) (hb : Format.read double b = .number s m (-1074)) (h1 : m < 4503599627370496) :
    ∃ y m' p', double.mul b 4674736413210574848 = some y ∧ Format.read double y = .number s m' p' ∧ m' < 9007199254740992 ∧ -1074 ≤ p' ∧ p' ≤ -1060 ∧ (m' = 0 ↔ m = 0) := by
  have hy : double.mul b 4674736413210574848 = some (Format.nearest double s (m * 4503599627370496) (-1111)) := by
    unfold Format.mul; rw [hb, read_k]
    show some (Format.nearest double (s ^^ false) (m * 4503599627370496) (-1074 + -37)) = _
    rw [Bool.xor_false, show (-1074 : Int) + -37 = -1111 by omega]
  by_cases c : m < 274877906944
  · have e := nearest_small s (m * 32768) 37 (by omega)
    have e2 : m * 32768 * 2 ^ 37 = m * 4503599627370496 := by omega
    rw [e2, show (-1074 : Int) - ((37 : Nat) : Int) = -1111 by omega] at e
    by_cases c2 : m * 32768 < 4503599627370496
    · exact ⟨_, m * 32768, -1074, hy, by rw [e]; exact read_small s _ c2, by omega, by omega, by omega, by omega⟩
    · refine ⟨_, m * 32768, -1074, hy, ?_, by omega, by omega, by omega, by omega⟩
      have r := read_normal s (m * 32768) (-1074) (by omega) (by omega) (by omega) (by omega)
      have z : ((-1074 : Int) + 1074).toNat = 0 := rfl
      rw [z, Nat.zero_mul, Nat.zero_add] at r
      rw [e]; exact r
  · have hm0 : m ≠ 0 := by omega
    obtain ⟨L, hL⟩ : ∃ L, L = m.log2 := ⟨_, rfl⟩
    have hlo : 2 ^ L ≤ m := by rw [hL]; exact (Nat.le_log2 hm0).1 (Nat.le_refl _)
    have hhi : m < 2 ^ (L + 1) := by rw [hL]; exact (Nat.log2_lt hm0).1 (by omega)
    have hL2 : L ≤ 51 := by
      have b := (Nat.log2_lt hm0 (k := 52)).2 (by omega)
      omega
    have hL1 : 38 ≤ L := by
      rw [hL]; exact (Nat.le_log2 hm0).2 (by omega)
    obtain ⟨j, hj⟩ : ∃ j, j = 52 - L := ⟨_, rfl⟩
    have hM1 : 4503599627370496 ≤ m * 2 ^ j := by
      have : 2 ^ L * 2 ^ j ≤ m * 2 ^ j := Nat.mul_le_mul_right _ hlo
      rw [← Nat.pow_add, show L + j = 52 by omega] at this
      omega
    have hM2 : m * 2 ^ j < 9007199254740992 := by
      have : m * 2 ^ j < 2 ^ (L + 1) * 2 ^ j := (Nat.mul_lt_mul_right (Nat.two_pow_pos j)).2 hhi
      rw [← Nat.pow_add, show L + 1 + j = 53 by omega] at this
      omega
    have e := nearest_normal s (m * 2 ^ j) L ((L : Int) - 1111) hM1 hM2 (by omega) (by omega)
    rw [Nat.mul_assoc, ← Nat.pow_add, show j + L = 52 by omega, show (L : Int) - 1111 - (L : Int) = -1111 by omega] at e
    refine ⟨_, m * 2 ^ j, (L : Int) - 1111, hy, ?_, hM2, by omega, by omega, by omega⟩
    rw [show m * 4503599627370496 = m * 2 ^ 52 by omega, e]
    exact read_normal s _ _ hM1 hM2 (by omega) (by omega)
end Go.Proofs.Ytdlcnbfiklbiiaa.Db
