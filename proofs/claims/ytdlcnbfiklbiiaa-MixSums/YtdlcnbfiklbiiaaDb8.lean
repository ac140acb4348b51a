/- Round, the program's: where it is cut; what is great. -/
import Derived.Test.YtdlcnbfiklbiiaaDb7
namespace Go.Proofs.Ytdlcnbfiklbiiaa.Db
open Go.RowKit Go.Maps Go.Sort Ieee
set_option linter.unusedVariables false
set_option linter.unusedSimpArgs false

set_option maxHeartbeats 4000000 in
theorem round_high (b y r : Nat) (w : World) (hm : Ieee.double.mul b 4674736413210574848 = some y)
    (hr : ∀ w, (callFunc 25 #[.float .f64 y]).run Try.prog w = .ok (.value (.float .f64 r)) w) (hn : (Ieee.double.order r r != some .eq) = false)
    (hg : (Ieee.double.order r 4674736138332667904 == some .gt) = true) :
    Calls Try.prog 12 #[.float .f64 b] w fun e w' => e = .returned (.int .i64 32767) ∧ w' = w := by
  have hm' := fmul hm
  have hq := fun w => isNaN_any r false w hn
  have hg' : (FloatKind.f64.format.order r 4674736138332667904 == some .gt) = true := hg
  go_enter Try.func12, Try.ntmps12
  go_wp2_with (simp only [hm', hr])
  refine (hq _).mono ?_
  rintro e w1 ⟨rfl, rfl⟩
  go_wp2_with (simp only [hg'])
  go_ret
  exact ⟨rfl, rfl⟩
set_option maxHeartbeats 4000000 in
theorem round_low (b y r : Nat) (w : World) (hm : Ieee.double.mul b 4674736413210574848 = some y)
    (hr : ∀ w, (callFunc 25 #[.float .f64 y]).run Try.prog w = .ok (.value (.float .f64 r)) w) (hn : (Ieee.double.order r r != some .eq) = false)
    (hg : (Ieee.double.order r 4674736138332667904 == some .gt) = false) (hl : (Ieee.double.order r 13898108450065350656 == some .lt) = true) :
    Calls Try.prog 12 #[.float .f64 b] w fun e w' => e = .returned (.int .i64 (-32768)) ∧ w' = w := by
  have hm' := fmul hm
  have hq := fun w => isNaN_any r false w hn
  have hg' : (FloatKind.f64.format.order r 4674736138332667904 == some .gt) = false := hg
  have hl' : (FloatKind.f64.format.order r 13898108450065350656 == some .lt) = true := hl
  go_enter Try.func12, Try.ntmps12
  go_wp2_with (simp only [hm', hr])
  refine (hq _).mono ?_
  rintro e w1 ⟨rfl, rfl⟩
  go_wp2_with (simp only [hg', hl'])
  go_ret
  exact ⟨rfl, rfl⟩
/-- A whole number as a double: Round of it. -/
theorem round_W (b y r : Nat) (n : Int) (w : World) (hm : Ieee.double.mul b 4674736413210574848 = some y)
    (hr : ∀ w, (callFunc 25 #[.float .f64 y]).run Try.prog w = .ok (.value (.float .f64 r)) w) (hW : W r n) (h1 : -9007199254740992 ≤ n) (h2 : n ≤ 9007199254740992) :
    Calls Try.prog 12 #[.float .f64 b] w fun e w' => e = .returned (.int .i64 (if 32767 < n then 32767 else if n < -32768 then -32768 else n)) ∧ w' = w := by
  have hn : (Ieee.double.order r r != some .eq) = false := by rw [hW.order hW, Int.compare_eq_eq.2 rfl]; rfl
  have og := hW.order W_max
  have ol := hW.order W_min
  by_cases c1 : 32767 < n
  · rw [if_pos c1]
    exact round_high b y r w hm hr hn (by rw [og, Int.compare_eq_gt.2 c1]; rfl)
  · rw [if_neg c1]
    have hg : (Ieee.double.order r 4674736138332667904 == some .gt) = false := by
      rw [og]
      rcases Int.lt_or_eq_of_le (show n ≤ 32767 by omega) with h | h
      · rw [Int.compare_eq_lt.2 h]; rfl
      · rw [Int.compare_eq_eq.2 h]; rfl
    by_cases c2 : n < -32768
    · rw [if_pos c2]
      exact round_low b y r w hm hr hn hg (by rw [ol, Int.compare_eq_lt.2 c2]; rfl)
    · rw [if_neg c2]
      have hl : (Ieee.double.order r 13898108450065350656 == some .lt) = false := by
        rw [ol]
        rcases Int.lt_or_eq_of_le (show -32768 ≤ n by omega) with h | h
        · rw [Int.compare_eq_gt.2 h]; rfl
        · rw [Int.compare_eq_eq.2 h.symm]; rfl
      refine round_plain b y r n w hm hr hn hg hl ?_
      unfold floatToIntVal
      have e : (FloatKind.f64.decode r).toInt .zero = some n := hW.toInt
      rw [e]
      exact if_pos ⟨by show (-9223372036854775808 : Int) ≤ n; omega, by show n ≤ (9223372036854775807 : Int); omega⟩
theorem conv_W (f : Nat) (n : Int) (hW : W f n) (h1 : -9007199254740992 ≤ n) (h2 : n ≤ 9007199254740992) : floatToIntVal .f64 f .i64 = some n := by
  unfold floatToIntVal
  have e : (FloatKind.f64.decode f).toInt .zero = some n := hW.toInt
  rw [e]
  exact if_pos ⟨by show (-9223372036854775808 : Int) ≤ n; omega, by show n ≤ (9223372036854775807 : Int); omega⟩
theorem write_read (s : Bool) (k : Nat) (h : k < 9007199254740992) : ∃ j : Nat, Format.read double (Format.write double (.number s k 0)) = .number s (k * 2 ^ j) (-(j : Int)) := by
  show ∃ j : Nat, Format.read double (Format.nearest double s k 0) = _
  by_cases h0 : k = 0
  · subst h0
    obtain ⟨j, hj⟩ : ∃ j : Nat, (j : Int) = 1074 := ⟨1074, rfl⟩
    refine ⟨j, ?_⟩
    have : Format.nearest double s 0 0 = Format.word double s 0 := by unfold Format.nearest; rw [if_pos rfl]
    rw [this, read_small s 0 (by omega), Nat.zero_mul, hj]
  · have hl : k.log2 ≤ 52 := by
      have b := (Nat.log2_lt h0 (k := 53)).2 (by omega)
      omega
    obtain ⟨j, hj⟩ := read_nearest s k 0 h0 h (by omega) (by omega)
    exact ⟨j, by rw [hj, Int.zero_sub]⟩
/-- y: below one, as parts of 2^d: both Rounds. -/
theorem both_small (b y m d : Nat) (s : Bool) (hm : Ieee.double.mul b 4674736413210574848 = some y) (hy : Format.read double y = .number s m (-(d : Int))) (hmb : m < 9007199254740992) (hd : d ≤ 1074) (hd2 : 38 ≤ d)
    (hn : (Ieee.double.order b b != some .eq) = false) (h1 : (Ieee.double.order b 4607182418800017408 == some .gt || Ieee.double.order b 4607182418800017408 == some .eq) = false)
    (h2 : (Ieee.double.order b 13830554455654793216 == some .lt || Ieee.double.order b 13830554455654793216 == some .eq) = false) :
    ∃ n : Int, (∀ w, Calls Try.prog 12 #[.float .f64 b] w fun e w' => e = .returned (.int .i64 n) ∧ w' = w) ∧ ∀ w, Calls Try.prog 13 #[.float .f64 b] w fun e w' => e = .returned (.int .i64 n) ∧ Below w.heap.size w w' := by
  have hint : ∀ way : Toward, (Datum.number s m (-(d : Int))).integral way = .number s (way.cut s m d) 0 := fun way => by
    unfold Datum.integral
    have a : (-(d : Int)).toNat = 0 := by omega
    have c : (- -(d : Int)).toNat = d := by omega
    simp only [a, c, Nat.shiftLeft_zero]
  have hdp := Nat.two_pow_pos d
  have h38 : 2 ^ 38 ≤ 2 ^ d := Nat.pow_le_pow_right (by omega) hd2
  have hlo : m / 2 ^ d ≤ 32767 := by
    have : m / 2 ^ d < 32768 := (Nat.div_lt_iff_lt_mul hdp).2 (by omega)
    omega
  have hml := Nat.mod_lt m hdp
  have hdd : 2 ^ d = 2 * 2 ^ (d - 1) := by rw [← Nat.pow_succ']; congr 1; omega
  have hrE := fun w => even_run y _ hy rfl w
  have hrF := fun w => floor_run y _ hy rfl w
  rw [hint] at hrE hrF
  have hkE : Toward.even.cut s m d ≤ 32768 := by rw [cut_even]; split <;> omega
  have hkD : Toward.down.cut s m d ≤ 32768 := by rw [cut_down]; split <;> omega
  have WE := W.write s (Toward.even.cut s m d) (by omega)
  obtain ⟨f, hf⟩ : ∃ f, f = Format.write double (.number s (Toward.down.cut s m d) 0) := ⟨_, rfl⟩
  obtain ⟨j, hj⟩ := write_read s (Toward.down.cut s m d) (by omega)
  rw [← hf] at hrF hj
  have WF : W f (if s then -((Toward.down.cut s m d : Nat) : Int) else ((Toward.down.cut s m d : Nat) : Int)) := ⟨s, _, j, hj, rfl⟩
  have hcE := fun w => round_W b y _ _ w hm hrE WE (by cases s <;> simp <;> omega) (by cases s <;> simp <;> omega)
  have hcF := conv_W f _ WF (by cases s <;> simp <;> omega) (by cases s <;> simp <;> omega)
  cases s with
  | false =>
    have hk : Toward.down.cut false m d = m / 2 ^ d := by rw [cut_down, if_neg (by simp)]; rfl
    have hup := ways_up m d
    rw [hk] at hj hcF hup
    obtain ⟨z, hz, ho⟩ := sub_up y f m d j hy hj hmb hd hd2
    obtain ⟨c0, hc0⟩ : ∃ c0, c0 = compare ((m % 2 ^ d : Nat) : Int) ((2 ^ (d - 1) : Nat) : Int) := ⟨_, rfl⟩
    rw [← hc0] at ho
    have hgt : c0 = .gt ↔ ((2 ^ (d - 1) : Nat) : Int) < ((m % 2 ^ d : Nat) : Int) := by rw [hc0]; exact Int.compare_eq_gt
    have heq : c0 = .eq ↔ ((m % 2 ^ d : Nat) : Int) = ((2 ^ (d - 1) : Nat) : Int) := by rw [hc0]; exact Int.compare_eq_eq
    clear hc0
    generalize m / 2 ^ d = lo at *
    have hres := fun w => ref_mid b y f z c0 ((lo : Nat) : Int) w hn h1 h2 hm hrF hcF hz ho (by omega) (by omega)
    refine ⟨_, hcE, fun w => (hres w).mono fun e w' ⟨q1, q2⟩ => ⟨q1.trans (congrArg (fun x => Ending.returned (Value.int .i64 x)) ?_), q2⟩⟩
    have E1 : (if false = true then -((Toward.even.cut false m d : Nat) : Int) else ((Toward.even.cut false m d : Nat) : Int)) = ((Toward.even.cut false m d : Nat) : Int) := rfl
    rw [E1]
    clear hcE hcF hres hrE hrF hj
    generalize m % 2 ^ d = r at *
    generalize 2 ^ (d - 1) = g at *
    generalize Toward.even.cut false m d = E at *
    rw [hdd] at hup
    have key : (c0 = .gt ∨ (c0 = .eq ∧ (lo : Int) % 2 ≠ 0)) ↔ (g : Int) < (r : Int) ∨ ((r : Int) = (g : Int) ∧ (lo : Int) % 2 ≠ 0) := by rw [hgt, heq]
    clear h38 hdp hdd hml hint WE WF hf hn h1 h2 hm hy ho hz hkD hgt heq
    by_cases c : (g : Int) < (r : Int) ∨ ((r : Int) = (g : Int) ∧ (lo : Int) % 2 ≠ 0)
    · rw [if_pos (key.2 c)]
      have c' : 2 * g < 2 * r ∨ (2 * r = 2 * g ∧ lo % 2 = 1) := by
        rcases c with c | ⟨c, c2⟩
        · exact .inl (by omega)
        · exact .inr ⟨by omega, by omega⟩
      rw [if_pos c'] at hup
      split <;> (try split) <;> omega
    · rw [if_neg (fun h => c (key.1 h))]
      have c' : ¬ (2 * g < 2 * r ∨ (2 * r = 2 * g ∧ lo % 2 = 1)) := by
        rintro (h | ⟨h, h'⟩)
        · exact c (.inl (by omega))
        · exact c (.inr ⟨by omega, by omega⟩)
      rw [if_neg c'] at hup
      split <;> (try split) <;> omega
  | true =>
    have hk : Toward.down.cut true m d = m / 2 ^ d + (if m % 2 ^ d ≠ 0 then 1 else 0) := by
      rw [cut_down]; congr 1; by_cases c : m % 2 ^ d = 0 <;> simp [c]
    obtain ⟨k, hkk⟩ : ∃ k, k = Toward.down.cut true m d := ⟨_, rfl⟩
    rw [← hkk] at hj hcF hk hkD
    obtain ⟨z, c0, hz, ho, hiff⟩ := sub_down y f m d j k hy hj hk hmb hd hd2
    have hres := fun w => ref_mid b y f z c0 (-((k : Nat) : Int)) w hn h1 h2 hm hrF hcF hz ho (by omega) (by omega)
    refine ⟨_, hcE, fun w => (hres w).mono fun e w' ⟨q1, q2⟩ => ⟨q1.trans (congrArg (fun x => Ending.returned (Value.int .i64 x)) ?_), q2⟩⟩
    have E1 : (if true = true then -((Toward.even.cut true m d : Nat) : Int) else ((Toward.even.cut true m d : Nat) : Int)) = -((Toward.even.cut true m d : Nat) : Int) := rfl
    rw [E1]
    have hEc := cut_even true m d
    have hdm := Nat.div_add_mod m (2 ^ d)
    have hkd : k * 2 ^ d = 2 ^ d * (m / 2 ^ d) + (if m % 2 ^ d ≠ 0 then 2 ^ d else 0) := by
      rw [hk, Nat.add_mul, Nat.mul_comm]; congr 1; split <;> simp
    generalize Toward.even.cut true m d = E at *
    generalize 2 ^ d * (m / 2 ^ d) = LG at *
    generalize m / 2 ^ d = lo at *
    generalize k * 2 ^ d = KG at *
    generalize m % 2 ^ d = r at *
    rw [hdd] at hEc hkd hml
    generalize 2 ^ (d - 1) = g at *
    clear hcE hcF hres hrE hrF
    have key : (c0 = .gt ∨ (c0 = .eq ∧ (-(k : Int)) % 2 ≠ 0)) ↔ (g < KG - m ∨ (KG - m = g ∧ k % 2 = 1)) := by
      rw [← hiff]
      constructor
      · rintro (h | ⟨h, h'⟩)
        · exact .inl h
        · exact .inr ⟨h, by omega⟩
      · rintro (h | ⟨h, h'⟩)
        · exact .inl h
        · exact .inr ⟨h, by omega⟩
    clear h38 hdp hdd hint WE WF hf hn h1 h2 hm hy ho hz hkD hiff
    by_cases q : g < KG - m ∨ (KG - m = g ∧ k % 2 = 1)
    · rw [if_pos (key.2 q)]
      by_cases c : r = 0
      · subst c
        simp at hk hkd hEc
        omega
      · rw [if_pos c] at hk hkd
        have : E = lo := by
          rw [hEc, if_neg (by omega)]; rfl
        split <;> (try split) <;> omega
    · rw [if_neg (fun h => q (key.1 h))]
      by_cases c : r = 0
      · rw [if_neg (by omega)] at hk hkd
        have : E = lo := by
          rw [hEc, if_neg (by omega)]; rfl
        split <;> (try split) <;> omega
      · rw [if_pos c] at hk hkd
        have : E = lo + 1 := by
          rw [hEc, if_pos (by omega)]
        split <;> (try split) <;> omega
end Go.Proofs.Ytdlcnbfiklbiiaa.Db
