/- Both Rounds agree at one and above. -/
import Derived.Test.YtdlcnbfiklbiiaaDb9
namespace Go.Proofs.Ytdlcnbfiklbiiaa.Db
open Go.RowKit Go.Maps Go.Sort Ieee
set_option linter.unusedVariables false
set_option linter.unusedSimpArgs false

theorem ref_great (b m : Nat) (s : Bool) (p : Int) (hb : Format.read double b = .number s m p) (h1 : 4503599627370496 ≤ m) (hp : -52 ≤ p) (w : World) :
    Calls Try.prog 13 #[.float .f64 b] w fun e w' => e = .returned (.int .i64 (if s then -32768 else 32767)) ∧ Below w.heap.size w w' := by
  obtain ⟨u, hu⟩ : ∃ u, u = (p - min p (-52)).toNat := ⟨_, rfl⟩
  obtain ⟨o1, o2⟩ := order_ones b m u 0 s p hb hu (by omega)
  have hn := order_self b (by rw [hb]; rfl)
  have hU : 4503599627370496 ≤ m * 2 ^ u := Nat.le_trans h1 (Nat.le_mul_of_pos_right _ (Nat.two_pow_pos u))
  rw [Nat.pow_zero, Nat.mul_one] at o1 o2
  generalize m * 2 ^ u = V at *
  cases s with
  | false =>
    refine ref_high b w hn ?_
    rw [o1]
    rcases Nat.lt_or_ge 4503599627370496 V with q | q
    · rw [Int.compare_eq_gt.2 (show ((4503599627370496 : Nat) : Int) < (if false = true then -((V : Nat) : Int) else ((V : Nat) : Int)) by show _ < ((V : Nat) : Int); omega)]; rfl
    · rw [Int.compare_eq_eq.2 (show (if false = true then -((V : Nat) : Int) else ((V : Nat) : Int)) = ((4503599627370496 : Nat) : Int) by show ((V : Nat) : Int) = _; omega)]; rfl
  | true =>
    refine ref_low b w hn ?_ ?_
    · rw [o1, Int.compare_eq_lt.2 (show (if true = true then -((V : Nat) : Int) else ((V : Nat) : Int)) < ((4503599627370496 : Nat) : Int) by show -((V : Nat) : Int) < _; omega)]; rfl
    · rw [o2]
      rcases Nat.lt_or_ge 4503599627370496 V with q | q
      · rw [Int.compare_eq_lt.2 (show (if true = true then -((V : Nat) : Int) else ((V : Nat) : Int)) < -((4503599627370496 : Nat) : Int) by show -((V : Nat) : Int) < _; omega)]; rfl
      · rw [Int.compare_eq_eq.2 (show (if true = true then -((V : Nat) : Int) else ((V : Nat) : Int)) = -((4503599627370496 : Nat) : Int) by show -((V : Nat) : Int) = _; omega)]; rfl
theorem mul_over (b m : Nat) (s : Bool) (p : Int) (hb : Format.read double b = .number s m p) (h1 : 4503599627370496 ≤ m) (h2 : m < 9007199254740992) (hp : 957 ≤ p) : double.mul b 4674736413210574848 = some (Format.word double s (Format.infRung double)) := by
  have hy : double.mul b 4674736413210574848 = some (Format.nearest double s (m * 4503599627370496) (p + -37)) := by
    unfold Format.mul; rw [hb, read_k]
    show some (Format.nearest double (s ^^ false) (m * 4503599627370496) (p + -37)) = _
    cases s <;> rfl
  rw [hy]
  have hm0 : m ≠ 0 := by omega
  have hl : m.log2 = 52 := by
    have a := (Nat.le_log2 hm0 (k := 52)).2 (by omega)
    have b := (Nat.log2_lt hm0 (k := 53)).2 (by omega)
    omega
  have hls := log2_shift m 52 hm0
  have e0 : m * 4503599627370496 = m * 2 ^ 52 := by omega
  rw [e0]
  have hn : m * 2 ^ 52 ≠ 0 := by omega
  have hc := cut_exact .even s m 52
  obtain ⟨M, hM⟩ : ∃ M, M = m * 2 ^ 52 := ⟨_, rfl⟩
  rw [← hM] at hls hn hc ⊢
  unfold Format.nearest
  rw [if_neg hn, hls, hl, least, infR, binR, fracR]
  have e1 : max (p + -37 + ((52 + 52 : Nat) : Int) - ((52 : Nat) : Int)) (-1074) = p + 15 := by omega
  simp only [e1]
  rw [show (p + -37 - (p + 15)).toNat = 0 by omega, show (p + 15 - (p + -37)).toNat = 52 by omega, Nat.shiftLeft_zero, hc, Nat.min_eq_right (by omega)]
theorem round_far (b m : Nat) (s : Bool) (p : Int) (hb : Format.read double b = .number s m p) (h1 : 4503599627370496 ≤ m) (h2 : m < 9007199254740992) (hp1 : -15 < p) (hp2 : p ≤ 956) (w : World) :
    Calls Try.prog 12 #[.float .f64 b] w fun e w' => e = .returned (.int .i64 (if s then -32768 else 32767)) ∧ w' = w := by
  obtain ⟨y, hm, hy⟩ := mul_normal b s m p hb h1 h2 (by omega) hp2
  obtain ⟨t, ht⟩ : ∃ t : Nat, p + 15 = (t : Int) := ⟨(p + 15).toNat, by omega⟩
  rw [ht] at hy
  have hint : (Datum.number s m (t : Int)).integral .even = .number s (m * 2 ^ t) 0 := by
    unfold Datum.integral
    have a : ((t : Int)).toNat = t := by omega
    have c : (-(t : Int)).toNat = 0 := by omega
    have e5 := cut_exact .even s (m * 2 ^ t) 0
    rw [Nat.pow_zero, Nat.mul_one] at e5
    simp only [a, c, Nat.shiftLeft_eq, e5]
  have hr := fun w => even_run y _ hy rfl w
  rw [hint] at hr
  have hrd : Format.read double (Format.write double (.number s (m * 2 ^ t) 0)) = .number s m (t : Int) := by
    show Format.read double (Format.nearest double s (m * 2 ^ t) 0) = _
    have e := nearest_normal s m t (t : Int) h1 h2 (by omega) (by omega)
    rw [show (t : Int) - (t : Int) = 0 by omega] at e
    rw [e]
    exact read_normal s m t h1 h2 (by omega) (by omega)
  generalize Format.write double (.number s (m * 2 ^ t) 0) = r at *
  have hn := order_self r (by rw [hrd]; rfl)
  have rmax : Format.read double 4674736138332667904 = .number false 9006924376834048 (-38) := by decide +kernel
  have rmin : Format.read double 13898108450065350656 = .number true 4503599627370496 (-37) := by decide +kernel
  have V1 : 9006924376834048 < m * 2 ^ (t + 38) := by
    have : m * 2 ^ 38 ≤ m * 2 ^ (t + 38) := Nat.mul_le_mul_left _ (Nat.pow_le_pow_right (by omega) (by omega))
    omega
  have V2 : 4503599627370496 < m * 2 ^ (t + 37) := by
    have : m * 2 ^ 37 ≤ m * 2 ^ (t + 37) := Nat.mul_le_mul_left _ (Nat.pow_le_pow_right (by omega) (by omega))
    omega
  have og : double.order r 4674736138332667904 = some (compare (if s then -((m * 2 ^ (t + 38) : Nat) : Int) else ((m * 2 ^ (t + 38) : Nat) : Int)) ((9006924376834048 : Nat) : Int)) := by
    unfold Format.order
    rw [hrd, rmax]
    unfold Datum.order
    have b1 : min ((t : Nat) : Int) (-38) = -38 := by omega
    simp only [b1]
    rw [show (((t : Nat) : Int) - -38).toNat = t + 38 by omega, show ((-38 : Int) - -38).toNat = 0 from rfl, signed_eq, signed_eq, Nat.pow_zero, Nat.mul_one]; rfl
  have ol : double.order r 13898108450065350656 = some (compare (if s then -((m * 2 ^ (t + 37) : Nat) : Int) else ((m * 2 ^ (t + 37) : Nat) : Int)) (-((4503599627370496 : Nat) : Int))) := by
    unfold Format.order
    rw [hrd, rmin]
    unfold Datum.order
    have b1 : min ((t : Nat) : Int) (-37) = -37 := by omega
    simp only [b1]
    rw [show (((t : Nat) : Int) - -37).toNat = t + 37 by omega, show ((-37 : Int) - -37).toNat = 0 from rfl, signed_eq, signed_eq, Nat.pow_zero, Nat.mul_one]; rfl
  generalize m * 2 ^ (t + 38) = A at *
  generalize m * 2 ^ (t + 37) = B at *
  cases s with
  | false =>
    refine round_high b y r w hm hr hn ?_
    rw [og, Int.compare_eq_gt.2 (show ((9006924376834048 : Nat) : Int) < (if false = true then -((A : Nat) : Int) else ((A : Nat) : Int)) by show _ < ((A : Nat) : Int); omega)]; rfl
  | true =>
    refine round_low b y r w hm hr hn ?_ ?_
    · rw [og, Int.compare_eq_lt.2 (show (if true = true then -((A : Nat) : Int) else ((A : Nat) : Int)) < ((9006924376834048 : Nat) : Int) by show -((A : Nat) : Int) < _; omega)]; rfl
    · rw [ol, Int.compare_eq_lt.2 (show (if true = true then -((B : Nat) : Int) else ((B : Nat) : Int)) < -((4503599627370496 : Nat) : Int) by show -((B : Nat) : Int) < _; omega)]; rfl
theorem round_near (b m : Nat) (s : Bool) (p : Int) (hb : Format.read double b = .number s m p) (h1 : 4503599627370496 ≤ m) (h2 : m < 9007199254740992) (hp1 : -52 ≤ p) (hp2 : p ≤ -15) (w : World) :
    Calls Try.prog 12 #[.float .f64 b] w fun e w' => e = .returned (.int .i64 (if s then -32768 else 32767)) ∧ w' = w := by
  obtain ⟨y, hm, hy⟩ := mul_normal b s m p hb h1 h2 (by omega) (by omega)
  obtain ⟨d, hd⟩ : ∃ d : Nat, p + 15 = -(d : Int) := ⟨(-(p + 15)).toNat, by omega⟩
  rw [hd] at hy
  have hint : (Datum.number s m (-(d : Int))).integral .even = .number s (Toward.even.cut s m d) 0 := by
    unfold Datum.integral
    have a : (-(d : Int)).toNat = 0 := by omega
    have c : (- -(d : Int)).toNat = d := by omega
    simp only [a, c, Nat.shiftLeft_zero]
  have hr := fun w => even_run y _ hy rfl w
  rw [hint] at hr
  have hk1 : 32768 ≤ Toward.even.cut s m d := by
    rw [cut_even]
    have a : 32768 ≤ m / 2 ^ d := (Nat.le_div_iff_mul_le (Nat.two_pow_pos d)).2 (by
      have : 2 ^ d ≤ 2 ^ 37 := Nat.pow_le_pow_right (by omega) (by omega)
      omega)
    omega
  have hk2 : Toward.even.cut s m d < 9007199254740992 := by
    by_cases c : d = 0
    · subst c
      have e5 := cut_exact .even s m 0
      rw [Nat.pow_zero, Nat.mul_one] at e5
      rw [e5]; exact h2
    · rw [cut_even]
      have a : m / 2 ^ d ≤ m / 2 := Nat.div_le_div_left (by
        have : 2 ^ 1 ≤ 2 ^ d := Nat.pow_le_pow_right (by omega) (by omega)
        omega) (by omega)
      split <;> omega
  have WE := W.write s (Toward.even.cut s m d) hk2
  generalize Toward.even.cut s m d = k at *
  have h := round_W b y _ _ w hm hr WE (by cases s <;> simp <;> omega) (by cases s <;> simp <;> omega)
  refine h.mono fun e w' ⟨q1, q2⟩ => ⟨q1.trans (congrArg (fun x => Ending.returned (Value.int .i64 x)) ?_), q2⟩
  cases s with
  | false => show (if 32767 < ((k : Nat) : Int) then (32767 : Int) else _) = 32767; rw [if_pos (by omega)]
  | true =>
    show (if 32767 < -((k : Nat) : Int) then (32767 : Int) else if -((k : Nat) : Int) < -32768 then -32768 else -((k : Nat) : Int)) = -32768
    rw [if_neg (by omega)]
    split <;> omega
theorem agree_great (b m : Nat) (s : Bool) (p : Int) (hb : Format.read double b = .number s m p) (h1 : 4503599627370496 ≤ m) (h2 : m < 9007199254740992) (hp1 : -52 ≤ p) (hp2 : p ≤ 971) : Agree b := by
  refine agree_of ⟨if s then -32768 else 32767, fun w => ?_, fun w => ref_great b m s p hb h1 hp1 w⟩
  by_cases c : 957 ≤ p
  · exact round_inf b s w (mul_over b m s p hb h1 h2 c)
  · by_cases c2 : -15 < p
    · exact round_far b m s p hb h1 h2 c2 (by omega) w
    · exact round_near b m s p hb h1 h2 hp1 (by omega) w
end Go.Proofs.Ytdlcnbfiklbiiaa.Db
