/- Plain facts on how far a wave goes in a sample. -/
import Derived.Test.YtjfmpgfpehnnjahVoMath2
namespace Go.Proofs.Ytjfmpgfpehnnjah.Vo
set_option linter.unusedVariables false
open Ieee Fl

theorem mul_two_pow (a K j : Nat) : 2 ^ (j + K) * a = a * 2 ^ j * 2 ^ K := by rw [Nat.pow_add]; ac_rfl
theorem mul_pow_two (a K j : Nat) : a * 2 ^ (j + K) = a * 2 ^ j * 2 ^ K := by rw [Nat.pow_add]; ac_rfl
theorem rr_shift (a K : Nat) : rr K (a * 2 ^ K) = rr 0 a := by have := rr_scale 0 a K; rwa [Nat.zero_add] at this
/-- A word's number times a power of two is a word's number, if not of the format. -/
theorem rr_up (r j : Nat) : ∃ r', rr 0 (vl r * 2 ^ j) = r' ∧ vl r' = vl r * 2 ^ j := by
  by_cases h : r < 4503599627370496
  · obtain ⟨r', hr⟩ := rep (mg r) (ex r + j) (by unfold mg; rw [if_pos h]; omega)
    have e : vl r' = vl r * 2 ^ j := by rw [hr]; unfold vl; rw [Nat.pow_add, Nat.mul_assoc]
    exact ⟨r', by have := rr_vl 0 r'; rw [Nat.pow_zero, Nat.mul_one, e] at this; exact this, e⟩
  · obtain ⟨r', hr⟩ := rep (mg r) (ex r + j) (mg_nor r (by omega)).2
    have e : vl r' = vl r * 2 ^ j := by rw [hr]; unfold vl; rw [Nat.pow_add, Nat.mul_assoc]
    exact ⟨r', by have := rr_vl 0 r'; rw [Nat.pow_zero, Nat.mul_one, e] at this; exact this, e⟩
theorem pow_one_le (a K : Nat) (h : 1 ≤ a) : 2 ^ K ≤ a * 2 ^ K := by
  have := Nat.mul_le_mul_right (2 ^ K) h; rwa [Nat.one_mul] at this
theorem half_bd (v F j K : Nat) (u a : Nat) (h : v * 2 ≤ u) (hu : u = a * 2 ^ K) : v * 2 ^ (j + 1) ≤ u * 2 ^ j := by
  rw [Nat.pow_succ, Nat.mul_comm (2 ^ j) 2, ← Nat.mul_assoc]
  exact Nat.mul_le_mul_right _ h
theorem big_bd (u a j K : Nat) (hu : u = a * 2 ^ K) (ha : a ≤ 1048576) : u * 2 ^ j ≤ 2 ^ (j + 20 + K) := by
  rw [hu, Nat.pow_add, Nat.pow_add, show a * 2 ^ K * 2 ^ j = 2 ^ j * a * 2 ^ K by ac_rfl]
  exact Nat.mul_le_mul_right _ (Nat.mul_le_mul_left _ ha)
theorem order_inf (d y : Nat) (hy : Fi y) (h : double.read d = .infinity false) : leT d y = false := by
  unfold leT Format.order
  rw [h, read_fi y hy]; rfl
theorem inf_read : double.read 9218868437227405312 = .infinity false := by decide +kernel

/-- What Step's tests and its quotient come to. -/
structure StOk (h W : Nat) (hf d : Nat) : Prop where
  a1 : double.div W 4611686018427387904 = some hf
  a2 : double.mul 4611686018427387904 h = some d
  a3 : leT d W = leT h hf
  a4 : leT h hf = true → ∃ x q n, double.mul h 4751297606875873280 = some x ∧ double.div x W = some q ∧ floatToIntVal .f64 q .u32 = some n ∧ 0 ≤ n ∧ n < 4294967296
theorem step_ok (h : Nat) (rate : Int) (hh : h < 18446744073709551616) (h1 : 1 ≤ rate) (h2 : rate ≤ 1048576) (g : geT h 0 = true) : ∃ hf d, StOk h (floatOfInt .f64 rate) hf d := by
  obtain ⟨i1, i2, i3, i4⟩ := int_va rate (by omega)
  have ha1 : 1 ≤ rate.natAbs := by omega
  have ha2 : rate.natAbs ≤ 1048576 := by omega
  have hs : decide (rate < 0) = false := decide_eq_false (by omega)
  rw [hs] at i3
  generalize floatOfInt .f64 rate = W at *
  generalize rate.natAbs = a at *
  clear i2 hs
  have hn : 4607182418800017408 ≤ rg W := le_of_vl (by rw [vl_one, i4]; exact pow_one_le a 1074 ha1)
  have hF := i1.2
  have hd2 := div_two W 1 i1 (by omega) (by unfold ex; omega) (by decide)
  rw [i3] at hd2
  have hv2 := vl_sub (rg W) 1 (by omega) (by unfold ex; omega)
  rw [Nat.pow_one] at hv2
  have zva : va 0 = 0 := by decide
  obtain ⟨hf, hhf⟩ : ∃ hf, hf = wd false (rg W - 1 * 4503599627370496) := ⟨_, rfl⟩
  have fhf : Fi hf := by rw [hhf]; exact fi_wd _ _ (by omega)
  have vhf : va hf = (vl (rg W - 1 * 4503599627370496) : Int) := by rw [hhf, va_wd _ _ (by omega)]; rfl
  have vW : va W = (vl (rg W) : Int) := by unfold va; rw [i3]; rfl
  rw [← hhf] at hd2
  by_cases c : Fi h
  · -- a number
    rw [geT_fi h 0 c ⟨by decide, by decide⟩, zva] at g
    have g0 : 0 ≤ va h := of_decide_eq_true g
    have hz : sg h = true → vl (rg h) = 0 := by
      intro hs
      unfold va at g0; rw [hs] at g0; simp at g0; omega
    have vh : va h = (vl (rg h) : Int) := by
      unfold va
      cases hs : sg h
      · rfl
      · have := hz hs; simp [this]
    obtain ⟨t1, t2, t3, t4, t5⟩ := two_rd 1 (by decide)
    have hm := mul_fi ((1 + 1023) * 4503599627370496) h t3 c
    rw [t1, t2, vl_two, mul_two_pow (vl (rg h)) 1074 1, rr_shift] at hm
    obtain ⟨r', e1, e2⟩ := rr_up (rg h) 1
    rw [e1, Bool.false_xor] at hm
    rw [Nat.pow_one] at e2
    obtain ⟨d, hd⟩ : ∃ d, d = wd (sg h) (min r' 9218868437227405312) := ⟨_, rfl⟩
    rw [← hd] at hm
    refine ⟨hf, d, hd2, hm, ?_, ?_⟩
    · rw [leT_fi h hf c fhf, vh, vhf]
      by_cases b : r' < 9218868437227405312
      · rw [Nat.min_eq_left (by omega)] at hd
        have fd : Fi d := by rw [hd]; exact fi_wd _ _ b
        have vd : va d = (vl r' : Int) := by
          rw [hd, va_wd _ _ (by omega)]
          cases hs : sg h
          · rfl
          · have := hz hs
            have : vl r' = 0 := by rw [e2, this]
            simp [this]
        rw [leT_fi d W fd i1, vd, vW, e2, ← hv2]
        refine decide_eq_decide.2 ?_
        generalize vl (rg W - 1 * 4503599627370496) = u1
        generalize vl (rg h) = u2
        omega
      · rw [Nat.min_eq_right (by omega)] at hd
        have hsf : sg h = false := by
          cases hs : sg h
          · rfl
          · have := hz hs
            have : vl r' = 0 := by rw [e2, this]
            have : r' = 0 := vl_inj (by rw [this]; decide)
            omega
        rw [hsf] at hd
        have : d = 9218868437227405312 := hd
        rw [order_inf d W i1 (by rw [this]; exact inf_read)]
        have h3 := vl_lt (x := rg W) (y := r') (by omega)
        symm
        rw [decide_eq_false_iff_not]
        omega
    · intro hl
      rw [leT_fi h hf c fhf, vh, vhf] at hl
      have hl2 := of_decide_eq_true hl
      have hv3 : vl (rg h) * 2 ≤ vl (rg W) := by omega
      obtain ⟨u1, u2, u3, u4, u5⟩ := two_rd 32 (by decide)
      have hx := mul_fi h ((32 + 1023) * 4503599627370496) c u3
      rw [u1, u2, vl_two, mul_pow_two (vl (rg h)) 1074 32, rr_shift] at hx
      obtain ⟨r2, e3, e4⟩ := rr_up (rg h) 32
      have hb := half_bd (vl (rg h)) 0 31 1074 (vl (rg W)) a hv3 i4
      have hb2 := big_bd (vl (rg W)) a 31 1074 i4 ha2
      have hr2 : r2 ≤ (31 + 20 + 1023) * 4503599627370496 := le_of_vl (by rw [e4, vl_two]; exact Nat.le_trans hb hb2)
      rw [e3, Bool.xor_false, Nat.min_eq_left (by omega)] at hx
      have fx : Fi (wd (sg h) r2) := fi_wd _ _ (by omega)
      have rx : rg (wd (sg h) r2) = r2 := rg_wd _ _ (by omega)
      obtain ⟨q, d1, d2, d3, d4⟩ := div_fi (wd (sg h) r2) W fx i1 (by omega)
      have d5 := d3 31 (by rw [rx, e4]; exact hb)
      rw [sg_wd _ _ (by omega), i3, Bool.xor_false] at d1
      rw [rx] at d4
      obtain ⟨n, n1, n2, n3⟩ := toInt_u32 (wd (sg h) q) (fi_wd _ _ (by omega)) (by rw [rg_wd _ _ (by omega)]; exact d5) (by
        cases hs : sg h
        · left; exact sg_wd _ _ (by omega)
        · right
          rw [rg_wd _ _ (by omega)]
          refine d4 (vl_inj ?_)
          rw [e4, hz hs, Nat.zero_mul]; decide)
      exact ⟨_, _, n, hx, d1, n3, n1, by omega⟩
  · -- no number
    rcases read_not h hh c with k | k | ⟨s, t, k⟩
    · have hm : double.mul 4611686018427387904 h = some 9218868437227405312 := by
        unfold Format.mul
        rw [k, show double.read 4611686018427387904 = .number false 4503599627370496 (-51) by decide +kernel]
        rfl
      refine ⟨hf, _, hd2, hm, ?_, ?_⟩
      · rw [order_inf _ W i1 inf_read, order_inf _ hf fhf k]
      · intro hl; rw [order_inf _ hf fhf k] at hl; exact absurd hl (by decide)
    · unfold geT Format.order at g; rw [k, show double.read 0 = .number false 0 (-1074) by decide +kernel] at g; simp [Datum.order] at g
    · unfold geT Format.order at g; rw [k] at g; simp [Datum.order] at g
end Go.Proofs.Ytjfmpgfpehnnjah.Vo
