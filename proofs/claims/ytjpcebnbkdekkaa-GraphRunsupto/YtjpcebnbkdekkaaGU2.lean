/- Plain facts on how far a wave goes in a sample. -/
import Derived.Test.YtjpcebnbkdekkaaGU1
namespace Go.Proofs.Ytjpcebnbkdekkaa.Vo
set_option linter.unusedVariables false
open Ieee Fl

theorem mul_two_pow (a K j : Nat) : 2 ^ (j + K) * a = a * 2 ^ j * 2 ^ K := by rw [Nat.pow_add]; ac_rfl
theorem mul_pow_two (a K j : Nat) : a * 2 ^ (j + K) = a * 2 ^ j * 2 ^ K := by rw [Nat.pow_add]; ac_rfl
theorem rr_shift (a K : Nat) : rr K (a * 2 ^ K) = rr 0 a := by have := rr_scale 0 a K; rwa [Nat.zero_add] at this
/-- A word's number times a power of two is a word's number, if not of the format. -/
theorem rr_up (r j : Nat) : ∃ r', rr 0 (vl r * 2 ^ j) = r' ∧ vl r' = vl r * 2 ^ j := by
  by_cases h : r < 4503599627370496
  · obtain ⟨r', hr⟩ := rep (mg r) (ex r + j) (by unfold mg; rw [if_pos h]; omega)
    have e : vl r' = vl r * 2 ^ j := by rw [hr]; unfold vl; rw [Nat.pow_add, Nat.mul_assoc]
    exact ⟨r', by have := rr_vl 0 r'; rw [Nat.pow_zero, Nat.mul_one, e] at this; exact this, e⟩
  · obtain ⟨r', hr⟩ := rep (mg r) (ex r + j) (mg_nor r (by omega)).2
    have e : vl r' = vl r * 2 ^ j := by rw [hr]; unfold vl; rw [Nat.pow_add, Nat.mul_assoc]
    exact ⟨r', by have := rr_vl 0 r'; rw [Nat.pow_zero, Nat.mul_one, e] at this; exact this, e⟩
theorem pow_one_le (a K : Nat) (h : 1 ≤ a) : 2 ^ K ≤ a * 2 ^ K := by
  have := Nat.mul_le_mul_right (2 ^ K) h; rwa [Nat.one_mul] at this
theorem half_bd (v F j K : Nat) (u a : Nat) (h : v * 2 ≤ u) (hu : u = a * 2 ^ K) : v * 2 ^ (j + 1) ≤ u * 2 ^ j := by
  rw [Nat.pow_succ, Nat.mul_comm (2 ^ j) 2, ← Nat.mul_assoc]
  exact Nat.mul_le_mul_right _ h
theorem big_bd (u a j K : Nat) (hu : u = a * 2 ^ K) (ha : a ≤ 1048576) : u * 2 ^ j ≤ 2 ^ (j + 20 + K) := by
  rw [hu, Nat.pow_add, Nat.pow_add, show a * 2 ^ K * 2 ^ j = 2 ^ j * a * 2 ^ K by ac_rfl]
  exact Nat.mul_le_mul_right _ (Nat.mul_le_mul_left _ ha)
theorem order_inf (d y : Nat) (hy : Fi y) (h : double.read d = .infinity false) : leT d y = false := by
  unfold leT Format.order
  rw [h, read_fi y hy]; rfl
theorem inf_read : double.read 9218868437227405312 = .infinity false := by decide +kernel

/-- What Step's tests and its quotient come to. -/
structure StOk (h W : Nat) (hf d : Nat) : Prop where
  a1 : double.div W 4611686018427387904 = some hf
  a2 : double.mul 4611686018427387904 h = some d
  a3 : leT d W = leT h hf
  a4 : leT h hf = true → ∃ x q n, double.mul h 4751297606875873280 = some x ∧ double.div x W = some q ∧ floatToIntVal .f64 q .u32 = some n ∧ 0 ≤ n ∧ n < 4294967296
theorem step_ok (h : Nat) (rate : Int) (hh : h < 18446744073709551616) (h1 : 1 ≤ rate) (h2 : rate ≤ 1048576) (g : geT h 0 = true) : ∃ hf d, StOk h (floatOfInt .f64 rate) hf d := by
  obtain ⟨i1, i2, i3, i4⟩ := int_va rate (by omega)
  have ha1 : 1 ≤ rate.natAbs := by omega
  have ha2 : rate.natAbs ≤ 1048576 := by omega
  have hs : decide (rate < 0) = false := decide_eq_false (by omega)
  rw [hs] at i3
  generalize floatOfInt .f64 rate = W at *
  generalize rate.natAbs = a at *
  clear i2 hs
  have hn : 4607182418800017408 ≤ rg W := le_of_vl (by rw [vl_one, i4]; exact pow_one_le a 1074 ha1)
  have hF := i1.2
  have hd2 := div_two W 1 i1 (by omega) (by unfold ex; omega) (by decide)
  rw [i3] at hd2
  have hv2 := vl_sub (rg W) 1 (by omega) (by unfold ex; omega)
  rw [Nat.pow_one] at hv2
  have zva : va 0 = 0 := by decide
  obtain ⟨hf, hhf⟩ : ∃ hf, hf = wd false (rg W - 1 * 4503599627370496) := ⟨_, rfl⟩
  have fhf : Fi hf := by rw [hhf]; exact fi_wd _ _ (by omega)
  have vhf : va hf = (vl (rg W - 1 * 4503599627370496) : Int) := by rw [hhf, va_wd _ _ (by omega)]; rfl
  have vW : va W = (vl (rg W) : Int) := by unfold va; rw [i3]; rfl
  rw [← hhf] at hd2
  by_cases c : Fi h
  · -- a number
    rw [geT_fi h 0 c ⟨by decide, by decide⟩, zva] at g
    have g0 : 0 ≤ va h := of_decide_eq_true g
    have hz : sg h = true → vl (rg h) = 0 := by
      intro hs
      unfold va at g0; rw [hs] at g0; simp at g0; omega
    have vh : va h = (vl (rg h) : Int) := by
      unfold va
      cases hs : sg h
      · rfl
      · have := hz hs; simp [this]
    obtain ⟨t1, t2, t3, t4, t5⟩ := two_rd 1 (by decide)
    have hm := mul_fi ((1 + 1023) * 4503599627370496) h t3 c
    rw [t1, t2, vl_two, mul_two_pow (vl (rg h)) 1074 1, rr_shift] at hm
    obtain ⟨r', e1, e2⟩ := rr_up (rg h) 1
    rw [e1, Bool.false_xor] at hm
    rw [Nat.pow_one] at e2
    obtain ⟨d, hd⟩ : ∃ d, d = wd (sg h) (min r' 9218868437227405312) := ⟨_, rfl⟩
    rw [← hd] at hm
    refine ⟨hf, d, hd2, hm, ?_, ?_⟩
    · rw [leT_fi h hf c fhf, vh, vhf]
      by_cases b : r' < 9218868437227405312
      · rw [Nat.min_eq_left (by omega)] at hd
        have fd : Fi d := by rw [hd]; exact fi_wd _ _ b
        have vd : va d = (vl r' : Int) := by
          rw [hd, va_wd _ _ (by omega)]
          cases hs : sg h
          · rfl
          · have := hz hs
            have : vl r' = 0 := by rw [e2, this]
            simp [this]
        rw [leT_fi d W fd i1, vd, vW, e2, ← hv2]
        refine decide_eq_decide.2 ?_
        generalize vl (rg W - 1 * 4503599627370496) = u1
        generalize vl (rg h) = u2
        omega
      · rw [Nat.min_eq_right (by omega)] at hd
        have hsf : sg h = false := by
          cases hs : sg h
          · rfl
          · have := hz hs
            have : vl r' = 0 := by rw [e2, this]
            have : r' = 0 := vl_inj (by rw [this]; decide)
            omega
        rw [hsf] at hd
        have : d = 9218868437227405312 := hd
        rw [order_inf d W i1 (by rw [this]; exact inf_read)]
        have h3 := vl_lt (x := rg W) (y := r') (by omega)
        symm
        rw [decide_eq_false_iff_not]
        omega
    · intro hl
      rw [leT_fi h hf c fhf, vh, vhf] at hl
      have hl2 := of_decide_eq_true hl
      have hv3 : vl (rg h) * 2 ≤ vl (rg W) := by omega
      obtain ⟨u1, u2, u3, u4, u5⟩ := two_rd 32 (by decide)
      have hx := mul_fi h ((32 + 1023) * 4503599627370496) c u3
      rw [u1, u2, vl_two, mul_pow_two (vl (rg h)) 1074 32, rr_shift] at hx
      obtain ⟨r2, e3, e4⟩ := rr_up (rg h) 32
      have hb := half_bd (vl (rg h)) 0 31 1074 (vl (rg W)) a hv3 i4
      have hb2 := big_bd (vl (rg W)) a 31 1074 i4 ha2
      have hr2 : r2 ≤ (31 + 20 + 1023) * 4503599627370496 := le_of_vl (by rw [e4, vl_two]; exact Nat.le_trans hb hb2)
      rw [e3, Bool.xor_false, Nat.min_eq_left (by omega)] at hx
      have fx : Fi (wd (sg h) r2) := fi_wd _ _ (by omega)
      have rx : rg (wd (sg h) r2) = r2 := rg_wd _ _ (by omega)
      obtain ⟨q, d1, d2, d3, d4⟩ := div_fi (wd (sg h) r2) W fx i1 (by omega)
      have d5 := d3 31 (by rw [rx, e4]; exact hb)
      rw [sg_wd _ _ (by omega), i3, Bool.xor_false] at d1
      rw [rx] at d4
      obtain ⟨n, n1, n2, n3⟩ := toInt_u32 (wd (sg h) q) (fi_wd _ _ (by omega)) (by rw [rg_wd _ _ (by omega)]; exact d5) (by
        cases hs : sg h
        · left; exact sg_wd _ _ (by omega)
        · right
          rw [rg_wd _ _ (by omega)]
          refine d4 (vl_inj ?_)
          rw [e4, hz hs, Nat.zero_mul]; decide)
      exact ⟨_, _, n, hx, d1, n3, n1, by omega⟩
  · -- no number
    rcases read_not h hh c with k | k | ⟨s, t, k⟩
    · have hm : double.mul 4611686018427387904 h = some 9218868437227405312 := by
        unfold Format.mul
        rw [k, show double.read 4611686018427387904 = .number false 4503599627370496 (-51) by decide +kernel]
        rfl
      refine ⟨hf, _, hd2, hm, ?_, ?_⟩
      · rw [order_inf _ W i1 inf_read, order_inf _ hf fhf k]
      · intro hl; rw [order_inf _ hf fhf k] at hl; exact absurd hl (by decide)
    · unfold geT Format.order at g; rw [k, show double.read 0 = .number false 0 (-1074) by decide +kernel] at g; simp [Datum.order] at g
    · unfold geT Format.order at g; rw [k] at g; simp [Datum.order] at g
end Go.Proofs.Ytjpcebnbkdekkaa.Vo

/- Plain facts on patches, levels and samples. -/
namespace Go.Proofs.Ytjpcebnbkdekkaa.Vo
set_option linter.unusedVariables false
open Ieee Fl

/-- A patch. -/
structure Pt where
  shape : Int
  step : Nat
  gain : Nat
  atk : Int
  dec : Int
  rel : Int
  sus : Int
def gok (g : Nat) : Bool := geT g 13920626448202203136 && leT g 4697254411347427328
def upB (m n : Int) : Bool := decide (0 ≤ n) && decide (n ≤ m)
def inB (p : Pt) : Bool := gok p.gain && upB 16777216 p.atk && upB 16777216 p.dec && upB 16777216 p.rel && upB 1048576 p.sus
/-- What is wrong with a patch. -/
def wr (p : Pt) : Int := if 1 ≤ p.shape ∧ p.shape ≤ 4 then if inB p = true then 0 else 3 else 1
structure Ok (p : Pt) : Prop where
  s1 : 1 ≤ p.shape
  s2 : p.shape ≤ 4
  g1 : Fi p.gain
  a0 : 0 ≤ p.atk
  a1 : p.atk ≤ 16777216
  d0 : 0 ≤ p.dec
  d1 : p.dec ≤ 16777216
  r0 : 0 ≤ p.rel
  r1 : p.rel ≤ 16777216
  u0 : 0 ≤ p.sus
  u1 : p.sus ≤ 1048576
theorem upB_yes {m n : Int} (h : upB m n = true) : 0 ≤ n ∧ n ≤ m := by unfold upB at h; simpa using h
theorem wr_ok {p : Pt} (hg : p.gain < 18446744073709551616) (h : wr p = 0) : Ok p := by
  unfold wr at h
  by_cases c : 1 ≤ p.shape ∧ p.shape ≤ 4
  · rw [if_pos c] at h
    by_cases d : inB p = true
    · unfold inB gok at d
      simp only [Bool.and_eq_true] at d
      obtain ⟨⟨⟨⟨⟨g1, g2⟩, d1⟩, d2⟩, d3⟩, d4⟩ := d
      have := upB_yes d1; have := upB_yes d2; have := upB_yes d3; have := upB_yes d4
      exact ⟨c.1, c.2, both_fi _ _ _ hg ⟨by decide, by decide⟩ ⟨by decide, by decide⟩ g1 g2, by omega, by omega, by omega, by omega, by omega, by omega, by omega, by omega⟩
    · rw [if_neg d] at h; omega
  · rw [if_neg c] at h; omega
/-- The level while it is held. -/
def held (p : Pt) (t : Int) : Int := if t < p.atk then 1048576 * t / p.atk else if t < p.atk + p.dec then 1048576 - (1048576 - p.sus) * (t - p.atk) / p.dec else p.sus
/-- The level u behind where it was let go, from l on. -/
def fade (p : Pt) (l u : Int) : Int := if p.rel ≤ u then 0 else l * (p.rel - u) / p.rel
theorem div_bd (a b c : Int) (hb : 0 < b) (h0 : 0 ≤ a) (h1 : a ≤ c * b) : 0 ≤ a / b ∧ a / b ≤ c := ⟨Int.ediv_nonneg h0 (by omega), by
  have := Int.ediv_le_ediv hb h1
  rwa [Int.mul_ediv_cancel _ (by omega)] at this⟩
theorem held_bd (p : Pt) (h : Ok p) (t : Int) (ht : 0 ≤ t) : 0 ≤ held p t ∧ held p t ≤ 1048576 := by
  have := h.u0; have := h.u1; have := h.a0
  unfold held
  by_cases c : t < p.atk
  · rw [if_pos c]
    exact div_bd _ _ _ (by omega) (by omega) (by omega)
  · rw [if_neg c]
    by_cases d : t < p.atk + p.dec
    · rw [if_pos d]
      have h1 : 0 ≤ (1048576 - p.sus) * (t - p.atk) := Int.mul_nonneg (by omega) (by omega)
      have h2 : (1048576 - p.sus) * (t - p.atk) ≤ (1048576 - p.sus) * p.dec := Int.mul_le_mul_of_nonneg_left (by omega) (by omega)
      have := div_bd _ p.dec (1048576 - p.sus) (by omega) h1 h2
      omega
    · rw [if_neg d]; omega
theorem fade_bd (p : Pt) (h : Ok p) (l u : Int) (hl : 0 ≤ l) (hl2 : l ≤ 1048576) (hu : 0 ≤ u) : 0 ≤ fade p l u ∧ fade p l u ≤ 1048576 := by
  unfold fade
  by_cases c : p.rel ≤ u
  · rw [if_pos c]; omega
  · rw [if_neg c]
    have h1 : 0 ≤ l * (p.rel - u) := Int.mul_nonneg hl (by omega)
    have h2 : l * (p.rel - u) ≤ l * p.rel := Int.mul_le_mul_of_nonneg_left (by omega) hl
    have := div_bd _ p.rel l (by omega) h1 h2
    omega
/-- The level of sample T of a voice that was let go at o, if it was. -/
def lev (p : Pt) (T : Nat) (o : Option Nat) : Int := match o with
  | none => held p T
  | some k => fade p (held p k) ((T : Int) - k)
def Off (T : Nat) (o : Option Nat) : Prop := ∀ k, o = some k → k ≤ T
theorem lev_bd (p : Pt) (h : Ok p) (T : Nat) (o : Option Nat) (ho : Off T o) : 0 ≤ lev p T o ∧ lev p T o ≤ 1048576 := by
  cases o with
  | none => exact held_bd p h T (by omega)
  | some k =>
    have := ho k rfl
    have hb := held_bd p h k (by omega)
    exact fade_bd p h _ _ hb.1 hb.2 (by omega)
def pha (p : Pt) (T : Nat) : Nat := T * p.step % 4294967296
theorem pha_lt (p : Pt) (T : Nat) : pha p T < 4294967296 := Nat.mod_lt _ (by decide)
theorem pha_step (p : Pt) (T : Nat) : pha p (T + 1) = (pha p T + p.step) % 4294967296 := by
  unfold pha; rw [Nat.add_mul, Nat.one_mul, Nat.mod_add_mod]
/-- Gain times a wave; that times a level. -/
def gw (p : Pt) (x : Nat) : Nat := (double.mul p.gain x).getD 0
def sm2 (p : Pt) (x : Nat) (l : Int) : Nat := (double.mul (gw p x) (qt l 20)).getD 0
theorem samp_ok (p : Pt) (h : Ok p) (x : Nat) (hx : Wv x) (l : Int) (h0 : 0 ≤ l) (h1 : l ≤ 1048576) :
    double.mul p.gain x = some (gw p x) ∧ double.div (floatOfInt .f64 l) 4697254411347427328 = some (qt l 20) ∧ double.mul (gw p x) (qt l 20) = some (sm2 p x l) ∧ Fi (sm2 p x l) ∧ rg (sm2 p x l) ≤ rg p.gain ∧ (l = 0 → rg (sm2 p x l) = 0) := by
  obtain ⟨r, a1, a2⟩ := mul_one_le p.gain x h.g1 hx.w1 hx.w2
  have hg := h.g1.2
  have e1 : gw p x = wd (sg p.gain ^^ sg x) r := by unfold gw; rw [a1]; rfl
  have f1 : Fi (gw p x) := by rw [e1]; exact fi_wd _ _ (by omega)
  have r1 : rg (gw p x) = r := by rw [e1]; exact rg_wd _ _ (by omega)
  obtain ⟨b1, b2, b3, b4⟩ := qt_ok l 20 (by decide) (by omega)
  obtain ⟨r2, c1, c2⟩ := mul_one_le (gw p x) (qt l 20) f1 b2.w1 b2.w2
  have e2 : sm2 p x l = wd (sg (gw p x) ^^ sg (qt l 20)) r2 := by unfold sm2; rw [c1]; rfl
  rw [r1] at c2
  refine ⟨by rw [a1, e1], b1, by rw [c1, e2], by rw [e2]; exact fi_wd _ _ (by omega), by rw [e2, rg_wd _ _ (by omega)]; omega, fun hz => ?_⟩
  have hq := b4 hz
  have hm := mul_zero (gw p x) (qt l 20) f1 b2.w1 (by rw [hq]; rfl)
  have : sm2 p x l = wd (sg (gw p x) ^^ sg (qt l 20)) 0 := by unfold sm2; rw [hm]; rfl
  rw [this]; exact rg_wd _ _ (by omega)
/-- Sample T. -/
def S (p : Pt) (o : Option Nat) (T : Nat) : Nat := sm2 p (shp p.shape (pha p T)) (lev p T o)
theorem S_ok (p : Pt) (h : Ok p) (o : Option Nat) (T : Nat) (ho : Off T o) : Fi (S p o T) ∧ rg (S p o T) ≤ rg p.gain ∧ (lev p T o = 0 → rg (S p o T) = 0) := by
  have hb := lev_bd p h T o ho
  have hp := pha_lt p T
  have := samp_ok p h (shp p.shape (pha p T)) (shp_ok _ _ (by omega) (by omega)) (lev p T o) hb.1 hb.2
  exact ⟨this.2.2.2.1, this.2.2.2.2.1, this.2.2.2.2.2⟩
end Go.Proofs.Ytjpcebnbkdekkaa.Vo

/- Which words are held to be alike. -/
namespace Go.Proofs.Ytjpcebnbkdekkaa.Fl
set_option linter.unusedVariables false
set_option linter.unusedSimpArgs false
open Ieee

theorem read_nn {x : Nat} (h : nn x = true) (y : Nat) : double.order x y = none ∧ double.order y x = none := by
  obtain ⟨s, t, e⟩ := nn_read h
  unfold Format.order
  rw [e]
  exact ⟨by cases double.read y <;> rfl, by cases double.read y <;> rfl⟩
theorem cmp_refl (a : Int) : compare a a = .eq := by simp
theorem ord_self (x : Nat) : (double.order x x != some .eq) = nn x := by
  cases h : nn x
  · unfold Format.order
    unfold nn at h
    cases hr : double.read x with
    | nan s t => rw [hr] at h; cases h
    | infinity s =>
      show (some (compare s.toNat s.toNat) != some .eq) = false
      have : compare s.toNat s.toNat = .eq := by simp
      rw [this]; rfl
    | number s m i =>
      show (some (compare (signed s m _) (signed s m _)) != some .eq) = false
      rw [cmp_refl]; rfl
  · rw [(read_nn h x).1]; rfl
def alike (x y : Nat) : Bool := decide (ab x = ab y)
theorem ab_eq {x y : Nat} (h : x ≠ y) : alike x y = (nn x && nn y) := by
  unfold alike ab
  cases hx : nn x <;> cases hy : nn y <;> simp [h]
theorem ab_same (x : Nat) : alike x x = true := by unfold alike; simp
/-- The same but for the sign of nought. -/
def akin (x y : Nat) : Bool := decide (oz (ab x) = oz (ab y))
theorem rg_z (x : Nat) : rg (z1 x) = rg x := by
  unfold z1
  by_cases c : x = 9223372036854775808
  · rw [if_pos c, c]; decide
  · rw [if_neg c]
theorem z1_wd (n : Bool) (r : Nat) (h : r < 9223372036854775808) (h0 : r ≠ 0) : z1 (wd n r) = wd n r := by
  unfold z1
  rw [if_neg]
  intro e
  have := rg_wd n r h
  rw [e] at this
  exact h0 (by rw [← this]; decide)
theorem inf_read (x : Nat) (h : x < 18446744073709551616) (hr : rg x = 9218868437227405312) : double.read x = .infinity (sg x) := by
  have hs : (x / 9223372036854775808 % 2 == 1) = sg x := by
    unfold sg
    by_cases c : 9223372036854775808 ≤ x
    · have : x / 9223372036854775808 = 1 := by omega
      simp [c, this]
    · have : x / 9223372036854775808 = 0 := by omega
      simp [c, this]
  unfold Format.read
  rw [dB, dS, dI, dL]
  simp only [hs]
  rw [show x % 9223372036854775808 = rg x from rfl, hr]
  rfl
theorem wd_inj {n m : Bool} {r q : Nat} (hr : r < 9223372036854775808) (hq : q < 9223372036854775808) (h : wd n r = wd m q) : n = m ∧ r = q := by
  have h1 := rg_wd n r hr
  have h2 := rg_wd m q hq
  have h3 := sg_wd n r hr
  have h4 := sg_wd m q hq
  rw [h] at h1 h3
  exact ⟨h3.symm.trans h4, h1.symm.trans h2⟩
theorem vl_pos {r : Nat} (h : r ≠ 0) : 0 < vl r := by
  have := vl_lt (show 0 < r by omega)
  omega
theorem ord_z (x y : Nat) (hx : x < 18446744073709551616) (hy : y < 18446744073709551616) (nx : nn x = false) (ny : nn y = false) : (double.order x y == some .eq) = decide (z1 x = z1 y) := by
  have hrx : rg x < 9223372036854775808 := Nat.mod_lt _ (by decide)
  have hry : rg y < 9223372036854775808 := Nat.mod_lt _ (by decide)
  have lx : rg x ≤ 9218868437227405312 := by
    refine Decidable.byContradiction fun c => ?_
    rw [read_hi x hx (by omega)] at nx; cases nx
  have ly : rg y ≤ 9218868437227405312 := by
    refine Decidable.byContradiction fun c => ?_
    rw [read_hi y hy (by omega)] at ny; cases ny
  have key : z1 x = z1 y → rg x = rg y := fun e => by rw [← rg_z x, ← rg_z y, e]
  by_cases cx : rg x = 9218868437227405312
  · have ex := inf_read x hx cx
    by_cases cy : rg y = 9218868437227405312
    · have ey := inf_read y hy cy
      unfold Format.order
      rw [ex, ey]
      have wx := wd_self x hx
      have wy := wd_self y hy
      have zx : z1 x = x := by rw [← wx]; exact z1_wd _ _ hrx (by omega)
      have zy : z1 y = y := by rw [← wy]; exact z1_wd _ _ hry (by omega)
      rw [zx, zy]
      show (some (compare (sg y).toNat (sg x).toNat) == some .eq) = _
      cases hsx : sg x <;> cases hsy : sg y
      · rw [hsx, cx] at wx; rw [hsy, cy] at wy; rw [← wx, ← wy]; decide
      · rw [hsx, cx] at wx; rw [hsy, cy] at wy; rw [← wx, ← wy]; decide
      · rw [hsx, cx] at wx; rw [hsy, cy] at wy; rw [← wx, ← wy]; decide
      · rw [hsx, cx] at wx; rw [hsy, cy] at wy; rw [← wx, ← wy]; decide
    · have ey := read_fi y ⟨hy, by omega⟩
      unfold Format.order
      rw [ex, ey]
      have : ¬ z1 x = z1 y := fun e => cy (by rw [← key e]; exact cx)
      simp only [this, decide_false]
      show (some (if sg x then Ordering.lt else .gt) == some .eq) = false
      cases sg x <;> rfl
  · have fx : Fi x := ⟨hx, by omega⟩
    by_cases cy : rg y = 9218868437227405312
    · have ey := inf_read y hy cy
      unfold Format.order
      rw [read_fi x fx, ey]
      have : ¬ z1 x = z1 y := fun e => cx (by rw [key e]; exact cy)
      simp only [this, decide_false]
      show (some (if sg y then Ordering.gt else .lt) == some .eq) = false
      cases sg y <;> rfl
    · have fy : Fi y := ⟨hy, by omega⟩
      rw [order_fi x y fx fy]
      have h1 : (some (compare (va x) (va y)) == some .eq) = decide (va x = va y) := by
        by_cases c : va x = va y
        · rw [c, cmp_refl]; simp
        · have : compare (va x) (va y) ≠ .eq := fun e => c (by simpa using e)
          simp [c, this]
      rw [h1]
      have h2 : va x = va y ↔ z1 x = z1 y := by
        have wx := wd_self x hx
        have wy := wd_self y hy
        have vx : va x = if sg x then -(vl (rg x) : Int) else (vl (rg x) : Int) := rfl
        have vy : va y = if sg y then -(vl (rg y) : Int) else (vl (rg y) : Int) := rfl
        constructor
        · intro e
          have e2 : vl (rg x) = vl (rg y) := by rw [← va_abs x, ← va_abs y, e]
          have e3 := vl_inj e2
          by_cases c0 : rg x = 0
          · rw [← wx, ← wy, ← e3, c0, z1_wd0, z1_wd0]
          · have p := vl_pos c0
            rw [vx, vy, ← e3] at e
            have : sg x = sg y := by
              cases hsx : sg x <;> cases hsy : sg y <;> rw [hsx, hsy] at e <;> simp at e <;> first | rfl | omega
            rw [← wx, ← wy, this, e3]
        · intro e
          have e3 := key e
          by_cases c0 : rg x = 0
          · rw [vx, vy, ← e3, c0]
            have : vl 0 = 0 := rfl
            rw [this]; simp
          · rw [← wx, ← wy, z1_wd _ _ hrx c0, z1_wd _ _ hry (by omega)] at e
            obtain ⟨q1, q2⟩ := wd_inj hrx hry e
            rw [vx, vy, q1, q2]
      by_cases c : va x = va y
      · simp [c, h2.1 c]
      · have : ¬ z1 x = z1 y := fun e => c (h2.2 e)
        simp [c, this]
theorem akin_yes (x y : Nat) (hx : x < 18446744073709551616) (hy : y < 18446744073709551616) : akin x y = ((double.order x y == some .eq) || ((double.order x x != some .eq) && (double.order y y != some .eq))) := by
  rw [ord_self, ord_self]
  unfold akin ab
  cases nx : nn x
  · cases ny : nn y
    · rw [ord_z x y hx hy nx ny]
      simp [oz]
    · rw [(read_nn ny x).2]; simp [oz]
  · rw [(read_nn nx y).1]
    cases ny : nn y <;> simp [oz]
end Go.Proofs.Ytjpcebnbkdekkaa.Fl
