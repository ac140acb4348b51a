/- Plain facts on patches, levels and samples. -/
import Derived.Test.YtjfmpgfpehnnjahVoMath3
namespace Go.Proofs.Ytjfmpgfpehnnjah.Vo
set_option linter.unusedVariables false
open Ieee Fl

/-- A patch. -/
structure Pt where
  shape : Int
  step : Nat
  gain : Nat
  atk : Int
  dec : Int
  rel : Int
  sus : Int
def gok (g : Nat) : Bool := geT g 13920626448202203136 && leT g 4697254411347427328
def upB (m n : Int) : Bool := decide (0 ≤ n) && decide (n ≤ m)
def inB (p : Pt) : Bool := gok p.gain && upB 16777216 p.atk && upB 16777216 p.dec && upB 16777216 p.rel && upB 1048576 p.sus
/-- What is wrong with a patch. -/
def wr (p : Pt) : Int := if 1 ≤ p.shape ∧ p.shape ≤ 4 then if inB p = true then 0 else 3 else 1
structure Ok (p : Pt) : Prop where
  s1 : 1 ≤ p.shape
  s2 : p.shape ≤ 4
  g1 : Fi p.gain
  a0 : 0 ≤ p.atk
  a1 : p.atk ≤ 16777216
  d0 : 0 ≤ p.dec
  d1 : p.dec ≤ 16777216
  r0 : 0 ≤ p.rel
  r1 : p.rel ≤ 16777216
  u0 : 0 ≤ p.sus
  u1 : p.sus ≤ 1048576
theorem upB_yes {m n : Int} (h : upB m n = true) : 0 ≤ n ∧ n ≤ m := by unfold upB at h; simpa using h
theorem wr_ok {p : Pt} (hg : p.gain < 18446744073709551616) (h : wr p = 0) : Ok p := by
  unfold wr at h
  by_cases c : 1 ≤ p.shape ∧ p.shape ≤ 4
  · rw [if_pos c] at h
    by_cases d : inB p = true
    · unfold inB gok at d
      simp only [Bool.and_eq_true] at d
      obtain ⟨⟨⟨⟨⟨g1, g2⟩, d1⟩, d2⟩, d3⟩, d4⟩ := d
      have := upB_yes d1; have := upB_yes d2; have := upB_yes d3; have := upB_yes d4
      exact ⟨c.1, c.2, both_fi _ _ _ hg ⟨by decide, by decide⟩ ⟨by decide, by decide⟩ g1 g2, by omega, by omega, by omega, by omega, by omega, by omega, by omega, by omega⟩
    · rw [if_neg d] at h; omega
  · rw [if_neg c] at h; omega
/-- The level while it is held. -/
def held (p : Pt) (t : Int) : Int := if t < p.atk then 1048576 * t / p.atk else if t < p.atk + p.dec then 1048576 - (1048576 - p.sus) * (t - p.atk) / p.dec else p.sus
/-- The level u behind where it was let go, from l on. -/
def fade (p : Pt) (l u : Int) : Int := if p.rel ≤ u then 0 else l * (p.rel - u) / p.rel
theorem div_bd (a b c : Int) (hb : 0 < b) (h0 : 0 ≤ a) (h1 : a ≤ c * b) : 0 ≤ a / b ∧ a / b ≤ c := ⟨Int.ediv_nonneg h0 (by omega), by
  have := Int.ediv_le_ediv hb h1
  rwa [Int.mul_ediv_cancel _ (by omega)] at this⟩
theorem held_bd (p : Pt) (h : Ok p) (t : Int) (ht : 0 ≤ t) : 0 ≤ held p t ∧ held p t ≤ 1048576 := by
  have := h.u0; have := h.u1; have := h.a0
  unfold held
  by_cases c : t < p.atk
  · rw [if_pos c]
    exact div_bd _ _ _ (by omega) (by omega) (by omega)
  · rw [if_neg c]
    by_cases d : t < p.atk + p.dec
    · rw [if_pos d]
      have h1 : 0 ≤ (1048576 - p.sus) * (t - p.atk) := Int.mul_nonneg (by omega) (by omega)
      have h2 : (1048576 - p.sus) * (t - p.atk) ≤ (1048576 - p.sus) * p.dec := Int.mul_le_mul_of_nonneg_left (by omega) (by omega)
      have := div_bd _ p.dec (1048576 - p.sus) (by omega) h1 h2
      omega
    · rw [if_neg d]; omega
theorem fade_bd (p : Pt) (h : Ok p) (l u : Int) (hl : 0 ≤ l) (hl2 : l ≤ 1048576) (hu : 0 ≤ u) : 0 ≤ fade p l u ∧ fade p l u ≤ 1048576 := by
  unfold fade
  by_cases c : p.rel ≤ u
  · rw [if_pos c]; omega
  · rw [if_neg c]
    have h1 : 0 ≤ l * (p.rel - u) := Int.mul_nonneg hl (by omega)
    have h2 : l * (p.rel - u) ≤ l * p.rel := Int.mul_le_mul_of_nonneg_left (by omega) hl
    have := div_bd _ p.rel l (by omega) h1 h2
    omega
/-- The level of sample T of a voice that was let go at o, if it was. -/
def lev (p : Pt) (T : Nat) (o : Option Nat) : Int := match o with
  | none => held p T
  | some k => fade p (held p k) ((T : Int) - k)
def Off (T : Nat) (o : Option Nat) : Prop := ∀ k, o = some k → k ≤ T
theorem lev_bd (p : Pt) (h : Ok p) (T : Nat) (o : Option Nat) (ho : Off T o) : 0 ≤ lev p T o ∧ lev p T o ≤ 1048576 := by
  cases o with
  | none => exact held_bd p h T (by omega)
  | some k =>
    have := ho k rfl
    have hb := held_bd p h k (by omega)
    exact fade_bd p h _ _ hb.1 hb.2 (by omega)
def pha (p : Pt) (T : Nat) : Nat := T * p.step % 4294967296
theorem pha_lt (p : Pt) (T : Nat) : pha p T < 4294967296 := Nat.mod_lt _ (by decide)
theorem pha_step (p : Pt) (T : Nat) : pha p (T + 1) = (pha p T + p.step) % 4294967296 := by
  unfold pha; rw [Nat.add_mul, Nat.one_mul, Nat.mod_add_mod]
/-- Gain times a wave; that times a level. -/
def gw (p : Pt) (x : Nat) : Nat := (double.mul p.gain x).getD 0
def sm2 (p : Pt) (x : Nat) (l : Int) : Nat := (double.mul (gw p x) (qt l 20)).getD 0
theorem samp_ok (p : Pt) (h : Ok p) (x : Nat) (hx : Wv x) (l : Int) (h0 : 0 ≤ l) (h1 : l ≤ 1048576) :
    double.mul p.gain x = some (gw p x) ∧ double.div (floatOfInt .f64 l) 4697254411347427328 = some (qt l 20) ∧ double.mul (gw p x) (qt l 20) = some (sm2 p x l) ∧ Fi (sm2 p x l) ∧ rg (sm2 p x l) ≤ rg p.gain ∧ (l = 0 → rg (sm2 p x l) = 0) := by
  obtain ⟨r, a1, a2⟩ := mul_one_le p.gain x h.g1 hx.w1 hx.w2
  have hg := h.g1.2
  have e1 : gw p x = wd (sg p.gain ^^ sg x) r := by unfold gw; rw [a1]; rfl
  have f1 : Fi (gw p x) := by rw [e1]; exact fi_wd _ _ (by omega)
  have r1 : rg (gw p x) = r := by rw [e1]; exact rg_wd _ _ (by omega)
  obtain ⟨b1, b2, b3, b4⟩ := qt_ok l 20 (by decide) (by omega)
  obtain ⟨r2, c1, c2⟩ := mul_one_le (gw p x) (qt l 20) f1 b2.w1 b2.w2
  have e2 : sm2 p x l = wd (sg (gw p x) ^^ sg (qt l 20)) r2 := by unfold sm2; rw [c1]; rfl
  rw [r1] at c2
  refine ⟨by rw [a1, e1], b1, by rw [c1, e2], by rw [e2]; exact fi_wd _ _ (by omega), by rw [e2, rg_wd _ _ (by omega)]; omega, fun hz => ?_⟩
  have hq := b4 hz
  have hm := mul_zero (gw p x) (qt l 20) f1 b2.w1 (by rw [hq]; rfl)
  have : sm2 p x l = wd (sg (gw p x) ^^ sg (qt l 20)) 0 := by unfold sm2; rw [hm]; rfl
  rw [this]; exact rg_wd _ _ (by omega)
/-- Sample T. -/
def S (p : Pt) (o : Option Nat) (T : Nat) : Nat := sm2 p (shp p.shape (pha p T)) (lev p T o)
theorem S_ok (p : Pt) (h : Ok p) (o : Option Nat) (T : Nat) (ho : Off T o) : Fi (S p o T) ∧ rg (S p o T) ≤ rg p.gain ∧ (lev p T o = 0 → rg (S p o T) = 0) := by
  have hb := lev_bd p h T o ho
  have hp := pha_lt p T
  have := samp_ok p h (shp p.shape (pha p T)) (shp_ok _ _ (by omega) (by omega)) (lev p T o) hb.1 hb.2
  exact ⟨this.2.2.2.1, this.2.2.2.2.1, this.2.2.2.2.2⟩
end Go.Proofs.Ytjfmpgfpehnnjah.Vo
