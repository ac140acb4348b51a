/- Which words are held to be alike. -/
import Derived.Test.YtjfmpgfpehnnjaiFiMath2
namespace Go.Proofs.Ytjfmpgfpehnnjai.Fl
set_option linter.unusedVariables false
set_option linter.unusedSimpArgs false
open Ieee

theorem read_nn {x : Nat} (h : nn x = true) (y : Nat) : double.order x y = none ∧ double.order y x = none := by
  obtain ⟨s, t, e⟩ := nn_read h
  unfold Format.order
  rw [e]
  exact ⟨by cases double.read y <;> rfl, by cases double.read y <;> rfl⟩
theorem cmp_refl (a : Int) : compare a a = .eq := by simp
theorem ord_self (x : Nat) : (double.order x x != some .eq) = nn x := by
  cases h : nn x
  · unfold Format.order
    unfold nn at h
    cases hr : double.read x with
    | nan s t => rw [hr] at h; cases h
    | infinity s =>
      show (some (compare s.toNat s.toNat) != some .eq) = false
      have : compare s.toNat s.toNat = .eq := by simp
      rw [this]; rfl
    | number s m i =>
      show (some (compare (signed s m _) (signed s m _)) != some .eq) = false
      rw [cmp_refl]; rfl
  · rw [(read_nn h x).1]; rfl
def alike (x y : Nat) : Bool := decide (ab x = ab y)
theorem ab_eq {x y : Nat} (h : x ≠ y) : alike x y = (nn x && nn y) := by
  unfold alike ab
  cases hx : nn x <;> cases hy : nn y <;> simp [h]
theorem ab_same (x : Nat) : alike x x = true := by unfold alike; simp
/-- The same but for the sign of nought. -/
def akin (x y : Nat) : Bool := decide (oz (ab x) = oz (ab y))
theorem rg_z (x : Nat) : rg (z1 x) = rg x := by
  unfold z1
  by_cases c : x = 9223372036854775808
  · rw [if_pos c, c]; decide
  · rw [if_neg c]
theorem z1_wd (n : Bool) (r : Nat) (h : r < 9223372036854775808) (h0 : r ≠ 0) : z1 (wd n r) = wd n r := by
  unfold z1
  rw [if_neg]
  intro e
  have := rg_wd n r h
  rw [e] at this
  exact h0 (by rw [← this]; decide)
theorem inf_read (x : Nat) (h : x < 18446744073709551616) (hr : rg x = 9218868437227405312) : double.read x = .infinity (sg x) := by
  have hs : (x / 9223372036854775808 % 2 == 1) = sg x := by
    unfold sg
    by_cases c : 9223372036854775808 ≤ x
    · have : x / 9223372036854775808 = 1 := by omega
      simp [c, this]
    · have : x / 9223372036854775808 = 0 := by omega
      simp [c, this]
  unfold Format.read
  rw [dB, dS, dI, dL]
  simp only [hs]
  rw [show x % 9223372036854775808 = rg x from rfl, hr]
  rfl
theorem wd_inj {n m : Bool} {r q : Nat} (hr : r < 9223372036854775808) (hq : q < 9223372036854775808) (h : wd n r = wd m q) : n = m ∧ r = q := by
  have h1 := rg_wd n r hr
  have h2 := rg_wd m q hq
  have h3 := sg_wd n r hr
  have h4 := sg_wd m q hq
  rw [h] at h1 h3
  exact ⟨h3.symm.trans h4, h1.symm.trans h2⟩
theorem vl_pos {r : Nat} (h : r ≠ 0) : 0 < vl r := by
  have := vl_lt (show 0 < r by omega)
  omega
theorem ord_z (x y : Nat) (hx : x < 18446744073709551616) (hy : y < 18446744073709551616) (nx : nn x = false) (ny : nn y = false) : (double.order x y == some .eq) = decide (z1 x = z1 y) := by
  have hrx : rg x < 9223372036854775808 := Nat.mod_lt _ (by decide)
  have hry : rg y < 9223372036854775808 := Nat.mod_lt _ (by decide)
  have lx : rg x ≤ 9218868437227405312 := by
    refine Decidable.byContradiction fun c => ?_
    rw [read_hi x hx (by omega)] at nx; cases nx
  have ly : rg y ≤ 9218868437227405312 := by
    refine Decidable.byContradiction fun c => ?_
    rw [read_hi y hy (by omega)] at ny; cases ny
  have key : z1 x = z1 y → rg x = rg y := fun e => by rw [← rg_z x, ← rg_z y, e]
  by_cases cx : rg x = 9218868437227405312
  · have ex := inf_read x hx cx
    by_cases cy : rg y = 9218868437227405312
    · have ey := inf_read y hy cy
      unfold Format.order
      rw [ex, ey]
      have wx := wd_self x hx
      have wy := wd_self y hy
      have zx : z1 x = x := by rw [← wx]; exact z1_wd _ _ hrx (by omega)
      have zy : z1 y = y := by rw [← wy]; exact z1_wd _ _ hry (by omega)
      rw [zx, zy]
      show (some (compare (sg y).toNat (sg x).toNat) == some .eq) = _
      cases hsx : sg x <;> cases hsy : sg y
      · rw [hsx, cx] at wx; rw [hsy, cy] at wy; rw [← wx, ← wy]; decide
      · rw [hsx, cx] at wx; rw [hsy, cy] at wy; rw [← wx, ← wy]; decide
      · rw [hsx, cx] at wx; rw [hsy, cy] at wy; rw [← wx, ← wy]; decide
      · rw [hsx, cx] at wx; rw [hsy, cy] at wy; rw [← wx, ← wy]; decide
    · have ey := read_fi y ⟨hy, by omega⟩
      unfold Format.order
      rw [ex, ey]
      have : ¬ z1 x = z1 y := fun e => cy (by rw [← key e]; exact cx)
      simp only [this, decide_false]
      show (some (if sg x then Ordering.lt else .gt) == some .eq) = false
      cases sg x <;> rfl
  · have fx : Fi x := ⟨hx, by omega⟩
    by_cases cy : rg y = 9218868437227405312
    · have ey := inf_read y hy cy
      unfold Format.order
      rw [read_fi x fx, ey]
      have : ¬ z1 x = z1 y := fun e => cx (by rw [key e]; exact cy)
      simp only [this, decide_false]
      show (some (if sg y then Ordering.gt else .lt) == some .eq) = false
      cases sg y <;> rfl
    · have fy : Fi y := ⟨hy, by omega⟩
      rw [order_fi x y fx fy]
      have h1 : (some (compare (va x) (va y)) == some .eq) = decide (va x = va y) := by
        by_cases c : va x = va y
        · rw [c, cmp_refl]; simp
        · have : compare (va x) (va y) ≠ .eq := fun e => c (by simpa using e)
          simp [c, this]
      rw [h1]
      have h2 : va x = va y ↔ z1 x = z1 y := by
        have wx := wd_self x hx
        have wy := wd_self y hy
        have vx : va x = if sg x then -(vl (rg x) : Int) else (vl (rg x) : Int) := rfl
        have vy : va y = if sg y then -(vl (rg y) : Int) else (vl (rg y) : Int) := rfl
        constructor
        · intro e
          have e2 : vl (rg x) = vl (rg y) := by rw [← va_abs x, ← va_abs y, e]
          have e3 := vl_inj e2
          by_cases c0 : rg x = 0
          · rw [← wx, ← wy, ← e3, c0, z1_wd0, z1_wd0]
          · have p := vl_pos c0
            rw [vx, vy, ← e3] at e
            have : sg x = sg y := by
              cases hsx : sg x <;> cases hsy : sg y <;> rw [hsx, hsy] at e <;> simp at e <;> first | rfl | omega
            rw [← wx, ← wy, this, e3]
        · intro e
          have e3 := key e
          by_cases c0 : rg x = 0
          · rw [vx, vy, ← e3, c0]
            have : vl 0 = 0 := rfl
            rw [this]; simp
          · rw [← wx, ← wy, z1_wd _ _ hrx c0, z1_wd _ _ hry (by omega)] at e
            obtain ⟨q1, q2⟩ := wd_inj hrx hry e
            rw [vx, vy, q1, q2]
      by_cases c : va x = va y
      · simp [c, h2.1 c]
      · have : ¬ z1 x = z1 y := fun e => c (h2.2 e)
        simp [c, this]
theorem akin_yes (x y : Nat) (hx : x < 18446744073709551616) (hy : y < 18446744073709551616) : akin x y = ((double.order x y == some .eq) || ((double.order x x != some .eq) && (double.order y y != some .eq))) := by
  rw [ord_self, ord_self]
  unfold akin ab
  cases nx : nn x
  · cases ny : nn y
    · rw [ord_z x y hx hy nx ny]
      simp [oz]
    · rw [(read_nn ny x).2]; simp [oz]
  · rw [(read_nn nx y).1]
    cases ny : nn y <;> simp [oz]
end Go.Proofs.Ytjfmpgfpehnnjai.Fl
