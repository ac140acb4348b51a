/- The sign of nought, the other sign, the order, as far as they can be told. -/
import Derived.Test.YtdlcnbfiklbiiaaFiMath
namespace Go.Proofs.Ytdlcnbfiklbiiaa.Fl
set_option linter.unusedVariables false
set_option linter.unusedSimpArgs false
open Ieee

/-- Nought without its sign. -/
def z1 (x : Nat) : Nat := if x = 9223372036854775808 then 0 else x
def oz (a : Option Nat) : Option Nat := a.map z1
theorem read_0 : double.read 0 = .number false 0 (-1074) := by decide
theorem read_n0 : double.read 9223372036854775808 = .number true 0 (-1074) := by decide
theorem z1_wd0 (n : Bool) : z1 (wd n 0) = 0 := by cases n <;> rfl
theorem z1_0 {x : Nat} (h : z1 x ≠ x) : x = 9223372036854775808 := by
  unfold z1 at h
  by_cases c : x = 9223372036854775808
  · exact c
  · rw [if_neg c] at h; exact absurd rfl h
theorem near_0 (n : Bool) (p : Int) : double.nearest n 0 p = wd n 0 := by unfold Format.nearest; rw [if_pos rfl, word_is]
theorem mul_z (y : Nat) : oz (double.mul 0 y) = oz (double.mul 9223372036854775808 y) := by
  unfold Format.mul
  rw [read_0, read_n0]
  cases double.read y with
  | nan s t => rfl
  | infinity s => rfl
  | number s m e =>
    show oz (some (double.nearest _ (0 * m) _)) = oz (some (double.nearest _ (0 * m) _))
    rw [Nat.zero_mul, near_0, near_0]
    show some (z1 _) = some (z1 _)
    rw [z1_wd0, z1_wd0]
theorem mul_z' (x : Nat) : oz (double.mul x 0) = oz (double.mul x 9223372036854775808) := by
  unfold Format.mul
  rw [read_0, read_n0]
  cases double.read x with
  | nan s t => rfl
  | infinity s => rfl
  | number s m e =>
    show oz (some (double.nearest _ (m * 0) _)) = oz (some (double.nearest _ (m * 0) _))
    rw [Nat.mul_zero, near_0, near_0]
    show some (z1 _) = some (z1 _)
    rw [z1_wd0, z1_wd0]
theorem signed_z (s : Bool) (e : Nat) : signed s 0 e = 0 := by unfold signed; rw [Nat.zero_shiftLeft]; cases s <;> rfl
theorem sum_zz (s t : Bool) (d : Datum) (p : Int) : oz ((Datum.sum (.number s 0 p) d).map double.write) = oz ((Datum.sum (.number t 0 p) d).map double.write) := by
  cases d with
  | nan s t => rfl
  | infinity s => rfl
  | number u m e =>
    unfold Datum.sum
    simp only [signed_z, Int.zero_add]
    by_cases c : signed u m (e - min p e).toNat = 0
    · rw [if_pos c, if_pos c, c]
      show oz (some (double.nearest _ 0 _)) = oz (some (double.nearest _ 0 _))
      rw [near_0, near_0]
      show some (z1 _) = some (z1 _)
      rw [z1_wd0, z1_wd0]
    · rw [if_neg c, if_neg c]
theorem sum_zz' (s t : Bool) (d : Datum) (p : Int) : oz ((Datum.sum d (.number s 0 p)).map double.write) = oz ((Datum.sum d (.number t 0 p)).map double.write) := by
  cases d with
  | nan s t => rfl
  | infinity s => rfl
  | number u m e =>
    unfold Datum.sum
    simp only [signed_z, Int.add_zero]
    by_cases c : signed u m (e - min e p).toNat = 0
    · rw [if_pos c, if_pos c, c]
      show oz (some (double.nearest _ 0 _)) = oz (some (double.nearest _ 0 _))
      rw [near_0, near_0]
      show some (z1 _) = some (z1 _)
      rw [z1_wd0, z1_wd0]
    · rw [if_neg c, if_neg c]
theorem add_z (y : Nat) : oz (double.add 0 y) = oz (double.add 9223372036854775808 y) := by
  unfold Format.add; rw [read_0, read_n0]; exact sum_zz _ _ _ _
theorem add_z' (x : Nat) : oz (double.add x 0) = oz (double.add x 9223372036854775808) := by
  unfold Format.add; rw [read_0, read_n0]; exact sum_zz' _ _ _ _
theorem sub_z (y : Nat) : oz (double.sub 0 y) = oz (double.sub 9223372036854775808 y) := by
  unfold Format.sub; rw [read_0, read_n0]; exact sum_zz _ _ _ _
theorem sub_z' (x : Nat) : oz (double.sub x 0) = oz (double.sub x 9223372036854775808) := by
  unfold Format.sub; rw [read_0, read_n0]; exact sum_zz' _ _ _ _
theorem cong_z {f : Nat → Nat → Option Nat} (h1 : ∀ y, oz (f 0 y) = oz (f 9223372036854775808 y)) (h2 : ∀ x, oz (f x 0) = oz (f x 9223372036854775808)) (a b : Option Nat) : oz (o2 f a b) = oz (o2 f (oz a) (oz b)) := by
  cases a with
  | none => rfl
  | some x =>
    cases b with
    | none => rfl
    | some y =>
      show oz (f x y) = oz (f (z1 x) (z1 y))
      have e1 : oz (f x y) = oz (f (z1 x) y) := by
        by_cases c : z1 x = x
        · rw [c]
        · obtain rfl := z1_0 c; exact (h1 y).symm
      rw [e1]
      by_cases c : z1 y = y
      · rw [c]
      · obtain rfl := z1_0 c; exact (h2 _).symm
theorem om_z (a b : Option Nat) : oz (om a b) = oz (om (oz a) (oz b)) := cong_z mul_z mul_z' a b
theorem oa_z (a b : Option Nat) : oz (oa a b) = oz (oa (oz a) (oz b)) := cong_z add_z add_z' a b
theorem os_z (a b : Option Nat) : oz (os a b) = oz (os (oz a) (oz b)) := cong_z sub_z sub_z' a b
/-- The other sign. -/
def ng' (x : Nat) : Nat := if x < 9223372036854775808 then x + 9223372036854775808 else x - 9223372036854775808
def og (a : Option Nat) : Option Nat := a.map ng'
theorem ng_wd (n : Bool) (r : Nat) (h : r < 9223372036854775808) : ng' (wd n r) = wd (!n) r := by
  unfold ng' wd
  cases n
  · show (if r < 9223372036854775808 then r + 9223372036854775808 else r - 9223372036854775808) = 9223372036854775808 + r
    rw [if_pos h]; omega
  · show (if 9223372036854775808 + r < 9223372036854775808 then 9223372036854775808 + r + 9223372036854775808 else 9223372036854775808 + r - 9223372036854775808) = r
    rw [if_neg (by omega)]; omega
theorem ng_xor (x : Nat) (h : x < 18446744073709551616) : x ^^^ 9223372036854775808 = ng' x := by
  have hr : rg x < 9223372036854775808 := Nat.mod_lt _ (by decide)
  have := neg_is (sg x) (rg x) hr
  rw [wd_self x h] at this
  rw [this, ← ng_wd _ _ hr, wd_self x h]
theorem read_ng (x : Nat) (h : x < 18446744073709551616) : double.read (ng' x) = (double.read x).opposite := by
  have hr : (ng' x) % 9223372036854775808 = x % 9223372036854775808 := by unfold ng'; split <;> omega
  have hs : (ng' x / 9223372036854775808 % 2 == 1) = !(x / 9223372036854775808 % 2 == 1) := by
    unfold ng'
    by_cases c : x < 9223372036854775808
    · rw [if_pos c, show (x + 9223372036854775808) / 9223372036854775808 = 1 by omega, show x / 9223372036854775808 = 0 by omega]; rfl
    · rw [if_neg c, show (x - 9223372036854775808) / 9223372036854775808 = 0 by omega, show x / 9223372036854775808 = 1 by omega]; rfl
  unfold Format.read
  rw [dS, dB, dI, dL]
  simp only [hr, hs]
  generalize x % 9223372036854775808 = r
  generalize (x / 9223372036854775808 % 2 == 1) = b
  by_cases c1 : r < 4503599627370496
  · rw [if_pos c1, if_pos c1]; rfl
  · rw [if_neg c1, if_neg c1]
    by_cases c2 : r < 9218868437227405312
    · rw [if_pos c2, if_pos c2]; rfl
    · rw [if_neg c2, if_neg c2]
      by_cases c3 : r = 9218868437227405312
      · rw [if_pos c3, if_pos c3]; rfl
      · rw [if_neg c3, if_neg c3]; rfl
theorem nn_ng (x : Nat) (h : x < 18446744073709551616) : nn (ng' x) = nn x := by
  unfold nn; rw [read_ng x h]; cases double.read x <;> rfl
theorem ab_ng (x : Nat) (h : x < 18446744073709551616) : ab (ng' x) = og (ab x) := by
  unfold ab; rw [nn_ng x h]; cases nn x <;> rfl
theorem ng_lt (x : Nat) (h : x < 18446744073709551616) : ng' x < 18446744073709551616 := by unfold ng'; split <;> omega
theorem opp_opp (d : Datum) : d.opposite.opposite = d := by cases d <;> simp [Datum.opposite]
theorem signed_opp (s : Bool) (m e : Nat) : signed (!s) m e = - signed s m e := signed_not s m e
theorem write_opp (d : Option Datum) (h : ∀ f, d = some f → f.isNaN = false) : (d.map Datum.opposite).map double.write = og (d.map double.write) := by
  cases d with
  | none => rfl
  | some f =>
    obtain ⟨n, r, h1, h2, h3⟩ := write_ok f (h f rfl)
    show some (double.write f.opposite) = some (ng' (double.write f))
    rw [h1, h3, ng_wd n r (by omega)]
theorem prod_opp (d e : Datum) : Datum.product d.opposite e = (Datum.product d e).map Datum.opposite := by
  cases d with
  | nan s t => rfl
  | infinity s => cases e with
    | nan s t => rfl
    | infinity t => simp [Datum.opposite, Datum.product]
    | number t n j => simp only [Datum.opposite, Datum.product]; by_cases c : n = 0 <;> simp [c, Datum.opposite]
  | number s m i => cases e with
    | nan s t => rfl
    | infinity t => simp only [Datum.opposite, Datum.product]; by_cases c : m = 0 <;> simp [c, Datum.opposite]
    | number t n j => simp [Datum.opposite, Datum.product]
theorem mul_ng (c x : Nat) (h : x < 18446744073709551616) : double.mul c (ng' x) = og (double.mul c x) := by
  unfold Format.mul
  rw [read_ng x h, ← write_opp _ (fun f hf => product_nn hf)]
  congr 1
  generalize double.read c = d
  generalize double.read x = e
  cases d with
  | nan s t => cases e <;> rfl
  | infinity s => cases e with
    | nan s t => rfl
    | infinity t => simp [Datum.opposite, Datum.product]
    | number t n j => simp only [Datum.opposite, Datum.product]; by_cases c : n = 0 <;> simp [c, Datum.opposite]
  | number s m i => cases e with
    | nan s t => rfl
    | infinity t => simp only [Datum.opposite, Datum.product]; by_cases c : m = 0 <;> simp [c, Datum.opposite]
    | number t n j => simp [Datum.opposite, Datum.product]
theorem z1_ng0 (n m : Bool) : z1 (wd n 0) = z1 (ng' (wd m 0)) := by cases n <;> cases m <;> decide
theorem sum_opp (d e : Datum) : oz ((Datum.sum d.opposite e.opposite).map double.write) = oz (og ((Datum.sum d e).map double.write)) := by
  cases d with
  | nan s t => rfl
  | infinity s => cases e with
    | nan s t => rfl
    | infinity t =>
      by_cases c : s = t
      · subst c
        simp only [Datum.opposite, Datum.sum, if_true, Option.map]
        show some (z1 (double.word (!s) double.infRung)) = some (z1 (ng' (double.word s double.infRung)))
        rw [dI, word_is, word_is, ng_wd _ _ (by omega)]
      · have c' : ¬ (!s) = (!t) := fun h => c (by cases s <;> cases t <;> simp_all)
        simp [Datum.opposite, Datum.sum, c, c', oz, og]
    | number t n j =>
      show some (z1 (double.word (!s) double.infRung)) = some (z1 (ng' (double.word s double.infRung)))
      rw [dI, word_is, word_is, ng_wd _ _ (by omega)]
  | number s m i => cases e with
    | nan s t => rfl
    | infinity t =>
      show some (z1 (double.word (!t) double.infRung)) = some (z1 (ng' (double.word t double.infRung)))
      rw [dI, word_is, word_is, ng_wd _ _ (by omega)]
    | number t n j =>
      simp only [Datum.opposite, Datum.sum, signed_opp]
      rw [show (-signed s m (i - min i j).toNat + -signed t n (j - min i j).toNat) = -(signed s m (i - min i j).toNat + signed t n (j - min i j).toNat) by omega]
      generalize signed s m (i - min i j).toNat + signed t n (j - min i j).toNat = T
      by_cases c : T = 0
      · subst c
        show some (z1 (double.nearest _ 0 _)) = some (z1 (ng' (double.nearest _ 0 _)))
        rw [near_0, near_0]
        exact congrArg some (z1_ng0 _ _)
      · rw [if_neg c, if_neg (by omega), Int.natAbs_neg]
        show some (z1 (double.nearest _ _ _)) = some (z1 (ng' (double.nearest _ _ _)))
        obtain ⟨r, h1, h2, h3⟩ := near_lt (decide (T < 0)) T.natAbs (min i j)
        rw [h1, h3, ng_wd _ _ (by omega)]
        congr 3
        by_cases d : T < 0
        · simp [d]; omega
        · simp [d]; omega
theorem add_ng (x y : Nat) (hx : x < 18446744073709551616) (hy : y < 18446744073709551616) : oz (double.add (ng' x) (ng' y)) = oz (og (double.add x y)) := by
  unfold Format.add; rw [read_ng x hx, read_ng y hy]; exact sum_opp _ _
theorem sub_ng (x y : Nat) (hx : x < 18446744073709551616) (hy : y < 18446744073709551616) : oz (double.sub (ng' x) (ng' y)) = oz (og (double.sub x y)) := by
  unfold Format.sub; rw [read_ng x hx, read_ng y hy]; exact sum_opp _ _
end Go.Proofs.Ytdlcnbfiklbiiaa.Fl
