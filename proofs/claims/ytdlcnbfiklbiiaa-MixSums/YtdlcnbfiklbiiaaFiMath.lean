/- Floats as what can be told of them: none where a word is no number. Sums, differences, products of these; the sign of nought; the other sign. -/
import Derived.Test.YtdlcnbfiklbiiaaFm3
namespace Go.Proofs.Ytdlcnbfiklbiiaa.Fl
set_option linter.unusedVariables false
set_option linter.unusedSimpArgs false
open Ieee

/-- A word is no number. -/
def nn (x : Nat) : Bool := (double.read x).isNaN
/-- What can be told of a word. -/
def ab (x : Nat) : Option Nat := if nn x then none else some x
def o2 (f : Nat → Nat → Option Nat) (a b : Option Nat) : Option Nat := a.bind fun x => b.bind fun y => f x y
def om := o2 double.mul
def oa := o2 double.add
def os := o2 double.sub
theorem nn_read {x : Nat} (h : nn x = true) : ∃ s t, double.read x = .nan s t := by
  unfold nn Datum.isNaN at h
  cases hr : double.read x with
  | nan s t => exact ⟨s, t, rfl⟩
  | number a b c => rw [hr] at h; simp at h
  | infinity a => rw [hr] at h; simp at h
theorem mul_ab (x y : Nat) : double.mul x y = om (ab x) (ab y) := by
  unfold om o2 ab
  cases hx : nn x
  · cases hy : nn y
    · rfl
    · obtain ⟨s, t, h⟩ := nn_read hy
      simp only [Bool.false_eq_true, if_false, if_true, Option.bind]
      unfold Format.mul; rw [h]; cases double.read x <;> rfl
  · obtain ⟨s, t, h⟩ := nn_read hx
    simp only [if_true, Option.bind]
    unfold Format.mul; rw [h]; cases double.read y <;> rfl
theorem add_ab (x y : Nat) : double.add x y = oa (ab x) (ab y) := by
  unfold oa o2 ab
  cases hx : nn x
  · cases hy : nn y
    · rfl
    · obtain ⟨s, t, h⟩ := nn_read hy
      simp only [Bool.false_eq_true, if_false, if_true, Option.bind]
      unfold Format.add; rw [h]; cases double.read x <;> rfl
  · obtain ⟨s, t, h⟩ := nn_read hx
    simp only [if_true, Option.bind]
    unfold Format.add; rw [h]; cases double.read y <;> rfl
theorem sub_ab (x y : Nat) : double.sub x y = os (ab x) (ab y) := by
  unfold os o2 ab
  cases hx : nn x
  · cases hy : nn y
    · rfl
    · obtain ⟨s, t, h⟩ := nn_read hy
      simp only [Bool.false_eq_true, if_false, if_true, Option.bind]
      unfold Format.sub; rw [h]; cases double.read x <;> rfl
  · obtain ⟨s, t, h⟩ := nn_read hx
    simp only [if_true, Option.bind]
    unfold Format.sub; rw [h]; cases double.read y <;> rfl
/-- What the tape tells where an operation has no number. -/
def cutN (t : Nat) : Nat := (t % 2) * 2 ^ 63 + 0x7ff0000000000000 + 1 + (t / 2) % (2 ^ 52 - 1)
theorem read_hi (x : Nat) (h1 : x < 18446744073709551616) (h2 : 9218868437227405312 < rg x) : nn x = true := by
  have : double.read x = .nan (x / 9223372036854775808 % 2 == 1) (rg x - 9218868437227405312) := by
    unfold Format.read
    rw [dB, dS, dI, dL]
    show (if rg x < 4503599627370496 then _ else _) = _
    rw [if_neg (by omega), if_neg (by show ¬ rg x < _; omega), if_neg (by show ¬ rg x = _; omega)]
    rfl
  unfold nn; rw [this]; rfl
theorem cutN_nn (t : Nat) : nn (cutN t) = true ∧ cutN t < 18446744073709551616 := by
  have h1 : cutN t < 18446744073709551616 := by unfold cutN; omega
  refine ⟨read_hi _ h1 ?_, h1⟩
  have : t % 2 = 0 ∨ t % 2 = 1 := by omega
  have h3 : t / 2 % (2 ^ 52 - 1) < 2 ^ 52 - 1 := Nat.mod_lt _ (by decide)
  unfold rg cutN
  generalize t / 2 % (2 ^ 52 - 1) = q at *
  rcases this with e | e
  · rw [e]; omega
  · rw [e]; omega
theorem nn_of (x : Nat) (h : nn x = true) : 9218868437227405312 < rg x := by
  unfold nn Format.read at h
  rw [dB, dS, dI, dL] at h
  have e : x % 9223372036854775808 = rg x := rfl
  rw [e] at h
  by_cases c : rg x < 4503599627370496
  · simp [c, Datum.isNaN] at h
  · by_cases d : rg x < 9218868437227405312
    · simp [c, d, Datum.isNaN] at h
    · by_cases e : rg x = 9218868437227405312
      · simp [c, d, e, Datum.isNaN] at h
      · omega
/-- A number that is written is one. -/
theorem near_lt (n : Bool) (m : Nat) (p : Int) : ∃ r, double.nearest n m p = wd n r ∧ r ≤ 9218868437227405312 ∧ ∀ n', double.nearest n' m p = wd n' r := by
  by_cases c : m = 0
  · exact ⟨0, by unfold Format.nearest; rw [if_pos c, word_is], by omega, fun n' => by unfold Format.nearest; rw [if_pos c, word_is]⟩
  · refine ⟨min ((max (p + m.log2 - double.fractionBits) double.leastPlace - double.leastPlace).toNat * double.binade + ct (m <<< (p - max (p + m.log2 - double.fractionBits) double.leastPlace).toNat) (max (p + m.log2 - double.fractionBits) double.leastPlace - p).toNat) double.infRung, ?_, ?_, fun n' => ?_⟩
    · unfold Format.nearest; rw [if_neg c, word_is]
      simp only [cut_all]
    · rw [dI]; exact Nat.min_le_right _ _
    · unfold Format.nearest; rw [if_neg c, word_is]
      simp only [cut_all]
/-- A datum that is no 'no number' is written as one that is none, and its opposite as the other sign. -/
theorem write_ok (d : Datum) (h : d.isNaN = false) : ∃ n r, double.write d = wd n r ∧ r ≤ 9218868437227405312 ∧ double.write d.opposite = wd (!n) r := by
  cases d with
  | nan s t => simp [Datum.isNaN] at h
  | infinity s => exact ⟨s, 9218868437227405312, by show double.word s double.infRung = _; rw [word_is, dI], Nat.le_refl _, by show double.word (!s) double.infRung = _; rw [word_is, dI]⟩
  | number s m e =>
    obtain ⟨r, h1, h2, h3⟩ := near_lt s m e
    exact ⟨s, r, h1, h2, h3 (!s)⟩
theorem nn_wd (n : Bool) (r : Nat) (h : r ≤ 9218868437227405312) : nn (wd n r) = false ∧ wd n r < 18446744073709551616 := by
  refine ⟨?_, by unfold wd; cases n <;> simp <;> omega⟩
  cases hc : nn (wd n r) with
  | false => rfl
  | true => have := nn_of _ hc; rw [rg_wd _ _ (by omega)] at this; omega
theorem sum_nn {d e f : Datum} (h : d.sum e = some f) : f.isNaN = false := by
  cases d <;> cases e <;> simp [Datum.sum] at h
  · rw [← h]; rfl
  · rw [← h]; rfl
  · rw [← h]; rfl
  · rw [← h.2]; rfl
theorem product_nn {d e f : Datum} (h : d.product e = some f) : f.isNaN = false := by
  cases d <;> cases e <;> simp [Datum.product] at h
  · rw [← h]; rfl
  · rw [← h.2]; rfl
  · rw [← h.2]; rfl
  · rw [← h]; rfl
theorem op_ok {d : Option Datum} (hd : ∀ f, d = some f → f.isNaN = false) {r : Nat} (h : d.map double.write = some r) : ab r = some r ∧ r < 18446744073709551616 := by
  cases d with
  | none => simp at h
  | some f =>
    obtain ⟨n, q, h1, h2, h3⟩ := write_ok f (hd f rfl)
    simp at h
    rw [h1] at h
    obtain ⟨g1, g2⟩ := nn_wd n q h2
    rw [← h]
    exact ⟨by unfold ab; rw [g1]; rfl, g2⟩
theorem mul_some {x y r : Nat} (h : double.mul x y = some r) : ab r = some r ∧ r < 18446744073709551616 := op_ok (fun f hf => product_nn hf) h
theorem add_some {x y r : Nat} (h : double.add x y = some r) : ab r = some r ∧ r < 18446744073709551616 := op_ok (fun f hf => sum_nn hf) h
theorem sub_some {x y r : Nat} (h : double.sub x y = some r) : ab r = some r ∧ r < 18446744073709551616 := op_ok (fun f hf => sum_nn hf) h
end Go.Proofs.Ytdlcnbfiklbiiaa.Fl
