/- What the document's Wrong and Sample come to. -/
import Derived.Test.YtjfmpgfpehnnjaiVo5
namespace Go.Proofs.Ytjfmpgfpehnnjai.Vo
open Go.RowKit Go.Maps Go.Sort
set_option linter.unusedSimpArgs false
set_option linter.unusedVariables false

def nth (p : Pt) (j : Nat) : Int := if j = 0 then p.atk else if j = 1 then p.dec else p.rel
theorem wr_shape {p : Pt} (h : ¬ (1 ≤ p.shape ∧ p.shape ≤ 4)) : wr p = 1 := if_neg h
theorem wr_in {p : Pt} (h : 1 ≤ p.shape ∧ p.shape ≤ 4) : wr p = if inB p = true then 0 else 3 := if_pos h
theorem wr_gain {p : Pt} (h : 1 ≤ p.shape ∧ p.shape ≤ 4) (g : gok p.gain = false) : wr p = 3 := by
  rw [wr_in h, if_neg]; unfold inB; rw [g]; simp
theorem upB_no {m n : Int} (h : ¬ (0 ≤ n ∧ n ≤ m)) : upB m n = false := by
  unfold upB; simp only [Bool.and_eq_false_iff, decide_eq_false_iff_not]; omega
theorem upB_is {m n : Int} (h : 0 ≤ n ∧ n ≤ m) : upB m n = true := by unfold upB; simpa using h
theorem wr_nth {p : Pt} (h : 1 ≤ p.shape ∧ p.shape ≤ 4) (j : Nat) (g : ¬ (0 ≤ nth p j ∧ nth p j ≤ 16777216)) : wr p = 3 := by
  rw [wr_in h, if_neg]
  unfold inB
  unfold nth at g
  by_cases c : j = 0
  · rw [if_pos c] at g; rw [upB_no g]; simp
  · rw [if_neg c] at g
    by_cases d : j = 1
    · rw [if_pos d] at g; rw [upB_no (n := p.dec) g]; simp
    · rw [if_neg d] at g; rw [upB_no (n := p.rel) g]; simp
theorem wr_last {p : Pt} (h : 1 ≤ p.shape ∧ p.shape ≤ 4) (g : gok p.gain = true) (hn : ∀ j, j < 3 → 0 ≤ nth p j ∧ nth p j ≤ 16777216) : wr p = if upB 1048576 p.sus = true then 0 else 3 := by
  rw [wr_in h]
  unfold inB
  have h0 := hn 0 (by omega)
  have h1 := hn 1 (by omega)
  have h2 := hn 2 (by omega)
  rw [g, upB_is (n := p.atk) h0, upB_is (n := p.dec) h1, upB_is (n := p.rel) h2]
  simp
end Go.Proofs.Ytjfmpgfpehnnjai.Vo
