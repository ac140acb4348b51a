/- The state of a filter from rest, by what came in and out one and two ahead. -/
import Derived.Test.YtjfmpgfpehnnjaiFiMath3
namespace Go.Proofs.Ytjfmpgfpehnnjai.Fi
open Fl
set_option linter.unusedSimpArgs false
set_option linter.unusedVariables false

/-- Number k - j of a list; nought ahead of it. -/
def bk (L : List (Option Nat)) (k j : Nat) : Option Nat := if j ≤ k then (L[k - j]?).getD none else some 0
theorem bk_one (L : List (Option Nat)) (k : Nat) (x : Option Nat) (h : L[k]? = some x) : bk L (k + 1) 1 = x := by
  unfold bk; rw [if_pos (by omega), show k + 1 - 1 = k by omega, h]; rfl
theorem bk_two (L : List (Option Nat)) (k : Nat) : bk L (k + 1) 2 = bk L k 1 := by
  unfold bk
  by_cases c : 1 ≤ k
  · rw [if_pos (by omega), if_pos c, show k + 1 - 2 = k - 1 by omega]
  · rw [if_neg (by omega), if_neg c]
theorem bk_app (L M : List (Option Nat)) (k : Nat) (h : k ≤ L.length) : bk (L ++ M) k 1 = bk L k 1 := by
  unfold bk
  by_cases c : 1 ≤ k
  · rw [if_pos c, if_pos c, List.getElem?_append_left (by omega)]
  · rw [if_neg c, if_neg c]
theorem st_at (c : Cf) (l : List Nat) (k : Nat) (hk : k ≤ l.length) : sts c rest0 (abs (l.take k)) = ⟨bk (abs l) k 1, bk (abs l) k 2, bk (outs c rest0 (abs (l.take k))) k 1, bk (outs c rest0 (abs (l.take k))) k 2⟩ := by
  induction k with
  | zero => rfl
  | succ k ih =>
    have hx : l[k]? = some (l[k]'(by omega)) := List.getElem?_eq_getElem (by omega)
    generalize l[k]'(by omega) = x at hx
    have ih' := ih (by omega)
    have hl : (outs c rest0 (abs (l.take k))).length = k := by rw [outs_len, abs_len]; simp; omega
    rw [sts_step c rest0 hx, outs_step c rest0 hx]
    unfold adv
    generalize hy : nx c (sts c rest0 (abs (l.take k))) (ab x) = y
    rw [bk_one (abs l) k (ab x) (by unfold abs; rw [List.getElem?_map, hx]; rfl), bk_two, bk_two, bk_one _ k y (by rw [List.getElem?_append_right (by omega), hl]; simp), bk_app _ _ _ (by omega), ih']
end Go.Proofs.Ytjfmpgfpehnnjai.Fi
