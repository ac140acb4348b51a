/- What comes out of a filter, sample by sample and piece by piece, in plain words. -/
import Derived.Test.YtjfmpgfpehnnjaiFi2
namespace Go.Proofs.Ytjfmpgfpehnnjai.Fi
open Fl
set_option linter.unusedSimpArgs false
set_option linter.unusedVariables false

def outs (c : Cf) (s : St) : List (Option Nat) → List (Option Nat)
  | [] => []
  | x :: l => nx c s x :: outs c (adv c s x) l
def sts (c : Cf) (s : St) : List (Option Nat) → St
  | [] => s
  | x :: l => sts c (adv c s x) l
theorem sts_app (c : Cf) (s : St) (a b : List (Option Nat)) : sts c s (a ++ b) = sts c (sts c s a) b := by
  induction a generalizing s with
  | nil => rfl
  | cons x a ih => exact ih (adv c s x)
theorem outs_app (c : Cf) (s : St) (a b : List (Option Nat)) : outs c s (a ++ b) = outs c s a ++ outs c (sts c s a) b := by
  induction a generalizing s with
  | nil => rfl
  | cons x a ih => show _ :: outs c (adv c s x) (a ++ b) = _ :: (_ ++ _); rw [ih]; rfl
theorem outs_len (c : Cf) (s : St) (l : List (Option Nat)) : (outs c s l).length = l.length := by
  induction l generalizing s with
  | nil => rfl
  | cons x a ih => show (outs c _ a).length + 1 = a.length + 1; rw [ih]
def abs (l : List Nat) : List (Option Nat) := l.map ab
theorem abs_len (l : List Nat) : (abs l).length = l.length := List.length_map _
theorem abs_app (a b : List Nat) : abs (a ++ b) = abs a ++ abs b := List.map_append
theorem take_snoc {l : List Nat} {k x : Nat} (h : l[k]? = some x) : l.take (k + 1) = l.take k ++ [x] := by
  rw [List.take_add_one, h]; rfl
theorem outs_step (c : Cf) (s : St) {l : List Nat} {k x : Nat} (h : l[k]? = some x) : outs c s (abs (l.take (k + 1))) = outs c s (abs (l.take k)) ++ [nx c (sts c s (abs (l.take k))) (ab x)] := by
  rw [take_snoc h, abs_app, outs_app]; rfl
theorem sts_step (c : Cf) (s : St) {l : List Nat} {k x : Nat} (h : l[k]? = some x) : sts c s (abs (l.take (k + 1))) = adv c (sts c s (abs (l.take k))) (ab x) := by
  rw [take_snoc h, abs_app, sts_app]; rfl
/-- What comes of pieces, with a rest ahead of piece r. -/
def at' (r : Int) (i : Nat) (s : St) : St := if (i : Int) = r then rest0 else s
def strn (c : Cf) (r : Int) : Nat → St → List (List Nat) → List (List (Option Nat))
  | _, _, [] => []
  | i, s, p :: ps => outs c (at' r i s) (abs p) :: strn c r (i + 1) (sts c (at' r i s) (abs p)) ps
def stn (c : Cf) (r : Int) : Nat → St → List (List Nat) → St
  | _, s, [] => s
  | i, s, p :: ps => stn c r (i + 1) (sts c (at' r i s) (abs p)) ps
theorem stn_app (c : Cf) (r : Int) (i : Nat) (s : St) (a b : List (List Nat)) : stn c r i s (a ++ b) = stn c r (i + a.length) (stn c r i s a) b := by
  induction a generalizing i s with
  | nil => rfl
  | cons p a ih => show stn c r (i + 1) _ (a ++ b) = _; rw [ih, List.length_cons, show i + 1 + a.length = i + (a.length + 1) by omega]; rfl
theorem strn_app (c : Cf) (r : Int) (i : Nat) (s : St) (a b : List (List Nat)) : strn c r i s (a ++ b) = strn c r i s a ++ strn c r (i + a.length) (stn c r i s a) b := by
  induction a generalizing i s with
  | nil => rfl
  | cons p a ih => show _ :: strn c r (i + 1) _ (a ++ b) = _ :: (_ ++ _); rw [ih, List.length_cons, show i + 1 + a.length = i + (a.length + 1) by omega]; rfl
theorem strn_len (c : Cf) (r : Int) (i : Nat) (s : St) (a : List (List Nat)) : (strn c r i s a).length = a.length := by
  induction a generalizing i s with
  | nil => rfl
  | cons p a ih => show (strn c r _ _ a).length + 1 = a.length + 1; rw [ih]
theorem take_snoc' {l : List (List Nat)} {k : Nat} {x : List Nat} (h : l[k]? = some x) : l.take (k + 1) = l.take k ++ [x] := by
  rw [List.take_add_one, h]; rfl
theorem take_len' {l : List (List Nat)} {k : Nat} {x : List Nat} (h : l[k]? = some x) : (l.take k).length = k := by
  have := (List.getElem?_eq_some_iff.1 h).1
  simp; omega
theorem strn_step (c : Cf) (r : Int) {l : List (List Nat)} {k : Nat} {x : List Nat} (h : l[k]? = some x) : strn c r 0 rest0 (l.take (k + 1)) = strn c r 0 rest0 (l.take k) ++ [outs c (at' r k (stn c r 0 rest0 (l.take k))) (abs x)] := by
  rw [take_snoc' h, strn_app, take_len' h, Nat.zero_add]; rfl
theorem stn_step (c : Cf) (r : Int) {l : List (List Nat)} {k : Nat} {x : List Nat} (h : l[k]? = some x) : stn c r 0 rest0 (l.take (k + 1)) = sts c (at' r k (stn c r 0 rest0 (l.take k))) (abs x) := by
  rw [take_snoc' h, stn_app, take_len' h, Nat.zero_add]; rfl
end Go.Proofs.Ytjfmpgfpehnnjai.Fi
