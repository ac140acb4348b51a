/- What the walk may take of '+', '-', '*' on floats, whether a number comes out or none; the filter's next sample. -/
import Derived.Test.YtjpcebnbkdekkaaRows
import Derived.Test.YtjpcebnbkdekkaaGU1
import Derived.Test.YtjpcebnbkdekkaaGU3
import Derived.Test.YtjpcebnbkdekkaaGU2
import Derived.Test.YtjpcebnbkdekkaaGU7
import Derived.WalkKit
import Derived.Handy
import Derived.RegionTactic
import Derived.ChangeAlike
import Derived.Below
import Derived.Outline
import Derived.Deep.QuietTactic
import Derived.BigQuiet
import Derived.WalkSmall
import Derived.LoopTactic
import Derived.WalkLawsBesides
import Derived.Laws.Externs
import Derived.Deep.RegionHeld3
import Derived.Lib.QuietBelow
namespace Go.Proofs.Ytjpcebnbkdekkaa.Fi
open Go.RowKit Go.Maps Go.Sort Fl
set_option linter.unusedSimpArgs false
set_option linter.unusedVariables false

theorem keepC {n : Nat} {w w' : World} {a : Addr} {v : Value} (h : Below n w w') (hlt : a.block < n) (hc : w.cell? a = some v) : w'.cell? a = some v := by rw [h.cell hlt]; exact hc
/-- Sum, difference, product of what can be told. -/
def fo : BinOp → Option Nat → Option Nat → Option Nat
  | .add => oa
  | .sub => os
  | .mul => om
  | _ => fun _ _ => none
theorem bits_fo (op : BinOp) (hop : op = .add ∨ op = .sub ∨ op = .mul) (x y : Nat) : floatBits op .f64 x y = fo op (ab x) (ab y) := by
  rcases hop with rfl | rfl | rfl
  · exact add_ab x y
  · exact sub_ab x y
  · exact mul_ab x y
theorem bits_some (op : BinOp) (hop : op = .add ∨ op = .sub ∨ op = .mul) (x y r : Nat) (h : floatBits op .f64 x y = some r) : ab r = some r ∧ r < 18446744073709551616 := by
  rcases hop with rfl | rfl | rfl
  · exact add_some h
  · exact sub_some h
  · exact mul_some h
/-- Whatever comes out: what can be told of it. -/
theorem fop_run (P : Program) (op : BinOp) (hop : op = .add ∨ op = .sub ∨ op = .mul) (x y : Nat) (t : TypeId) (w : World) :
    ∃ r d, (binOp op t (.float .f64 x) (.float .f64 y)).run P w = .ok (.float .f64 r) (w.drewN d) ∧ r < 18446744073709551616 ∧ ab r = fo op (ab x) (ab y) := by
  cases h : floatBits op .f64 x y with
  | some r =>
    obtain ⟨h1, h2⟩ := bits_some op hop x y r h
    exact ⟨r, 0, run_float_arith w op t .f64 x y r h, h2, by rw [← bits_fo op hop, h, h1]⟩
  | none =>
    refine ⟨cutN (w.tape w.drawn (.nanBits .f64 x y)), 1, ?_, (cutN_nn _).2, ?_⟩
    · rcases hop with rfl | rfl | rfl
      all_goals
        unfold floatBits at h
        simp only at h
        simp [binOp, Op.floatArith, h, Question.forced, Question.cut]
        exact ⟨by simp [cutN], rfl⟩
    · rw [← bits_fo op hop, h]
      unfold ab; rw [(cutN_nn _).1]; rfl
/-- The same at an operation of a region. -/
theorem fop_exec (P : Program) (o : Oper) (a : Act) (op : BinOp) (hop : op = .add ∨ op = .sub ∨ op = .mul) (i j : Operand) (t u : TypeId) (ho : o.op = .binOp op t i j u) (x y : Nat) (hi : a.eval i = .float .f64 x) (hj : a.eval j = .float .f64 y) (w : World) :
    ∃ v d, (execOp a.eval o).run P w = .ok (.value v) (w.drewN d) ∧ ∃ r, v = .float .f64 r ∧ r < 18446744073709551616 ∧ ab r = fo op (ab x) (ab y) := by
  obtain ⟨r, d, h1, h2, h3⟩ := fop_run P op hop x y t w
  refine ⟨.float .f64 r, d, ?_, r, rfl, h2, h3⟩
  unfold execOp
  rw [ho]
  rcases hop with rfl | rfl | rfl
  all_goals simp [hi, hj, eqGuard, h1]
theorem wpMay_f {P : Program} {ops : Array Oper} {Q : Act → Prop} {a : Act} {o : Oper} {rest : List Oper} {w : World} (hg : o.guard = none) (op : BinOp) (hop : op = .add ∨ op = .sub ∨ op = .mul) (i j : Operand) (t u : TypeId) (ho : o.op = .binOp op t i j u) (x y : Nat) (hi : a.eval i = .float .f64 x) (hj : a.eval j = .float .f64 y)
    (h : ∀ r, r < 18446744073709551616 → ab r = fo op (ab x) (ab y) → RM.wpMay P ops (fun w' => ∃ n, w' = w.drewN n) Q rest (a.put o.dst (.float .f64 r))) : RM.wpMay P ops (fun w' => ∃ n, w' = w.drewN n) Q (o :: rest) a := by
  refine RM.wpMay_draw (by unfold Region.wanted; rw [hg]) (fun v => ∃ r, v = .float .f64 r ∧ r < 18446744073709551616 ∧ ab r = fo op (ab x) (ab y)) (fun n => fop_exec P o a op hop i j t u ho x y hi hj (w.drewN n)) ?_
  rintro v ⟨r, rfl, h1, h2⟩
  exact h r h1 h2
end Go.Proofs.Ytjpcebnbkdekkaa.Fi

/- A filter in memory; its next sample. -/
namespace Go.Proofs.Ytjpcebnbkdekkaa.Fi
open Go.RowKit Go.Maps Go.Sort Fl
set_option linter.unusedSimpArgs false
set_option linter.unusedVariables false

@[go_sem] theorem run_store_float (a : Addr) (k : FloatKind) (x : Nat) (m : Mode) (w : World) : (store a (.float k x) m).run Try.prog w = stored Try.prog w a (.float k x) m := run_store Try.prog w a _ m rfl
theorem belN {N : Nat} {w w1 : World} (h : Below N w w1) (n : Nat) : Below N w (w1.drewN n) := ⟨h.os, h.tape, h.output, h.size, h.block⟩
/-- Coefficients. -/
structure Cf where
  b0 : Nat
  b1 : Nat
  b2 : Nat
  a1 : Nat
  a2 : Nat
/-- What came in and out one and two ahead, as far as it can be told. -/
structure St where
  x1 : Option Nat
  x2 : Option Nat
  y1 : Option Nat
  y2 : Option Nat
/-- What comes out now. -/
def nx (c : Cf) (s : St) (x : Option Nat) : Option Nat := os (os (oa (oa (om (ab c.b0) x) (om (ab c.b1) s.x1)) (om (ab c.b2) s.x2)) (om (ab c.a1) s.y1)) (om (ab c.a2) s.y2)
def adv (c : Cf) (s : St) (x : Option Nat) : St := ⟨x, s.x1, nx c s x, s.y1⟩
def rest0 : St := ⟨some 0, some 0, some 0, some 0⟩
/-- A cell with a float of which this can be told. -/
def FC (w : World) (b i : Nat) (o : Option Nat) : Prop := ∃ X, w.cell? ⟨b, i, none⟩ = some (.float .f64 X) ∧ X < 18446744073709551616 ∧ ab X = o
/-- A filter in memory. -/
structure FL (w : World) (b : Nat) (c : Cf) (s : St) : Prop where
  c0 : w.cell? ⟨b, 0, none⟩ = some (.float .f64 c.b0)
  c1 : w.cell? ⟨b, 1, none⟩ = some (.float .f64 c.b1)
  c2 : w.cell? ⟨b, 2, none⟩ = some (.float .f64 c.b2)
  c3 : w.cell? ⟨b, 3, none⟩ = some (.float .f64 c.a1)
  c4 : w.cell? ⟨b, 4, none⟩ = some (.float .f64 c.a2)
  c5 : FC w b 5 s.x1
  c6 : FC w b 6 s.x2
  c7 : FC w b 7 s.y1
  c8 : FC w b 8 s.y2
  f : ∀ i, w.frozen? ⟨b, i, none⟩ = false
  lt : b < w.heap.size
set_option maxHeartbeats 4000000 in
theorem next_any (c : Cf) (s : St) (b x : Nat) (w : World) (hx : x < 18446744073709551616) (hF : FL w b c s) :
    Calls Try.prog 99 #[.pointer (some ⟨b, 0, none⟩), .float .f64 x] w fun e w' => ∃ r, e = .returned (.float .f64 r) ∧ r < 18446744073709551616 ∧ ab r = nx c s (ab x) ∧ Below w.heap.size w w' := by
  obtain ⟨c0, c1, c2, c3, c4, ⟨X1, c5, X1l, X1a⟩, ⟨X2, c6, X2l, X2a⟩, ⟨Y1, c7, Y1l, Y1a⟩, ⟨Y2, c8, Y2l, Y2a⟩, f, lt⟩ := hF
  have s0 : w.heap.size < (w.alloc (Obj.cells #[.float .f64 c.b0, .float .f64 c.b1, .float .f64 c.b2, .float .f64 c.a1, .float .f64 c.a2] 48)).heap.size := by simp
  have hb : Below w.heap.size w (w.alloc (Obj.cells #[.float .f64 c.b0, .float .f64 c.b1, .float .f64 c.b2, .float .f64 c.a1, .float .f64 c.a2] 48)) := (Below.refl _ _).alloc (Nat.le_refl _) _
  have d0 : (w.alloc (Obj.cells #[.float .f64 c.b0, .float .f64 c.b1, .float .f64 c.b2, .float .f64 c.a1, .float .f64 c.a2] 48)).cell? ⟨w.heap.size, 0, none⟩ = some (.float .f64 c.b0) := by simp [go_sem]
  have d1 : (w.alloc (Obj.cells #[.float .f64 c.b0, .float .f64 c.b1, .float .f64 c.b2, .float .f64 c.a1, .float .f64 c.a2] 48)).cell? ⟨w.heap.size, 1, none⟩ = some (.float .f64 c.b1) := by simp [go_sem]
  have d2 : (w.alloc (Obj.cells #[.float .f64 c.b0, .float .f64 c.b1, .float .f64 c.b2, .float .f64 c.a1, .float .f64 c.a2] 48)).cell? ⟨w.heap.size, 2, none⟩ = some (.float .f64 c.b2) := by simp [go_sem]
  have d3 : (w.alloc (Obj.cells #[.float .f64 c.b0, .float .f64 c.b1, .float .f64 c.b2, .float .f64 c.a1, .float .f64 c.a2] 48)).cell? ⟨w.heap.size, 3, none⟩ = some (.float .f64 c.a1) := by simp [go_sem]
  have d4 : (w.alloc (Obj.cells #[.float .f64 c.b0, .float .f64 c.b1, .float .f64 c.b2, .float .f64 c.a1, .float .f64 c.a2] 48)).cell? ⟨w.heap.size, 4, none⟩ = some (.float .f64 c.a2) := by simp [go_sem]
  have d5 := keepC hb lt c5
  have d6 := keepC hb lt c6
  have d7 := keepC hb lt c7
  have d8 := keepC hb lt c8
  go_enter Try.func99, Try.ntmps99
  go_wp2_with fail
  generalize w.alloc (Obj.cells #[.float .f64 c.b0, .float .f64 c.b1, .float .f64 c.b2, .float .f64 c.a1, .float .f64 c.a2] 48) = W1 at *
  clear c0 c1 c2 c3 c4 c5 c6 c7 c8 f
  obtain ⟨b0, b1, b2, a1, a2⟩ := c
  obtain ⟨x1, x2, y1, y2⟩ := s
  simp only at *
  subst X1a X2a Y1a Y2a
  have HQ : Hid (∀ r, nx ⟨b0, b1, b2, a1, a2⟩ ⟨ab X1, ab X2, ab Y1, ab Y2⟩ (ab x) = r ↔ os (os (oa (oa (om (ab b0) (ab x)) (om (ab b1) (ab X1))) (om (ab b2) (ab X2))) (om (ab a1) (ab Y1))) (om (ab a2) (ab Y2)) = r) := fun r => Iff.rfl
  refine RM.wp_region_may (by kernel_rfl) (by kernel_rfl) ?_
  repeat (refine RM.wpMay_step (fun K hK => ?_); go_simp; refine hK _ ?_; clear hK K)
  refine wpMay_f rfl .mul (.inr (.inr rfl)) _ _ _ _ rfl b0 x rfl rfl ?_
  intro r1 l1 e1
  repeat (refine RM.wpMay_step (fun K hK => ?_); go_simp; refine hK _ ?_; clear hK K)
  refine wpMay_f rfl .mul (.inr (.inr rfl)) _ _ _ _ rfl b1 X1 rfl rfl ?_
  intro r2 l2 e2
  refine wpMay_f rfl .add (.inl rfl) _ _ _ _ rfl r1 r2 rfl rfl ?_
  intro r3 l3 e3
  repeat (refine RM.wpMay_step (fun K hK => ?_); go_simp; refine hK _ ?_; clear hK K)
  refine RM.wpMay_nil ?_
  intro n1
  go_wp2_with fail
  refine RM.wp_region_may (by kernel_rfl) (by kernel_rfl) ?_
  repeat (refine RM.wpMay_step (fun K hK => ?_); go_simp; refine hK _ ?_; clear hK K)
  refine wpMay_f rfl .mul (.inr (.inr rfl)) _ _ _ _ rfl b2 X2 rfl rfl ?_
  intro r4 lr4 er4
  refine wpMay_f rfl .add (.inl rfl) _ _ _ _ rfl r3 r4 rfl rfl ?_
  intro r5 lr5 er5
  repeat (refine RM.wpMay_step (fun K hK => ?_); go_simp; refine hK _ ?_; clear hK K)
  refine RM.wpMay_nil ?_
  intro n2
  go_wp2_with fail
  refine RM.wp_region_may (by kernel_rfl) (by kernel_rfl) ?_
  repeat (refine RM.wpMay_step (fun K hK => ?_); go_simp; refine hK _ ?_; clear hK K)
  refine wpMay_f rfl .mul (.inr (.inr rfl)) _ _ _ _ rfl a1 Y1 rfl rfl ?_
  intro r6 lr6 er6
  refine wpMay_f rfl .sub (.inr (.inl rfl)) _ _ _ _ rfl r5 r6 rfl rfl ?_
  intro r7 lr7 er7
  repeat (refine RM.wpMay_step (fun K hK => ?_); go_simp; refine hK _ ?_; clear hK K)
  refine RM.wpMay_nil ?_
  intro n3
  go_wp2_with fail
  refine RM.wp_region_may (by kernel_rfl) (by kernel_rfl) ?_
  repeat (refine RM.wpMay_step (fun K hK => ?_); go_simp; refine hK _ ?_; clear hK K)
  refine wpMay_f rfl .mul (.inr (.inr rfl)) _ _ _ _ rfl a2 Y2 rfl rfl ?_
  intro r8 lr8 er8
  refine wpMay_f rfl .sub (.inr (.inl rfl)) _ _ _ _ rfl r7 r8 rfl rfl ?_
  intro r9 lr9 er9
  repeat (refine RM.wpMay_step (fun K hK => ?_); go_simp; refine hK _ ?_; clear hK K)
  refine RM.wpMay_nil ?_
  intro n4
  go_wp2_with fail
  go_ret
  refine ⟨r9, rfl, lr9, ?_, ?_⟩
  · rw [er9, er8, er7, er6, er5, er4, e3, e2, e1]; rfl
  · exact belN (belN (belN (belN hb _) _) _) _
end Go.Proofs.Ytjpcebnbkdekkaa.Fi

/- What comes out of a filter, sample by sample and piece by piece, in plain words. -/
namespace Go.Proofs.Ytjpcebnbkdekkaa.Fi
open Fl
set_option linter.unusedSimpArgs false
set_option linter.unusedVariables false

def outs (c : Cf) (s : St) : List (Option Nat) → List (Option Nat)
  | [] => []
  | x :: l => nx c s x :: outs c (adv c s x) l
def sts (c : Cf) (s : St) : List (Option Nat) → St
  | [] => s
  | x :: l => sts c (adv c s x) l
theorem sts_app (c : Cf) (s : St) (a b : List (Option Nat)) : sts c s (a ++ b) = sts c (sts c s a) b := by
  induction a generalizing s with
  | nil => rfl
  | cons x a ih => exact ih (adv c s x)
theorem outs_app (c : Cf) (s : St) (a b : List (Option Nat)) : outs c s (a ++ b) = outs c s a ++ outs c (sts c s a) b := by
  induction a generalizing s with
  | nil => rfl
  | cons x a ih => show _ :: outs c (adv c s x) (a ++ b) = _ :: (_ ++ _); rw [ih]; rfl
theorem outs_len (c : Cf) (s : St) (l : List (Option Nat)) : (outs c s l).length = l.length := by
  induction l generalizing s with
  | nil => rfl
  | cons x a ih => show (outs c _ a).length + 1 = a.length + 1; rw [ih]
def abs (l : List Nat) : List (Option Nat) := l.map ab
theorem abs_len (l : List Nat) : (abs l).length = l.length := List.length_map _
theorem abs_app (a b : List Nat) : abs (a ++ b) = abs a ++ abs b := List.map_append
theorem take_snoc {l : List Nat} {k x : Nat} (h : l[k]? = some x) : l.take (k + 1) = l.take k ++ [x] := by
  rw [List.take_add_one, h]; rfl
theorem outs_step (c : Cf) (s : St) {l : List Nat} {k x : Nat} (h : l[k]? = some x) : outs c s (abs (l.take (k + 1))) = outs c s (abs (l.take k)) ++ [nx c (sts c s (abs (l.take k))) (ab x)] := by
  rw [take_snoc h, abs_app, outs_app]; rfl
theorem sts_step (c : Cf) (s : St) {l : List Nat} {k x : Nat} (h : l[k]? = some x) : sts c s (abs (l.take (k + 1))) = adv c (sts c s (abs (l.take k))) (ab x) := by
  rw [take_snoc h, abs_app, sts_app]; rfl
/-- What comes of pieces, with a rest ahead of piece r. -/
def at' (r : Int) (i : Nat) (s : St) : St := if (i : Int) = r then rest0 else s
def strn (c : Cf) (r : Int) : Nat → St → List (List Nat) → List (List (Option Nat))
  | _, _, [] => []
  | i, s, p :: ps => outs c (at' r i s) (abs p) :: strn c r (i + 1) (sts c (at' r i s) (abs p)) ps
def stn (c : Cf) (r : Int) : Nat → St → List (List Nat) → St
  | _, s, [] => s
  | i, s, p :: ps => stn c r (i + 1) (sts c (at' r i s) (abs p)) ps
theorem stn_app (c : Cf) (r : Int) (i : Nat) (s : St) (a b : List (List Nat)) : stn c r i s (a ++ b) = stn c r (i + a.length) (stn c r i s a) b := by
  induction a generalizing i s with
  | nil => rfl
  | cons p a ih => show stn c r (i + 1) _ (a ++ b) = _; rw [ih, List.length_cons, show i + 1 + a.length = i + (a.length + 1) by omega]; rfl
theorem strn_app (c : Cf) (r : Int) (i : Nat) (s : St) (a b : List (List Nat)) : strn c r i s (a ++ b) = strn c r i s a ++ strn c r (i + a.length) (stn c r i s a) b := by
  induction a generalizing i s with
  | nil => rfl
  | cons p a ih => show _ :: strn c r (i + 1) _ (a ++ b) = _ :: (_ ++ _); rw [ih, List.length_cons, show i + 1 + a.length = i + (a.length + 1) by omega]; rfl
theorem strn_len (c : Cf) (r : Int) (i : Nat) (s : St) (a : List (List Nat)) : (strn c r i s a).length = a.length := by
  induction a generalizing i s with
  | nil => rfl
  | cons p a ih => show (strn c r _ _ a).length + 1 = a.length + 1; rw [ih]
theorem take_snoc' {l : List (List Nat)} {k : Nat} {x : List Nat} (h : l[k]? = some x) : l.take (k + 1) = l.take k ++ [x] := by
  rw [List.take_add_one, h]; rfl
theorem take_len' {l : List (List Nat)} {k : Nat} {x : List Nat} (h : l[k]? = some x) : (l.take k).length = k := by
  have := (List.getElem?_eq_some_iff.1 h).1
  simp; omega
theorem strn_step (c : Cf) (r : Int) {l : List (List Nat)} {k : Nat} {x : List Nat} (h : l[k]? = some x) : strn c r 0 rest0 (l.take (k + 1)) = strn c r 0 rest0 (l.take k) ++ [outs c (at' r k (stn c r 0 rest0 (l.take k))) (abs x)] := by
  rw [take_snoc' h, strn_app, take_len' h, Nat.zero_add]; rfl
theorem stn_step (c : Cf) (r : Int) {l : List (List Nat)} {k : Nat} {x : List Nat} (h : l[k]? = some x) : stn c r 0 rest0 (l.take (k + 1)) = sts c (at' r k (stn c r 0 rest0 (l.take k))) (abs x) := by
  rw [take_snoc' h, stn_app, take_len' h, Nat.zero_add]; rfl
end Go.Proofs.Ytjpcebnbkdekkaa.Fi

/- Graphs in plain words: what each node makes at each sample, and that there is one such thing where no node hears itself at once. -/
namespace Go.Proofs.Ytjpcebnbkdekkaa.Gh
open Fl
set_option linter.unusedVariables false
set_option linter.unusedSimpArgs false

/-- A node. -/
structure Nd where
  kind : Int
  frm : List Int
  n : Int
  x : Nat
  c : Fi.Cf
  p : Vo.Pt
/-- A graph. -/
structure Gr where
  ins : Int
  nodes : List Nd
  outs : List Int
/-- What can be told of samples: of which node, at which time. -/
abbrev Hist := Nat → Nat → Option Nat
/-- The same with nothing ahead of sample 0. -/
def pv (V : Hist) (i : Nat) (t : Int) : Option Nat := if t < 0 then some 0 else V i t.toNat
theorem pv_neg (V : Hist) (i : Nat) {t : Int} (h : t < 0) : pv V i t = some 0 := if_pos h
theorem pv_nat (V : Hist) (i t : Nat) : pv V i t = V i t := by
  unfold pv; rw [if_neg (by omega)]; rfl
theorem pv_pos (V : Hist) (i : Nat) {t : Int} (h : 0 ≤ t) : pv V i t = V i t.toNat := if_neg (by omega)
/-- What is added up. -/
def mixs (V : Hist) (t : Nat) : List Int → Option Nat
  | [] => some 0
  | a :: l => l.foldl (fun s k => oa s (V k.toNat t)) (V a.toNat t)
def f0 (d : Nd) : Nat := (d.frm.getD 0 0).toNat
def f1 (d : Nd) : Nat := (d.frm.getD 1 0).toNat
/-- A filter's state ahead of sample t. -/
def fst' (V : Hist) (f i t : Nat) : Fi.St := ⟨pv V f ((t : Int) - 1), pv V f ((t : Int) - 2), pv V i ((t : Int) - 1), pv V i ((t : Int) - 2)⟩
/-- What node d, which is node i, makes at sample t of what all make. -/
def sampD (d : Nd) (I V : Hist) (i t : Nat) : Option Nat :=
  if d.kind = 1 then I d.n.toNat t
  else if d.kind = 2 then ab d.x
  else if d.kind = 3 then om (ab d.x) (V (f0 d) t)
  else if d.kind = 4 then mixs V t d.frm
  else if d.kind = 5 then om (V (f0 d) t) (V (f1 d) t)
  else if d.kind = 6 then pv V (f0 d) ((t : Int) - d.n)
  else if d.kind = 7 then Fi.nx d.c (fst' V (f0 d) i t) (V (f0 d) t)
  else if d.kind = 8 then some (Vo.S d.p none t)
  else none
/-- What a node hears at once. -/
def now (d : Nd) : List Int := if d.kind = 6 then [] else d.frm
def nd0 : Nd := ⟨0, [], 0, 0, ⟨0, 0, 0, 0, 0⟩, ⟨0, 0, 0, 0, 0, 0, 0⟩⟩
def nd (g : Gr) (i : Nat) : Nd := g.nodes.getD i nd0
/-- It is heard as it must be: as many as the kind hears. -/
def many (d : Nd) : Prop := ((d.kind = 3 ∨ d.kind = 6 ∨ d.kind = 7) → d.frm.length = 1) ∧ (d.kind = 5 → d.frm.length = 2) ∧ (d.kind = 6 → 1 ≤ d.n)
theorem mem_f0 {d : Nd} (h : 0 < d.frm.length) : d.frm.getD 0 0 ∈ d.frm := by
  rw [List.getD_eq_getElem?_getD, List.getElem?_eq_getElem h]; exact List.getElem_mem h
theorem mem_f1 {d : Nd} (h : 1 < d.frm.length) : d.frm.getD 1 0 ∈ d.frm := by
  rw [List.getD_eq_getElem?_getD, List.getElem?_eq_getElem h]; exact List.getElem_mem h
theorem foldl_congr {α β : Type} (f g : α → β → α) (l : List β) (a : α) (h : ∀ x ∈ l, ∀ s, f s x = g s x) : l.foldl f a = l.foldl g a := by
  induction l generalizing a with
  | nil => rfl
  | cons x l ih =>
    show l.foldl f (f a x) = l.foldl g (g a x)
    rw [h x (List.mem_cons_self ..) a]
    exact ih _ (fun y hy s => h y (List.mem_cons_of_mem _ hy) s)
theorem mixs_congr {V U : Hist} {t : Nat} {l : List Int} (h : ∀ k ∈ l, V k.toNat t = U k.toNat t) : mixs V t l = mixs U t l := by
  cases l with
  | nil => rfl
  | cons a l =>
    show l.foldl _ _ = l.foldl _ _
    rw [h a (List.mem_cons_self ..)]
    exact foldl_congr _ _ _ _ (fun k hk s => by rw [h k (List.mem_cons_of_mem _ hk)])
theorem pv_congr {V U : Hist} {i : Nat} {t : Int} {m : Nat} (hm : t < m) (h : ∀ s, s < m → V i s = U i s) : pv V i t = pv U i t := by
  by_cases c : t < 0
  · rw [pv_neg _ _ c, pv_neg _ _ c]
  · rw [pv_pos _ _ (by omega), pv_pos _ _ (by omega)]; exact h _ (by omega)
/-- It hangs on what is heard at once, and on what was ahead. -/
theorem samp_congr {d : Nd} {I J V U : Hist} {i t : Nat} (hd : many d) (hI : ∀ k, I k t = J k t) (hp : ∀ k s, s < t → V k s = U k s) (hn : ∀ k ∈ now d, V k.toNat t = U k.toNat t) : sampD d I V i t = sampD d J U i t := by
  unfold sampD
  by_cases c1 : d.kind = 1
  · rw [if_pos c1, if_pos c1]; exact hI _
  rw [if_neg c1, if_neg c1]
  by_cases c2 : d.kind = 2
  · rw [if_pos c2, if_pos c2]
  rw [if_neg c2, if_neg c2]
  by_cases c3 : d.kind = 3
  · rw [if_pos c3, if_pos c3]
    have hf : now d = d.frm := if_neg (by omega)
    have := hn _ (by rw [hf]; exact mem_f0 (by rw [hd.1 (.inl c3)]; omega))
    unfold f0; rw [this]
  rw [if_neg c3, if_neg c3]
  by_cases c4 : d.kind = 4
  · rw [if_pos c4, if_pos c4]
    have hf : now d = d.frm := if_neg (by omega)
    exact mixs_congr (by rw [hf] at hn; exact hn)
  rw [if_neg c4, if_neg c4]
  by_cases c5 : d.kind = 5
  · rw [if_pos c5, if_pos c5]
    have hf : now d = d.frm := if_neg (by omega)
    have a0 := hn _ (by rw [hf]; exact mem_f0 (by rw [hd.2.1 c5]; omega))
    have a1 := hn _ (by rw [hf]; exact mem_f1 (by rw [hd.2.1 c5]; omega))
    unfold f0 f1; rw [a0, a1]
  rw [if_neg c5, if_neg c5]
  by_cases c6 : d.kind = 6
  · rw [if_pos c6, if_pos c6]
    have := hd.2.2 c6
    exact pv_congr (m := t) (by omega) (fun s hs => hp _ s hs)
  rw [if_neg c6, if_neg c6]
  by_cases c7 : d.kind = 7
  · rw [if_pos c7, if_pos c7]
    have hf : now d = d.frm := if_neg (by omega)
    have a0 := hn _ (by rw [hf]; exact mem_f0 (by rw [hd.1 (.inr (.inr c7))]; omega))
    unfold fst'
    rw [pv_congr (V := V) (U := U) (i := f0 d) (t := (t : Int) - 1) (m := t) (by omega) (fun s hs => hp _ s hs), pv_congr (V := V) (U := U) (i := f0 d) (t := (t : Int) - 2) (m := t) (by omega) (fun s hs => hp _ s hs), pv_congr (V := V) (U := U) (i := i) (t := (t : Int) - 1) (m := t) (by omega) (fun s hs => hp _ s hs), pv_congr (V := V) (U := U) (i := i) (t := (t : Int) - 2) (m := t) (by omega) (fun s hs => hp _ s hs)]
    unfold f0; rw [a0]
  rw [if_neg c7, if_neg c7]
/-- As far as so many steps tell. -/
def W (g : Gr) (I : Hist) : Nat → Hist
  | 0 => fun _ _ => none
  | m + 1 => fun i t => sampD (nd g i) I (W g I m) i t
/-- What node i makes at sample t. -/
def vl (g : Gr) (I : Hist) : Hist := fun i t => W g I ((t + 1) * (g.nodes.length + 1)) i t
/-- An order in which each stands behind those that it hears at once. -/
structure Rk (g : Gr) (r : Nat → Nat) : Prop where
  le : ∀ i, r i ≤ g.nodes.length
  lt : ∀ i, i < g.nodes.length → ∀ k ∈ now (nd g i), r k.toNat < r i
  nd : ∀ i, i < g.nodes.length → many (nd g i) ∧ ∀ k ∈ (nd g i).frm, 0 ≤ k ∧ k < g.nodes.length
theorem many_nd0 : many nd0 := ⟨fun h => (by rcases h with h | h | h <;> cases h), fun h => (by cases h), fun h => (by cases h)⟩
theorem nd_out {g : Gr} {i : Nat} (h : ¬ i < g.nodes.length) : nd g i = nd0 := by
  unfold nd; rw [List.getD_eq_getElem?_getD, List.getElem?_eq_none (by omega)]; rfl
theorem Rk.many' {g : Gr} {r : Nat → Nat} (h : Rk g r) (i : Nat) : many (Gh.nd g i) := by
  by_cases c : i < g.nodes.length
  · exact (h.nd i c).1
  · rw [nd_out c]; exact many_nd0
theorem Rk.lt' {g : Gr} {r : Nat → Nat} (h : Rk g r) (i : Nat) : ∀ k ∈ now (Gh.nd g i), r k.toNat < r i := by
  by_cases c : i < g.nodes.length
  · exact h.lt i c
  · intro k hk; rw [nd_out c] at hk; cases hk
theorem W_stable {g : Gr} {r : Nat → Nat} (hr : Rk g r) (I : Hist) : ∀ d i t m m', t * (g.nodes.length + 1) + r i = d → d < m → d < m' → W g I m i t = W g I m' i t := by
  intro d
  induction d using Nat.strongRecOn with
  | ind d ih =>
    intro i t m m' he h1 h2
    obtain ⟨m, rfl⟩ : ∃ k, m = k + 1 := ⟨m - 1, by omega⟩
    obtain ⟨m', rfl⟩ : ∃ k, m' = k + 1 := ⟨m' - 1, by omega⟩
    show sampD _ _ _ _ _ = sampD _ _ _ _ _
    refine samp_congr (hr.many' i) (fun _ => rfl) (fun k s hs => ?_) (fun k hk => ?_)
    · have hle := hr.le k
      have e : (s + 1) * (g.nodes.length + 1) ≤ t * (g.nodes.length + 1) := Nat.mul_le_mul_right _ hs
      rw [Nat.add_mul, Nat.one_mul] at e
      exact ih (s * (g.nodes.length + 1) + r k) (by omega) k s m m' rfl (by omega) (by omega)
    · have := hr.lt' i k hk
      exact ih (t * (g.nodes.length + 1) + r k.toNat) (by omega) k.toNat t m m' rfl (by omega) (by omega)
/-- What is made is what is asked. -/
theorem vl_eq {g : Gr} {r : Nat → Nat} (hr : Rk g r) (I : Hist) (i t : Nat) (hi : i < g.nodes.length) : vl g I i t = sampD (nd g i) I (vl g I) i t := by
  have e : (t + 1) * (g.nodes.length + 1) = t * (g.nodes.length + 1) + (g.nodes.length + 1) := by rw [Nat.add_mul, Nat.one_mul]
  have e1 : vl g I i t = sampD (nd g i) I (W g I (t * (g.nodes.length + 1) + g.nodes.length)) i t := by
    unfold vl; rw [e]; rfl
  rw [e1]
  refine samp_congr (hr.many' i) (fun _ => rfl) (fun k s hs => ?_) (fun k hk => ?_)
  · have hle := hr.le k
    have e2 : (s + 1) * (g.nodes.length + 1) ≤ t * (g.nodes.length + 1) := Nat.mul_le_mul_right _ hs
    have e3 : (s + 1) * (g.nodes.length + 1) = s * (g.nodes.length + 1) + (g.nodes.length + 1) := by rw [Nat.add_mul, Nat.one_mul]
    exact W_stable hr I _ k s _ _ rfl (by omega) (by omega)
  · have h1 := hr.lt' i k hk
    have h2 := hr.le i
    exact W_stable hr I _ k.toNat t _ _ rfl (by omega) (by omega)
/-- What is made hangs on what came in so far alone. -/
theorem W_causal {g : Gr} (hg : ∀ i, many (nd g i)) {I J : Hist} {n : Nat} (h : ∀ k t, t < n → I k t = J k t) : ∀ m i t, t < n → W g I m i t = W g J m i t := by
  intro m
  induction m with
  | zero => intros; rfl
  | succ m ih =>
    intro i t ht
    exact samp_congr (hg i) (fun k => h k t ht) (fun k s hs => ih k s (by omega)) (fun k _ => ih _ t ht)
theorem vl_causal {g : Gr} (hg : ∀ i, many (nd g i)) {I J : Hist} {n : Nat} (h : ∀ k t, t < n → I k t = J k t) (i t : Nat) (ht : t < n) : vl g I i t = vl g J i t := W_causal hg h _ i t ht
end Go.Proofs.Ytjpcebnbkdekkaa.Gh

/- The state of a filter from rest, by what came in and out one and two ahead. -/
namespace Go.Proofs.Ytjpcebnbkdekkaa.Fi
open Fl
set_option linter.unusedSimpArgs false
set_option linter.unusedVariables false

/-- Number k - j of a list; nought ahead of it. -/
def bk (L : List (Option Nat)) (k j : Nat) : Option Nat := if j ≤ k then (L[k - j]?).getD none else some 0
theorem bk_one (L : List (Option Nat)) (k : Nat) (x : Option Nat) (h : L[k]? = some x) : bk L (k + 1) 1 = x := by
  unfold bk; rw [if_pos (by omega), show k + 1 - 1 = k by omega, h]; rfl
theorem bk_two (L : List (Option Nat)) (k : Nat) : bk L (k + 1) 2 = bk L k 1 := by
  unfold bk
  by_cases c : 1 ≤ k
  · rw [if_pos (by omega), if_pos c, show k + 1 - 2 = k - 1 by omega]
  · rw [if_neg (by omega), if_neg c]
theorem bk_app (L M : List (Option Nat)) (k : Nat) (h : k ≤ L.length) : bk (L ++ M) k 1 = bk L k 1 := by
  unfold bk
  by_cases c : 1 ≤ k
  · rw [if_pos c, if_pos c, List.getElem?_append_left (by omega)]
  · rw [if_neg c, if_neg c]
theorem st_at (c : Cf) (l : List Nat) (k : Nat) (hk : k ≤ l.length) : sts c rest0 (abs (l.take k)) = ⟨bk (abs l) k 1, bk (abs l) k 2, bk (outs c rest0 (abs (l.take k))) k 1, bk (outs c rest0 (abs (l.take k))) k 2⟩ := by
  induction k with
  | zero => rfl
  | succ k ih =>
    have hx : l[k]? = some (l[k]'(by omega)) := List.getElem?_eq_getElem (by omega)
    generalize l[k]'(by omega) = x at hx
    have ih' := ih (by omega)
    have hl : (outs c rest0 (abs (l.take k))).length = k := by rw [outs_len, abs_len]; simp; omega
    rw [sts_step c rest0 hx, outs_step c rest0 hx]
    unfold adv
    generalize hy : nx c (sts c rest0 (abs (l.take k))) (ab x) = y
    rw [bk_one (abs l) k (ab x) (by unfold abs; rw [List.getElem?_map, hx]; rfl), bk_two, bk_two, bk_one _ k y (by rw [List.getElem?_append_right (by omega), hl]; simp), bk_app _ _ _ (by omega), ih']
end Go.Proofs.Ytjpcebnbkdekkaa.Fi

/- What comes later comes out later; turned round it comes out turned round: in plain words. -/
namespace Go.Proofs.Ytjpcebnbkdekkaa.Fi
open Fl
set_option linter.unusedSimpArgs false
set_option linter.unusedVariables false

/-- The same states but for signs of noughts. -/
structure Rz (s s' : St) : Prop where
  x1 : oz s.x1 = oz s'.x1
  x2 : oz s.x2 = oz s'.x2
  y1 : oz s.y1 = oz s'.y1
  y2 : oz s.y2 = oz s'.y2
theorem om_c {a b c d : Option Nat} (h1 : oz a = oz c) (h2 : oz b = oz d) : oz (om a b) = oz (om c d) := by rw [om_z, h1, h2, ← om_z]
theorem oa_c {a b c d : Option Nat} (h1 : oz a = oz c) (h2 : oz b = oz d) : oz (oa a b) = oz (oa c d) := by rw [oa_z, h1, h2, ← oa_z]
theorem os_c {a b c d : Option Nat} (h1 : oz a = oz c) (h2 : oz b = oz d) : oz (os a b) = oz (os c d) := by rw [os_z, h1, h2, ← os_z]
theorem nx_z (c : Cf) {s s' : St} (h : Rz s s') {x x' : Option Nat} (hx : oz x = oz x') : oz (nx c s x) = oz (nx c s' x') :=
  os_c (os_c (oa_c (oa_c (om_c rfl hx) (om_c rfl h.x1)) (om_c rfl h.x2)) (om_c rfl h.y1)) (om_c rfl h.y2)
theorem adv_z (c : Cf) {s s' : St} (h : Rz s s') {x x' : Option Nat} (hx : oz x = oz x') : Rz (adv c s x) (adv c s' x') := ⟨hx, h.x1, nx_z c h hx, h.y1⟩
theorem outs_z (c : Cf) (l : List (Option Nat)) {s s' : St} (h : Rz s s') : (outs c s l).map oz = (outs c s' l).map oz := by
  induction l generalizing s s' with
  | nil => rfl
  | cons x l ih => show oz (nx c s x) :: _ = oz (nx c s' x) :: _; rw [nx_z c h rfl, ih (adv_z c h rfl)]
theorem fi_nn {x : Nat} (h : Fi x) : ab x = some x := by
  unfold ab
  cases hc : nn x with
  | false => rfl
  | true => have := nn_of x hc; have := h.2; omega
theorem mul_nought {x : Nat} (h : Fi x) : oz (om (ab x) (some 0)) = some 0 := by
  rw [fi_nn h]
  show oz (Ieee.double.mul x 0) = _
  rw [mul_zero x 0 h ⟨by decide, by decide⟩ rfl]
  show some (z1 (wd _ 0)) = _
  rw [z1_wd0]
theorem oz_some {a : Option Nat} (h : oz a = some 0) : oz a = oz (some 0) := h
/-- Coefficients that are numbers. -/
structure FiC (c : Cf) : Prop where
  b0 : Fi c.b0
  b1 : Fi c.b1
  b2 : Fi c.b2
  a1 : Fi c.a1
  a2 : Fi c.a2
theorem mul_n {x : Nat} {a : Option Nat} (h : Fi x) (ha : oz a = some 0) : oz (om (ab x) a) = oz (some 0) := by
  rw [om_c (c := ab x) (d := some 0) rfl ha]; exact mul_nought h
theorem add_n {a b : Option Nat} (ha : oz a = oz (some 0)) (hb : oz b = oz (some 0)) : oz (oa a b) = oz (some 0) := by
  rw [oa_c ha hb]; decide
theorem sub_n {a b : Option Nat} (ha : oz a = oz (some 0)) (hb : oz b = oz (some 0)) : oz (os a b) = oz (some 0) := by
  rw [os_c ha hb]; decide
theorem nx_n (c : Cf) (hc : FiC c) {s : St} (h : Rz s rest0) : oz (nx c s (some 0)) = some 0 :=
  sub_n (sub_n (add_n (add_n (mul_n hc.b0 rfl) (mul_n hc.b1 h.x1)) (mul_n hc.b2 h.x2)) (mul_n hc.a1 h.y1)) (mul_n hc.a2 h.y2)
theorem adv_n (c : Cf) (hc : FiC c) {s : St} (h : Rz s rest0) : Rz (adv c s (some 0)) rest0 := ⟨rfl, h.x1, nx_n c hc h, h.y1⟩
/-- Behind silence it is at rest; of silence comes silence. -/
theorem silence (c : Cf) (hc : FiC c) (n : Nat) {s : St} (h : Rz s rest0) : Rz (sts c s (List.replicate n (some 0))) rest0 ∧ ∀ x ∈ outs c s (List.replicate n (some 0)), oz x = some 0 := by
  induction n generalizing s with
  | zero => exact ⟨h, fun x hx => absurd hx (by simp [outs])⟩
  | succ n ih =>
    rw [List.replicate_succ]
    obtain ⟨h1, h2⟩ := ih (adv_n c hc h)
    refine ⟨h1, fun x hx => ?_⟩
    rcases List.mem_cons.1 hx with e | e
    · rw [e]; exact nx_n c hc h
    · exact h2 x e
theorem zero_eq {x : Nat} (h : oz (ab x) = some 0) : (Ieee.double.order x 0 != some .eq) = false := by
  unfold ab at h
  cases hn : nn x
  · rw [hn] at h
    simp [oz] at h
    have : x = 0 ∨ x = 9223372036854775808 := by
      unfold z1 at h
      by_cases c : x = 9223372036854775808
      · exact Or.inr c
      · rw [if_neg c] at h; exact Or.inl h
    rcases this with rfl | rfl <;> decide
  · rw [hn] at h; simp [oz] at h
/-- Words that fit. -/
def Wf (a : Option Nat) : Prop := ∀ x, a = some x → x < 18446744073709551616
theorem om_w (a b : Option Nat) : Wf (om a b) := fun r h => by
  cases a with
  | none => cases h
  | some x => cases b with
    | none => cases h
    | some y => exact (mul_some h).2
theorem oa_w (a b : Option Nat) : Wf (oa a b) := fun r h => by
  cases a with
  | none => cases h
  | some x => cases b with
    | none => cases h
    | some y => exact (add_some h).2
theorem os_w (a b : Option Nat) : Wf (os a b) := fun r h => by
  cases a with
  | none => cases h
  | some x => cases b with
    | none => cases h
    | some y => exact (sub_some h).2
theorem om_g (a b : Option Nat) (hb : Wf b) : om a (og b) = og (om a b) := by
  cases a with
  | none => rfl
  | some x => cases b with
    | none => rfl
    | some y => exact mul_ng x y (hb y rfl)
theorem oa_g (a b : Option Nat) (ha : Wf a) (hb : Wf b) : oz (oa (og a) (og b)) = oz (og (oa a b)) := by
  cases a with
  | none => rfl
  | some x => cases b with
    | none => rfl
    | some y => exact add_ng x y (ha x rfl) (hb y rfl)
theorem os_g (a b : Option Nat) (ha : Wf a) (hb : Wf b) : oz (os (og a) (og b)) = oz (og (os a b)) := by
  cases a with
  | none => rfl
  | some x => cases b with
    | none => rfl
    | some y => exact sub_ng x y (ha x rfl) (hb y rfl)
theorem z1_ng {x y : Nat} (h : z1 x = z1 y) : z1 (ng' x) = z1 (ng' y) := by
  unfold z1 at h
  by_cases c : x = 9223372036854775808 <;> by_cases d : y = 9223372036854775808
  · rw [c, d]
  · rw [if_pos c, if_neg d] at h; rw [c, ← h]; decide
  · rw [if_neg c, if_pos d] at h; rw [d, h]; decide
  · rw [if_neg c, if_neg d] at h; rw [h]
theorem og_c {a b : Option Nat} (h : oz a = oz b) : oz (og a) = oz (og b) := by
  cases a with
  | none => cases b with
    | none => rfl
    | some y => simp [oz] at h
  | some x => cases b with
    | none => simp [oz] at h
    | some y =>
      simp [oz] at h
      show some (z1 (ng' x)) = some (z1 (ng' y))
      rw [z1_ng h]
/-- One state is the other one turned round. -/
structure Rg (s s' : St) : Prop where
  x1 : oz s'.x1 = oz (og s.x1)
  x2 : oz s'.x2 = oz (og s.x2)
  y1 : oz s'.y1 = oz (og s.y1)
  y2 : oz s'.y2 = oz (og s.y2)
  w1 : Wf s.x1
  w2 : Wf s.x2
  w3 : Wf s.y1
  w4 : Wf s.y2
theorem om_r (a : Option Nat) {b b' : Option Nat} (h : oz b' = oz (og b)) (hb : Wf b) : oz (om a b') = oz (og (om a b)) := by
  rw [om_c (c := a) rfl h, om_g a b hb]
theorem oa_r {a b a' b' : Option Nat} (h1 : oz a' = oz (og a)) (h2 : oz b' = oz (og b)) (ha : Wf a) (hb : Wf b) : oz (oa a' b') = oz (og (oa a b)) := by rw [oa_c h1 h2, oa_g a b ha hb]
theorem os_r {a b a' b' : Option Nat} (h1 : oz a' = oz (og a)) (h2 : oz b' = oz (og b)) (ha : Wf a) (hb : Wf b) : oz (os a' b') = oz (og (os a b)) := by rw [os_c h1 h2, os_g a b ha hb]
theorem nx_r (c : Cf) {s s' : St} (h : Rg s s') {x x' : Option Nat} (hx : oz x' = oz (og x)) (hw : Wf x) : oz (nx c s' x') = oz (og (nx c s x)) :=
  os_r (os_r (oa_r (oa_r (om_r _ hx hw) (om_r _ h.x1 h.w1) (om_w _ _) (om_w _ _)) (om_r _ h.x2 h.w2) (oa_w _ _) (om_w _ _)) (om_r _ h.y1 h.w3) (oa_w _ _) (om_w _ _)) (om_r _ h.y2 h.w4) (os_w _ _) (om_w _ _)
theorem adv_r (c : Cf) {s s' : St} (h : Rg s s') {x x' : Option Nat} (hx : oz x' = oz (og x)) (hw : Wf x) : Rg (adv c s x) (adv c s' x') := ⟨hx, h.x1, nx_r c h hx hw, h.y1, hw, h.w1, os_w _ _, h.w3⟩
theorem outs_r (c : Cf) (l : List (Option Nat)) (hl : ∀ x ∈ l, Wf x) {s s' : St} (h : Rg s s') : (outs c s' (l.map og)).map oz = (outs c s l).map fun x => oz (og x) := by
  induction l generalizing s s' with
  | nil => rfl
  | cons x l ih =>
    have hw := hl x (by simp)
    show oz (nx c s' (og x)) :: _ = oz (og (nx c s x)) :: _
    rw [nx_r c h rfl hw, ih (fun y hy => hl y (by simp [hy])) (adv_r c h rfl hw)]
theorem rest_r : Rg rest0 rest0 := ⟨by decide, by decide, by decide, by decide, fun x h => by cases h; decide, fun x h => by cases h; decide, fun x h => by cases h; decide, fun x h => by cases h; decide⟩
theorem abs_ng (l : List Nat) (hl : ∀ x ∈ l, x < 18446744073709551616) : abs (l.map ng') = (abs l).map og := by
  unfold abs
  rw [List.map_map, List.map_map]
  exact List.map_congr_left fun x hx => ab_ng x (hl x hx)
theorem abs_w {l : List Nat} (hl : ∀ x ∈ l, x < 18446744073709551616) : ∀ x ∈ abs l, Wf x := fun x hx y hy => by
  unfold abs at hx
  obtain ⟨z, hz, e⟩ := List.mem_map.1 hx
  rw [← e] at hy
  unfold ab at hy
  cases hn : nn z
  · rw [hn] at hy; cases hy; exact hl _ hz
  · rw [hn] at hy; cases hy
end Go.Proofs.Ytjpcebnbkdekkaa.Fi

/- What the document's Held and Level come to. -/
namespace Go.Proofs.Ytjpcebnbkdekkaa.Vo
open Go.RowKit Go.Maps Go.Sort
set_option linter.unusedSimpArgs false
set_option linter.unusedVariables false

theorem ret_int {k : IntKind} {a b : Int} (h : a = b) : Ending.returned (.int k a) = .returned (.int k b) := by rw [h]
theorem keepC {B : Nat} {W w1 : World} (hb : Below B W w1) {b o : Nat} {v : Value} (hlt : b < B) (h : W.cell? ⟨b, o, none⟩ = some v) : w1.cell? ⟨b, o, none⟩ = some v :=
  (hb.cell (p := ⟨b, o, none⟩) hlt).trans h
theorem keepF {B : Nat} {W w1 : World} (hb : Below B W w1) {b o : Nat} {v : Bool} (hlt : b < B) (h : W.frozen? ⟨b, o, none⟩ = v) : w1.frozen? ⟨b, o, none⟩ = v :=
  (hb.frozen (p := ⟨b, o, none⟩) hlt).trans h
/-- A patch as a value. -/
abbrev pv (p : Pt) : Value := .agg #[.int .i64 p.shape, .int .u32 p.step, .float .f64 p.gain, .int .i64 p.atk, .int .i64 p.dec, .int .i64 p.rel, .int .i64 p.sus]

set_option maxHeartbeats 1000000 in
theorem refHeld_any (p : Pt) (h : Ok p) (T : Int) (h0 : 0 ≤ T) (h1 : T ≤ 4611686018427387904) (w : World) :
    Calls Try.prog 48 #[pv p, .int .i64 T] w fun e w' => e = .returned (.int .i64 (held p T)) ∧ Below w.heap.size w w' := by
  obtain ⟨_, _, _, a0, a1, d0, d1, _, _, u0, u1⟩ := h
  obtain ⟨shape, step, gain, atk, dec, rel, sus⟩ := p
  simp only at *
  by_cases c : T < atk
  · have hz : atk ≠ 0 := by omega
    have he : held ⟨shape, step, gain, atk, dec, rel, sus⟩ T = 1048576 * T / atk := by unfold held; exact if_pos c
    have he2 : (1048576 * T).tdiv atk = 1048576 * T / atk := Int.tdiv_eq_ediv_of_nonneg (by omega)
    have p3 : 0 ≤ 1048576 * T / atk := Int.ediv_nonneg (by omega) (by omega)
    have p4 : 1048576 * T / atk ≤ 1048576 * 16777216 := Int.le_trans (Int.ediv_le_self _ (by omega)) (by omega)
    rw [he]
    go_enter Try.func48, Try.ntmps48
    go_wp2
    go_ret
    exact ⟨rfl, by go_grown⟩
  · by_cases d : T < atk + dec
    · have hz : dec ≠ 0 := by omega
      have he : held ⟨shape, step, gain, atk, dec, rel, sus⟩ T = 1048576 - (1048576 - sus) * (T - atk) / dec := by unfold held; simp only; rw [if_neg c, if_pos d]
      have p1 : 0 ≤ (1048576 - sus) * (T - atk) := Int.mul_nonneg (by omega) (by omega)
      have p2 : (1048576 - sus) * (T - atk) ≤ 1048576 * 16777216 := Int.mul_le_mul (by omega) (by omega) (by omega) (by omega)
      have he2 : ((1048576 - sus) * (T - atk)).tdiv dec = (1048576 - sus) * (T - atk) / dec := Int.tdiv_eq_ediv_of_nonneg p1
      have p3 : 0 ≤ (1048576 - sus) * (T - atk) / dec := Int.ediv_nonneg p1 (by omega)
      have p4 : (1048576 - sus) * (T - atk) / dec ≤ 1048576 * 16777216 := Int.le_trans (Int.ediv_le_self _ p1) p2
      rw [he]
      go_enter Try.func48, Try.ntmps48
      go_wp2
      go_ret
      exact ⟨rfl, by go_grown⟩
    · have he : held ⟨shape, step, gain, atk, dec, rel, sus⟩ T = sus := by unfold held; simp only; rw [if_neg c, if_neg d]
      rw [he]
      go_enter Try.func48, Try.ntmps48
      go_wp2
      go_ret
      exact ⟨rfl, by go_grown⟩
theorem lev_none (p : Pt) (T : Nat) : lev p T none = held p T := rfl
theorem lev_some (p : Pt) (T k : Nat) : lev p T (some k) = fade p (held p k) ((T : Int) - k) := rfl
/-- Where it was let go, as the document's text has it: below 0 where it wasn't. -/
def ofs (o : Option Nat) : Int := match o with
  | none => -1
  | some k => k
set_option maxHeartbeats 2000000 in
theorem refLevel_any (p : Pt) (h : Ok p) (T : Nat) (o : Option Nat) (ho : Off T o) (h1 : T ≤ 4611686018427387904) (w : World) :
    Calls Try.prog 42 #[pv p, .int .i64 T, .int .i64 (ofs o)] w fun e w' => e = .returned (.int .i64 (lev p T o)) ∧ Below w.heap.size w w' := by
  cases o with
  | none =>
    rw [lev_none, show ofs none = -1 from rfl]
    have hh := fun w => refHeld_any p h T (by omega) (by omega) w
    generalize held p T = HV at *
    obtain ⟨shape, step, gain, atk, dec, rel, sus⟩ := p
    go_enter Try.func42, Try.ntmps42
    go_wp2_with fail
    refine (hh _).mono ?_
    rintro e w1 ⟨rfl, hb1⟩
    have hb : Below w.heap.size w w1 := Below.trans (by go_grown) (hb1.mono (by simp))
    go_wp2_with fail
    go_ret
    exact ⟨rfl, hb⟩
  | some k =>
    have hk := ho k rfl
    rw [lev_some, show ofs (some k) = (k : Int) from rfl]
    have hh := fun w => refHeld_any p h k (by omega) (by omega) w
    have hb := held_bd p h k (by omega)
    have r0 := h.r0
    have r1 := h.r1
    by_cases c : p.rel ≤ (T : Int) - k
    · rw [show fade p (held p k) ((T : Int) - k) = 0 from if_pos c]
      obtain ⟨shape, step, gain, atk, dec, rel, sus⟩ := p
      simp only at *
      go_enter Try.func42, Try.ntmps42
      go_wp2
      go_ret
      exact ⟨rfl, by go_grown⟩
    · have he : fade p (held p k) ((T : Int) - k) = held p k * (p.rel - ((T : Int) - k)) / p.rel := if_neg c
      rw [he]
      clear he
      generalize held p k = HV at *
      obtain ⟨shape, step, gain, atk, dec, rel, sus⟩ := p
      simp only at *
      clear h
      obtain ⟨b1, b2⟩ := hb
      have p1 : 0 ≤ HV * (rel - ((T : Int) - k)) := Int.mul_nonneg b1 (by omega)
      have p2 : HV * (rel - ((T : Int) - k)) ≤ 1048576 * 16777216 := Int.mul_le_mul b2 (by omega) (by omega) (by omega)
      have he2 : (HV * (rel - ((T : Int) - k))).tdiv rel = HV * (rel - ((T : Int) - k)) / rel := Int.tdiv_eq_ediv_of_nonneg p1
      have p3 : 0 ≤ HV * (rel - ((T : Int) - k)) / rel := Int.ediv_nonneg p1 (by omega)
      have p4 : HV * (rel - ((T : Int) - k)) / rel ≤ 1048576 * 16777216 := Int.le_trans (Int.ediv_le_self _ p1) p2
      have hz : rel ≠ 0 := by omega
      go_enter Try.func42, Try.ntmps42
      go_wp2_with fail
      have hb0 : Below w.heap.size w (w.alloc (Obj.cells #[.int .i64 shape, .int .u32 step, .float .f64 gain, .int .i64 atk, .int .i64 dec, .int .i64 rel, .int .i64 sus] 51)) := (Below.refl _ _).alloc (Nat.le_refl _) _
      generalize hW : w.alloc (Obj.cells #[.int .i64 shape, .int .u32 step, .float .f64 gain, .int .i64 atk, .int .i64 dec, .int .i64 rel, .int .i64 sus] 51) = W at *
      have g0 := cell_regrown (show W.cell? ⟨w.heap.size, 0, none⟩ = some (.int .i64 shape) by rw [← hW]; simp [go_sem])
      have g1 := cell_regrown (show W.cell? ⟨w.heap.size, 1, none⟩ = some (.int .u32 step) by rw [← hW]; simp [go_sem])
      have g2 := cell_regrown (show W.cell? ⟨w.heap.size, 2, none⟩ = some (.float .f64 gain) by rw [← hW]; simp [go_sem])
      have g3 := cell_regrown (show W.cell? ⟨w.heap.size, 3, none⟩ = some (.int .i64 atk) by rw [← hW]; simp [go_sem])
      have g4 := cell_regrown (show W.cell? ⟨w.heap.size, 4, none⟩ = some (.int .i64 dec) by rw [← hW]; simp [go_sem])
      have g5 := cell_regrown (show W.cell? ⟨w.heap.size, 5, none⟩ = some (.int .i64 rel) by rw [← hW]; simp [go_sem])
      have g6 := cell_regrown (show W.cell? ⟨w.heap.size, 6, none⟩ = some (.int .i64 sus) by rw [← hW]; simp [go_sem])
      have cS : ∀ d os, Calls Try.prog 48 #[pv ⟨shape, step, gain, atk, dec, rel, sus⟩, .int .i64 k] (grow (redrawn W d) os) fun e w'' => e = .returned (.int .i64 HV) ∧ ∃ p : Regrown, w'' = grow (redrawn W p.d) p.os := fun d os => Calls.regrown_of (hh _)
      clear hh hW
      refine wp_region_quiet_below (by kernel_rfl) (by kernel_rfl) ?_
      repeat (go_big_quiet_step (exact cS _ _))
      refine wpQuiet_nil ?_
      rintro w4 ⟨⟨dq, osq⟩, hw4⟩
      have hb4 : Below W.heap.size W w4 := by rw [hw4]; exact below_regrown W dq osq
      clear hw4 cS
      go_wp2_with fail
      go_ret
      exact ⟨rfl, hb0.trans (hb4.mono hb0.size)⟩
end Go.Proofs.Ytjpcebnbkdekkaa.Vo

/- A voice in memory; what upTo, inRange, fading, level and sample come to. -/
namespace Go.Proofs.Ytjpcebnbkdekkaa.Vo
open Go.RowKit Go.Maps Go.Sort
set_option linter.unusedSimpArgs false
set_option linter.unusedVariables false

@[go_sem] theorem run_store_float (a : Addr) (k : FloatKind) (x : Nat) (m : Mode) (w : World) : (store a (.float k x) m).run Try.prog w = stored Try.prog w a (.float k x) m := run_store Try.prog w a _ m rfl
theorem upTo_any (m n : Int) (w : World) : Calls Try.prog 71 #[.int .i64 m, .int .i64 n] w fun e w' => e = .returned (.bool (upB m n)) ∧ w' = w := by
  by_cases c : 0 ≤ n
  · by_cases d : n ≤ m
    · rw [show upB m n = true by unfold upB; simp [c, d]]
      go_enter Try.func71, Try.ntmps71
      go_wp2
      go_ret
      exact ⟨rfl, rfl⟩
    · rw [show upB m n = false by unfold upB; simp; omega]
      have d' : decide (n ≤ m) = false := decide_eq_false d
      clear d
      go_enter Try.func71, Try.ntmps71
      go_wp2
      go_ret
      exact ⟨rfl, rfl⟩
  · rw [show upB m n = false by unfold upB; simp; omega]
    have c' : n < 0 := by omega
    clear c
    go_enter Try.func71, Try.ntmps71
    go_wp2
    go_ret
    exact ⟨rfl, rfl⟩
set_option maxHeartbeats 2000000 in
theorem inRange_any (p : Pt) (w : World) : Calls Try.prog 59 #[pv p] w fun e w' => e = .returned (.bool (inB p)) ∧ Below w.heap.size w w' := by
  have q1 := fun w => upTo_any 16777216 p.atk w
  have q2 := fun w => upTo_any 16777216 p.dec w
  have q3 := fun w => upTo_any 16777216 p.rel w
  have q4 := fun w => upTo_any 1048576 p.sus w
  rw [show inB p = (gok p.gain && upB 16777216 p.atk && upB 16777216 p.dec && upB 16777216 p.rel && upB 1048576 p.sus) from rfl]
  generalize upB 16777216 p.atk = B1 at *
  generalize upB 16777216 p.dec = B2 at *
  generalize upB 16777216 p.rel = B3 at *
  generalize upB 1048576 p.sus = B4 at *
  obtain ⟨shape, step, gain, atk, dec, rel, sus⟩ := p
  simp only at *
  cases hg : Fl.geT gain 13920626448202203136
  · have g1 : (FloatKind.f64.format.order gain 13920626448202203136 == some .gt || FloatKind.f64.format.order gain 13920626448202203136 == some .eq) = false := hg
    rw [show gok gain = false by unfold gok; rw [hg]; rfl]
    clear hg
    go_enter Try.func59, Try.ntmps59
    go_wp2_with fail
    go_ret
    exact ⟨rfl, by go_grown⟩
  · have g1 : (FloatKind.f64.format.order gain 13920626448202203136 == some .gt || FloatKind.f64.format.order gain 13920626448202203136 == some .eq) = true := hg
    cases hl : Fl.leT gain 4697254411347427328
    · have g2 : (FloatKind.f64.format.order gain 4697254411347427328 == some .lt || FloatKind.f64.format.order gain 4697254411347427328 == some .eq) = false := hl
      rw [show gok gain = false by unfold gok; rw [hg, hl]; rfl]
      clear hg hl
      go_enter Try.func59, Try.ntmps59
      go_wp2_with fail
      go_ret
      exact ⟨rfl, by go_grown⟩
    · have g2 : (FloatKind.f64.format.order gain 4697254411347427328 == some .lt || FloatKind.f64.format.order gain 4697254411347427328 == some .eq) = true := hl
      rw [show gok gain = true by unfold gok; rw [hg, hl]; rfl]
      clear hg hl
      go_enter Try.func59, Try.ntmps59
      go_wp2_with fail
      refine (q1 _).mono ?_
      rintro e w1 ⟨rfl, hw⟩
      rw [hw]
      cases B1
      · go_wp2_with fail
        go_ret
        exact ⟨rfl, by go_grown⟩
      go_wp2_with fail
      refine (q2 _).mono ?_
      rintro e w1 ⟨rfl, hw⟩
      rw [hw]
      cases B2
      · go_wp2_with fail
        go_ret
        exact ⟨rfl, by go_grown⟩
      go_wp2_with fail
      refine (q3 _).mono ?_
      rintro e w1 ⟨rfl, hw⟩
      rw [hw]
      cases B3
      · go_wp2_with fail
        go_ret
        exact ⟨rfl, by go_grown⟩
      go_wp2_with fail
      refine (q4 _).mono ?_
      rintro e w1 ⟨rfl, hw⟩
      rw [hw]
      go_wp2_with fail
      go_ret
      exact ⟨rfl, by go_grown⟩

/-- How long it sounds, or is let go; its level where it was let go. -/
def tm (T : Nat) (o : Option Nat) : Int := match o with
  | none => T
  | some k => (T : Int) - k
def lst (p : Pt) (o : Option Nat) : Int := match o with
  | none => 0
  | some k => held p k
/-- A voice in memory: it made T samples, and was let go ahead of sample o, if it was. -/
structure VL (w : World) (b : Nat) (p : Pt) (T : Nat) (o : Option Nat) : Prop where
  c0 : w.cell? ⟨b, 0, none⟩ = some (.int .i64 p.shape)
  c1 : w.cell? ⟨b, 1, none⟩ = some (.int .u32 p.step)
  c2 : w.cell? ⟨b, 2, none⟩ = some (.float .f64 p.gain)
  c3 : w.cell? ⟨b, 3, none⟩ = some (.int .i64 p.atk)
  c4 : w.cell? ⟨b, 4, none⟩ = some (.int .i64 p.dec)
  c5 : w.cell? ⟨b, 5, none⟩ = some (.int .i64 p.rel)
  c6 : w.cell? ⟨b, 6, none⟩ = some (.int .i64 p.sus)
  c7 : w.cell? ⟨b, 7, none⟩ = some (.int .u32 (pha p T))
  c8 : w.cell? ⟨b, 8, none⟩ = some (.bool o.isSome)
  c9 : w.cell? ⟨b, 9, none⟩ = some (.int .i64 (tm T o))
  c10 : w.cell? ⟨b, 10, none⟩ = some (.int .i64 (lst p o))
  fz : ∀ i, w.frozen? ⟨b, i, none⟩ = false
  lt : b < w.heap.size
  off : Off T o
  bd : T ≤ 4611686018427387904
theorem VL.keep {w w' : World} {b : Nat} {p : Pt} {T : Nat} {o : Option Nat} (h : VL w b p T o) (hk : w'.heap[b]? = w.heap[b]?) (hz : w.heap.size ≤ w'.heap.size) : VL w' b p T o := by
  have hc : ∀ i, w'.cell? ⟨b, i, none⟩ = w.cell? ⟨b, i, none⟩ := fun i => World.cell?_of_block (w := w) (w' := w') (a := ⟨b, i, none⟩) hk
  have hf : ∀ i, w'.frozen? ⟨b, i, none⟩ = w.frozen? ⟨b, i, none⟩ := fun i => World.frozen?_of_block (w := w) (w' := w') (a := ⟨b, i, none⟩) hk
  exact ⟨by rw [hc]; exact h.c0, by rw [hc]; exact h.c1, by rw [hc]; exact h.c2, by rw [hc]; exact h.c3, by rw [hc]; exact h.c4, by rw [hc]; exact h.c5, by rw [hc]; exact h.c6, by rw [hc]; exact h.c7, by rw [hc]; exact h.c8, by rw [hc]; exact h.c9, by rw [hc]; exact h.c10, fun i => by rw [hf]; exact h.fz i, by have := h.lt; omega, h.off, h.bd⟩
theorem VL.bel {w w' : World} {b : Nat} {p : Pt} {T : Nat} {o : Option Nat} (h : VL w b p T o) (hb : Below w.heap.size w w') : VL w' b p T o := h.keep (hb.block b h.lt) hb.size
set_option maxHeartbeats 2000000 in
theorem fading_any (p : Pt) (h : Ok p) (b T k : Nat) (w : World) (hV : VL w b p T (some k)) :
    Calls Try.prog 106 #[.pointer (some ⟨b, 0, none⟩)] w fun e w' => e = .returned (.int .i64 (lev p T (some k))) ∧ Below w.heap.size w w' := by
  have hk := hV.off k rfl
  have hbd := hV.bd
  have hb := held_bd p h k (by omega)
  have c5 : w.cell? ⟨b, 5, none⟩ = some (.int .i64 p.rel) := hV.c5
  have c9 : w.cell? ⟨b, 9, none⟩ = some (.int .i64 ((T : Int) - k)) := hV.c9
  have c10 : w.cell? ⟨b, 10, none⟩ = some (.int .i64 (held p k)) := hV.c10
  have lt := hV.lt
  have r0 := h.r0
  have r1 := h.r1
  rw [lev_some]
  have hc : (p.rel ≤ (T : Int) - k → fade p (held p k) ((T : Int) - k) = 0) ∧ (¬ p.rel ≤ (T : Int) - k → fade p (held p k) ((T : Int) - k) = held p k * (p.rel - ((T : Int) - k)) / p.rel) := ⟨fun c => if_pos c, fun c => if_neg c⟩
  generalize fade p (held p k) ((T : Int) - k) = FD at *
  generalize held p k = HV at *
  generalize p.rel = rel at *
  obtain ⟨b1, b2⟩ := hb
  have u0 : 0 ≤ (T : Int) - k := by omega
  have u1 : (T : Int) - k ≤ 4611686018427387904 := by omega
  clear hV hbd hk h
  generalize (T : Int) - k = u at *
  by_cases c : rel ≤ u
  · have he := hc.1 c
    subst he
    clear hc
    go_enter Try.func106, Try.ntmps106
    go_wp2_with fail
    go_region
    go_wp2_with fail
    go_ret
    exact ⟨rfl, by go_grown⟩
  · have he := hc.2 c
    subst he
    clear hc
    have p1 : 0 ≤ HV * (rel - u) := Int.mul_nonneg b1 (by omega)
    have p2 : HV * (rel - u) ≤ 1048576 * 16777216 := Int.mul_le_mul b2 (by omega) (by omega) (by omega)
    have he2 : (HV * (rel - u)).tdiv rel = HV * (rel - u) / rel := Int.tdiv_eq_ediv_of_nonneg p1
    have p3 : 0 ≤ HV * (rel - u) / rel := Int.ediv_nonneg p1 (by omega)
    have p4 : HV * (rel - u) / rel ≤ 1048576 * 16777216 := Int.le_trans (Int.ediv_le_self _ p1) p2
    have hz : rel ≠ 0 := by omega
    go_enter Try.func106, Try.ntmps106
    go_wp2_with fail
    go_region
    go_wp2_with fail
    go_region
    go_wp2_with fail
    go_ret
    exact ⟨rfl, by go_grown⟩
end Go.Proofs.Ytjpcebnbkdekkaa.Vo

/- What the document's Wrong and Sample come to. -/
namespace Go.Proofs.Ytjpcebnbkdekkaa.Vo
open Go.RowKit Go.Maps Go.Sort
set_option linter.unusedSimpArgs false
set_option linter.unusedVariables false

def nth (p : Pt) (j : Nat) : Int := if j = 0 then p.atk else if j = 1 then p.dec else p.rel
theorem wr_shape {p : Pt} (h : ¬ (1 ≤ p.shape ∧ p.shape ≤ 4)) : wr p = 1 := if_neg h
theorem wr_in {p : Pt} (h : 1 ≤ p.shape ∧ p.shape ≤ 4) : wr p = if inB p = true then 0 else 3 := if_pos h
theorem wr_gain {p : Pt} (h : 1 ≤ p.shape ∧ p.shape ≤ 4) (g : gok p.gain = false) : wr p = 3 := by
  rw [wr_in h, if_neg]; unfold inB; rw [g]; simp
theorem upB_no {m n : Int} (h : ¬ (0 ≤ n ∧ n ≤ m)) : upB m n = false := by
  unfold upB; simp only [Bool.and_eq_false_iff, decide_eq_false_iff_not]; omega
theorem upB_is {m n : Int} (h : 0 ≤ n ∧ n ≤ m) : upB m n = true := by unfold upB; simpa using h
theorem wr_nth {p : Pt} (h : 1 ≤ p.shape ∧ p.shape ≤ 4) (j : Nat) (g : ¬ (0 ≤ nth p j ∧ nth p j ≤ 16777216)) : wr p = 3 := by
  rw [wr_in h, if_neg]
  unfold inB
  unfold nth at g
  by_cases c : j = 0
  · rw [if_pos c] at g; rw [upB_no g]; simp
  · rw [if_neg c] at g
    by_cases d : j = 1
    · rw [if_pos d] at g; rw [upB_no (n := p.dec) g]; simp
    · rw [if_neg d] at g; rw [upB_no (n := p.rel) g]; simp
theorem wr_last {p : Pt} (h : 1 ≤ p.shape ∧ p.shape ≤ 4) (g : gok p.gain = true) (hn : ∀ j, j < 3 → 0 ≤ nth p j ∧ nth p j ≤ 16777216) : wr p = if upB 1048576 p.sus = true then 0 else 3 := by
  rw [wr_in h]
  unfold inB
  have h0 := hn 0 (by omega)
  have h1 := hn 1 (by omega)
  have h2 := hn 2 (by omega)
  rw [g, upB_is (n := p.atk) h0, upB_is (n := p.dec) h1, upB_is (n := p.rel) h2]
  simp
set_option maxHeartbeats 2000000 in
theorem refWrong_any (p : Pt) (w : World) :
    Calls Try.prog 32 #[pv p] w fun e w' => e = .returned (.int .i64 (wr p)) ∧ Below w.heap.size w w' := by
  by_cases hs : 1 ≤ p.shape ∧ p.shape ≤ 4
  · cases hg : Fl.geT p.gain 13920626448202203136
    · rw [wr_gain hs (by unfold gok; rw [hg]; rfl)]
      obtain ⟨shape, step, gain, atk, dec, rel, sus⟩ := p
      simp only at *
      have g1 : (FloatKind.f64.format.order gain 13920626448202203136 == some .gt || FloatKind.f64.format.order gain 13920626448202203136 == some .eq) = false := hg
      obtain ⟨s1, s2⟩ := hs
      clear hg
      go_enter Try.func32, Try.ntmps32
      go_wp2
      go_ret
      exact ⟨rfl, by go_grown⟩
    · cases hl : Fl.leT p.gain 4697254411347427328
      · rw [wr_gain hs (by unfold gok; rw [hg, hl]; rfl)]
        obtain ⟨shape, step, gain, atk, dec, rel, sus⟩ := p
        simp only at *
        have g1 : (FloatKind.f64.format.order gain 13920626448202203136 == some .gt || FloatKind.f64.format.order gain 13920626448202203136 == some .eq) = true := hg
        have g2 : (FloatKind.f64.format.order gain 4697254411347427328 == some .lt || FloatKind.f64.format.order gain 4697254411347427328 == some .eq) = false := hl
        obtain ⟨s1, s2⟩ := hs
        clear hg hl
        go_enter Try.func32, Try.ntmps32
        go_wp2
        go_ret
        exact ⟨rfl, by go_grown⟩
      · have HN : Hid (∀ j, ¬ (0 ≤ nth p j ∧ nth p j ≤ 16777216) → wr p = 3) := fun j => wr_nth hs j
        have HL : Hid ((∀ j, j < 3 → 0 ≤ nth p j ∧ nth p j ≤ 16777216) → wr p = if upB 1048576 p.sus = true then 0 else 3) := wr_last hs (by unfold gok; rw [hg, hl]; rfl)
        have n0 : nth p 0 = p.atk := rfl
        have n1 : nth p 1 = p.dec := rfl
        have n2 : nth p 2 = p.rel := rfl
        generalize wr p = WR at *
        generalize nth p = NN at *
        obtain ⟨shape, step, gain, atk, dec, rel, sus⟩ := p
        simp only at *
        have g1 : (FloatKind.f64.format.order gain 13920626448202203136 == some .gt || FloatKind.f64.format.order gain 13920626448202203136 == some .eq) = true := hg
        have g2 : (FloatKind.f64.format.order gain 4697254411347427328 == some .lt || FloatKind.f64.format.order gain 4697254411347427328 == some .eq) = true := hl
        obtain ⟨s1, s2⟩ := hs
        clear hg hl
        subst n0 n1 n2
        go_enter Try.func32, Try.ntmps32
        go_wp2_with fail
        go_loopw [29] (fun i ww => ∃ j : Nat, i = .int .i64 j ∧ j ≤ 3 ∧ Hid (∀ m, m < j → 0 ≤ NN m ∧ NN m ≤ 16777216) ∧ ww = (w.alloc (Obj.cells #[.int .i64 shape, .int .u32 step, .float .f64 gain, .int .i64 (NN 0), .int .i64 (NN 1), .int .i64 (NN 2), .int .i64 sus] 51)).alloc (Obj.cells #[.int .i64 (NN 0), .int .i64 (NN 1), .int .i64 (NN 2)] 3)) (fun i _ => 3 - (intOf i).toNat)
        case atStart => exact ⟨0, rfl, by omega, (fun m hm => by omega : ∀ m, m < 0 → _), rfl⟩
        case round =>
          obtain ⟨j, rfl, hj, hH, hw⟩ := hrel
          subst hw
          by_cases hlt : j < 3
          · by_cases hb : 0 ≤ NN j ∧ NN j ≤ 16777216
            · have HH2 : Hid (∀ m, m < j + 1 → 0 ≤ NN m ∧ NN m ≤ 16777216) := fun m hm => by
                by_cases e : m = j
                · rw [e]; exact hb
                · exact hH.out m (by omega)
              clear hH HN HL
              obtain ⟨b1, b2⟩ := hb
              rcases (show j = 0 ∨ j = 1 ∨ j = 2 by omega) with rfl | rfl | rfl
              all_goals
                go_wp2_with fail
                go_roundw
                case rel => first | exact ⟨1, rfl, by omega, HH2, trivial⟩ | exact ⟨2, rfl, by omega, HH2, trivial⟩ | exact ⟨3, rfl, by omega, HH2, trivial⟩
                case measure => simp [intOf]
            · have he := HN.out j hb
              clear hH HN HL
              subst he
              rcases (show NN j < 0 ∨ (¬ NN j < 0 ∧ 16777216 < NN j) by omega) with hb | ⟨hb1, hb2⟩
              all_goals
                rcases (show j = 0 ∨ j = 1 ∨ j = 2 by omega) with rfl | rfl | rfl
              all_goals
                go_wp2_with fail
                go_ret
                exact ⟨rfl, by go_grown⟩
          · obtain rfl : j = 3 := by omega
            have he := HL.out hH.out
            clear hH HN HL
            by_cases c : 0 ≤ sus ∧ sus ≤ 1048576
            · rw [upB_is c] at he
              have he' : WR = 0 := he
              subst he'
              obtain ⟨c1, c2⟩ := c
              clear he
              go_wp2_with fail
              go_ret
              exact ⟨rfl, by go_grown⟩
            · rw [upB_no c] at he
              have he' : WR = 3 := he
              subst he'
              clear he
              rcases (show sus < 0 ∨ (0 ≤ sus ∧ 1048576 < sus) by omega) with c | ⟨c1, c2⟩
              all_goals
                go_wp2_with fail
                go_ret
                exact ⟨rfl, by go_grown⟩
  · rw [wr_shape hs]
    obtain ⟨shape, step, gain, atk, dec, rel, sus⟩ := p
    simp only at *
    rcases (show shape < 1 ∨ (¬ shape < 1 ∧ 4 < shape) by omega) with c | ⟨c1, c2⟩
    all_goals
      clear hs
      go_enter Try.func32, Try.ntmps32
      go_wp2_with fail
      go_ret
      exact ⟨rfl, by go_grown⟩
set_option maxHeartbeats 2000000 in
theorem refSample_any (p : Pt) (h : Ok p) (hp : p.step < 4294967296) (T : Nat) (o : Option Nat) (ho : Off T o) (h1 : T ≤ 4611686018427387904) (w : World) :
    Calls Try.prog 34 #[pv p, .int .i64 T, .int .i64 (ofs o)] w fun e w' => e = .returned (.float .f64 (S p o T)) ∧ Below w.heap.size w w' := by
  have hl := lev_bd p h T o ho
  have hw := pha_lt p T
  obtain ⟨m1, m2, m3, _⟩ := samp_ok p h (shp p.shape (pha p T)) (shp_ok _ _ (by omega) (by omega)) (lev p T o) hl.1 hl.2
  have q1 := fun w => refShape_any p.shape (pha p T) w hw
  have q2 := fun w => refLevel_any p h T o ho h1 w
  rw [show S p o T = sm2 p (shp p.shape (pha p T)) (lev p T o) from rfl]
  have e1 : (T : Int) % 4294967296 * (p.step : Int) % 4294967296 = ((pha p T : Nat) : Int) := by
    have : T % 4294967296 * p.step % 4294967296 = pha p T := by unfold pha; rw [Nat.mul_mod, Nat.mod_mod, ← Nat.mul_mod]
    rw [← this]; simp
    rw [Int.mul_emod, Int.emod_emod, ← Int.mul_emod]
  generalize sm2 p (shp p.shape (pha p T)) (lev p T o) = SV at *
  generalize gw p (shp p.shape (pha p T)) = GV at *
  generalize shp p.shape (pha p T) = XV at *
  generalize qt (lev p T o) 20 = QV at *
  generalize lev p T o = LV at *
  generalize she p.shape = EV at *
  generalize pha p T = PH at *
  obtain ⟨shape, step, gain, atk, dec, rel, sus⟩ := p
  simp only at *
  have n1 := fmul m1
  have n2 := fquo m2
  have n3 := fmul m3
  clear m1 m2 m3 h
  go_enter Try.func34, Try.ntmps34
  go_wp2_with fail
  rw [e1]
  refine (q1 _).mono ?_
  rintro e w1 ⟨rfl, hb1⟩
  rw [hb1]
  go_wp2_with (simp only [n1])
  refine (q2 _).mono ?_
  rintro e w2 ⟨rfl, hb2⟩
  have hb : Below w.heap.size w w2 := Below.trans (by go_grown) (hb2.mono (by simp))
  go_wp2_with (first | simp only [n2] | simp only [n3])
  go_ret
  exact ⟨rfl, hb⟩
end Go.Proofs.Ytjpcebnbkdekkaa.Vo

/- In whatever order the nodes stand: the plain part. -/
namespace Go.Proofs.Ytjpcebnbkdekkaa.Gh
open Fl
set_option linter.unusedVariables false
set_option linter.unusedSimpArgs false

/-- A node that hears the others where they stand then. -/
def pm (τ : Nat → Nat) (d : Nd) : Nd := ⟨d.kind, d.frm.map (fun k => (τ k.toNat : Int)), d.n, d.x, d.c, d.p⟩
theorem pm_f0 {τ : Nat → Nat} {d : Nd} (h : 0 < d.frm.length) : f0 (pm τ d) = τ (f0 d) := by
  unfold f0 pm
  rw [List.getD_eq_getElem?_getD, List.getD_eq_getElem?_getD, List.getElem?_map, List.getElem?_eq_getElem h]
  rfl
theorem pm_f1 {τ : Nat → Nat} {d : Nd} (h : 1 < d.frm.length) : f1 (pm τ d) = τ (f1 d) := by
  unfold f1 pm
  rw [List.getD_eq_getElem?_getD, List.getD_eq_getElem?_getD, List.getElem?_map, List.getElem?_eq_getElem h]
  rfl
theorem pv_eq {V U : Hist} {i j : Nat} (h : ∀ s, V i s = U j s) (t : Int) : pv V i t = pv U j t := by
  unfold pv
  split
  · rfl
  · exact h _
theorem mixs_perm {V U : Hist} {τ : Nat → Nat} {t : Nat} {l : List Int} (h : ∀ k ∈ l, V (τ k.toNat) t = U k.toNat t) : mixs V t (l.map (fun k => (τ k.toNat : Int))) = mixs U t l := by
  cases l with
  | nil => rfl
  | cons a l =>
    show (l.map _).foldl _ (V (τ a.toNat : Int).toNat t) = l.foldl _ _
    rw [List.foldl_map, Int.toNat_natCast, h a (List.mem_cons_self ..)]
    refine foldl_congr _ _ _ _ (fun k hk s => ?_)
    rw [Int.toNat_natCast, h k (List.mem_cons_of_mem _ hk)]
theorem samp_perm {d : Nd} {τ : Nat → Nat} {I V U : Hist} {N i t : Nat} (hd : many d) (hf : ∀ k ∈ d.frm, k.toNat < N) (hi : i < N) (h : ∀ j s, j < N → V (τ j) s = U j s) : sampD (pm τ d) I V (τ i) t = sampD d I U i t := by
  have hk : (pm τ d).kind = d.kind := rfl
  have a0 : 0 < d.frm.length → f0 d < N := fun l => hf _ (mem_f0 l)
  have a1 : 1 < d.frm.length → f1 d < N := fun l => hf _ (mem_f1 l)
  unfold sampD
  rw [hk]
  by_cases c1 : d.kind = 1
  · rw [if_pos c1, if_pos c1]; rfl
  rw [if_neg c1, if_neg c1]
  by_cases c2 : d.kind = 2
  · rw [if_pos c2, if_pos c2]; rfl
  rw [if_neg c2, if_neg c2]
  by_cases c3 : d.kind = 3
  · have l := hd.1 (.inl c3)
    rw [if_pos c3, if_pos c3, pm_f0 (by omega), h _ _ (a0 (by omega))]; rfl
  rw [if_neg c3, if_neg c3]
  by_cases c4 : d.kind = 4
  · rw [if_pos c4, if_pos c4]
    exact mixs_perm (fun k hk => h _ _ (hf k hk))
  rw [if_neg c4, if_neg c4]
  by_cases c5 : d.kind = 5
  · have l := hd.2.1 c5
    rw [if_pos c5, if_pos c5, pm_f0 (by omega), pm_f1 (by omega), h _ _ (a0 (by omega)), h _ _ (a1 (by omega))]
  rw [if_neg c5, if_neg c5]
  by_cases c6 : d.kind = 6
  · have l := hd.1 (.inr (.inl c6))
    rw [if_pos c6, if_pos c6, pm_f0 (by omega)]
    exact pv_eq (fun s => h _ s (a0 (by omega))) _
  rw [if_neg c6, if_neg c6]
  by_cases c7 : d.kind = 7
  · have l := hd.1 (.inr (.inr c7))
    have b := a0 (by omega)
    rw [if_pos c7, if_pos c7, pm_f0 (by omega), h _ _ b]
    unfold fst'
    rw [pv_eq (fun s => h _ s b), pv_eq (fun s => h _ s b), pv_eq (fun s => h _ s hi), pv_eq (fun s => h _ s hi)]
    rfl
  rw [if_neg c7, if_neg c7]
  rfl
/-- The same is told of a graph whose nodes stand in another order. -/
theorem W_perm {g q : Gr} {τ : Nat → Nat} {N : Nat} (I : Hist) (hn : ∀ i, i < N → nd q (τ i) = pm τ (nd g i)) (hm : ∀ i, i < N → many (nd g i)) (hf : ∀ i, i < N → ∀ k ∈ (nd g i).frm, k.toNat < N) : ∀ m i t, i < N → W q I m (τ i) t = W g I m i t
  | 0, i, t, hi => rfl
  | m + 1, i, t, hi => by
    show sampD (nd q (τ i)) I (W q I m) (τ i) t = sampD (nd g i) I (W g I m) i t
    rw [hn i hi]
    exact samp_perm (hm i hi) (hf i hi) hi (fun j s hj => W_perm I hn hm hf m j s hj)
theorem vl_perm {g q : Gr} {τ : Nat → Nat} (I : Hist) (hl : q.nodes.length = g.nodes.length) (hn : ∀ i, i < g.nodes.length → nd q (τ i) = pm τ (nd g i)) (hm : ∀ i, i < g.nodes.length → many (nd g i)) (hf : ∀ i, i < g.nodes.length → ∀ k ∈ (nd g i).frm, k.toNat < g.nodes.length) (i t : Nat) (hi : i < g.nodes.length) : vl q I (τ i) t = vl g I i t := by
  unfold vl
  rw [hl]
  exact W_perm I hn hm hf _ i t hi
end Go.Proofs.Ytjpcebnbkdekkaa.Gh
