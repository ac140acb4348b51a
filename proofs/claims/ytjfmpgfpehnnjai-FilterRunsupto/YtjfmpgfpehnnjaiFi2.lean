/- A filter in memory; its next sample. -/
import Derived.Test.YtjfmpgfpehnnjaiFi1
namespace Go.Proofs.Ytjfmpgfpehnnjai.Fi
open Go.RowKit Go.Maps Go.Sort Fl
set_option linter.unusedSimpArgs false
set_option linter.unusedVariables false

@[go_sem] theorem run_store_float (a : Addr) (k : FloatKind) (x : Nat) (m : Mode) (w : World) : (store a (.float k x) m).run Try.prog w = stored Try.prog w a (.float k x) m := run_store Try.prog w a _ m rfl
theorem belN {N : Nat} {w w1 : World} (h : Below N w w1) (n : Nat) : Below N w (w1.drewN n) := ⟨h.os, h.tape, h.output, h.size, h.block⟩
/-- Coefficients. -/
structure Cf where
  b0 : Nat
  b1 : Nat
  b2 : Nat
  a1 : Nat
  a2 : Nat
/-- What came in and out one and two ahead, as far as it can be told. -/
structure St where
  x1 : Option Nat
  x2 : Option Nat
  y1 : Option Nat
  y2 : Option Nat
/-- What comes out now. -/
def nx (c : Cf) (s : St) (x : Option Nat) : Option Nat := os (os (oa (oa (om (ab c.b0) x) (om (ab c.b1) s.x1)) (om (ab c.b2) s.x2)) (om (ab c.a1) s.y1)) (om (ab c.a2) s.y2)
def adv (c : Cf) (s : St) (x : Option Nat) : St := ⟨x, s.x1, nx c s x, s.y1⟩
def rest0 : St := ⟨some 0, some 0, some 0, some 0⟩
/-- A cell with a float of which this can be told. -/
def FC (w : World) (b i : Nat) (o : Option Nat) : Prop := ∃ X, w.cell? ⟨b, i, none⟩ = some (.float .f64 X) ∧ X < 18446744073709551616 ∧ ab X = o
/-- A filter in memory. -/
structure FL (w : World) (b : Nat) (c : Cf) (s : St) : Prop where
  c0 : w.cell? ⟨b, 0, none⟩ = some (.float .f64 c.b0)
  c1 : w.cell? ⟨b, 1, none⟩ = some (.float .f64 c.b1)
  c2 : w.cell? ⟨b, 2, none⟩ = some (.float .f64 c.b2)
  c3 : w.cell? ⟨b, 3, none⟩ = some (.float .f64 c.a1)
  c4 : w.cell? ⟨b, 4, none⟩ = some (.float .f64 c.a2)
  c5 : FC w b 5 s.x1
  c6 : FC w b 6 s.x2
  c7 : FC w b 7 s.y1
  c8 : FC w b 8 s.y2
  f : ∀ i, w.frozen? ⟨b, i, none⟩ = false
  lt : b < w.heap.size
set_option maxHeartbeats 4000000 in
theorem next_any (c : Cf) (s : St) (b x : Nat) (w : World) (hx : x < 18446744073709551616) (hF : FL w b c s) :
    Calls Try.prog 36 #[.pointer (some ⟨b, 0, none⟩), .float .f64 x] w fun e w' => ∃ r, e = .returned (.float .f64 r) ∧ r < 18446744073709551616 ∧ ab r = nx c s (ab x) ∧ Below w.heap.size w w' := by
  obtain ⟨c0, c1, c2, c3, c4, ⟨X1, c5, X1l, X1a⟩, ⟨X2, c6, X2l, X2a⟩, ⟨Y1, c7, Y1l, Y1a⟩, ⟨Y2, c8, Y2l, Y2a⟩, f, lt⟩ := hF
  have s0 : w.heap.size < (w.alloc (Obj.cells #[.float .f64 c.b0, .float .f64 c.b1, .float .f64 c.b2, .float .f64 c.a1, .float .f64 c.a2] 39)).heap.size := by simp
  have hb : Below w.heap.size w (w.alloc (Obj.cells #[.float .f64 c.b0, .float .f64 c.b1, .float .f64 c.b2, .float .f64 c.a1, .float .f64 c.a2] 39)) := (Below.refl _ _).alloc (Nat.le_refl _) _
  have d0 : (w.alloc (Obj.cells #[.float .f64 c.b0, .float .f64 c.b1, .float .f64 c.b2, .float .f64 c.a1, .float .f64 c.a2] 39)).cell? ⟨w.heap.size, 0, none⟩ = some (.float .f64 c.b0) := by simp [go_sem]
  have d1 : (w.alloc (Obj.cells #[.float .f64 c.b0, .float .f64 c.b1, .float .f64 c.b2, .float .f64 c.a1, .float .f64 c.a2] 39)).cell? ⟨w.heap.size, 1, none⟩ = some (.float .f64 c.b1) := by simp [go_sem]
  have d2 : (w.alloc (Obj.cells #[.float .f64 c.b0, .float .f64 c.b1, .float .f64 c.b2, .float .f64 c.a1, .float .f64 c.a2] 39)).cell? ⟨w.heap.size, 2, none⟩ = some (.float .f64 c.b2) := by simp [go_sem]
  have d3 : (w.alloc (Obj.cells #[.float .f64 c.b0, .float .f64 c.b1, .float .f64 c.b2, .float .f64 c.a1, .float .f64 c.a2] 39)).cell? ⟨w.heap.size, 3, none⟩ = some (.float .f64 c.a1) := by simp [go_sem]
  have d4 : (w.alloc (Obj.cells #[.float .f64 c.b0, .float .f64 c.b1, .float .f64 c.b2, .float .f64 c.a1, .float .f64 c.a2] 39)).cell? ⟨w.heap.size, 4, none⟩ = some (.float .f64 c.a2) := by simp [go_sem]
  have d5 := keepC hb lt c5
  have d6 := keepC hb lt c6
  have d7 := keepC hb lt c7
  have d8 := keepC hb lt c8
  go_enter Try.func36, Try.ntmps36
  go_wp2_with fail
  generalize w.alloc (Obj.cells #[.float .f64 c.b0, .float .f64 c.b1, .float .f64 c.b2, .float .f64 c.a1, .float .f64 c.a2] 39) = W1 at *
  clear c0 c1 c2 c3 c4 c5 c6 c7 c8 f
  obtain ⟨b0, b1, b2, a1, a2⟩ := c
  obtain ⟨x1, x2, y1, y2⟩ := s
  simp only at *
  subst X1a X2a Y1a Y2a
  have HQ : Hid (∀ r, nx ⟨b0, b1, b2, a1, a2⟩ ⟨ab X1, ab X2, ab Y1, ab Y2⟩ (ab x) = r ↔ os (os (oa (oa (om (ab b0) (ab x)) (om (ab b1) (ab X1))) (om (ab b2) (ab X2))) (om (ab a1) (ab Y1))) (om (ab a2) (ab Y2)) = r) := fun r => Iff.rfl
  refine RM.wp_region_may (by kernel_rfl) (by kernel_rfl) ?_
  repeat (refine RM.wpMay_step (fun K hK => ?_); go_simp; refine hK _ ?_; clear hK K)
  refine wpMay_f rfl .mul (.inr (.inr rfl)) _ _ _ _ rfl b0 x rfl rfl ?_
  intro r1 l1 e1
  repeat (refine RM.wpMay_step (fun K hK => ?_); go_simp; refine hK _ ?_; clear hK K)
  refine wpMay_f rfl .mul (.inr (.inr rfl)) _ _ _ _ rfl b1 X1 rfl rfl ?_
  intro r2 l2 e2
  refine wpMay_f rfl .add (.inl rfl) _ _ _ _ rfl r1 r2 rfl rfl ?_
  intro r3 l3 e3
  repeat (refine RM.wpMay_step (fun K hK => ?_); go_simp; refine hK _ ?_; clear hK K)
  refine RM.wpMay_nil ?_
  intro n1
  go_wp2_with fail
  refine RM.wp_region_may (by kernel_rfl) (by kernel_rfl) ?_
  repeat (refine RM.wpMay_step (fun K hK => ?_); go_simp; refine hK _ ?_; clear hK K)
  refine wpMay_f rfl .mul (.inr (.inr rfl)) _ _ _ _ rfl b2 X2 rfl rfl ?_
  intro r4 lr4 er4
  refine wpMay_f rfl .add (.inl rfl) _ _ _ _ rfl r3 r4 rfl rfl ?_
  intro r5 lr5 er5
  repeat (refine RM.wpMay_step (fun K hK => ?_); go_simp; refine hK _ ?_; clear hK K)
  refine RM.wpMay_nil ?_
  intro n2
  go_wp2_with fail
  refine RM.wp_region_may (by kernel_rfl) (by kernel_rfl) ?_
  repeat (refine RM.wpMay_step (fun K hK => ?_); go_simp; refine hK _ ?_; clear hK K)
  refine wpMay_f rfl .mul (.inr (.inr rfl)) _ _ _ _ rfl a1 Y1 rfl rfl ?_
  intro r6 lr6 er6
  refine wpMay_f rfl .sub (.inr (.inl rfl)) _ _ _ _ rfl r5 r6 rfl rfl ?_
  intro r7 lr7 er7
  repeat (refine RM.wpMay_step (fun K hK => ?_); go_simp; refine hK _ ?_; clear hK K)
  refine RM.wpMay_nil ?_
  intro n3
  go_wp2_with fail
  refine RM.wp_region_may (by kernel_rfl) (by kernel_rfl) ?_
  repeat (refine RM.wpMay_step (fun K hK => ?_); go_simp; refine hK _ ?_; clear hK K)
  refine wpMay_f rfl .mul (.inr (.inr rfl)) _ _ _ _ rfl a2 Y2 rfl rfl ?_
  intro r8 lr8 er8
  refine wpMay_f rfl .sub (.inr (.inl rfl)) _ _ _ _ rfl r7 r8 rfl rfl ?_
  intro r9 lr9 er9
  repeat (refine RM.wpMay_step (fun K hK => ?_); go_simp; refine hK _ ?_; clear hK K)
  refine RM.wpMay_nil ?_
  intro n4
  go_wp2_with fail
  go_ret
  refine ⟨r9, rfl, lr9, ?_, ?_⟩
  · rw [er9, er8, er7, er6, er5, er4, e3, e2, e1]; rfl
  · exact belN (belN (belN (belN hb _) _) _) _
end Go.Proofs.Ytjfmpgfpehnnjai.Fi
