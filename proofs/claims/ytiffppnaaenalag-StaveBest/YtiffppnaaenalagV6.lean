/- What the program's bestFrom comes to. -/
import Derived.Test.YtiffppnaaenalagV3
import Derived.Test.YtiffppnaaenalagRTail
import Derived.Deep.RegionHeld3
import Derived.Deep.DeepCutAuto
namespace Go.Proofs.Ytiffppnaaenalag.V
open Go.RowKit Go.Sort
set_option linter.unusedVariables false
set_option linter.unusedSimpArgs false

/-- A way lies in the block q from o on. -/
structure C4 (w : World) (q o : Nat) (v : M.Wy) : Prop where
  c0 : w.cell? ⟨q, o, none⟩ = some (.bool v.ex)
  c1 : w.cell? ⟨q, o + 1, none⟩ = some (.int .i64 v.cost)
  c2 : w.cell? ⟨q, o + 2, none⟩ = some (.int .i64 v.lines)
  c3 : w.cell? ⟨q, o + 3, none⟩ = some (.int .i64 v.fin)
theorem C4.keep {w w' : World} {q o B : Nat} {v : M.Wy} (h : C4 w q o v) (hb : Below B w w') (hq : q < B) : C4 w' q o v :=
  ⟨keepC hb hq h.c0, keepC hb hq h.c1, keepC hb hq h.c2, keepC hb hq h.c3⟩
/-- The ways behind a place. -/
structure WT (w : World) (wb n a : Nat) (V : Nat → M.Wy) : Prop where
  lt : wb < w.heap.size
  at' : ∀ j, a < j → j ≤ n → C4 w wb (j * 4) (V j)
theorem WT.step {w w' : World} {wb n a : Nat} {V : Nat → M.Wy} (h : WT w wb n a V) (hb : Below w.heap.size w w') : WT w' wb n a V :=
  ⟨Nat.lt_of_lt_of_le h.lt hb.size, fun j h1 h2 => (h.at' j h1 h2).keep hb h.lt⟩
/-- Four cells are stored. -/
theorem set4 {w : World} {B : Nat} {u0 u1 u2 u3 x0 x1 x2 x3 : Value} (h0 : w.cell? ⟨B, 0, none⟩ = some u0) (h1 : w.cell? ⟨B, 1, none⟩ = some u1) (h2 : w.cell? ⟨B, 2, none⟩ = some u2) (h3 : w.cell? ⟨B, 3, none⟩ = some u3) :
    let w' := (((w.setCell ⟨B, 0, none⟩ x0).setCell ⟨B, 1, none⟩ x1).setCell ⟨B, 2, none⟩ x2).setCell ⟨B, 3, none⟩ x3
    w'.cell? ⟨B, 0, none⟩ = some x0 ∧ w'.cell? ⟨B, 1, none⟩ = some x1 ∧ w'.cell? ⟨B, 2, none⟩ = some x2 ∧ w'.cell? ⟨B, 3, none⟩ = some x3 ∧
    (∀ b o, b ≠ B → w'.cell? ⟨b, o, none⟩ = w.cell? ⟨b, o, none⟩) ∧ (∀ a, w'.frozen? a = w.frozen? a) ∧ w'.heap.size = w.heap.size := by
  intro w'
  have oth : ∀ (W : World) (o o' : Nat) (x : Value), o ≠ o' → (W.setCell ⟨B, o, none⟩ x).cell? ⟨B, o', none⟩ = W.cell? ⟨B, o', none⟩ := fun W o o' x h => World.cell?_setCell_other _ _ _ _ (by intro e; cases e; exact h rfl)
  have otb : ∀ (W : World) (o b o' : Nat) (x : Value), b ≠ B → (W.setCell ⟨B, o, none⟩ x).cell? ⟨b, o', none⟩ = W.cell? ⟨b, o', none⟩ := fun W o b o' x h => World.cell?_setCell_other _ _ _ _ (by intro e; cases e; exact h rfl)
  refine ⟨?_, ?_, ?_, ?_, ?_, ?_, ?_⟩
  · show ((((w.setCell _ _).setCell _ _).setCell _ _).setCell _ _).cell? _ = _
    rw [oth _ 3 0 _ (by omega), oth _ 2 0 _ (by omega), oth _ 1 0 _ (by omega)]; exact World.cell?_setCell_same _ _ _ h0
  · show ((((w.setCell _ _).setCell _ _).setCell _ _).setCell _ _).cell? _ = _
    rw [oth _ 3 1 _ (by omega), oth _ 2 1 _ (by omega)]; exact World.cell?_setCell_same _ _ _ ((oth _ 0 1 _ (by omega)).trans h1)
  · show ((((w.setCell _ _).setCell _ _).setCell _ _).setCell _ _).cell? _ = _
    rw [oth _ 3 2 _ (by omega)]; exact World.cell?_setCell_same _ _ _ (((oth _ 1 2 _ (by omega)).trans (oth _ 0 2 _ (by omega))).trans h2)
  · exact World.cell?_setCell_same _ _ _ ((((oth _ 2 3 _ (by omega)).trans (oth _ 1 3 _ (by omega))).trans (oth _ 0 3 _ (by omega))).trans h3)
  · intro b o hb
    show ((((w.setCell _ _).setCell _ _).setCell _ _).setCell _ _).cell? _ = _
    rw [otb _ _ _ _ _ hb, otb _ _ _ _ _ hb, otb _ _ _ _ _ hb, otb _ _ _ _ _ hb]
  · intro a; simp [w']
  · simp [w']
/-- What bestFrom keeps: its result's block, the best way so far, the first line so far. -/
structure Bf (w wr : World) (v : M.Wy) (S T : Int) : Prop where
  bel : Below w.heap.size w wr
  sz : w.heap.size + 1 + 1 < wr.heap.size
  r : C4 wr w.heap.size 0 ⟨false, 0, 0, 0⟩
  rf : ∀ o, wr.frozen? ⟨w.heap.size, o, none⟩ = false
  b : C4 wr (w.heap.size + 1) 0 v
  bf : ∀ o, wr.frozen? ⟨w.heap.size + 1, o, none⟩ = false
  s0 : wr.cell? ⟨w.heap.size + 1 + 1, 0, none⟩ = some (.int .i64 S)
  s1 : wr.cell? ⟨w.heap.size + 1 + 1, 1, none⟩ = some (.int .i64 T)
  sf : ∀ o, wr.frozen? ⟨w.heap.size + 1 + 1, o, none⟩ = false
theorem Bf.keep {w wr w' : World} {v : M.Wy} {S T : Int} (h : Bf w wr v S T) (hb : Below wr.heap.size wr w') : Bf w w' v S T := by
  have z := h.sz
  exact ⟨h.bel.trans (hb.mono h.bel.size), Nat.lt_of_lt_of_le h.sz hb.size, h.r.keep hb (by omega), fun o => keepF hb (by omega) (h.rf o), h.b.keep hb (by omega), fun o => keepF hb (by omega) (h.bf o), keepC hb z h.s0, keepC hb z h.s1, fun o => keepF hb z (h.sf o)⟩
theorem Bf.first {w wr : World} {v : M.Wy} {S T : Int} (h : Bf w wr v S T) (S' T' : Int) : Bf w ((wr.setCell ⟨w.heap.size + 1 + 1, 0, none⟩ (.int .i64 S')).setCell ⟨w.heap.size + 1 + 1, 1, none⟩ (.int .i64 T')) v S' T' := by
  obtain ⟨o0, o1, o2, o3, o4⟩ := set2 (x := .int .i64 S') (y := .int .i64 T') h.s0 h.s1
  exact ⟨(h.bel.setCell (by simp; omega) _).setCell (by simp; omega) _, by rw [o4]; exact h.sz, ⟨(o2 _ _ (by omega)).trans h.r.c0, (o2 _ _ (by omega)).trans h.r.c1, (o2 _ _ (by omega)).trans h.r.c2, (o2 _ _ (by omega)).trans h.r.c3⟩, fun o => (o3 _).trans (h.rf o),
    ⟨(o2 _ _ (by omega)).trans h.b.c0, (o2 _ _ (by omega)).trans h.b.c1, (o2 _ _ (by omega)).trans h.b.c2, (o2 _ _ (by omega)).trans h.b.c3⟩, fun o => (o3 _).trans (h.bf o), o0, o1, fun o => (o3 _).trans (h.sf o)⟩
theorem Bf.best {w wr : World} {v : M.Wy} {S T : Int} (h : Bf w wr v S T) (u : M.Wy) : Bf w ((((wr.setCell ⟨w.heap.size + 1, 0, none⟩ (.bool u.ex)).setCell ⟨w.heap.size + 1, 1, none⟩ (.int .i64 u.cost)).setCell ⟨w.heap.size + 1, 2, none⟩ (.int .i64 u.lines)).setCell ⟨w.heap.size + 1, 3, none⟩ (.int .i64 u.fin)) u S T := by
  obtain ⟨o0, o1, o2, o3, o4, o5, o6⟩ := set4 (x0 := .bool u.ex) (x1 := .int .i64 u.cost) (x2 := .int .i64 u.lines) (x3 := .int .i64 u.fin) h.b.c0 h.b.c1 h.b.c2 h.b.c3
  exact ⟨(((h.bel.setCell (by simp) _).setCell (by simp) _).setCell (by simp) _).setCell (by simp) _, by rw [o6]; exact h.sz, ⟨(o4 _ _ (by omega)).trans h.r.c0, (o4 _ _ (by omega)).trans h.r.c1, (o4 _ _ (by omega)).trans h.r.c2, (o4 _ _ (by omega)).trans h.r.c3⟩, fun o => (o5 _).trans (h.rf o),
    ⟨o0, o1, o2, o3⟩, fun o => (o5 _).trans (h.bf o), (o4 _ _ (by omega)).trans h.s0, (o4 _ _ (by omega)).trans h.s1, fun o => (o5 _).trans (h.sf o)⟩
end Go.Proofs.Ytiffppnaaenalag.V
