/- What the document's Sharps, Major and First come to. -/
import Derived.Test.YtgcnmmjgdpdmbacDoorS2
import Derived.Test.YtgcnmmjgdpdmbacDoorSMath2
namespace Go.Proofs.YtgcnmmjgdpdmbacDoor
open Go.RowKit
set_option linter.unusedSimpArgs false

/-- A row of seven numbers. -/
structure MRow (w : World) (b : Nat) (f : Nat → Int) : Prop where
  lt : b < w.heap.size
  c : ∀ j : Nat, j < 7 → w.cell? ⟨b, j, none⟩ = some (.int .i64 (f j))
  fro : ∀ j : Nat, j < 7 → w.frozen? ⟨b, j, none⟩ = false
theorem MRow.step {w w' : World} {B b : Nat} {f : Nat → Int} (h : MRow w b f) (hb : Below B w w') (hB : b < B) (hs : B ≤ w.heap.size) : MRow w' b f := by
  have hz := hb.size
  exact ⟨by omega, fun j hj => keepC hb hB (h.c j hj), fun j hj => keepF hb hB (h.fro j hj)⟩
theorem MRow.put {w : World} {b i : Nat} {f g : Nat → Int} {v : Int} (h : MRow w b f) (hi : i < 7) (hg : ∀ j, j < 7 → g j = if j = i then v else f j) :
    MRow (w.setCell ⟨b, i, none⟩ (.int .i64 v)) b g := by
  have hc := h.c i hi
  refine ⟨by simpa using h.lt, fun j hj => ?_, fun j hj => by simpa [go_sem] using h.fro j hj⟩
  rw [hg j hj]
  by_cases e : j = i
  · subst e; rw [if_pos rfl]; simp [go_sem, hc]
  · rw [if_neg e, World.cell?_setCell_other _ _ _ _ (by simp <;> omega)]; exact h.c j hj

end Go.Proofs.YtgcnmmjgdpdmbacDoor
