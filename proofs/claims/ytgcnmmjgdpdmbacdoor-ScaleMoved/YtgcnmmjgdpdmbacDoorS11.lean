/- What the document's Degree comes to. -/
import Derived.Test.YtgcnmmjgdpdmbacDoorS7
import Derived.Deep.RegionWith
import Derived.Deep.DeepCutAuto
namespace Go.Proofs.YtgcnmmjgdpdmbacDoor
open Go.RowKit
attribute [local go_sem ↓] Go.wp_at_zero Go.wp_at_succ
set_option linter.unusedSimpArgs false

/-- A pitch in a block of its own. -/
structure PB (w : World) (b : Nat) (l a o : Int) : Prop where
  lt : b < w.heap.size
  n0 : w.cell? ⟨b, 0, none⟩ = some (.int .i64 l)
  n1 : w.cell? ⟨b, 1, none⟩ = some (.int .i64 a)
  n2 : w.cell? ⟨b, 2, none⟩ = some (.int .i64 o)
  g0 : w.frozen? ⟨b, 0, none⟩ = false
  g1 : w.frozen? ⟨b, 1, none⟩ = false
  g2 : w.frozen? ⟨b, 2, none⟩ = false
theorem PB.step {w w' : World} {B b : Nat} {l a o : Int} (h : PB w b l a o) (hb : Below B w w') (hB : b < B) (hs : B ≤ w.heap.size) : PB w' b l a o := by
  have hz := hb.size
  exact ⟨by omega, keepC hb hB h.n0, keepC hb hB h.n1, keepC hb hB h.n2, keepF hb hB h.g0, keepF hb hB h.g1, keepF hb hB h.g2⟩
theorem PB.put0 {w : World} {b : Nat} {l a o v : Int} (h : PB w b l a o) : PB (w.setCell ⟨b, 0, none⟩ (.int .i64 v)) b v a o :=
  ⟨by simpa using h.lt, by simp [go_sem, h.n0], by simp [go_sem, h.n1], by simp [go_sem, h.n2], by simp [go_sem, h.g0], by simp [go_sem, h.g1], by simp [go_sem, h.g2]⟩
theorem PB.put1 {w : World} {b : Nat} {l a o v : Int} (h : PB w b l a o) : PB (w.setCell ⟨b, 1, none⟩ (.int .i64 v)) b l v o :=
  ⟨by simpa using h.lt, by simp [go_sem, h.n0], by simp [go_sem, h.n1], by simp [go_sem, h.n2], by simp [go_sem, h.g0], by simp [go_sem, h.g1], by simp [go_sem, h.g2]⟩
theorem PB.put2 {w : World} {b : Nat} {l a o v : Int} (h : PB w b l a o) : PB (w.setCell ⟨b, 2, none⟩ (.int .i64 v)) b l a v :=
  ⟨by simpa using h.lt, by simp [go_sem, h.n0], by simp [go_sem, h.n1], by simp [go_sem, h.n2], by simp [go_sem, h.g0], by simp [go_sem, h.g1], by simp [go_sem, h.g2]⟩
theorem PB.new (w : World) (l a o : Int) (t : TypeId) : PB (w.alloc (Obj.cells #[.int .i64 l, .int .i64 a, .int .i64 o] t)) w.heap.size l a o :=
  ⟨by simp, by simp [go_sem], by simp [go_sem], by simp [go_sem], by simp [go_sem], by simp [go_sem], by simp [go_sem]⟩

end Go.Proofs.YtgcnmmjgdpdmbacDoor
