/- What the program's Degree comes to. -/
import Derived.Test.YtgcnmmjgdpdmbacDoorS2
import Derived.Test.YtgcnmmjgdpdmbacDoorQW4
import Derived.Deep.RegionHeld3
import Derived.Deep.DeepCutAuto
namespace Go.Proofs.YtgcnmmjgdpdmbacDoor
open Go.RowKit
attribute [local go_sem ↓] Go.wp_at_zero Go.wp_at_succ
set_option linter.unusedSimpArgs false

theorem snew_kept {X w' : World} {v0 v1 v2 : Value} {t : TypeId} (hb : Below (X.alloc (Obj.cells #[v0, v1, v2] t)).heap.size (X.alloc (Obj.cells #[v0, v1, v2] t)) w') : w'.cell? ⟨X.heap.size, 0, none⟩ = some v0 ∧ w'.cell? ⟨X.heap.size, 1, none⟩ = some v1 ∧ w'.cell? ⟨X.heap.size, 2, none⟩ = some v2 ∧ w'.frozen? ⟨X.heap.size, 0, none⟩ = false ∧ w'.frozen? ⟨X.heap.size, 1, none⟩ = false ∧ w'.frozen? ⟨X.heap.size, 2, none⟩ = false ∧ X.heap.size < w'.heap.size :=
  ⟨keepC hb (by simp) (by simp [go_sem]), keepC hb (by simp) (by simp [go_sem]), keepC hb (by simp) (by simp [go_sem]), keepF hb (by simp) (by simp [go_sem]), keepF hb (by simp) (by simp [go_sem]), keepF hb (by simp) (by simp [go_sem]), by have := hb.size; simp at this; omega⟩
theorem snew_kept_drew {X w' : World} {v0 v1 v2 : Value} {t : TypeId} (hb : Below (X.alloc (Obj.cells #[v0, v1, v2] t)).drew.heap.size (X.alloc (Obj.cells #[v0, v1, v2] t)).drew w') : w'.cell? ⟨X.heap.size, 0, none⟩ = some v0 ∧ w'.cell? ⟨X.heap.size, 1, none⟩ = some v1 ∧ w'.cell? ⟨X.heap.size, 2, none⟩ = some v2 ∧ w'.frozen? ⟨X.heap.size, 0, none⟩ = false ∧ w'.frozen? ⟨X.heap.size, 1, none⟩ = false ∧ w'.frozen? ⟨X.heap.size, 2, none⟩ = false ∧ X.heap.size < w'.heap.size :=
  ⟨keepC hb (by simp) (by simp [go_sem]), keepC hb (by simp) (by simp [go_sem]), keepC hb (by simp) (by simp [go_sem]), keepF hb (by simp) (by simp [go_sem]), keepF hb (by simp) (by simp [go_sem]), keepF hb (by simp) (by simp [go_sem]), by have := hb.size; simp at this; omega⟩

end Go.Proofs.YtgcnmmjgdpdmbacDoor
