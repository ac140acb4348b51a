/- What the document's Print comes to. -/
import Derived.Test.YtmccbokjigjpnaaDoorQD3
import Derived.Deep.RegionWith
namespace Go.Proofs.YtmccbokjigjpnaaDoor
open Go.RowKit
attribute [local go_sem ↓] Go.wp_at_zero Go.wp_at_succ
set_option linter.unusedSimpArgs false
set_option linter.unusedVariables false

theorem new_keptA {X w' : World} {cs : Array Value} {t : TypeId} (hb : Below (X.alloc (Obj.cells cs t)).heap.size (X.alloc (Obj.cells cs t)) w') : X.heap.size < w'.heap.size ∧ ∀ i v, cs[i]? = some v → w'.cell? ⟨X.heap.size, i, none⟩ = some v :=
  ⟨by have := hb.size; simp at this; omega, fun i v hi => keepC hb (by simp) (by simp [go_sem, hi])⟩
theorem new_keptA_drew {X w' : World} {cs : Array Value} {t : TypeId} (hb : Below (X.alloc (Obj.cells cs t)).drew.heap.size (X.alloc (Obj.cells cs t)).drew w') : X.heap.size < w'.heap.size ∧ ∀ i v, cs[i]? = some v → w'.cell? ⟨X.heap.size, i, none⟩ = some v :=
  ⟨by have := hb.size; simp at this; omega, fun i v hi => keepC hb (by simp) (by simp [go_sem, hi])⟩
theorem bnA {w1 wa : World} (h : Below w1.drew.heap.size w1.drew wa) : Below w1.heap.size w1 wa := Below.trans (by go_grown) h
theorem bnB {w1 wa : World} {o : Obj} (h : Below (w1.drew.alloc o).heap.size (w1.drew.alloc o) wa) : Below w1.heap.size w1 wa := Below.trans (by go_grown) (h.mono (by simp))
theorem bnE {w1 wa : World} {o : Obj} (h : Below (w1.alloc o).drew.heap.size (w1.alloc o).drew wa) : Below w1.heap.size w1 wa := Below.trans (by go_grown) (h.mono (by simp))
theorem bnC {w1 wp wa : World} (h0 : Below w1.heap.size w1 wp) (h : Below wp.heap.size wp wa) : Below w1.heap.size w1 wa := h0.trans (h.mono h0.size)
theorem bnD {w1 wp wa : World} {o : Obj} (h0 : Below w1.heap.size w1 wp) (h : Below (wp.alloc o).heap.size (wp.alloc o) wa) : Below w1.heap.size w1 wa := (h0.alloc h0.size _).trans (h.mono (Nat.le_trans h0.size (by simp)))
theorem bnZ {w w1 wp : World} (h : Below w.heap.size w w1) (h0 : Below w1.heap.size w1 wp) : Below w.heap.size w wp := h.trans (h0.mono h.size)
theorem bnY {w w1 wp : World} {o : Obj} (h : Below w.heap.size w w1) (h0 : Below w1.heap.size w1 wp) : Below w.heap.size w (wp.alloc o) := h.trans ((h0.alloc h0.size _).mono h.size)
theorem refPrint_no (l a o : Int) (w : World) (a1 : -9223372036854775808 ≤ a) (a2 : a ≤ 9223372036854775807) (hr : M.rt l a o = false) :
    Calls Tryd.prog 18 #[.agg #[.int .i64 l, .int .i64 a, .int .i64 o]] w fun e w' => e = .returned (.tuple #[.string ⟨#[]⟩, .int .i64 2]) ∧ Below w.heap.size w w' := by
  go_enter Tryd.func18, Tryd.ntmps18
  go_wp2_with fail
  refine (refRight_any l a o _ a1 a2).mono ?_
  rintro e w1 ⟨rfl, hb1⟩
  rw [hr]
  go_wp2_with fail
  go_returns
  exact ⟨rfl, Below.trans (by go_grown) (hb1.mono (by simp))⟩
end Go.Proofs.YtmccbokjigjpnaaDoor
