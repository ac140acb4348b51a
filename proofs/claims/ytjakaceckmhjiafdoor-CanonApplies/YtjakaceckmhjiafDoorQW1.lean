/- What the program's small functions on pitches come to. -/
import Derived.Test.YtjakaceckmhjiafDoorRows
import Derived.Test.YtjakaceckmhjiafDoorQMath
import Derived.WalkKit
import Derived.Handy
import Derived.RegionTactic
import Derived.ChangeAlike
import Derived.Below
import Derived.Outline
import Derived.Deep.QuietTactic
import Derived.BigQuiet
import Derived.WalkSmall
namespace Go.Proofs.YtjakaceckmhjiafDoor
open Go.RowKit

theorem ret_int {k : IntKind} {a b : Int} (h : a = b) : Ending.returned (.int k a) = .returned (.int k b) := by rw [h]
theorem ret_bool {a b : Bool} (h : a = b) : Ending.returned (.bool a) = .returned (.bool b) := by rw [h]
theorem keepC {B : Nat} {W w1 : World} (hb : Below B W w1) {b o : Nat} {v : Value} (hlt : b < B) (h : W.cell? ⟨b, o, none⟩ = some v) : w1.cell? ⟨b, o, none⟩ = some v :=
  (hb.cell (p := ⟨b, o, none⟩) hlt).trans h
theorem keepF {B : Nat} {W w1 : World} (hb : Below B W w1) {b o : Nat} {v : Bool} (hlt : b < B) (h : W.frozen? ⟨b, o, none⟩ = v) : w1.frozen? ⟨b, o, none⟩ = v :=
  (hb.frozen (p := ⟨b, o, none⟩) hlt).trans h

/-- The table of half tones lies where the program lays it. -/
structure Tab (w : World) : Prop where
  sz : 0 < w.heap.size
  c0 : w.cell? ⟨0, 0, none⟩ = some (.int .i64 0)
  c1 : w.cell? ⟨0, 1, none⟩ = some (.int .i64 2)
  c2 : w.cell? ⟨0, 2, none⟩ = some (.int .i64 4)
  c3 : w.cell? ⟨0, 3, none⟩ = some (.int .i64 5)
  c4 : w.cell? ⟨0, 4, none⟩ = some (.int .i64 7)
  c5 : w.cell? ⟨0, 5, none⟩ = some (.int .i64 9)
  c6 : w.cell? ⟨0, 6, none⟩ = some (.int .i64 11)
theorem Tab.step {w w' : World} (h : Tab w) (hb : Below w.heap.size w w') : Tab w' :=
  ⟨by have := hb.size; have := h.sz; omega, keepC hb h.sz h.c0, keepC hb h.sz h.c1, keepC hb h.sz h.c2, keepC hb h.sz h.c3, keepC hb h.sz h.c4, keepC hb h.sz h.c5, keepC hb h.sz h.c6⟩

theorem within_any (n m : Int) (w : World) (h1 : 0 ≤ m) (h2 : m ≤ 100000) :
    Calls Tryd.prog 33 #[.int .i64 n, .int .i64 m] w fun e w' => e = .returned (.bool (M.wi n m)) ∧ w' = w := by
  by_cases c1 : -m ≤ n
  · by_cases c2 : n ≤ m
    all_goals
      go_enter Tryd.func33, Tryd.ntmps33
      go_wp2
      go_ret
      exact ⟨ret_bool (by unfold M.wi; simp; omega), rfl⟩
  · go_enter Tryd.func33, Tryd.ntmps33
    go_wp2
    go_ret
    exact ⟨ret_bool (by unfold M.wi; simp; omega), rfl⟩

theorem stepsOf_any (l a o : Int) (w : World) (h1 : 0 ≤ l) (h2 : l ≤ 6) (h5 : -1000 ≤ o) (h6 : o ≤ 1000) :
    Calls Tryd.prog 45 #[.agg #[.int .i64 l, .int .i64 a, .int .i64 o]] w fun e w' => e = .returned (.int .i64 (M.st l o)) ∧ Below w.heap.size w w' := by
  go_enter Tryd.func45, Tryd.ntmps45
  go_wp2
  go_ret
  exact ⟨ret_int rfl, by go_grown⟩

theorem halvesOf_any (l a o : Int) (w : World) (ht : Tab w) (h1 : 0 ≤ l) (h2 : l ≤ 6) (h3 : -100000 ≤ a) (h4 : a ≤ 100000) (h5 : -1000 ≤ o) (h6 : o ≤ 1000) :
    Calls Tryd.prog 46 #[.agg #[.int .i64 l, .int .i64 a, .int .i64 o]] w fun e w' => e = .returned (.int .i64 (M.hv l a o)) ∧ Below w.heap.size w w' := by
  obtain ⟨sz, c0, c1, c2, c3, c4, c5, c6⟩ := ht
  rcases (show l = 0 ∨ l = 1 ∨ l = 2 ∨ l = 3 ∨ l = 4 ∨ l = 5 ∨ l = 6 by omega) with rfl | rfl | rfl | rfl | rfl | rfl | rfl
  all_goals
    go_enter Tryd.func46, Tryd.ntmps46
    go_wp2
    go_region
    go_wp2
    go_ret
    exact ⟨ret_int (by simp [M.hv, M.ab]), by go_grown⟩


theorem Right_any (l a o : Int) (w : World) :
    Calls Tryd.prog 20 #[.agg #[.int .i64 l, .int .i64 a, .int .i64 o]] w fun e w' => e = .returned (.bool (M.rt l a o)) ∧ Below w.heap.size w w' := by
  rw [M.rt_wi]
  by_cases c1 : 0 ≤ l
  · by_cases c2 : l < 7
    · rw [show decide (0 ≤ l) = true by simp [c1], show decide (l < 7) = true by simp [c2]]
      cases ha : M.wi a 3
      all_goals cases ho : M.wi o 12
      all_goals
        go_enter Tryd.func20, Tryd.ntmps20
        go_wp2_with (go_at_call 33; refine (within_any _ _ _ (by omega) (by omega)).mono ?_; rintro e w1 ⟨rfl, rfl⟩; simp only [ha, ho])
        go_ret
        exact ⟨rfl, by go_grown⟩
    · rw [show decide (0 ≤ l) = true by simp [c1], show decide (l < 7) = false by simp; omega]
      go_enter Tryd.func20, Tryd.ntmps20
      go_wp2_with fail
      go_ret
      exact ⟨rfl, by go_grown⟩
  · rw [show decide (0 ≤ l) = false by simp; omega]
    go_enter Tryd.func20, Tryd.ntmps20
    go_wp2_with fail
    go_ret
    exact ⟨rfl, by go_grown⟩

theorem bounded_any (s h : Int) (w : World) :
    Calls Tryd.prog 32 #[.agg #[.int .i64 s, .int .i64 h]] w fun e w' => e = .returned (.bool (M.inb s h)) ∧ Below w.heap.size w w' := by
  rw [M.inb_wi]
  cases ha : M.wi s 200
  all_goals cases ho : M.wi h 4096
  all_goals
    go_enter Tryd.func32, Tryd.ntmps32
    go_wp2_with (go_at_call 33; refine (within_any _ _ _ (by omega) (by omega)).mono ?_; rintro e w1 ⟨rfl, rfl⟩; simp only [ha, ho])
    go_ret
    exact ⟨rfl, by go_grown⟩

theorem plainAt_any (s : Int) (w : World) (h1 : -100000 ≤ s) (h2 : s ≤ 100000) :
    Calls Tryd.prog 64 #[.int .i64 s] w fun e w' => e = .returned (.agg #[.int .i64 (s % 7), .int .i64 0, .int .i64 (s / 7)]) ∧ Below w.heap.size w w' := by
  have hb := M.tmod7_bd s
  have e1 := M.letter7 s
  have e2 := M.octave7 s
  go_enter Tryd.func64, Tryd.ntmps64
  go_wp2
  go_returns
  exact ⟨rfl, by go_grown⟩

end Go.Proofs.YtjakaceckmhjiafDoor
