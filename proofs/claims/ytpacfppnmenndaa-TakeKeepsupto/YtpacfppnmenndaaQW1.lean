/- What the program's small functions on pitches come to. -/
import Derived.Test.YtpacfppnmenndaaRows
import Derived.Test.YtpacfppnmenndaaQMath
import Derived.WalkKit
import Derived.Handy
import Derived.RegionTactic
import Derived.ChangeAlike
import Derived.Below
import Derived.Outline
import Derived.Deep.QuietTactic
import Derived.BigQuiet
import Derived.WalkSmall
namespace Go.Proofs.Ytpacfppnmenndaa
open Go.RowKit

theorem ret_int {k : IntKind} {a b : Int} (h : a = b) : Ending.returned (.int k a) = .returned (.int k b) := by rw [h]
theorem ret_bool {a b : Bool} (h : a = b) : Ending.returned (.bool a) = .returned (.bool b) := by rw [h]
theorem keepC {B : Nat} {W w1 : World} (hb : Below B W w1) {b o : Nat} {v : Value} (hlt : b < B) (h : W.cell? ⟨b, o, none⟩ = some v) : w1.cell? ⟨b, o, none⟩ = some v :=
  (hb.cell (p := ⟨b, o, none⟩) hlt).trans h
theorem keepF {B : Nat} {W w1 : World} (hb : Below B W w1) {b o : Nat} {v : Bool} (hlt : b < B) (h : W.frozen? ⟨b, o, none⟩ = v) : w1.frozen? ⟨b, o, none⟩ = v :=
  (hb.frozen (p := ⟨b, o, none⟩) hlt).trans h

theorem within_any (n m : Int) (w : World) (h1 : 0 ≤ m) (h2 : m ≤ 100000) :
    Calls Try.prog 48 #[.int .i64 n, .int .i64 m] w fun e w' => e = .returned (.bool (M.wi n m)) ∧ w' = w := by
  by_cases c1 : -m ≤ n
  · by_cases c2 : n ≤ m
    all_goals
      go_enter Try.func48, Try.ntmps48
      go_wp2
      go_ret
      exact ⟨ret_bool (by unfold M.wi; simp; omega), rfl⟩
  · go_enter Try.func48, Try.ntmps48
    go_wp2
    go_ret
    exact ⟨ret_bool (by unfold M.wi; simp; omega), rfl⟩

theorem Right_any (l a o : Int) (w : World) :
    Calls Try.prog 43 #[.agg #[.int .i64 l, .int .i64 a, .int .i64 o]] w fun e w' => e = .returned (.bool (M.rt l a o)) ∧ Below w.heap.size w w' := by
  rw [M.rt_wi]
  by_cases c1 : 0 ≤ l
  · by_cases c2 : l < 7
    · rw [show decide (0 ≤ l) = true by simp [c1], show decide (l < 7) = true by simp [c2]]
      cases ha : M.wi a 3
      all_goals cases ho : M.wi o 12
      all_goals
        go_enter Try.func43, Try.ntmps43
        go_wp2_with (go_at_call 48; refine (within_any _ _ _ (by omega) (by omega)).mono ?_; rintro e w1 ⟨rfl, rfl⟩; simp only [ha, ho])
        go_ret
        exact ⟨rfl, by go_grown⟩
    · rw [show decide (0 ≤ l) = true by simp [c1], show decide (l < 7) = false by simp; omega]
      go_enter Try.func43, Try.ntmps43
      go_wp2_with fail
      go_ret
      exact ⟨rfl, by go_grown⟩
  · rw [show decide (0 ≤ l) = false by simp; omega]
    go_enter Try.func43, Try.ntmps43
    go_wp2_with fail
    go_ret
    exact ⟨rfl, by go_grown⟩

end Go.Proofs.Ytpacfppnmenndaa
