/- What the program's small functions on pitches come to. -/
import Derived.Test.YtdjdnjaijpafgacRows
import Derived.Test.YtdjdnjaijpafgacQMath
import Derived.WalkKit
import Derived.Handy
import Derived.RegionTactic
import Derived.ChangeAlike
import Derived.Below
import Derived.Outline
import Derived.Deep.QuietTactic
import Derived.BigQuiet
import Derived.WalkSmall
namespace Go.Proofs.Ytdjdnjaijpafgac
open Go.RowKit

theorem ret_int {k : IntKind} {a b : Int} (h : a = b) : Ending.returned (.int k a) = .returned (.int k b) := by rw [h]
theorem ret_bool {a b : Bool} (h : a = b) : Ending.returned (.bool a) = .returned (.bool b) := by rw [h]
theorem keepC {B : Nat} {W w1 : World} (hb : Below B W w1) {b o : Nat} {v : Value} (hlt : b < B) (h : W.cell? ⟨b, o, none⟩ = some v) : w1.cell? ⟨b, o, none⟩ = some v :=
  (hb.cell (p := ⟨b, o, none⟩) hlt).trans h
theorem keepF {B : Nat} {W w1 : World} (hb : Below B W w1) {b o : Nat} {v : Bool} (hlt : b < B) (h : W.frozen? ⟨b, o, none⟩ = v) : w1.frozen? ⟨b, o, none⟩ = v :=
  (hb.frozen (p := ⟨b, o, none⟩) hlt).trans h

theorem within_any (n m : Int) (w : World) (h1 : 0 ≤ m) (h2 : m ≤ 100000) :
    Calls Try.prog 13 #[.int .i64 n, .int .i64 m] w fun e w' => e = .returned (.bool (M.wi n m)) ∧ w' = w := by
  by_cases c1 : -m ≤ n
  · by_cases c2 : n ≤ m
    all_goals
      go_enter Try.func13, Try.ntmps13
      go_wp2
      go_ret
      exact ⟨ret_bool (by unfold M.wi; simp; omega), rfl⟩
  · go_enter Try.func13, Try.ntmps13
    go_wp2
    go_ret
    exact ⟨ret_bool (by unfold M.wi; simp; omega), rfl⟩

theorem bounded_any (s h : Int) (w : World) :
    Calls Try.prog 10 #[.agg #[.int .i64 s, .int .i64 h]] w fun e w' => e = .returned (.bool (M.inb s h)) ∧ Below w.heap.size w w' := by
  rw [M.inb_wi]
  cases ha : M.wi s 200
  all_goals cases ho : M.wi h 4096
  all_goals
    go_enter Try.func10, Try.ntmps10
    go_wp2_with (go_at_call 13; refine (within_any _ _ _ (by omega) (by omega)).mono ?_; rintro e w1 ⟨rfl, rfl⟩; simp only [ha, ho])
    go_ret
    exact ⟨rfl, by go_grown⟩

end Go.Proofs.Ytdjdnjaijpafgac
