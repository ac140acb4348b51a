/- What the program's apart, sound, perfect, harsh, begun, then and allKeys come to. -/
import Derived.Test.YtmgkbnlmdhnjnaeRows
import Derived.Test.YtmgkbnlmdhnjnaeUMath
import Derived.WalkKit
import Derived.Handy
import Derived.RegionTactic
import Derived.ChangeAlike
import Derived.Below
import Derived.Outline
import Derived.Deep.QuietTactic
import Derived.BigQuiet
import Derived.WalkSmall
import Derived.LoopTactic
import Derived.Deep.RegionWith
namespace Go.Proofs.Ytmgkbnlmdhnjnae.U
open Go.RowKit
set_option linter.unusedVariables false
set_option linter.unusedSimpArgs false

theorem keepC {B : Nat} {W w1 : World} (hb : Below B W w1) {b o : Nat} {v : Value} (hlt : b < B) (h : W.cell? ⟨b, o, none⟩ = some v) : w1.cell? ⟨b, o, none⟩ = some v :=
  (hb.cell (p := ⟨b, o, none⟩) hlt).trans h
theorem keepF {B : Nat} {W w1 : World} (hb : Below B W w1) {b o : Nat} {v : Bool} (hlt : b < B) (h : W.frozen? ⟨b, o, none⟩ = v) : w1.frozen? ⟨b, o, none⟩ = v :=
  (hb.frozen (p := ⟨b, o, none⟩) hlt).trans h
theorem ret_int {k : IntKind} {a b : Int} (h : a = b) : Ending.returned (.int k a) = .returned (.int k b) := by rw [h]
theorem ret_bool {a b : Bool} (h : a = b) : Ending.returned (.bool a) = .returned (.bool b) := by rw [h]
theorem wid {x : Int} (h1 : -9223372036854775808 ≤ x) (h2 : x ≤ 9223372036854775807) : IntKind.i64.wrap x = x := by
  rw [IntKind.wrap_i64]; omega
/-- Numbers as they lie in memory. -/
structure LI (w : World) (ao : Option Addr) (n : Nat) (g : Nat → Int) : Prop where
  at' : 0 < n → ∃ b off, ao = some ⟨b, off, none⟩ ∧ b < w.heap.size ∧ ∀ j, j < n → w.cell? ⟨b, off + j, none⟩ = some (.int .i64 (g j))
theorem LI.step {w w' : World} {ao : Option Addr} {n : Nat} {g : Nat → Int} (h : LI w ao n g) (hb : Below w.heap.size w w') : LI w' ao n g := by
  refine ⟨fun hn => ?_⟩
  obtain ⟨b, off, h1, h2, h3⟩ := h.at' hn
  have := hb.size
  exact ⟨b, off, h1, by omega, fun j hj => keepC hb h2 (h3 j hj)⟩

theorem apart_any (a b : Int) (w : World) (h1 : -1 ≤ a) (h2 : a ≤ 127) (h3 : -1 ≤ b) (h4 : b ≤ 127) :
    Calls Try.prog 51 #[.int .i64 a, .int .i64 b] w fun e w' => e = .returned (.int .i64 (M.ap a b)) ∧ w' = w := by
  have HE : Hid (M.ap a b = if a ≤ b then b - a else a - b) := rfl
  go_enter Try.func51, Try.ntmps51
  go_wp2_with fail
  all_goals go_ret
  all_goals exact ⟨ret_int (by rw [HE.out]; split <;> omega), rfl⟩
theorem sound_any (a b : Int) (w : World) (h1 : -1 ≤ a) (h2 : a ≤ 127) (h3 : -1 ≤ b) (h4 : b ≤ 127) :
    Calls Try.prog 48 #[.int .i64 a, .int .i64 b] w fun e w' => e = .returned (.int .i64 (M.so a b)) ∧ w' = w := by
  have hap : 0 ≤ M.ap a b ∧ M.ap a b ≤ 128 := by unfold M.ap; split <;> omega
  have HE : Hid (M.so a b = M.ap a b % 12) := rfl
  have HC := apart_any a b w h1 h2 h3 h4
  generalize M.ap a b = A at *
  go_enter Try.func48, Try.ntmps48
  go_wp2_with fail
  refine HC.mono ?_
  rintro e w1 ⟨rfl, hw⟩
  rw [hw]
  go_wp2_with fail
  go_ret
  exact ⟨ret_int (by rw [HE.out]), rfl⟩
theorem perfect_any (s : Int) (w : World) :
    Calls Try.prog 50 #[.int .i64 s] w fun e w' => e = .returned (.bool (M.pf s)) ∧ w' = w := by
  have HE : Hid (M.pf s = decide (s = 0 ∨ s = 7)) := rfl
  by_cases c1 : s = 0
  · subst c1
    go_enter Try.func50, Try.ntmps50
    go_wp2_with fail
    go_ret
    exact ⟨ret_bool (by rw [HE.out]; simp), rfl⟩
  · have c1' : (s == 0) = false := by simp [c1]
    go_enter Try.func50, Try.ntmps50
    go_wp2_with fail
    go_ret
    exact ⟨ret_bool (by rw [HE.out]; simp only [c1, false_or]; rfl), rfl⟩
theorem harsh_any (s : Int) (w : World) :
    Calls Try.prog 49 #[.int .i64 s] w fun e w' => e = .returned (.bool (M.hs s)) ∧ w' = w := by
  have HE : Hid (M.hs s = decide (s = 1 ∨ s = 2 ∨ s = 5 ∨ s = 6 ∨ s = 10 ∨ s = 11)) := rfl
  cases e1 : (s == 1) <;> cases e2 : (s == 2) <;> cases e3 : (s == 5) <;> cases e4 : (s == 6) <;> cases e5 : (s == 10) <;> cases e6 : (s == 11)
  all_goals try (exfalso; simp at e1 e2 e3 e4 e5 e6; omega)
  all_goals
    go_enter Try.func49, Try.ntmps49
    go_wp2_with fail
    go_ret
    exact ⟨ret_bool (by rw [HE.out]; simp at e1 e2 e3 e4 e5 e6; simp; omega), rfl⟩
theorem begun_any (w : World) :
    Calls Try.prog 35 #[] w fun e w' => e = .returned (.agg #[.int .i64 (-1), .bool false]) ∧ Below w.heap.size w w' := by
  go_enter Try.func35, Try.ntmps35
  go_wp2_with fail
  go_returns
  exact ⟨rfl, by go_grown⟩
theorem then_any (pk k : Int) (pa : Bool) (w : World) :
    Calls Try.prog 38 #[.agg #[.int .i64 pk, .bool pa], .int .i64 k] w fun e w' => e = .returned (.agg #[.int .i64 k, .bool (k == pk)]) ∧ Below w.heap.size w w' := by
  go_enter Try.func38, Try.ntmps38
  go_wp2_with fail
  go_returns
  exact ⟨rfl, by go_grown⟩
end Go.Proofs.Ytmgkbnlmdhnjnae.U
