/- Events in memory; what the program's isKind, isPart, hasB, wrongEvent and both Wrong come to. -/
import Derived.Test.YtaohahahhjkcdahRows
import Derived.Test.YtaohahahhjkcdahZMath2
import Derived.WalkKit
import Derived.Handy
import Derived.RegionTactic
import Derived.ChangeAlike
import Derived.Below
import Derived.Outline
import Derived.Deep.QuietTactic
import Derived.BigQuiet
import Derived.WalkSmall
import Derived.LoopTactic
import Derived.Deep.RegionWith
import Derived.OwnWalk
import Derived.Laws.OwnMore
import Derived.Laws.Rows
import Derived.Deep.OwnRows
namespace Go.Proofs.Ytaohahahhjkcdah.Z
open Go.RowKit
set_option linter.unusedVariables false
set_option linter.unusedSimpArgs false

theorem keepC {B : Nat} {W w1 : World} (hb : Below B W w1) {b o : Nat} {v : Value} (hlt : b < B) (h : W.cell? ⟨b, o, none⟩ = some v) : w1.cell? ⟨b, o, none⟩ = some v :=
  (hb.cell (p := ⟨b, o, none⟩) hlt).trans h
theorem keepF {B : Nat} {W w1 : World} (hb : Below B W w1) {b o : Nat} {v : Bool} (hlt : b < B) (h : W.frozen? ⟨b, o, none⟩ = v) : w1.frozen? ⟨b, o, none⟩ = v :=
  (hb.frozen (p := ⟨b, o, none⟩) hlt).trans h
theorem wid {x : Int} (h1 : -9223372036854775808 ≤ x) (h2 : x ≤ 9223372036854775807) : IntKind.i64.wrap x = x := by
  rw [IntKind.wrap_i64]; omega
/-- An event as a value. -/
abbrev ea (e : M.Ev) : Value := .agg #[.int .i64 e.t, .int .i64 e.k, .int .i64 e.c, .int .i64 e.a, .int .i64 e.b]
/-- An event's cells. -/
structure E5 (w : World) (b o : Nat) (e : M.Ev) : Prop where
  c0 : w.cell? ⟨b, o, none⟩ = some (.int .i64 e.t)
  c1 : w.cell? ⟨b, o + 1, none⟩ = some (.int .i64 e.k)
  c2 : w.cell? ⟨b, o + 2, none⟩ = some (.int .i64 e.c)
  c3 : w.cell? ⟨b, o + 3, none⟩ = some (.int .i64 e.a)
  c4 : w.cell? ⟨b, o + 4, none⟩ = some (.int .i64 e.b)
theorem E5.keep {w w' : World} {b o B : Nat} {e : M.Ev} (h : E5 w b o e) (hlt : b < B) (hb : Below B w w') : E5 w' b o e :=
  ⟨keepC hb hlt h.c0, keepC hb hlt h.c1, keepC hb hlt h.c2, keepC hb hlt h.c3, keepC hb hlt h.c4⟩
/-- Events as they lie in memory. -/
structure LE (w : World) (ao : Option Addr) (l : List M.Ev) : Prop where
  at' : 0 < l.length → ∃ b off, ao = some ⟨b, off, none⟩ ∧ b < w.heap.size ∧ ∀ j e, l[j]? = some e → E5 w b (off + j * 5) e
theorem LE.step {w w' : World} {ao : Option Addr} {l : List M.Ev} (h : LE w ao l) (hb : Below w.heap.size w w') : LE w' ao l := by
  refine ⟨fun hn => ?_⟩
  obtain ⟨b, off, h1, h2, h3⟩ := h.at' hn
  have := hb.size
  exact ⟨b, off, h1, by omega, fun j e hj => (h3 j e hj).keep h2 hb⟩

theorem isKind_any (k : Int) (w : World) : Calls Try.prog 37 #[.int .i64 k] w fun e w' => e = .returned (.bool (M.isK k)) ∧ w' = w := by
  by_cases h : k = 8 ∨ k = 9 ∨ k = 11 ∨ k = 12 ∨ k = 14
  · rw [M.isK_of h]
    rcases h with rfl | rfl | rfl | rfl | rfl
    all_goals
      go_enter Try.func37, Try.ntmps37
      go_wp2_with fail
      go_ret
      exact ⟨rfl, rfl⟩
  · have e : M.isK k = false := by
      cases hk : M.isK k
      · rfl
      · exact absurd (M.isK_cases hk) h
    rw [e]
    have h1 : (k == 8) = false := by simp; omega
    have h2 : (k == 9) = false := by simp; omega
    have h3 : (k == 11) = false := by simp; omega
    have h4 : (k == 12) = false := by simp; omega
    have h5 : (k == 14) = false := by simp; omega
    clear h e
    go_enter Try.func37, Try.ntmps37
    go_wp2_with fail
    go_ret
    exact ⟨rfl, rfl⟩
/-- It is from 0 to 127. -/
def M.ip (n : Int) : Bool := decide (0 ≤ n) && decide (n < 128)
theorem M.ip_is {n : Int} : M.ip n = true ↔ 0 ≤ n ∧ n ≤ 127 := by unfold M.ip; simp; omega
theorem isPart_any (n : Int) (w : World) : Calls Try.prog 38 #[.int .i64 n] w fun e w' => e = .returned (.bool (M.ip n)) ∧ w' = w := by
  have HE : Hid (M.ip n = (decide (0 ≤ n) && decide (n < 128))) := rfl
  generalize M.ip n = V at *
  by_cases c1 : n < 0
  · have hV : V = false := by rw [HE.out, decide_eq_false (by omega)]; rfl
    subst hV
    clear HE
    go_enter Try.func38, Try.ntmps38
    go_wp2_with fail
    go_ret
    exact ⟨rfl, rfl⟩
  · by_cases c2 : n < 128
    · have hV : V = true := by rw [HE.out, decide_eq_true (by omega), decide_eq_true c2]; rfl
      subst hV
      clear HE
      go_enter Try.func38, Try.ntmps38
      go_wp2_with fail
      go_ret
      exact ⟨rfl, rfl⟩
    · have hV : V = false := by rw [HE.out, decide_eq_false c2]; simp
      subst hV
      clear HE
      go_enter Try.func38, Try.ntmps38
      go_wp2_with fail
      go_ret
      exact ⟨rfl, rfl⟩
theorem hasB_any (k : Int) (w : World) : Calls Try.prog 39 #[.int .i64 k] w fun e w' => e = .returned (.bool (k != 12)) ∧ w' = w := by
  go_enter Try.func39, Try.ntmps39
  go_wp2_with fail
  go_ret
  exact ⟨rfl, rfl⟩
end Go.Proofs.Ytaohahahhjkcdah.Z
