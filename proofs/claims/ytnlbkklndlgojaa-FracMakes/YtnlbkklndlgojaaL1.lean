/- The statement FracMakes: the walk of its text. -/
import Derived.Test.YtnlbkklndlgojaaW4
import Derived.Deep.RegionHeld3
import Derived.Deep.DrawnRows
namespace Go.Proofs.Ytnlbkklndlgojaa
open Go.RowKit
attribute [local go_sem ↓] Go.wp_at_zero Go.wp_at_succ

theorem hs_step {w W W' : World} {n0 n1 n2 : Nat} {v0 v1 v2 v3 v4 v5 : Value}
    (h : Below w.heap.size w W ∧ w.heap.size < W.heap.size ∧ n0 < W.heap.size ∧ n1 < W.heap.size ∧ n2 < W.heap.size ∧ W.cell? ⟨n0, 0, none⟩ = some v0 ∧ W.cell? ⟨n0, 1, none⟩ = some v1 ∧ W.cell? ⟨n1, 0, none⟩ = some v2 ∧ W.cell? ⟨n1, 1, none⟩ = some v3 ∧ W.cell? ⟨n2, 0, none⟩ = some v4 ∧ W.cell? ⟨n2, 1, none⟩ = some v5)
    (hb : Below W.heap.size W W') :
    Below w.heap.size w W' ∧ w.heap.size < W'.heap.size ∧ n0 < W'.heap.size ∧ n1 < W'.heap.size ∧ n2 < W'.heap.size ∧ W'.cell? ⟨n0, 0, none⟩ = some v0 ∧ W'.cell? ⟨n0, 1, none⟩ = some v1 ∧ W'.cell? ⟨n1, 0, none⟩ = some v2 ∧ W'.cell? ⟨n1, 1, none⟩ = some v3 ∧ W'.cell? ⟨n2, 0, none⟩ = some v4 ∧ W'.cell? ⟨n2, 1, none⟩ = some v5 := by
  obtain ⟨b, s, s0, s1, s2, c0, c1, c2, c3, c4, c5⟩ := h
  have z := hb.size
  exact ⟨b.trans (hb.mono (by omega)), by omega, by omega, by omega, by omega, keepC hb s0 c0, keepC hb s0 c1, keepC hb s1 c2, keepC hb s1 c3, keepC hb s2 c4, keepC hb s2 c5⟩

set_option maxHeartbeats 1000000 in
theorem makes_walk (x y u d : Int) (w : World) (x1 : -9223372036854775808 ≤ x) (x2 : x ≤ 9223372036854775807) (_y1 : -9223372036854775808 ≤ y) (y2 : y ≤ 9223372036854775807)
    (h1 : -9223372036854775808 ≤ u) (h2 : u ≤ 9223372036854775807) (h3 : -9223372036854775808 ≤ d) (h4 : d ≤ 9223372036854775807) :
    Calls Try.prog 3 #[.int .i64 x, .int .i64 y, .agg #[.int .i64 u, .int .i64 d]] w fun e w' => e = .returned (.bool true) ∧ Below w.heap.size w w' := by
  go_enter Try.func3, Try.ntmps3
  go_wp2_with fail
  refine (Make_any x y _ x1 x2 y2).mono ?_
  rintro e w1 ⟨rfl, hb1⟩
  have hz1 := hb1.size
  simp at hz1
  have f0 : w1.cell? ⟨w.heap.size, 0, none⟩ = some (.int .i64 u) := keepC hb1 (by simp) (by simp)
  have f1 : w1.cell? ⟨w.heap.size, 1, none⟩ = some (.int .i64 d) := keepC hb1 (by simp) (by simp)
  go_wp2_with fail
  refine (refMake_any x y _ x1 x2 y2).mono ?_
  rintro e w2 ⟨rfl, hb2⟩
  have hz2 := hb2.size
  simp at hz2
  have a0 : w2.cell? ⟨w1.heap.size, 0, none⟩ = some (.int .i64 (M.mu x y)) := keepC hb2 (by simp) (by simp)
  have a1 : w2.cell? ⟨w1.heap.size, 1, none⟩ = some (.int .i64 (M.md x y)) := keepC hb2 (by simp) (by simp)
  have hb12 : Below w1.heap.size w1 w2 := ((Below.refl _ _).alloc (Nat.le_refl _) _).trans (hb2.mono (by simp))
  replace f0 := keepC hb12 (by omega) f0
  replace f1 := keepC hb12 (by omega) f1
  go_wp2_with fail
  have hbw : Below w.heap.size w w2 := (((Below.refl w.heap.size w).alloc (Nat.le_refl _) _).trans (hb1.mono (by simp))).trans (hb12.mono (by omega))
  have hb3 : Below w2.heap.size w2 (w2.alloc (Obj.cells #[Value.int IntKind.i64 (M.mu x y), Value.int IntKind.i64 (M.md x y)] 23)).drew := by go_grown
  have hs0 : Hid (Below w.heap.size w (w2.alloc (Obj.cells #[Value.int IntKind.i64 (M.mu x y), Value.int IntKind.i64 (M.md x y)] 23)).drew) := hbw.trans (hb3.mono (by omega))
  have g0 := keepC hb3 (by omega) f0
  have g1 := keepC hb3 (by omega) f1
  have g2 := keepC hb3 (by omega) a0
  have g3 := keepC hb3 (by omega) a1
  go_region_held3 (fun w' => Below w.heap.size w w' ∧ w.heap.size < w'.heap.size ∧ w.heap.size < w'.heap.size ∧ w1.heap.size < w'.heap.size ∧ w2.heap.size < w'.heap.size ∧ w'.cell? ⟨w.heap.size, 0, none⟩ = some (.int .i64 u) ∧ w'.cell? ⟨w.heap.size, 1, none⟩ = some (.int .i64 d)
      ∧ w'.cell? ⟨w1.heap.size, 0, none⟩ = some (.int .i64 (M.mu x y)) ∧ w'.cell? ⟨w1.heap.size, 1, none⟩ = some (.int .i64 (M.md x y))
      ∧ w'.cell? ⟨w2.heap.size, 0, none⟩ = some (.int .i64 (M.mu x y)) ∧ w'.cell? ⟨w2.heap.size, 1, none⟩ = some (.int .i64 (M.md x y)))
    (first | exact ⟨hs0, by simp; omega, by simp; omega, by simp; omega, by simp, g0, g1, g2, g3, by simp, by simp⟩ | exact hs_step (by assumption) hbb | exact hs_step (by assumption) hba)
    (first
      | (go_at_call 9; refine (Right_any u d _ h1 h2 h3 h4).mono ?_; rintro e wa ⟨rfl, hba⟩)
      | (go_at_call 10; refine (refRight_any u d _ h1 h2 h3 h4).mono ?_; rintro e wb ⟨rfl, hbb⟩))
  go_wp2_with fail
  obtain ⟨kb, ks, _, _, _, k0, k1, _⟩ := ‹Below w.heap.size w wb ∧ _›
  clear g0 g1 g2 g3 hs0 hba hbb
  refine (Floor_any u d _ h1 h2 h3 h4).mono ?_
  rintro e w3 ⟨rfl, hb4⟩
  replace k0 := keepC hb4 ks k0
  replace k1 := keepC hb4 ks k1
  have z3 := hb4.size
  go_wp2_with fail
  refine (refFloor_any u d _ h1 h2 h3 h4).mono ?_
  rintro e w4 ⟨rfl, hb5⟩
  go_wp2
  go_ret
  exact ⟨rfl, (kb.trans (hb4.mono (by omega))).trans (hb5.mono (by omega))⟩
end Go.Proofs.Ytnlbkklndlgojaa
