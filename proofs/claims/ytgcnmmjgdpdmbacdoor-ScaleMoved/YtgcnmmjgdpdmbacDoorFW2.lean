/- What the program's and the document's tests of fractions, and lowest terms, come to. -/
import Derived.Test.YtgcnmmjgdpdmbacDoorFW1
import Derived.WalkSmall
namespace Go.Proofs.YtgcnmmjgdpdmbacDoor.F
open Go.RowKit

theorem bcell {W w1 : World} (hb : Below W.heap.size W w1) : (∀ b o, b < W.heap.size → w1.cell? ⟨b, o, none⟩ = W.cell? ⟨b, o, none⟩) ∧ (∀ b o, b < W.heap.size → w1.frozen? ⟨b, o, none⟩ = W.frozen? ⟨b, o, none⟩) :=
  ⟨fun b o h => hb.cell (p := ⟨b, o, none⟩) h, fun b o h => hb.frozen (p := ⟨b, o, none⟩) h⟩

theorem keepC {B : Nat} {W w1 : World} (hb : Below B W w1) {b o : Nat} {v : Value} (hlt : b < B) (h : W.cell? ⟨b, o, none⟩ = some v) : w1.cell? ⟨b, o, none⟩ = some v :=
  (hb.cell (p := ⟨b, o, none⟩) hlt).trans h
theorem keepF {B : Nat} {W w1 : World} (hb : Below B W w1) {b o : Nat} {v : Bool} (hlt : b < B) (h : W.frozen? ⟨b, o, none⟩ = v) : w1.frozen? ⟨b, o, none⟩ = v :=
  (hb.frozen (p := ⟨b, o, none⟩) hlt).trans h

theorem ret_bool {a b : Bool} (h : a = b) : Ending.returned (.bool a) = .returned (.bool b) := by rw [h]

theorem bounded_any (u d : Int) (w : World) :
    Calls Tryd.prog 57 #[.agg #[.int .i64 u, .int .i64 d]] w fun e w' => e = .returned (.bool (M.bd u d)) ∧ Below w.heap.size w w' := by
  have hb : M.bd u d = decide (-1073741824 ≤ u ∧ u ≤ 1073741824 ∧ 1 ≤ d ∧ d ≤ 1073741824) := rfl
  have HB : Hid (M.bd u d = decide (-1073741824 ≤ u ∧ u ≤ 1073741824 ∧ 1 ≤ d ∧ d ≤ 1073741824)) := hb
  clear hb
  by_cases c1 : -1073741824 ≤ u
  · by_cases c2 : u ≤ 1073741824
    · by_cases c3 : 1 ≤ d
      · by_cases c4 : d ≤ 1073741824
        · go_enter Tryd.func57, Tryd.ntmps57
          go_wp2
          go_ret
          exact ⟨ret_bool (by rw [HB.out]; simp; omega), (Below.refl _ _).alloc (Nat.le_refl _) _⟩
        · go_enter Tryd.func57, Tryd.ntmps57
          go_wp2
          go_ret
          exact ⟨ret_bool (by rw [HB.out]; simp; omega), (Below.refl _ _).alloc (Nat.le_refl _) _⟩
      · go_enter Tryd.func57, Tryd.ntmps57
        go_wp2
        go_ret
        exact ⟨ret_bool (by rw [HB.out]; simp; omega), (Below.refl _ _).alloc (Nat.le_refl _) _⟩
    · go_enter Tryd.func57, Tryd.ntmps57
      go_wp2
      go_ret
      exact ⟨ret_bool (by rw [HB.out]; simp; omega), (Below.refl _ _).alloc (Nat.le_refl _) _⟩
  · go_enter Tryd.func57, Tryd.ntmps57
    go_wp2
    go_ret
    exact ⟨ret_bool (by rw [HB.out]; simp; omega), (Below.refl _ _).alloc (Nat.le_refl _) _⟩

set_option maxHeartbeats 400000 in
theorem lowest_yes (u d : Int) (w : World) (h1 : -9223372036854775808 ≤ u) (h2 : u ≤ 9223372036854775807) (h3 : 1 ≤ d) (h4 : d ≤ 9223372036854775807) (hb : M.bd (M.lu u d) (M.ld u d) = true) :
    Calls Tryd.prog 53 #[.int .i64 u, .int .i64 d] w fun e w' => e = .returned (.tuple #[.agg #[.int .i64 (M.lu u d), .int .i64 (M.ld u d)], .int .i64 0]) ∧ Below w.heap.size w w' := by
  go_enter Tryd.func53, Tryd.ntmps53
  go_wp2_with fail
  refine (divisor_any _ _ _ (by omega) (by omega) (by omega) (by omega)).mono ?_
  rintro e w1 ⟨rfl, hb1⟩
  have hg1 := M.gi_pos u d h3
  have hg2 := M.gi_le u d h3
  have hg3 : (M.gi u d == 0) = false := by simp; omega
  have hz := hb1.size
  simp at hz
  have c0 : w1.cell? ⟨w.heap.size, 0, none⟩ = some (.int .i64 0) := keepC hb1 (by simp) (by simp)
  have c1 : w1.cell? ⟨w.heap.size, 1, none⟩ = some (.int .i64 0) := keepC hb1 (by simp) (by simp)
  have f0 : w1.frozen? ⟨w.heap.size, 0, none⟩ = false := keepF hb1 (by simp) (by simp)
  have f1 : w1.frozen? ⟨w.heap.size, 1, none⟩ = false := keepF hb1 (by simp) (by simp)
  go_wp2
  go_region
  go_wp2_with fail
  rw [show u.tdiv (M.gi u d) = M.lu u d from rfl, show d / M.gi u d = M.ld u d from rfl]
  refine (bounded_any _ _ _).mono ?_
  rintro e w2 ⟨rfl, hb2⟩
  rw [hb]
  have hz2 := hb2.size
  simp at hz2
  have d0 : w2.cell? ⟨w1.heap.size, 0, none⟩ = some (.int .i64 (M.lu u d)) := keepC hb2 (by simp) (by simp)
  have d1 : w2.cell? ⟨w1.heap.size, 1, none⟩ = some (.int .i64 (M.ld u d)) := keepC hb2 (by simp) (by simp)
  have hb12 : Below w1.heap.size w1 w2 := ((Below.refl _ _).alloc (Nat.le_refl _) _).drew.trans (hb2.mono (by simp))
  replace c0 := keepC hb12 (by omega) c0
  replace c1 := keepC hb12 (by omega) c1
  replace f0 := keepF hb12 (by omega) f0
  replace f1 := keepF hb12 (by omega) f1
  go_wp2
  refine bodyPost_ret (v := .tuple #[.agg #[.int .i64 (M.lu u d), .int .i64 (M.ld u d)], .int .i64 0]) (by simp [results, Tryd.results53, go_sem, c0, c1]) rfl ⟨rfl, ?_⟩
  exact ((((Below.refl w.heap.size w).alloc (Nat.le_refl _) _).trans (hb1.mono (by simp))).trans (hb12.mono (by omega))).setCell (by simp) _ |>.setCell (by simp) _

set_option maxHeartbeats 400000 in
theorem lowest_no (u d : Int) (w : World) (h1 : -9223372036854775808 ≤ u) (h2 : u ≤ 9223372036854775807) (h3 : 1 ≤ d) (h4 : d ≤ 9223372036854775807) (hb : M.bd (M.lu u d) (M.ld u d) = false) :
    Calls Tryd.prog 53 #[.int .i64 u, .int .i64 d] w fun e w' => e = .returned (.tuple #[.agg #[.int .i64 0, .int .i64 0], .int .i64 4]) ∧ Below w.heap.size w w' := by
  go_enter Tryd.func53, Tryd.ntmps53
  go_wp2_with fail
  refine (divisor_any _ _ _ (by omega) (by omega) (by omega) (by omega)).mono ?_
  rintro e w1 ⟨rfl, hb1⟩
  have hg1 := M.gi_pos u d h3
  have hg2 := M.gi_le u d h3
  have hg3 : (M.gi u d == 0) = false := by simp; omega
  have hz := hb1.size
  simp at hz
  have c0 : w1.cell? ⟨w.heap.size, 0, none⟩ = some (.int .i64 0) := keepC hb1 (by simp) (by simp)
  have c1 : w1.cell? ⟨w.heap.size, 1, none⟩ = some (.int .i64 0) := keepC hb1 (by simp) (by simp)
  have f0 : w1.frozen? ⟨w.heap.size, 0, none⟩ = false := keepF hb1 (by simp) (by simp)
  have f1 : w1.frozen? ⟨w.heap.size, 1, none⟩ = false := keepF hb1 (by simp) (by simp)
  go_wp2
  go_region
  go_wp2_with fail
  rw [show u.tdiv (M.gi u d) = M.lu u d from rfl, show d / M.gi u d = M.ld u d from rfl]
  refine (bounded_any _ _ _).mono ?_
  rintro e w2 ⟨rfl, hb2⟩
  rw [hb]
  have hz2 := hb2.size
  simp at hz2
  have hb12 : Below w1.heap.size w1 w2 := ((Below.refl _ _).alloc (Nat.le_refl _) _).drew.trans (hb2.mono (by simp))
  replace c0 := keepC hb12 (by omega) c0
  replace c1 := keepC hb12 (by omega) c1
  replace f0 := keepF hb12 (by omega) f0
  replace f1 := keepF hb12 (by omega) f1
  go_wp2
  refine bodyPost_ret (v := .tuple #[.agg #[.int .i64 0, .int .i64 0], .int .i64 4]) (by simp [results, Tryd.results53, go_sem, c0, c1]) rfl ⟨rfl, ?_⟩
  exact ((((Below.refl w.heap.size w).alloc (Nat.le_refl _) _).trans (hb1.mono (by simp))).trans (hb12.mono (by omega))).setCell (by simp) _ |>.setCell (by simp) _

theorem lowest_any (u d : Int) (w : World) (h1 : -9223372036854775808 ≤ u) (h2 : u ≤ 9223372036854775807) (h3 : 1 ≤ d) (h4 : d ≤ 9223372036854775807) :
    Calls Tryd.prog 53 #[.int .i64 u, .int .i64 d] w fun e w' => e = .returned (.tuple #[.agg #[.int .i64 (M.up u d), .int .i64 (M.dn u d)], .int .i64 (M.er u d)]) ∧ Below w.heap.size w w' := by
  cases hb : M.bd (M.lu u d) (M.ld u d)
  · rw [M.up_no u d hb, M.dn_no u d hb, M.er_no u d hb]; exact lowest_no u d w h1 h2 h3 h4 hb
  · rw [M.up_yes u d hb, M.dn_yes u d hb, M.er_yes u d hb]; exact lowest_yes u d w h1 h2 h3 h4 hb

theorem Make_any (u d : Int) (w : World) (h1 : -9223372036854775808 ≤ u) (h2 : u ≤ 9223372036854775807) (h4 : d ≤ 9223372036854775807) :
    Calls Tryd.prog 35 #[.int .i64 u, .int .i64 d] w fun e w' => e = .returned (.tuple #[.agg #[.int .i64 (M.mu u d), .int .i64 (M.md u d)], .int .i64 (M.me u d)]) ∧ Below w.heap.size w w' := by
  by_cases h : d < 1
  · rw [M.mu_no u d h, M.md_no u d h, M.me_no u d h]
    go_enter Tryd.func35, Tryd.ntmps35
    go_wp2
    go_returns
    exact ⟨rfl, by go_grown⟩
  · have h3 : 1 ≤ d := by omega
    rw [M.mu_yes u d h3, M.md_yes u d h3, M.me_yes u d h3]
    go_enter Tryd.func35, Tryd.ntmps35
    go_wp2_with fail
    refine (lowest_any _ _ _ h1 h2 h3 h4).mono ?_
    rintro e w1 ⟨rfl, hb1⟩
    have c0 : w1.cell? ⟨w.heap.size, 0, none⟩ = some (.int .i64 0) := keepC hb1 (by simp) (by simp)
    have c1 : w1.cell? ⟨w.heap.size, 1, none⟩ = some (.int .i64 0) := keepC hb1 (by simp) (by simp)
    have f0 : w1.frozen? ⟨w.heap.size, 0, none⟩ = false := keepF hb1 (by simp) (by simp)
    have f1 : w1.frozen? ⟨w.heap.size, 1, none⟩ = false := keepF hb1 (by simp) (by simp)
    go_wp2
    refine bodyPost_ret (v := .tuple #[.agg #[.int .i64 (M.up u d), .int .i64 (M.dn u d)], .int .i64 (M.er u d)]) (by simp [results, Tryd.results35, go_sem, c0, c1]) rfl ⟨rfl, ?_⟩
    exact (((Below.refl w.heap.size w).alloc (Nat.le_refl _) _).trans (hb1.mono (by simp))).setCell (by simp) _ |>.setCell (by simp) _

theorem abs_q (n : Int) (w : World) (h0 : -9223372036854775807 ≤ n) (h : n ≤ 9223372036854775807) :
    Calls Tryd.prog 28 #[.int .i64 n] w fun e w' => e = .returned (.int .i64 (n.natAbs : Nat)) ∧ w' = w := (abs_any n w h0 h).mono fun _ _ ⟨a, b⟩ => ⟨a, b.symm⟩
theorem Divisor_q (a b : Int) (w : World) (h1 : 0 ≤ a) (h2 : a ≤ 9223372036854775807) (h3 : 1 ≤ b) (h4 : b ≤ 9223372036854775807) :
    Calls Tryd.prog 54 #[.int .i64 a, .int .i64 b] w fun e w' => e = .returned (.int .i64 (M.gi a b)) ∧ w' = w := (Divisor_all a b w h1 h2 h3 h4).mono fun _ _ ⟨a, b⟩ => ⟨a, b.symm⟩

end Go.Proofs.YtgcnmmjgdpdmbacDoor.F
