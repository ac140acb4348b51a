/- What the program's small functions on pitches come to. -/
import Derived.Test.YtaohahahhjkcdaeGreatDoorRows
import Derived.Test.YtaohahahhjkcdaeGreatDoorSG1
import Derived.Test.YtaohahahhjkcdaeGreatDoorSG5
import Derived.Test.YtaohahahhjkcdaeGreatDoorSG2
import Derived.WalkKit
import Derived.Handy
import Derived.RegionTactic
import Derived.ChangeAlike
import Derived.Below
import Derived.Outline
import Derived.Deep.QuietTactic
import Derived.BigQuiet
import Derived.WalkSmall
namespace Go.Proofs.YtaohahahhjkcdaeGreatDoor
open Go.RowKit

theorem ret_int {k : IntKind} {a b : Int} (h : a = b) : Ending.returned (.int k a) = .returned (.int k b) := by rw [h]
theorem ret_bool {a b : Bool} (h : a = b) : Ending.returned (.bool a) = .returned (.bool b) := by rw [h]
theorem keepC {B : Nat} {W w1 : World} (hb : Below B W w1) {b o : Nat} {v : Value} (hlt : b < B) (h : W.cell? ⟨b, o, none⟩ = some v) : w1.cell? ⟨b, o, none⟩ = some v :=
  (hb.cell (p := ⟨b, o, none⟩) hlt).trans h
theorem keepF {B : Nat} {W w1 : World} (hb : Below B W w1) {b o : Nat} {v : Bool} (hlt : b < B) (h : W.frozen? ⟨b, o, none⟩ = v) : w1.frozen? ⟨b, o, none⟩ = v :=
  (hb.frozen (p := ⟨b, o, none⟩) hlt).trans h

/-- The table of half tones lies where the program lays it. -/
structure Tab (w : World) : Prop where
  sz : 5 < w.heap.size
  c0 : w.cell? ⟨5, 0, none⟩ = some (.int .i64 0)
  c1 : w.cell? ⟨5, 1, none⟩ = some (.int .i64 2)
  c2 : w.cell? ⟨5, 2, none⟩ = some (.int .i64 4)
  c3 : w.cell? ⟨5, 3, none⟩ = some (.int .i64 5)
  c4 : w.cell? ⟨5, 4, none⟩ = some (.int .i64 7)
  c5 : w.cell? ⟨5, 5, none⟩ = some (.int .i64 9)
  c6 : w.cell? ⟨5, 6, none⟩ = some (.int .i64 11)
theorem Tab.step {w w' : World} (h : Tab w) (hb : Below w.heap.size w w') : Tab w' :=
  ⟨by have := hb.size; have := h.sz; omega, keepC hb h.sz h.c0, keepC hb h.sz h.c1, keepC hb h.sz h.c2, keepC hb h.sz h.c3, keepC hb h.sz h.c4, keepC hb h.sz h.c5, keepC hb h.sz h.c6⟩

theorem within_any (n m : Int) (w : World) (h1 : 0 ≤ m) (h2 : m ≤ 100000) :
    Calls Tryz.prog 95 #[.int .i64 n, .int .i64 m] w fun e w' => e = .returned (.bool (M.wi n m)) ∧ w' = w := by
  by_cases c1 : -m ≤ n
  · by_cases c2 : n ≤ m
    all_goals
      go_enter Tryz.func95, Tryz.ntmps95
      go_wp2
      go_ret
      exact ⟨ret_bool (by unfold M.wi; simp; omega), rfl⟩
  · go_enter Tryz.func95, Tryz.ntmps95
    go_wp2
    go_ret
    exact ⟨ret_bool (by unfold M.wi; simp; omega), rfl⟩

theorem stepsOf_any (l a o : Int) (w : World) (h1 : 0 ≤ l) (h2 : l ≤ 6) (h5 : -1000 ≤ o) (h6 : o ≤ 1000) :
    Calls Tryz.prog 125 #[.agg #[.int .i64 l, .int .i64 a, .int .i64 o]] w fun e w' => e = .returned (.int .i64 (M.st l o)) ∧ Below w.heap.size w w' := by
  go_enter Tryz.func125, Tryz.ntmps125
  go_wp2
  go_ret
  exact ⟨ret_int rfl, by go_grown⟩

theorem halvesOf_any (l a o : Int) (w : World) (ht : Tab w) (h1 : 0 ≤ l) (h2 : l ≤ 6) (h3 : -100000 ≤ a) (h4 : a ≤ 100000) (h5 : -1000 ≤ o) (h6 : o ≤ 1000) :
    Calls Tryz.prog 117 #[.agg #[.int .i64 l, .int .i64 a, .int .i64 o]] w fun e w' => e = .returned (.int .i64 (M.hv l a o)) ∧ Below w.heap.size w w' := by
  obtain ⟨sz, c0, c1, c2, c3, c4, c5, c6⟩ := ht
  rcases (show l = 0 ∨ l = 1 ∨ l = 2 ∨ l = 3 ∨ l = 4 ∨ l = 5 ∨ l = 6 by omega) with rfl | rfl | rfl | rfl | rfl | rfl | rfl
  all_goals
    go_enter Tryz.func117, Tryz.ntmps117
    go_wp2
    go_region
    go_wp2
    go_ret
    exact ⟨ret_int (by simp [M.hv, M.ab]), by go_grown⟩


theorem Right_any (l a o : Int) (w : World) :
    Calls Tryz.prog 77 #[.agg #[.int .i64 l, .int .i64 a, .int .i64 o]] w fun e w' => e = .returned (.bool (M.rt l a o)) ∧ Below w.heap.size w w' := by
  rw [M.rt_wi]
  by_cases c1 : 0 ≤ l
  · by_cases c2 : l < 7
    · rw [show decide (0 ≤ l) = true by simp [c1], show decide (l < 7) = true by simp [c2]]
      cases ha : M.wi a 3
      all_goals cases ho : M.wi o 12
      all_goals
        go_enter Tryz.func77, Tryz.ntmps77
        go_wp2_with (go_at_call 95; refine (within_any _ _ _ (by omega) (by omega)).mono ?_; rintro e w1 ⟨rfl, rfl⟩; simp only [ha, ho])
        go_ret
        exact ⟨rfl, by go_grown⟩
    · rw [show decide (0 ≤ l) = true by simp [c1], show decide (l < 7) = false by simp; omega]
      go_enter Tryz.func77, Tryz.ntmps77
      go_wp2_with fail
      go_ret
      exact ⟨rfl, by go_grown⟩
  · rw [show decide (0 ≤ l) = false by simp; omega]
    go_enter Tryz.func77, Tryz.ntmps77
    go_wp2_with fail
    go_ret
    exact ⟨rfl, by go_grown⟩

theorem bounded_any (s h : Int) (w : World) :
    Calls Tryz.prog 79 #[.agg #[.int .i64 s, .int .i64 h]] w fun e w' => e = .returned (.bool (M.inb s h)) ∧ Below w.heap.size w w' := by
  rw [M.inb_wi]
  cases ha : M.wi s 200
  all_goals cases ho : M.wi h 4096
  all_goals
    go_enter Tryz.func79, Tryz.ntmps79
    go_wp2_with (go_at_call 95; refine (within_any _ _ _ (by omega) (by omega)).mono ?_; rintro e w1 ⟨rfl, rfl⟩; simp only [ha, ho])
    go_ret
    exact ⟨rfl, by go_grown⟩

theorem plainAt_any (s : Int) (w : World) (h1 : -100000 ≤ s) (h2 : s ≤ 100000) :
    Calls Tryz.prog 118 #[.int .i64 s] w fun e w' => e = .returned (.agg #[.int .i64 (s % 7), .int .i64 0, .int .i64 (s / 7)]) ∧ Below w.heap.size w w' := by
  have hb := M.tmod7_bd s
  have e1 := M.letter7 s
  have e2 := M.octave7 s
  go_enter Tryz.func118, Tryz.ntmps118
  go_wp2
  go_returns
  exact ⟨rfl, by go_grown⟩

end Go.Proofs.YtaohahahhjkcdaeGreatDoor

/- What the program's and the document's tests of fractions, and lowest terms, come to. -/
namespace Go.Proofs.YtaohahahhjkcdaeGreatDoor.F
open Go.RowKit

theorem bcell {W w1 : World} (hb : Below W.heap.size W w1) : (∀ b o, b < W.heap.size → w1.cell? ⟨b, o, none⟩ = W.cell? ⟨b, o, none⟩) ∧ (∀ b o, b < W.heap.size → w1.frozen? ⟨b, o, none⟩ = W.frozen? ⟨b, o, none⟩) :=
  ⟨fun b o h => hb.cell (p := ⟨b, o, none⟩) h, fun b o h => hb.frozen (p := ⟨b, o, none⟩) h⟩

theorem keepC {B : Nat} {W w1 : World} (hb : Below B W w1) {b o : Nat} {v : Value} (hlt : b < B) (h : W.cell? ⟨b, o, none⟩ = some v) : w1.cell? ⟨b, o, none⟩ = some v :=
  (hb.cell (p := ⟨b, o, none⟩) hlt).trans h
theorem keepF {B : Nat} {W w1 : World} (hb : Below B W w1) {b o : Nat} {v : Bool} (hlt : b < B) (h : W.frozen? ⟨b, o, none⟩ = v) : w1.frozen? ⟨b, o, none⟩ = v :=
  (hb.frozen (p := ⟨b, o, none⟩) hlt).trans h

theorem ret_bool {a b : Bool} (h : a = b) : Ending.returned (.bool a) = .returned (.bool b) := by rw [h]

theorem bounded_any (u d : Int) (w : World) :
    Calls Tryz.prog 47 #[.agg #[.int .i64 u, .int .i64 d]] w fun e w' => e = .returned (.bool (M.bd u d)) ∧ Below w.heap.size w w' := by
  have hb : M.bd u d = decide (-1073741824 ≤ u ∧ u ≤ 1073741824 ∧ 1 ≤ d ∧ d ≤ 1073741824) := rfl
  have HB : Hid (M.bd u d = decide (-1073741824 ≤ u ∧ u ≤ 1073741824 ∧ 1 ≤ d ∧ d ≤ 1073741824)) := hb
  clear hb
  by_cases c1 : -1073741824 ≤ u
  · by_cases c2 : u ≤ 1073741824
    · by_cases c3 : 1 ≤ d
      · by_cases c4 : d ≤ 1073741824
        · go_enter Tryz.func47, Tryz.ntmps47
          go_wp2
          go_ret
          exact ⟨ret_bool (by rw [HB.out]; simp; omega), (Below.refl _ _).alloc (Nat.le_refl _) _⟩
        · go_enter Tryz.func47, Tryz.ntmps47
          go_wp2
          go_ret
          exact ⟨ret_bool (by rw [HB.out]; simp; omega), (Below.refl _ _).alloc (Nat.le_refl _) _⟩
      · go_enter Tryz.func47, Tryz.ntmps47
        go_wp2
        go_ret
        exact ⟨ret_bool (by rw [HB.out]; simp; omega), (Below.refl _ _).alloc (Nat.le_refl _) _⟩
    · go_enter Tryz.func47, Tryz.ntmps47
      go_wp2
      go_ret
      exact ⟨ret_bool (by rw [HB.out]; simp; omega), (Below.refl _ _).alloc (Nat.le_refl _) _⟩
  · go_enter Tryz.func47, Tryz.ntmps47
    go_wp2
    go_ret
    exact ⟨ret_bool (by rw [HB.out]; simp; omega), (Below.refl _ _).alloc (Nat.le_refl _) _⟩

theorem Right_any (u d : Int) (w : World) (h1 : -9223372036854775808 ≤ u) (h2 : u ≤ 9223372036854775807) (_h3 : -9223372036854775808 ≤ d) (h4 : d ≤ 9223372036854775807) :
    Calls Tryz.prog 50 #[.agg #[.int .i64 u, .int .i64 d]] w fun e w' => e = .returned (.bool (M.ok u d)) ∧ Below w.heap.size w w' := by
  cases hb : M.bd u d
  · have ho := M.ok_no u d hb
    go_enter Tryz.func50, Tryz.ntmps50
    go_wp2_with fail
    refine (bounded_any _ _ _).mono ?_
    rintro e w1 ⟨rfl, hb1⟩
    rw [hb]
    go_wp2
    go_ret
    exact ⟨ret_bool ho.symm, ((Below.refl _ _).alloc (Nat.le_refl _) _).trans (hb1.mono (by simp))⟩
  · have ho := M.ok_bd u d hb
    have HO : Hid (M.ok u d = (M.gi u d == 1)) := ho
    clear ho
    have hbb := M.bd_yes u d hb
    go_enter Tryz.func50, Tryz.ntmps50
    go_wp2_with fail
    refine (bounded_any _ _ _).mono ?_
    rintro e w1 ⟨rfl, hb1⟩
    rw [hb]
    obtain ⟨hc, hf⟩ := bcell hb1
    go_wp2_with fail
    refine (divisor_any _ _ _ (by omega) (by omega) (by omega) (by omega)).mono ?_
    rintro e w2 ⟨rfl, hb2⟩
    go_wp2
    go_ret
    exact ⟨ret_bool HO.out.symm, (((Below.refl _ _).alloc (Nat.le_refl _) _).trans (hb1.mono (by simp))).trans (hb2.mono (by have := hb1.size; simp at this; omega))⟩

/-- The test of two. -/
theorem bothRight_any (a b c d : Int) (w : World) (h1 : -9223372036854775808 ≤ a) (h2 : a ≤ 9223372036854775807) (h3 : -9223372036854775808 ≤ b) (h4 : b ≤ 9223372036854775807) (h5 : -9223372036854775808 ≤ c) (h6 : c ≤ 9223372036854775807) (h7 : -9223372036854775808 ≤ d) (h8 : d ≤ 9223372036854775807) :
    Calls Tryz.prog 38 #[.agg #[.int .i64 a, .int .i64 b], .agg #[.int .i64 c, .int .i64 d]] w fun e w' => e = .returned (.bool (M.ok a b && M.ok c d)) ∧ Below w.heap.size w w' := by
  cases hb : M.ok a b
  · go_enter Tryz.func38, Tryz.ntmps38
    go_wp2_with fail
    refine (Right_any _ _ _ h1 h2 h3 h4).mono ?_
    rintro e w1 ⟨rfl, hb1⟩
    rw [hb]
    go_wp2
    go_ret
    exact ⟨rfl, (((Below.refl _ _).alloc (Nat.le_refl _) _).alloc (by simp) _).trans (hb1.mono (by simp; omega))⟩
  · go_enter Tryz.func38, Tryz.ntmps38
    go_wp2_with fail
    refine (Right_any _ _ _ h1 h2 h3 h4).mono ?_
    rintro e w1 ⟨rfl, hb1⟩
    rw [hb]
    obtain ⟨hc, hf⟩ := bcell hb1
    go_wp2_with fail
    refine (Right_any _ _ _ h5 h6 h7 h8).mono ?_
    rintro e w2 ⟨rfl, hb2⟩
    go_wp2
    go_ret
    exact ⟨rfl, ((((Below.refl _ _).alloc (Nat.le_refl _) _).alloc (by simp) _).trans (hb1.mono (by simp; omega))).trans (hb2.mono (by have := hb1.size; simp at this; omega))⟩

set_option maxHeartbeats 400000 in
theorem lowest_yes (u d : Int) (w : World) (h1 : -9223372036854775808 ≤ u) (h2 : u ≤ 9223372036854775807) (h3 : 1 ≤ d) (h4 : d ≤ 9223372036854775807) (hb : M.bd (M.lu u d) (M.ld u d) = true) :
    Calls Tryz.prog 31 #[.int .i64 u, .int .i64 d] w fun e w' => e = .returned (.tuple #[.agg #[.int .i64 (M.lu u d), .int .i64 (M.ld u d)], .int .i64 0]) ∧ Below w.heap.size w w' := by
  go_enter Tryz.func31, Tryz.ntmps31
  go_wp2_with fail
  refine (divisor_any _ _ _ (by omega) (by omega) (by omega) (by omega)).mono ?_
  rintro e w1 ⟨rfl, hb1⟩
  have hg1 := M.gi_pos u d h3
  have hg2 := M.gi_le u d h3
  have hg3 : (M.gi u d == 0) = false := by simp; omega
  have hz := hb1.size
  simp at hz
  have c0 : w1.cell? ⟨w.heap.size, 0, none⟩ = some (.int .i64 0) := keepC hb1 (by simp) (by simp)
  have c1 : w1.cell? ⟨w.heap.size, 1, none⟩ = some (.int .i64 0) := keepC hb1 (by simp) (by simp)
  have f0 : w1.frozen? ⟨w.heap.size, 0, none⟩ = false := keepF hb1 (by simp) (by simp)
  have f1 : w1.frozen? ⟨w.heap.size, 1, none⟩ = false := keepF hb1 (by simp) (by simp)
  go_wp2
  go_region
  go_wp2_with fail
  rw [show u.tdiv (M.gi u d) = M.lu u d from rfl, show d / M.gi u d = M.ld u d from rfl]
  refine (bounded_any _ _ _).mono ?_
  rintro e w2 ⟨rfl, hb2⟩
  rw [hb]
  have hz2 := hb2.size
  simp at hz2
  have d0 : w2.cell? ⟨w1.heap.size, 0, none⟩ = some (.int .i64 (M.lu u d)) := keepC hb2 (by simp) (by simp)
  have d1 : w2.cell? ⟨w1.heap.size, 1, none⟩ = some (.int .i64 (M.ld u d)) := keepC hb2 (by simp) (by simp)
  have hb12 : Below w1.heap.size w1 w2 := ((Below.refl _ _).alloc (Nat.le_refl _) _).drew.trans (hb2.mono (by simp))
  replace c0 := keepC hb12 (by omega) c0
  replace c1 := keepC hb12 (by omega) c1
  replace f0 := keepF hb12 (by omega) f0
  replace f1 := keepF hb12 (by omega) f1
  go_wp2
  refine bodyPost_ret (v := .tuple #[.agg #[.int .i64 (M.lu u d), .int .i64 (M.ld u d)], .int .i64 0]) (by simp [results, Tryz.results31, go_sem, c0, c1]) rfl ⟨rfl, ?_⟩
  exact ((((Below.refl w.heap.size w).alloc (Nat.le_refl _) _).trans (hb1.mono (by simp))).trans (hb12.mono (by omega))).setCell (by simp) _ |>.setCell (by simp) _

set_option maxHeartbeats 400000 in
theorem lowest_no (u d : Int) (w : World) (h1 : -9223372036854775808 ≤ u) (h2 : u ≤ 9223372036854775807) (h3 : 1 ≤ d) (h4 : d ≤ 9223372036854775807) (hb : M.bd (M.lu u d) (M.ld u d) = false) :
    Calls Tryz.prog 31 #[.int .i64 u, .int .i64 d] w fun e w' => e = .returned (.tuple #[.agg #[.int .i64 0, .int .i64 0], .int .i64 4]) ∧ Below w.heap.size w w' := by
  go_enter Tryz.func31, Tryz.ntmps31
  go_wp2_with fail
  refine (divisor_any _ _ _ (by omega) (by omega) (by omega) (by omega)).mono ?_
  rintro e w1 ⟨rfl, hb1⟩
  have hg1 := M.gi_pos u d h3
  have hg2 := M.gi_le u d h3
  have hg3 : (M.gi u d == 0) = false := by simp; omega
  have hz := hb1.size
  simp at hz
  have c0 : w1.cell? ⟨w.heap.size, 0, none⟩ = some (.int .i64 0) := keepC hb1 (by simp) (by simp)
  have c1 : w1.cell? ⟨w.heap.size, 1, none⟩ = some (.int .i64 0) := keepC hb1 (by simp) (by simp)
  have f0 : w1.frozen? ⟨w.heap.size, 0, none⟩ = false := keepF hb1 (by simp) (by simp)
  have f1 : w1.frozen? ⟨w.heap.size, 1, none⟩ = false := keepF hb1 (by simp) (by simp)
  go_wp2
  go_region
  go_wp2_with fail
  rw [show u.tdiv (M.gi u d) = M.lu u d from rfl, show d / M.gi u d = M.ld u d from rfl]
  refine (bounded_any _ _ _).mono ?_
  rintro e w2 ⟨rfl, hb2⟩
  rw [hb]
  have hz2 := hb2.size
  simp at hz2
  have hb12 : Below w1.heap.size w1 w2 := ((Below.refl _ _).alloc (Nat.le_refl _) _).drew.trans (hb2.mono (by simp))
  replace c0 := keepC hb12 (by omega) c0
  replace c1 := keepC hb12 (by omega) c1
  replace f0 := keepF hb12 (by omega) f0
  replace f1 := keepF hb12 (by omega) f1
  go_wp2
  refine bodyPost_ret (v := .tuple #[.agg #[.int .i64 0, .int .i64 0], .int .i64 4]) (by simp [results, Tryz.results31, go_sem, c0, c1]) rfl ⟨rfl, ?_⟩
  exact ((((Below.refl w.heap.size w).alloc (Nat.le_refl _) _).trans (hb1.mono (by simp))).trans (hb12.mono (by omega))).setCell (by simp) _ |>.setCell (by simp) _

theorem lowest_any (u d : Int) (w : World) (h1 : -9223372036854775808 ≤ u) (h2 : u ≤ 9223372036854775807) (h3 : 1 ≤ d) (h4 : d ≤ 9223372036854775807) :
    Calls Tryz.prog 31 #[.int .i64 u, .int .i64 d] w fun e w' => e = .returned (.tuple #[.agg #[.int .i64 (M.up u d), .int .i64 (M.dn u d)], .int .i64 (M.er u d)]) ∧ Below w.heap.size w w' := by
  cases hb : M.bd (M.lu u d) (M.ld u d)
  · rw [M.up_no u d hb, M.dn_no u d hb, M.er_no u d hb]; exact lowest_no u d w h1 h2 h3 h4 hb
  · rw [M.up_yes u d hb, M.dn_yes u d hb, M.er_yes u d hb]; exact lowest_yes u d w h1 h2 h3 h4 hb

theorem Make_any (u d : Int) (w : World) (h1 : -9223372036854775808 ≤ u) (h2 : u ≤ 9223372036854775807) (h4 : d ≤ 9223372036854775807) :
    Calls Tryz.prog 20 #[.int .i64 u, .int .i64 d] w fun e w' => e = .returned (.tuple #[.agg #[.int .i64 (M.mu u d), .int .i64 (M.md u d)], .int .i64 (M.me u d)]) ∧ Below w.heap.size w w' := by
  by_cases h : d < 1
  · rw [M.mu_no u d h, M.md_no u d h, M.me_no u d h]
    go_enter Tryz.func20, Tryz.ntmps20
    go_wp2
    go_returns
    exact ⟨rfl, by go_grown⟩
  · have h3 : 1 ≤ d := by omega
    rw [M.mu_yes u d h3, M.md_yes u d h3, M.me_yes u d h3]
    go_enter Tryz.func20, Tryz.ntmps20
    go_wp2_with fail
    refine (lowest_any _ _ _ h1 h2 h3 h4).mono ?_
    rintro e w1 ⟨rfl, hb1⟩
    have c0 : w1.cell? ⟨w.heap.size, 0, none⟩ = some (.int .i64 0) := keepC hb1 (by simp) (by simp)
    have c1 : w1.cell? ⟨w.heap.size, 1, none⟩ = some (.int .i64 0) := keepC hb1 (by simp) (by simp)
    have f0 : w1.frozen? ⟨w.heap.size, 0, none⟩ = false := keepF hb1 (by simp) (by simp)
    have f1 : w1.frozen? ⟨w.heap.size, 1, none⟩ = false := keepF hb1 (by simp) (by simp)
    go_wp2
    refine bodyPost_ret (v := .tuple #[.agg #[.int .i64 (M.up u d), .int .i64 (M.dn u d)], .int .i64 (M.er u d)]) (by simp [results, Tryz.results20, go_sem, c0, c1]) rfl ⟨rfl, ?_⟩
    exact (((Below.refl w.heap.size w).alloc (Nat.le_refl _) _).trans (hb1.mono (by simp))).setCell (by simp) _ |>.setCell (by simp) _

theorem abs_q (n : Int) (w : World) (h0 : -9223372036854775807 ≤ n) (h : n ≤ 9223372036854775807) :
    Calls Tryz.prog 15 #[.int .i64 n] w fun e w' => e = .returned (.int .i64 (n.natAbs : Nat)) ∧ w' = w := (abs_any n w h0 h).mono fun _ _ ⟨a, b⟩ => ⟨a, b.symm⟩
theorem Divisor_q (a b : Int) (w : World) (h1 : 0 ≤ a) (h2 : a ≤ 9223372036854775807) (h3 : 1 ≤ b) (h4 : b ≤ 9223372036854775807) :
    Calls Tryz.prog 14 #[.int .i64 a, .int .i64 b] w fun e w' => e = .returned (.int .i64 (M.gi a b)) ∧ w' = w := (Divisor_all a b w h1 h2 h3 h4).mono fun _ _ ⟨a, b⟩ => ⟨a, b.symm⟩

set_option maxHeartbeats 400000 in
theorem refRight_any (u d : Int) (w : World) (_h1 : -9223372036854775808 ≤ u) (_h2 : u ≤ 9223372036854775807) (_h3 : -9223372036854775808 ≤ d) (_h4 : d ≤ 9223372036854775807) :
    Calls Tryz.prog 16 #[.agg #[.int .i64 u, .int .i64 d]] w fun e w' => e = .returned (.bool (M.ok u d)) ∧ Below w.heap.size w w' := by
  cases hb : M.bd u d
  · have ho := M.ok_no u d hb
    have hbb := M.bd_no u d hb
    rw [ho]
    by_cases c1 : 0 < d
    · by_cases c2 : d ≤ 1073741824
      · by_cases c3 : u ≤ 1073741824
        · have e4 : decide (-1073741824 ≤ u) = false := by simp; omega
          clear hbb
          go_enter Tryz.func16, Tryz.ntmps16
          go_wp2_with fail
          go_quiet (fail)
          go_wp2
          go_ret
          exact ⟨rfl, below_drewN ((Below.refl _ _).alloc (Nat.le_refl _) _) _⟩
        · have e3 : decide (u ≤ 1073741824) = false := by simp; omega
          clear hbb
          go_enter Tryz.func16, Tryz.ntmps16
          go_wp2_with fail
          go_quiet (fail)
          go_wp2
          go_ret
          exact ⟨rfl, below_drewN ((Below.refl _ _).alloc (Nat.le_refl _) _) _⟩
      · have e3 : decide (d ≤ 1073741824) = false := by simp; omega
        clear hbb
        go_enter Tryz.func16, Tryz.ntmps16
        go_wp2_with fail
        go_quiet (fail)
        go_wp2
        go_ret
        exact ⟨rfl, below_drewN ((Below.refl _ _).alloc (Nat.le_refl _) _) _⟩
    · have e3 : decide (0 < d) = false := by simp; omega
      clear hbb
      go_enter Tryz.func16, Tryz.ntmps16
      go_wp2_with fail
      go_quiet (fail)
      go_wp2
      go_ret
      exact ⟨rfl, below_drewN ((Below.refl _ _).alloc (Nat.le_refl _) _) _⟩
  · have ho := M.ok_bd u d hb
    have HO : Hid (M.ok u d = (M.gi (u.natAbs : Nat) d == 1)) := by show _ = _; rw [M.gi_abs]; exact ho
    clear ho
    have hbb := M.bd_yes u d hb
    obtain ⟨b1, b2, b3, b4⟩ := hbb
    have b5 : 0 < d := by omega
    go_enter Tryz.func16, Tryz.ntmps16
    go_wp2_with fail
    go_quiet (first | (go_at_call 15; exact Calls.quiet_of_same (abs_q _ _ (by omega) (by omega))) | (go_at_call 14; exact Calls.quiet_of_same (Divisor_q _ _ _ (by omega) (by omega) (by omega) (by omega))))
    go_wp2
    go_ret
    exact ⟨ret_bool HO.out.symm, below_drewN ((Below.refl _ _).alloc (Nat.le_refl _) _) _⟩
end Go.Proofs.YtaohahahhjkcdaeGreatDoor.F

/- What the document's Make and both Floors come to. -/
namespace Go.Proofs.YtaohahahhjkcdaeGreatDoor.F
open Go.RowKit

theorem ret_two {k l : IntKind} {a b c d : Int} (h : a = b) (h' : c = d) : Ending.returned (.tuple #[.int k a, .int l c]) = .returned (.tuple #[.int k b, .int l d]) := by rw [h, h']

set_option maxHeartbeats 400000 in
theorem refMake_no (u d : Int) (w : World) (h : d < 1) :
    Calls Tryz.prog 7 #[.int .i64 u, .int .i64 d] w fun e w' => e = .returned (.tuple #[.agg #[.int .i64 (M.mu u d), .int .i64 (M.md u d)], .int .i64 (M.me u d)]) ∧ Below w.heap.size w w' := by
  rw [M.mu_no u d h, M.md_no u d h, M.me_no u d h]
  go_enter Tryz.func7, Tryz.ntmps7
  go_wp2
  go_returns
  exact ⟨rfl, by go_grown⟩

set_option maxHeartbeats 400000 in
theorem refMake_mid (u d : Int) (w : World) (h1 : -9223372036854775807 ≤ u) (h2 : u ≤ 9223372036854775807) (h3 : 1 ≤ d) (h4 : d ≤ 9223372036854775807) :
    Calls Tryz.prog 7 #[.int .i64 u, .int .i64 d] w fun e w' => e = .returned (.tuple #[.agg #[.int .i64 (M.up u d), .int .i64 (M.dn u d)], .int .i64 (M.er u d)]) ∧ Below w.heap.size w w' := by
  have hd0 : ¬ d < 1 := by omega
  have hg := M.gi_pos u d h3
  have hg0 : (M.gi u d == 0) = false := by simp; omega
  have hz : ((u == -u) = true ∧ (u != 0) = false) ∨ ((u == -u) = false) := by
    by_cases hu : u = 0
    · left; subst hu; exact ⟨rfl, rfl⟩
    · right; simp; omega
  have la := M.lu_abs u d
  have lb1 : -9223372036854775807 ≤ M.lu u d := by omega
  have lb2 : M.lu u d ≤ 9223372036854775807 := by omega
  clear la
  have hld := M.ld_pos u d h3
  cases hb : M.bd (M.lu u d) (M.ld u d)
  · rw [M.up_no u d hb, M.dn_no u d hb, M.er_no u d hb]
    have hbb := M.bd_no _ _ hb
    have hs : (1073741824 < ((M.lu u d).natAbs : Int)) ∨ (¬ 1073741824 < ((M.lu u d).natAbs : Int) ∧ 1073741824 < d / M.gi u d) := by
      change _ ∨ (_ ∧ 1073741824 < M.ld u d)
      omega
    clear hbb hld
    rcases hz with ⟨hz1, hz2⟩ | hz1
    all_goals
      rcases hs with hs1 | ⟨hs1, hs2⟩
      all_goals
        go_enter Tryz.func7, Tryz.ntmps7
        go_wp2_with fail
        refine (abs_any _ _ h1 h2).mono ?_
        rintro e w1 ⟨rfl, rfl⟩
        go_wp2_with fail
        refine (Divisor_all _ _ _ (by omega) (by omega) h3 h4).mono ?_
        rintro e w1 ⟨rfl, rfl⟩
        rw [M.gi_abs]
        go_wp2_with fail
        rw [show u.tdiv (M.gi u d) = M.lu u d from rfl]
        refine (abs_any _ _ lb1 lb2).mono ?_
        rintro e w1 ⟨rfl, rfl⟩
        go_wp2
        go_returns
        exact ⟨rfl, by go_grown⟩
  · rw [M.up_yes u d hb, M.dn_yes u d hb, M.er_yes u d hb]
    have hbb := M.bd_yes _ _ hb
    have hs1 : ¬ 1073741824 < ((M.lu u d).natAbs : Int) := by omega
    have hs2 : ¬ 1073741824 < d / M.gi u d := by change ¬ 1073741824 < M.ld u d; omega
    clear hbb hld
    rcases hz with ⟨hz1, hz2⟩ | hz1
    all_goals
      go_enter Tryz.func7, Tryz.ntmps7
      go_wp2_with fail
      refine (abs_any _ _ h1 h2).mono ?_
      rintro e w1 ⟨rfl, rfl⟩
      go_wp2_with fail
      refine (Divisor_all _ _ _ (by omega) (by omega) h3 h4).mono ?_
      rintro e w1 ⟨rfl, rfl⟩
      rw [M.gi_abs]
      go_wp2_with fail
      rw [show u.tdiv (M.gi u d) = M.lu u d from rfl]
      refine (abs_any _ _ lb1 lb2).mono ?_
      rintro e w1 ⟨rfl, rfl⟩
      go_wp2
      go_region
      go_wp2
      go_returns
      exact ⟨rfl, by go_grown⟩
end Go.Proofs.YtaohahahhjkcdaeGreatDoor.F

/- The document's Make of the least number that there is, and Make of anything. -/
namespace Go.Proofs.YtaohahahhjkcdaeGreatDoor.F
open Go.RowKit

theorem neg_least (u : Int) (h : u = -9223372036854775808) : (u == wrap64 (-u)) = true := by
  subst h; simp [wrap64]

set_option maxHeartbeats 400000 in
theorem refMake_least (u d : Int) (w : World) (hu : u = -9223372036854775808) (h3 : 1 ≤ d) (h4 : d ≤ 9223372036854775807) :
    Calls Tryz.prog 7 #[.int .i64 u, .int .i64 d] w fun e w' => e = .returned (.tuple #[.agg #[.int .i64 (M.up u d), .int .i64 (M.dn u d)], .int .i64 (M.er u d)]) ∧ Below w.heap.size w w' := by
  have hd0 : ¬ d < 1 := by omega
  have hn := neg_least u hu
  have hu2 : u ≤ -2 := by omega
  have hu0 : (u != 0) = true := by simp; omega
  have HS : Hid (M.MQ d u d) := M.mq_start d u hu
  have HU : Hid (u = -9223372036854775808) := hu
  clear hu
  go_enter Tryz.func7, Tryz.ntmps7
  go_wp2
  go_loop [0, 1] (fun p q => ∃ x y : Int, p = .int .i64 x ∧ q = .int .i64 y ∧ Hid (M.MQ d x y) ∧ 1 ≤ y ∧ y ≤ d) (fun _ q => (intOf q).toNat)
  case atStart => exact ⟨u, d, rfl, rfl, HS, by omega, by omega⟩
  case round =>
    obtain ⟨x, y, rfl, rfl, hq, hy1, hy2⟩ := hrel
    obtain ⟨x1, x2⟩ := M.mq_bd d x y hq.out
    by_cases he : y % 2 = 0
    · have hy' : (y % 2 == 0) = true := by simp [he]
      have hq2 : Hid (M.MQ d (x.tdiv 2) (y / 2)) := M.mq_step d x y hq.out h4 (by omega) he
      have hy3 : 2 ≤ y := by omega
      obtain ⟨z1, z2⟩ := M.mq_bd d _ _ hq2.out
      clear he hq
      go_wp2
      go_round
      case rel => exact ⟨x.tdiv 2, y / 2, rfl, rfl, hq2, by omega, by omega⟩
      case measure => simp only [intOf]; omega
    · have hy' : (y % 2 == 0) = false := by simp; omega
      have ho : y % 2 = 1 := by omega
      obtain ⟨e1, e2⟩ := M.mq_end d x y u hq.out HU.out h3 hy1 ho
      clear he ho
      cases hb : M.bd x y
      · have hb' : M.bd (M.lu u d) (M.ld u d) = false := by rw [e1, e2]; exact hb
        have E1 := M.up_no u d hb'
        have E2 := M.dn_no u d hb'
        have E3 := M.er_no u d hb'
        have HE : Hid (M.up u d = 0 ∧ M.dn u d = 0 ∧ M.er u d = 4) := ⟨E1, E2, E3⟩
        have hbb := M.bd_no _ _ hb
        have hs : x < -1073741824 ∨ (¬ x < -1073741824 ∧ 1073741824 < y) := by omega
        clear e1 e2 E1 E2 E3 hb hb' hbb
        rcases hs with s1 | ⟨s1, s2⟩
        all_goals
          go_wp2
          go_returns
          exact ⟨by rw [HE.out.1, HE.out.2.1, HE.out.2.2], by go_grown⟩
      · have hb' : M.bd (M.lu u d) (M.ld u d) = true := by rw [e1, e2]; exact hb
        have E1 := M.up_yes u d hb'
        have E2 := M.dn_yes u d hb'
        have E3 := M.er_yes u d hb'
        rw [e1] at E1
        rw [e2] at E2
        have HE : Hid (M.up u d = x ∧ M.dn u d = y ∧ M.er u d = 0) := ⟨E1, E2, E3⟩
        have hbb := M.bd_yes _ _ hb
        have s1 : ¬ x < -1073741824 := by omega
        have s2 : ¬ 1073741824 < y := by omega
        clear e1 e2 E1 E2 E3 hb hb' hbb
        go_wp2
        go_returns
        exact ⟨by rw [HE.out.1, HE.out.2.1, HE.out.2.2], by go_grown⟩

theorem refMake_any (u d : Int) (w : World) (h1 : -9223372036854775808 ≤ u) (h2 : u ≤ 9223372036854775807) (h4 : d ≤ 9223372036854775807) :
    Calls Tryz.prog 7 #[.int .i64 u, .int .i64 d] w fun e w' => e = .returned (.tuple #[.agg #[.int .i64 (M.mu u d), .int .i64 (M.md u d)], .int .i64 (M.me u d)]) ∧ Below w.heap.size w w' := by
  by_cases h : d < 1
  · exact refMake_no u d w h
  · have h3 : 1 ≤ d := by omega
    rw [M.mu_yes u d h3, M.md_yes u d h3, M.me_yes u d h3]
    by_cases hu : u = -9223372036854775808
    · exact refMake_least u d w hu h3 h4
    · exact refMake_mid u d w (by omega) h2 h3 h4
end Go.Proofs.YtaohahahhjkcdaeGreatDoor.F

/- What the program's and the document's Plus, Minus and Times come to. -/
namespace Go.Proofs.YtaohahahhjkcdaeGreatDoor.F
open Go.RowKit

set_option maxHeartbeats 400000 in
theorem Times_no (a b c d : Int) (w : World) (h1 : -9223372036854775808 ≤ a) (h2 : a ≤ 9223372036854775807) (h3 : -9223372036854775808 ≤ b) (h4 : b ≤ 9223372036854775807) (h5 : -9223372036854775808 ≤ c) (h6 : c ≤ 9223372036854775807) (h7 : -9223372036854775808 ≤ d) (h8 : d ≤ 9223372036854775807) (hk : (M.ok a b && M.ok c d) = false) :
    Calls Tryz.prog 63 #[.agg #[.int .i64 a, .int .i64 b], .agg #[.int .i64 c, .int .i64 d]] w fun e w' => e = .returned (.tuple #[.agg #[.int .i64 0, .int .i64 0], .int .i64 2]) ∧ Below w.heap.size w w' := by
    go_enter Tryz.func63, Tryz.ntmps63
    go_wp2_with fail
    refine (bothRight_any _ _ _ _ _ h1 h2 h3 h4 h5 h6 h7 h8).mono ?_
    rintro e w1 ⟨rfl, hb1⟩
    rw [hk]
    have A0 : w1.cell? ⟨w.heap.size, 0, none⟩ = some (.int .i64 a) := keepC hb1 (by go_size) (by simp [go_sem])
    have A1 : w1.cell? ⟨w.heap.size, 1, none⟩ = some (.int .i64 b) := keepC hb1 (by go_size) (by simp [go_sem])
    have B0 : w1.cell? ⟨w.heap.size + 1, 0, none⟩ = some (.int .i64 c) := keepC hb1 (by go_size) (by simp [go_sem])
    have B1 : w1.cell? ⟨w.heap.size + 1, 1, none⟩ = some (.int .i64 d) := keepC hb1 (by go_size) (by simp [go_sem])
    have R0 : w1.cell? ⟨w.heap.size + 2, 0, none⟩ = some (.int .i64 0) := keepC hb1 (by go_size) (by simp [go_sem])
    have R1 : w1.cell? ⟨w.heap.size + 2, 1, none⟩ = some (.int .i64 0) := keepC hb1 (by go_size) (by simp [go_sem])
    have F0 : w1.frozen? ⟨w.heap.size + 2, 0, none⟩ = false := keepF hb1 (by go_size) (by simp [go_sem])
    have F1 : w1.frozen? ⟨w.heap.size + 2, 1, none⟩ = false := keepF hb1 (by go_size) (by simp [go_sem])
    have hw1 : Below w.heap.size w w1 := Below.trans (by go_grown) (hb1.mono (by go_size))
    have z1 := hb1.size
    simp at z1
    clear A0 A1 B0 B1
    go_wp2
    refine bodyPost_ret (v := .tuple #[.agg #[.int .i64 0, .int .i64 0], .int .i64 2]) (by simp [results, Tryz.results63, go_sem, R0, R1]) rfl ⟨rfl, ?_⟩
    exact (hw1.setCell (by go_size) _).setCell (by go_size) _

set_option maxHeartbeats 400000 in
theorem Times_yes (a b c d : Int) (w : World) (h1 : -9223372036854775808 ≤ a) (h2 : a ≤ 9223372036854775807) (h3 : -9223372036854775808 ≤ b) (h4 : b ≤ 9223372036854775807) (h5 : -9223372036854775808 ≤ c) (h6 : c ≤ 9223372036854775807) (h7 : -9223372036854775808 ≤ d) (h8 : d ≤ 9223372036854775807) (hk : (M.ok a b && M.ok c d) = true) :
    Calls Tryz.prog 63 #[.agg #[.int .i64 a, .int .i64 b], .agg #[.int .i64 c, .int .i64 d]] w fun e w' => e = .returned (.tuple #[.agg #[.int .i64 (M.up (a * c) (b * d)), .int .i64 (M.dn (a * c) (b * d))], .int .i64 (M.er (a * c) (b * d))]) ∧ Below w.heap.size w w' := by
    obtain ⟨k1, k2⟩ : M.ok a b = true ∧ M.ok c d = true := by simpa using hk
    obtain ⟨a1, a2, b1, b2, _⟩ := M.ok_yes _ _ k1
    obtain ⟨c1, c2, d1, d2, _⟩ := M.ok_yes _ _ k2
    obtain ⟨m1, m2⟩ := M.mul_bd a d (by omega) (by omega) (by omega) (by omega)
    obtain ⟨m3, m4⟩ := M.mul_bd c b (by omega) (by omega) (by omega) (by omega)
    obtain ⟨m5, m6⟩ := M.mul_bd b d (by omega) (by omega) (by omega) (by omega)
    obtain ⟨m7, m8⟩ := M.mul_bd a c (by omega) (by omega) (by omega) (by omega)
    have m9 := M.mul_pos' b d b1 d1
    clear k1 k2
    go_enter Tryz.func63, Tryz.ntmps63
    go_wp2_with fail
    refine (bothRight_any _ _ _ _ _ h1 h2 h3 h4 h5 h6 h7 h8).mono ?_
    rintro e w1 ⟨rfl, hb1⟩
    rw [hk]
    have A0 : w1.cell? ⟨w.heap.size, 0, none⟩ = some (.int .i64 a) := keepC hb1 (by go_size) (by simp [go_sem])
    have A1 : w1.cell? ⟨w.heap.size, 1, none⟩ = some (.int .i64 b) := keepC hb1 (by go_size) (by simp [go_sem])
    have B0 : w1.cell? ⟨w.heap.size + 1, 0, none⟩ = some (.int .i64 c) := keepC hb1 (by go_size) (by simp [go_sem])
    have B1 : w1.cell? ⟨w.heap.size + 1, 1, none⟩ = some (.int .i64 d) := keepC hb1 (by go_size) (by simp [go_sem])
    have R0 : w1.cell? ⟨w.heap.size + 2, 0, none⟩ = some (.int .i64 0) := keepC hb1 (by go_size) (by simp [go_sem])
    have R1 : w1.cell? ⟨w.heap.size + 2, 1, none⟩ = some (.int .i64 0) := keepC hb1 (by go_size) (by simp [go_sem])
    have F0 : w1.frozen? ⟨w.heap.size + 2, 0, none⟩ = false := keepF hb1 (by go_size) (by simp [go_sem])
    have F1 : w1.frozen? ⟨w.heap.size + 2, 1, none⟩ = false := keepF hb1 (by go_size) (by simp [go_sem])
    have hw1 : Below w.heap.size w w1 := Below.trans (by go_grown) (hb1.mono (by go_size))
    have z1 := hb1.size
    simp at z1
    clear hb1
    go_wp2_with fail
    refine (lowest_any (a * c) (b * d) _ (by omega) (by omega) (by omega) (by omega)).mono ?_
    rintro e w2 ⟨rfl, hb2⟩
    replace R0 := keepC hb2 (by omega) R0
    replace R1 := keepC hb2 (by omega) R1
    replace F0 := keepF hb2 (by omega) F0
    replace F1 := keepF hb2 (by omega) F1
    go_wp2
    refine bodyPost_ret (v := .tuple #[.agg #[.int .i64 (M.up (a * c) (b * d)), .int .i64 (M.dn (a * c) (b * d))], .int .i64 (M.er (a * c) (b * d))]) (by simp [results, Tryz.results63, go_sem, R0, R1]) rfl ⟨rfl, ?_⟩
    exact ((hw1.trans (hb2.mono (by omega))).setCell (by go_size) _).setCell (by go_size) _

end Go.Proofs.YtaohahahhjkcdaeGreatDoor.F

/- What the program's and the document's Plus, Minus and Times come to. -/
namespace Go.Proofs.YtaohahahhjkcdaeGreatDoor.F
open Go.RowKit

set_option maxHeartbeats 400000 in
theorem Plus_no (a b c d : Int) (w : World) (h1 : -9223372036854775808 ≤ a) (h2 : a ≤ 9223372036854775807) (h3 : -9223372036854775808 ≤ b) (h4 : b ≤ 9223372036854775807) (h5 : -9223372036854775808 ≤ c) (h6 : c ≤ 9223372036854775807) (h7 : -9223372036854775808 ≤ d) (h8 : d ≤ 9223372036854775807) (hk : (M.ok a b && M.ok c d) = false) :
    Calls Tryz.prog 24 #[.agg #[.int .i64 a, .int .i64 b], .agg #[.int .i64 c, .int .i64 d]] w fun e w' => e = .returned (.tuple #[.agg #[.int .i64 0, .int .i64 0], .int .i64 2]) ∧ Below w.heap.size w w' := by
    go_enter Tryz.func24, Tryz.ntmps24
    go_wp2_with fail
    refine (bothRight_any _ _ _ _ _ h1 h2 h3 h4 h5 h6 h7 h8).mono ?_
    rintro e w1 ⟨rfl, hb1⟩
    rw [hk]
    have A0 : w1.cell? ⟨w.heap.size, 0, none⟩ = some (.int .i64 a) := keepC hb1 (by go_size) (by simp [go_sem])
    have A1 : w1.cell? ⟨w.heap.size, 1, none⟩ = some (.int .i64 b) := keepC hb1 (by go_size) (by simp [go_sem])
    have B0 : w1.cell? ⟨w.heap.size + 1, 0, none⟩ = some (.int .i64 c) := keepC hb1 (by go_size) (by simp [go_sem])
    have B1 : w1.cell? ⟨w.heap.size + 1, 1, none⟩ = some (.int .i64 d) := keepC hb1 (by go_size) (by simp [go_sem])
    have R0 : w1.cell? ⟨w.heap.size + 2, 0, none⟩ = some (.int .i64 0) := keepC hb1 (by go_size) (by simp [go_sem])
    have R1 : w1.cell? ⟨w.heap.size + 2, 1, none⟩ = some (.int .i64 0) := keepC hb1 (by go_size) (by simp [go_sem])
    have F0 : w1.frozen? ⟨w.heap.size + 2, 0, none⟩ = false := keepF hb1 (by go_size) (by simp [go_sem])
    have F1 : w1.frozen? ⟨w.heap.size + 2, 1, none⟩ = false := keepF hb1 (by go_size) (by simp [go_sem])
    have hw1 : Below w.heap.size w w1 := Below.trans (by go_grown) (hb1.mono (by go_size))
    have z1 := hb1.size
    simp at z1
    clear A0 A1 B0 B1
    go_wp2
    refine bodyPost_ret (v := .tuple #[.agg #[.int .i64 0, .int .i64 0], .int .i64 2]) (by simp [results, Tryz.results24, go_sem, R0, R1]) rfl ⟨rfl, ?_⟩
    exact (hw1.setCell (by go_size) _).setCell (by go_size) _

set_option maxHeartbeats 400000 in
theorem Plus_yes (a b c d : Int) (w : World) (h1 : -9223372036854775808 ≤ a) (h2 : a ≤ 9223372036854775807) (h3 : -9223372036854775808 ≤ b) (h4 : b ≤ 9223372036854775807) (h5 : -9223372036854775808 ≤ c) (h6 : c ≤ 9223372036854775807) (h7 : -9223372036854775808 ≤ d) (h8 : d ≤ 9223372036854775807) (hk : (M.ok a b && M.ok c d) = true) :
    Calls Tryz.prog 24 #[.agg #[.int .i64 a, .int .i64 b], .agg #[.int .i64 c, .int .i64 d]] w fun e w' => e = .returned (.tuple #[.agg #[.int .i64 (M.up (a * d + c * b) (b * d)), .int .i64 (M.dn (a * d + c * b) (b * d))], .int .i64 (M.er (a * d + c * b) (b * d))]) ∧ Below w.heap.size w w' := by
    obtain ⟨k1, k2⟩ : M.ok a b = true ∧ M.ok c d = true := by simpa using hk
    obtain ⟨a1, a2, b1, b2, _⟩ := M.ok_yes _ _ k1
    obtain ⟨c1, c2, d1, d2, _⟩ := M.ok_yes _ _ k2
    obtain ⟨m1, m2⟩ := M.mul_bd a d (by omega) (by omega) (by omega) (by omega)
    obtain ⟨m3, m4⟩ := M.mul_bd c b (by omega) (by omega) (by omega) (by omega)
    obtain ⟨m5, m6⟩ := M.mul_bd b d (by omega) (by omega) (by omega) (by omega)
    obtain ⟨m7, m8⟩ := M.mul_bd a c (by omega) (by omega) (by omega) (by omega)
    have m9 := M.mul_pos' b d b1 d1
    clear k1 k2
    go_enter Tryz.func24, Tryz.ntmps24
    go_wp2_with fail
    refine (bothRight_any _ _ _ _ _ h1 h2 h3 h4 h5 h6 h7 h8).mono ?_
    rintro e w1 ⟨rfl, hb1⟩
    rw [hk]
    have A0 : w1.cell? ⟨w.heap.size, 0, none⟩ = some (.int .i64 a) := keepC hb1 (by go_size) (by simp [go_sem])
    have A1 : w1.cell? ⟨w.heap.size, 1, none⟩ = some (.int .i64 b) := keepC hb1 (by go_size) (by simp [go_sem])
    have B0 : w1.cell? ⟨w.heap.size + 1, 0, none⟩ = some (.int .i64 c) := keepC hb1 (by go_size) (by simp [go_sem])
    have B1 : w1.cell? ⟨w.heap.size + 1, 1, none⟩ = some (.int .i64 d) := keepC hb1 (by go_size) (by simp [go_sem])
    have R0 : w1.cell? ⟨w.heap.size + 2, 0, none⟩ = some (.int .i64 0) := keepC hb1 (by go_size) (by simp [go_sem])
    have R1 : w1.cell? ⟨w.heap.size + 2, 1, none⟩ = some (.int .i64 0) := keepC hb1 (by go_size) (by simp [go_sem])
    have F0 : w1.frozen? ⟨w.heap.size + 2, 0, none⟩ = false := keepF hb1 (by go_size) (by simp [go_sem])
    have F1 : w1.frozen? ⟨w.heap.size + 2, 1, none⟩ = false := keepF hb1 (by go_size) (by simp [go_sem])
    have hw1 : Below w.heap.size w w1 := Below.trans (by go_grown) (hb1.mono (by go_size))
    have z1 := hb1.size
    simp at z1
    clear hb1
    go_wp2_with fail
    refine (lowest_any (a * d + c * b) (b * d) _ (by omega) (by omega) (by omega) (by omega)).mono ?_
    rintro e w2 ⟨rfl, hb2⟩
    replace R0 := keepC hb2 (by omega) R0
    replace R1 := keepC hb2 (by omega) R1
    replace F0 := keepF hb2 (by omega) F0
    replace F1 := keepF hb2 (by omega) F1
    go_wp2
    refine bodyPost_ret (v := .tuple #[.agg #[.int .i64 (M.up (a * d + c * b) (b * d)), .int .i64 (M.dn (a * d + c * b) (b * d))], .int .i64 (M.er (a * d + c * b) (b * d))]) (by simp [results, Tryz.results24, go_sem, R0, R1]) rfl ⟨rfl, ?_⟩
    exact ((hw1.trans (hb2.mono (by omega))).setCell (by go_size) _).setCell (by go_size) _

set_option maxHeartbeats 400000 in
theorem Plus_refno (a b c d : Int) (w : World) (h1 : -9223372036854775808 ≤ a) (h2 : a ≤ 9223372036854775807) (h3 : -9223372036854775808 ≤ b) (h4 : b ≤ 9223372036854775807) (h5 : -9223372036854775808 ≤ c) (h6 : c ≤ 9223372036854775807) (h7 : -9223372036854775808 ≤ d) (h8 : d ≤ 9223372036854775807) (hk : M.ok a b = false ∨ (M.ok a b = true ∧ M.ok c d = false)) :
    Calls Tryz.prog 8 #[.agg #[.int .i64 a, .int .i64 b], .agg #[.int .i64 c, .int .i64 d]] w fun e w' => e = .returned (.tuple #[.agg #[.int .i64 0, .int .i64 0], .int .i64 2]) ∧ Below w.heap.size w w' := by
  rcases hk with hk | ⟨hk1, hk2⟩
  · go_enter Tryz.func8, Tryz.ntmps8
    go_wp2_with fail
    refine (refRight_any _ _ _ h1 h2 h3 h4).mono ?_
    rintro e w1 ⟨rfl, hb1⟩
    rw [hk]
    have A0 : w1.cell? ⟨w.heap.size, 0, none⟩ = some (.int .i64 a) := keepC hb1 (by go_size) (by simp [go_sem])
    have A1 : w1.cell? ⟨w.heap.size, 1, none⟩ = some (.int .i64 b) := keepC hb1 (by go_size) (by simp [go_sem])
    have B0 : w1.cell? ⟨w.heap.size + 1, 0, none⟩ = some (.int .i64 c) := keepC hb1 (by go_size) (by simp [go_sem])
    have B1 : w1.cell? ⟨w.heap.size + 1, 1, none⟩ = some (.int .i64 d) := keepC hb1 (by go_size) (by simp [go_sem])
    have R0 : w1.cell? ⟨w.heap.size + 2, 0, none⟩ = some (.int .i64 0) := keepC hb1 (by go_size) (by simp [go_sem])
    have R1 : w1.cell? ⟨w.heap.size + 2, 1, none⟩ = some (.int .i64 0) := keepC hb1 (by go_size) (by simp [go_sem])
    have F0 : w1.frozen? ⟨w.heap.size + 2, 0, none⟩ = false := keepF hb1 (by go_size) (by simp [go_sem])
    have F1 : w1.frozen? ⟨w.heap.size + 2, 1, none⟩ = false := keepF hb1 (by go_size) (by simp [go_sem])
    have hw1 : Below w.heap.size w w1 := Below.trans (by go_grown) (hb1.mono (by go_size))
    have z1 := hb1.size
    simp at z1
    clear A0 A1 B0 B1
    go_wp2
    refine bodyPost_ret (v := .tuple #[.agg #[.int .i64 0, .int .i64 0], .int .i64 2]) (by simp [results, Tryz.results8, go_sem, R0, R1]) rfl ⟨rfl, ?_⟩
    exact (hw1.setCell (by go_size) _).setCell (by go_size) _
  · go_enter Tryz.func8, Tryz.ntmps8
    go_wp2_with fail
    refine (refRight_any _ _ _ h1 h2 h3 h4).mono ?_
    rintro e w1 ⟨rfl, hb1⟩
    rw [hk1]
    have A0 : w1.cell? ⟨w.heap.size, 0, none⟩ = some (.int .i64 a) := keepC hb1 (by go_size) (by simp [go_sem])
    have A1 : w1.cell? ⟨w.heap.size, 1, none⟩ = some (.int .i64 b) := keepC hb1 (by go_size) (by simp [go_sem])
    have B0 : w1.cell? ⟨w.heap.size + 1, 0, none⟩ = some (.int .i64 c) := keepC hb1 (by go_size) (by simp [go_sem])
    have B1 : w1.cell? ⟨w.heap.size + 1, 1, none⟩ = some (.int .i64 d) := keepC hb1 (by go_size) (by simp [go_sem])
    have R0 : w1.cell? ⟨w.heap.size + 2, 0, none⟩ = some (.int .i64 0) := keepC hb1 (by go_size) (by simp [go_sem])
    have R1 : w1.cell? ⟨w.heap.size + 2, 1, none⟩ = some (.int .i64 0) := keepC hb1 (by go_size) (by simp [go_sem])
    have F0 : w1.frozen? ⟨w.heap.size + 2, 0, none⟩ = false := keepF hb1 (by go_size) (by simp [go_sem])
    have F1 : w1.frozen? ⟨w.heap.size + 2, 1, none⟩ = false := keepF hb1 (by go_size) (by simp [go_sem])
    have hw1 : Below w.heap.size w w1 := Below.trans (by go_grown) (hb1.mono (by go_size))
    have z1 := hb1.size
    simp at z1
    clear A0 A1 hb1
    go_wp2_with fail
    refine (refRight_any _ _ _ h5 h6 h7 h8).mono ?_
    rintro e w2 ⟨rfl, hb2⟩
    rw [hk2]
    replace R0 := keepC hb2 (by omega) R0
    replace R1 := keepC hb2 (by omega) R1
    replace F0 := keepF hb2 (by omega) F0
    replace F1 := keepF hb2 (by omega) F1
    clear B0 B1
    go_wp2
    refine bodyPost_ret (v := .tuple #[.agg #[.int .i64 0, .int .i64 0], .int .i64 2]) (by simp [results, Tryz.results8, go_sem, R0, R1]) rfl ⟨rfl, ?_⟩
    exact ((hw1.trans (hb2.mono (by omega))).setCell (by go_size) _).setCell (by go_size) _

set_option maxHeartbeats 400000 in
theorem Plus_refyes (a b c d : Int) (w : World) (h1 : -9223372036854775808 ≤ a) (h2 : a ≤ 9223372036854775807) (h3 : -9223372036854775808 ≤ b) (h4 : b ≤ 9223372036854775807) (h5 : -9223372036854775808 ≤ c) (h6 : c ≤ 9223372036854775807) (h7 : -9223372036854775808 ≤ d) (h8 : d ≤ 9223372036854775807) (hk1 : M.ok a b = true) (hk2 : M.ok c d = true) :
    Calls Tryz.prog 8 #[.agg #[.int .i64 a, .int .i64 b], .agg #[.int .i64 c, .int .i64 d]] w fun e w' => e = .returned (.tuple #[.agg #[.int .i64 (M.up (a * d + c * b) (b * d)), .int .i64 (M.dn (a * d + c * b) (b * d))], .int .i64 (M.er (a * d + c * b) (b * d))]) ∧ Below w.heap.size w w' := by
    obtain ⟨a1, a2, b1, b2, _⟩ := M.ok_yes _ _ hk1
    obtain ⟨c1, c2, d1, d2, _⟩ := M.ok_yes _ _ hk2
    obtain ⟨m1, m2⟩ := M.mul_bd a d (by omega) (by omega) (by omega) (by omega)
    obtain ⟨m3, m4⟩ := M.mul_bd c b (by omega) (by omega) (by omega) (by omega)
    obtain ⟨m5, m6⟩ := M.mul_bd b d (by omega) (by omega) (by omega) (by omega)
    obtain ⟨m7, m8⟩ := M.mul_bd a c (by omega) (by omega) (by omega) (by omega)
    have m9 := M.mul_pos' b d b1 d1
    go_enter Tryz.func8, Tryz.ntmps8
    go_wp2_with fail
    refine (refRight_any _ _ _ h1 h2 h3 h4).mono ?_
    rintro e w1 ⟨rfl, hb1⟩
    rw [hk1]
    have A0 : w1.cell? ⟨w.heap.size, 0, none⟩ = some (.int .i64 a) := keepC hb1 (by go_size) (by simp [go_sem])
    have A1 : w1.cell? ⟨w.heap.size, 1, none⟩ = some (.int .i64 b) := keepC hb1 (by go_size) (by simp [go_sem])
    have B0 : w1.cell? ⟨w.heap.size + 1, 0, none⟩ = some (.int .i64 c) := keepC hb1 (by go_size) (by simp [go_sem])
    have B1 : w1.cell? ⟨w.heap.size + 1, 1, none⟩ = some (.int .i64 d) := keepC hb1 (by go_size) (by simp [go_sem])
    have R0 : w1.cell? ⟨w.heap.size + 2, 0, none⟩ = some (.int .i64 0) := keepC hb1 (by go_size) (by simp [go_sem])
    have R1 : w1.cell? ⟨w.heap.size + 2, 1, none⟩ = some (.int .i64 0) := keepC hb1 (by go_size) (by simp [go_sem])
    have F0 : w1.frozen? ⟨w.heap.size + 2, 0, none⟩ = false := keepF hb1 (by go_size) (by simp [go_sem])
    have F1 : w1.frozen? ⟨w.heap.size + 2, 1, none⟩ = false := keepF hb1 (by go_size) (by simp [go_sem])
    have hw1 : Below w.heap.size w w1 := Below.trans (by go_grown) (hb1.mono (by go_size))
    have z1 := hb1.size
    simp at z1
    clear hb1
    go_wp2_with fail
    refine (refRight_any _ _ _ h5 h6 h7 h8).mono ?_
    rintro e w2 ⟨rfl, hb2⟩
    rw [hk2]
    replace A0 := keepC hb2 (by omega) A0
    replace A1 := keepC hb2 (by omega) A1
    replace B0 := keepC hb2 (by omega) B0
    replace B1 := keepC hb2 (by omega) B1
    replace R0 := keepC hb2 (by omega) R0
    replace R1 := keepC hb2 (by omega) R1
    replace F0 := keepF hb2 (by omega) F0
    replace F1 := keepF hb2 (by omega) F1
    have z2 := hb2.size
    have hw2 := hw1.trans (hb2.mono (by omega))
    clear hb2 hw1
    go_wp2_with fail
    refine (refMake_any (a * d + c * b) (b * d) _ (by omega) (by omega) (by omega)).mono ?_
    rintro e w3 ⟨rfl, hb3⟩
    rw [M.mu_yes _ _ (show 1 ≤ b * d by omega), M.md_yes _ _ (show 1 ≤ b * d by omega), M.me_yes _ _ (show 1 ≤ b * d by omega)]
    replace R0 := keepC hb3 (by omega) R0
    replace R1 := keepC hb3 (by omega) R1
    replace F0 := keepF hb3 (by omega) F0
    replace F1 := keepF hb3 (by omega) F1
    go_wp2
    refine bodyPost_ret (v := .tuple #[.agg #[.int .i64 (M.up (a * d + c * b) (b * d)), .int .i64 (M.dn (a * d + c * b) (b * d))], .int .i64 (M.er (a * d + c * b) (b * d))]) (by simp [results, Tryz.results8, go_sem, R0, R1]) rfl ⟨rfl, ?_⟩
    exact ((hw2.trans (hb3.mono (by omega))).setCell (by go_size) _).setCell (by go_size) _

end Go.Proofs.YtaohahahhjkcdaeGreatDoor.F

/- What the program's portion and the sums of told fractions come to. -/
namespace Go.Proofs.YtaohahahhjkcdaeGreatDoor.F
open Go.RowKit
set_option linter.unusedVariables false
set_option linter.unusedSimpArgs false

/-- What a call answers of a fraction that is told or not. -/
def M.tU : Option M.Fr → Int | some f => f.1 | none => 0
def M.tD : Option M.Fr → Int | some f => f.2 | none => 0
def M.tE : Option M.Fr → Int | some _ => 0 | none => 4
theorem M.tell_o (u d : Int) : M.up u d = M.tU (M.tell u d) ∧ M.dn u d = M.tD (M.tell u d) ∧ M.er u d = M.tE (M.tell u d) := by
  unfold M.tell
  cases hb : M.bd (M.lu u d) (M.ld u d)
  · rw [M.up_no _ _ hb, M.dn_no _ _ hb, M.er_no _ _ hb]; exact ⟨rfl, rfl, rfl⟩
  · rw [M.up_yes _ _ hb, M.dn_yes _ _ hb, M.er_yes _ _ hb]; exact ⟨rfl, rfl, rfl⟩
/-- Written as it must be. -/
def M.Ok (f : M.Fr) : Prop := M.ok f.1 f.2 = true
theorem M.Ok.low {f : M.Fr} (h : M.Ok f) : M.Low f ∧ M.bd f.1 f.2 = true := by
  obtain ⟨h1, h2, h3, h4, h5⟩ := M.ok_yes _ _ h
  exact ⟨⟨h3, h5⟩, by unfold M.bd; simp; omega⟩
theorem M.tell_ok {u d : Int} {f : M.Fr} (h : M.tell u d = some f) (hd : 1 ≤ d) : M.Ok f := by
  obtain ⟨rfl, _, hb⟩ := M.tell_some h hd
  exact M.ok_of u d hd hb

theorem Plus_o (a b : M.Fr) (w : World) (ha : M.Ok a) (hb : M.Ok b) :
    Calls Tryz.prog 24 #[.agg #[.int .i64 a.1, .int .i64 a.2], .agg #[.int .i64 b.1, .int .i64 b.2]] w fun e w' => e = .returned (.tuple #[.agg #[.int .i64 (M.tU (M.pl a b)), .int .i64 (M.tD (M.pl a b))], .int .i64 (M.tE (M.pl a b))]) ∧ Below w.heap.size w w' := by
  obtain ⟨h1, h2, h3, h4, _⟩ := M.ok_yes _ _ ha
  obtain ⟨g1, g2, g3, g4, _⟩ := M.ok_yes _ _ hb
  obtain ⟨e1, e2, e3⟩ := M.tell_o (a.1 * b.2 + b.1 * a.2) (a.2 * b.2)
  unfold M.pl
  rw [← e1, ← e2, ← e3]
  exact Plus_yes a.1 a.2 b.1 b.2 w (by omega) (by omega) (by omega) (by omega) (by omega) (by omega) (by omega) (by omega) (by have x : M.ok a.1 a.2 = true := ha; have y : M.ok b.1 b.2 = true := hb; rw [x, y]; rfl)
theorem refPlus_o (a b : M.Fr) (w : World) (ha : M.Ok a) (hb : M.Ok b) :
    Calls Tryz.prog 8 #[.agg #[.int .i64 a.1, .int .i64 a.2], .agg #[.int .i64 b.1, .int .i64 b.2]] w fun e w' => e = .returned (.tuple #[.agg #[.int .i64 (M.tU (M.pl a b)), .int .i64 (M.tD (M.pl a b))], .int .i64 (M.tE (M.pl a b))]) ∧ Below w.heap.size w w' := by
  obtain ⟨h1, h2, h3, h4, _⟩ := M.ok_yes _ _ ha
  obtain ⟨g1, g2, g3, g4, _⟩ := M.ok_yes _ _ hb
  obtain ⟨e1, e2, e3⟩ := M.tell_o (a.1 * b.2 + b.1 * a.2) (a.2 * b.2)
  unfold M.pl
  rw [← e1, ← e2, ← e3]
  exact Plus_refyes a.1 a.2 b.1 b.2 w (by omega) (by omega) (by omega) (by omega) (by omega) (by omega) (by omega) (by omega) ha hb

/-- The ratio of shares is always told. -/
theorem M.ratio (s all : Int) (h1 : 1 ≤ s) (h2 : s ≤ all) (h3 : all ≤ 268435456) : M.mu s all = M.lu s all ∧ M.md s all = M.ld s all ∧ M.me s all = 0 ∧ M.Ok (M.lu s all, M.ld s all) ∧ ∀ f : M.Fr, 1 ≤ f.2 → M.tell (f.1 * M.lu s all) (f.2 * M.ld s all) = M.pr f s all := by
  have a1 := M.lu_abs s all
  have e1 := M.lu_mul s all
  have e2 := M.ld_mul s all
  have g1 := M.gi_pos s all (by omega)
  have p1 := M.ld_pos s all (by omega)
  have d1 : M.ld s all ≤ all := by
    have : 1 * M.ld s all ≤ M.gi s all * M.ld s all := Int.mul_le_mul_of_nonneg_right g1 (by omega)
    omega
  have hb : M.bd (M.lu s all) (M.ld s all) = true := by unfold M.bd; simp; omega
  refine ⟨?_, ?_, ?_, M.ok_of s all (by omega) hb, fun f hf => ?_⟩
  · rw [M.mu_yes _ _ (by omega), M.up_yes _ _ hb]
  · rw [M.md_yes _ _ (by omega), M.dn_yes _ _ hb]
  · rw [M.me_yes _ _ (by omega), M.er_yes _ _ hb]
  · unfold M.pr
    refine M.tell_congr (M.mul_pos' _ _ hf p1) (M.mul_pos' _ _ hf (by omega)) ?_
    generalize M.lu s all = x at *
    generalize M.ld s all = y at *
    generalize M.gi s all = g at *
    subst e1
    rw [← e2]
    grind

set_option maxHeartbeats 1000000 in
theorem portion_o (f : M.Fr) (s all : Int) (w : World) (hf : M.Ok f) (h1 : 1 ≤ s) (h2 : s ≤ all) (h3 : all ≤ 268435456) :
    Calls Tryz.prog 51 #[.agg #[.int .i64 f.1, .int .i64 f.2], .int .i64 s, .int .i64 all] w fun e w' => e = .returned (.tuple #[.agg #[.int .i64 (M.tU (M.pr f s all)), .int .i64 (M.tD (M.pr f s all))], .int .i64 (M.tE (M.pr f s all))]) ∧ Below w.heap.size w w' := by
  obtain ⟨r1, r2, r3, r4, r5⟩ := M.ratio s all h1 h2 h3
  obtain ⟨k1, k2, k3, k4, _⟩ := M.ok_yes _ _ hf
  obtain ⟨g1, g2, g3, g4, _⟩ := M.ok_yes _ _ r4
  have hM := fun w => Make_any s all w (by omega) (by omega) (by omega)
  rw [r1, r2, r3] at hM
  have hT := fun w => Times_yes f.1 f.2 (M.lu s all) (M.ld s all) w (by omega) (by omega) (by omega) (by omega) (by simp only at g1; omega) (by simp only at g2; omega) (by simp only at g3; omega) (by simp only at g4; omega) (by have x : M.ok f.1 f.2 = true := hf; have y : M.ok (M.lu s all) (M.ld s all) = true := r4; rw [x, y]; rfl)
  obtain ⟨e1, e2, e3⟩ := M.tell_o (f.1 * M.lu s all) (f.2 * M.ld s all)
  rw [e1, e2, e3, r5 f k3] at hT
  clear r1 r2 r3 r4 r5 e1 e2 e3 g1 g2 g3 g4
  generalize M.tU (M.pr f s all) = U at *
  generalize M.tD (M.pr f s all) = D at *
  generalize M.tE (M.pr f s all) = E at *
  generalize M.lu s all = x at *
  generalize M.ld s all = y at *
  generalize f.1 = fu at *
  generalize f.2 = fd at *
  go_enter Tryz.func51, Tryz.ntmps51
  go_wp2_with fail
  refine (hM _).mono ?_
  rintro e w1 ⟨rfl, hb1⟩
  have A0 : w1.cell? ⟨w.heap.size, 0, none⟩ = some (.int .i64 fu) := keepC hb1 (by simp; omega) (by simp [go_sem])
  have A1 : w1.cell? ⟨w.heap.size, 1, none⟩ = some (.int .i64 fd) := keepC hb1 (by simp; omega) (by simp [go_sem])
  have R0 : w1.cell? ⟨w.heap.size + 1, 0, none⟩ = some (.int .i64 0) := keepC hb1 (by simp) (by simp [go_sem])
  have R1 : w1.cell? ⟨w.heap.size + 1, 1, none⟩ = some (.int .i64 0) := keepC hb1 (by simp) (by simp [go_sem])
  have F0 : w1.frozen? ⟨w.heap.size + 1, 0, none⟩ = false := keepF hb1 (by simp) (by simp [go_sem])
  have F1 : w1.frozen? ⟨w.heap.size + 1, 1, none⟩ = false := keepF hb1 (by simp) (by simp [go_sem])
  have h01 : Below w.heap.size w w1 := Below.trans (by go_grown) (hb1.mono (by simp; omega))
  have z1 := hb1.size
  simp at z1
  have s1 : w.heap.size < w1.heap.size := by omega
  have s2 : w.heap.size + 1 < w1.heap.size := by omega
  clear hb1
  go_wp2_with fail
  refine (hT _).mono ?_
  rintro e w2 ⟨rfl, hb2⟩
  have h12 : Below w1.heap.size w1 w2 := Below.trans (by go_grown) (hb2.mono (by simp))
  replace R0 := keepC h12 s2 R0
  replace R1 := keepC h12 s2 R1
  replace F0 := keepF h12 s2 F0
  replace F1 := keepF h12 s2 F1
  have h02 := h01.trans (h12.mono h01.size)
  have z2 := h12.size
  have s3 : w.heap.size + 1 < w2.heap.size := by omega
  clear hb2 A0 A1
  go_wp2_with fail
  refine bodyPost_ret (v := .tuple #[.agg #[.int .i64 U, .int .i64 D], .int .i64 E]) (by simp [results, Tryz.results51, go_sem, R0, R1]) rfl ⟨rfl, ?_⟩
  exact (h02.setCell (by simp) _).setCell (by simp) _
end Go.Proofs.YtaohahahhjkcdaeGreatDoor.F
