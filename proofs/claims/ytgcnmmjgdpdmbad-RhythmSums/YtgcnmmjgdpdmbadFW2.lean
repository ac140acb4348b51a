/- What the program's and the document's tests of fractions, and lowest terms, come to. -/
import Derived.Test.YtgcnmmjgdpdmbadFW1
import Derived.WalkSmall
namespace Go.Proofs.Ytgcnmmjgdpdmbad.F
open Go.RowKit

theorem bcell {W w1 : World} (hb : Below W.heap.size W w1) : (∀ b o, b < W.heap.size → w1.cell? ⟨b, o, none⟩ = W.cell? ⟨b, o, none⟩) ∧ (∀ b o, b < W.heap.size → w1.frozen? ⟨b, o, none⟩ = W.frozen? ⟨b, o, none⟩) :=
  ⟨fun b o h => hb.cell (p := ⟨b, o, none⟩) h, fun b o h => hb.frozen (p := ⟨b, o, none⟩) h⟩

theorem keepC {B : Nat} {W w1 : World} (hb : Below B W w1) {b o : Nat} {v : Value} (hlt : b < B) (h : W.cell? ⟨b, o, none⟩ = some v) : w1.cell? ⟨b, o, none⟩ = some v :=
  (hb.cell (p := ⟨b, o, none⟩) hlt).trans h
theorem keepF {B : Nat} {W w1 : World} (hb : Below B W w1) {b o : Nat} {v : Bool} (hlt : b < B) (h : W.frozen? ⟨b, o, none⟩ = v) : w1.frozen? ⟨b, o, none⟩ = v :=
  (hb.frozen (p := ⟨b, o, none⟩) hlt).trans h

theorem ret_bool {a b : Bool} (h : a = b) : Ending.returned (.bool a) = .returned (.bool b) := by rw [h]

theorem bounded_any (u d : Int) (w : World) :
    Calls Try.prog 29 #[.agg #[.int .i64 u, .int .i64 d]] w fun e w' => e = .returned (.bool (M.bd u d)) ∧ Below w.heap.size w w' := by
  have hb : M.bd u d = decide (-1073741824 ≤ u ∧ u ≤ 1073741824 ∧ 1 ≤ d ∧ d ≤ 1073741824) := rfl
  have HB : Hid (M.bd u d = decide (-1073741824 ≤ u ∧ u ≤ 1073741824 ∧ 1 ≤ d ∧ d ≤ 1073741824)) := hb
  clear hb
  by_cases c1 : -1073741824 ≤ u
  · by_cases c2 : u ≤ 1073741824
    · by_cases c3 : 1 ≤ d
      · by_cases c4 : d ≤ 1073741824
        · go_enter Try.func29, Try.ntmps29
          go_wp2
          go_ret
          exact ⟨ret_bool (by rw [HB.out]; simp; omega), (Below.refl _ _).alloc (Nat.le_refl _) _⟩
        · go_enter Try.func29, Try.ntmps29
          go_wp2
          go_ret
          exact ⟨ret_bool (by rw [HB.out]; simp; omega), (Below.refl _ _).alloc (Nat.le_refl _) _⟩
      · go_enter Try.func29, Try.ntmps29
        go_wp2
        go_ret
        exact ⟨ret_bool (by rw [HB.out]; simp; omega), (Below.refl _ _).alloc (Nat.le_refl _) _⟩
    · go_enter Try.func29, Try.ntmps29
      go_wp2
      go_ret
      exact ⟨ret_bool (by rw [HB.out]; simp; omega), (Below.refl _ _).alloc (Nat.le_refl _) _⟩
  · go_enter Try.func29, Try.ntmps29
    go_wp2
    go_ret
    exact ⟨ret_bool (by rw [HB.out]; simp; omega), (Below.refl _ _).alloc (Nat.le_refl _) _⟩

theorem Right_any (u d : Int) (w : World) (h1 : -9223372036854775808 ≤ u) (h2 : u ≤ 9223372036854775807) (_h3 : -9223372036854775808 ≤ d) (h4 : d ≤ 9223372036854775807) :
    Calls Try.prog 23 #[.agg #[.int .i64 u, .int .i64 d]] w fun e w' => e = .returned (.bool (M.ok u d)) ∧ Below w.heap.size w w' := by
  cases hb : M.bd u d
  · have ho := M.ok_no u d hb
    go_enter Try.func23, Try.ntmps23
    go_wp2_with fail
    refine (bounded_any _ _ _).mono ?_
    rintro e w1 ⟨rfl, hb1⟩
    rw [hb]
    go_wp2
    go_ret
    exact ⟨ret_bool ho.symm, ((Below.refl _ _).alloc (Nat.le_refl _) _).trans (hb1.mono (by simp))⟩
  · have ho := M.ok_bd u d hb
    have HO : Hid (M.ok u d = (M.gi u d == 1)) := ho
    clear ho
    have hbb := M.bd_yes u d hb
    go_enter Try.func23, Try.ntmps23
    go_wp2_with fail
    refine (bounded_any _ _ _).mono ?_
    rintro e w1 ⟨rfl, hb1⟩
    rw [hb]
    obtain ⟨hc, hf⟩ := bcell hb1
    go_wp2_with fail
    refine (divisor_any _ _ _ (by omega) (by omega) (by omega) (by omega)).mono ?_
    rintro e w2 ⟨rfl, hb2⟩
    go_wp2
    go_ret
    exact ⟨ret_bool HO.out.symm, (((Below.refl _ _).alloc (Nat.le_refl _) _).trans (hb1.mono (by simp))).trans (hb2.mono (by have := hb1.size; simp at this; omega))⟩

/-- The test of two. -/
theorem bothRight_any (a b c d : Int) (w : World) (h1 : -9223372036854775808 ≤ a) (h2 : a ≤ 9223372036854775807) (h3 : -9223372036854775808 ≤ b) (h4 : b ≤ 9223372036854775807) (h5 : -9223372036854775808 ≤ c) (h6 : c ≤ 9223372036854775807) (h7 : -9223372036854775808 ≤ d) (h8 : d ≤ 9223372036854775807) :
    Calls Try.prog 24 #[.agg #[.int .i64 a, .int .i64 b], .agg #[.int .i64 c, .int .i64 d]] w fun e w' => e = .returned (.bool (M.ok a b && M.ok c d)) ∧ Below w.heap.size w w' := by
  cases hb : M.ok a b
  · go_enter Try.func24, Try.ntmps24
    go_wp2_with fail
    refine (Right_any _ _ _ h1 h2 h3 h4).mono ?_
    rintro e w1 ⟨rfl, hb1⟩
    rw [hb]
    go_wp2
    go_ret
    exact ⟨rfl, (((Below.refl _ _).alloc (Nat.le_refl _) _).alloc (by simp) _).trans (hb1.mono (by simp; omega))⟩
  · go_enter Try.func24, Try.ntmps24
    go_wp2_with fail
    refine (Right_any _ _ _ h1 h2 h3 h4).mono ?_
    rintro e w1 ⟨rfl, hb1⟩
    rw [hb]
    obtain ⟨hc, hf⟩ := bcell hb1
    go_wp2_with fail
    refine (Right_any _ _ _ h5 h6 h7 h8).mono ?_
    rintro e w2 ⟨rfl, hb2⟩
    go_wp2
    go_ret
    exact ⟨rfl, ((((Below.refl _ _).alloc (Nat.le_refl _) _).alloc (by simp) _).trans (hb1.mono (by simp; omega))).trans (hb2.mono (by have := hb1.size; simp at this; omega))⟩

set_option maxHeartbeats 400000 in
theorem lowest_yes (u d : Int) (w : World) (h1 : -9223372036854775808 ≤ u) (h2 : u ≤ 9223372036854775807) (h3 : 1 ≤ d) (h4 : d ≤ 9223372036854775807) (hb : M.bd (M.lu u d) (M.ld u d) = true) :
    Calls Try.prog 25 #[.int .i64 u, .int .i64 d] w fun e w' => e = .returned (.tuple #[.agg #[.int .i64 (M.lu u d), .int .i64 (M.ld u d)], .int .i64 0]) ∧ Below w.heap.size w w' := by
  go_enter Try.func25, Try.ntmps25
  go_wp2_with fail
  refine (divisor_any _ _ _ (by omega) (by omega) (by omega) (by omega)).mono ?_
  rintro e w1 ⟨rfl, hb1⟩
  have hg1 := M.gi_pos u d h3
  have hg2 := M.gi_le u d h3
  have hg3 : (M.gi u d == 0) = false := by simp; omega
  have hz := hb1.size
  simp at hz
  have c0 : w1.cell? ⟨w.heap.size, 0, none⟩ = some (.int .i64 0) := keepC hb1 (by simp) (by simp)
  have c1 : w1.cell? ⟨w.heap.size, 1, none⟩ = some (.int .i64 0) := keepC hb1 (by simp) (by simp)
  have f0 : w1.frozen? ⟨w.heap.size, 0, none⟩ = false := keepF hb1 (by simp) (by simp)
  have f1 : w1.frozen? ⟨w.heap.size, 1, none⟩ = false := keepF hb1 (by simp) (by simp)
  go_wp2
  go_region
  go_wp2_with fail
  rw [show u.tdiv (M.gi u d) = M.lu u d from rfl, show d / M.gi u d = M.ld u d from rfl]
  refine (bounded_any _ _ _).mono ?_
  rintro e w2 ⟨rfl, hb2⟩
  rw [hb]
  have hz2 := hb2.size
  simp at hz2
  have d0 : w2.cell? ⟨w1.heap.size, 0, none⟩ = some (.int .i64 (M.lu u d)) := keepC hb2 (by simp) (by simp)
  have d1 : w2.cell? ⟨w1.heap.size, 1, none⟩ = some (.int .i64 (M.ld u d)) := keepC hb2 (by simp) (by simp)
  have hb12 : Below w1.heap.size w1 w2 := ((Below.refl _ _).alloc (Nat.le_refl _) _).drew.trans (hb2.mono (by simp))
  replace c0 := keepC hb12 (by omega) c0
  replace c1 := keepC hb12 (by omega) c1
  replace f0 := keepF hb12 (by omega) f0
  replace f1 := keepF hb12 (by omega) f1
  go_wp2
  refine bodyPost_ret (v := .tuple #[.agg #[.int .i64 (M.lu u d), .int .i64 (M.ld u d)], .int .i64 0]) (by simp [results, Try.results25, go_sem, c0, c1]) rfl ⟨rfl, ?_⟩
  exact ((((Below.refl w.heap.size w).alloc (Nat.le_refl _) _).trans (hb1.mono (by simp))).trans (hb12.mono (by omega))).setCell (by simp) _ |>.setCell (by simp) _

set_option maxHeartbeats 400000 in
theorem lowest_no (u d : Int) (w : World) (h1 : -9223372036854775808 ≤ u) (h2 : u ≤ 9223372036854775807) (h3 : 1 ≤ d) (h4 : d ≤ 9223372036854775807) (hb : M.bd (M.lu u d) (M.ld u d) = false) :
    Calls Try.prog 25 #[.int .i64 u, .int .i64 d] w fun e w' => e = .returned (.tuple #[.agg #[.int .i64 0, .int .i64 0], .int .i64 4]) ∧ Below w.heap.size w w' := by
  go_enter Try.func25, Try.ntmps25
  go_wp2_with fail
  refine (divisor_any _ _ _ (by omega) (by omega) (by omega) (by omega)).mono ?_
  rintro e w1 ⟨rfl, hb1⟩
  have hg1 := M.gi_pos u d h3
  have hg2 := M.gi_le u d h3
  have hg3 : (M.gi u d == 0) = false := by simp; omega
  have hz := hb1.size
  simp at hz
  have c0 : w1.cell? ⟨w.heap.size, 0, none⟩ = some (.int .i64 0) := keepC hb1 (by simp) (by simp)
  have c1 : w1.cell? ⟨w.heap.size, 1, none⟩ = some (.int .i64 0) := keepC hb1 (by simp) (by simp)
  have f0 : w1.frozen? ⟨w.heap.size, 0, none⟩ = false := keepF hb1 (by simp) (by simp)
  have f1 : w1.frozen? ⟨w.heap.size, 1, none⟩ = false := keepF hb1 (by simp) (by simp)
  go_wp2
  go_region
  go_wp2_with fail
  rw [show u.tdiv (M.gi u d) = M.lu u d from rfl, show d / M.gi u d = M.ld u d from rfl]
  refine (bounded_any _ _ _).mono ?_
  rintro e w2 ⟨rfl, hb2⟩
  rw [hb]
  have hz2 := hb2.size
  simp at hz2
  have hb12 : Below w1.heap.size w1 w2 := ((Below.refl _ _).alloc (Nat.le_refl _) _).drew.trans (hb2.mono (by simp))
  replace c0 := keepC hb12 (by omega) c0
  replace c1 := keepC hb12 (by omega) c1
  replace f0 := keepF hb12 (by omega) f0
  replace f1 := keepF hb12 (by omega) f1
  go_wp2
  refine bodyPost_ret (v := .tuple #[.agg #[.int .i64 0, .int .i64 0], .int .i64 4]) (by simp [results, Try.results25, go_sem, c0, c1]) rfl ⟨rfl, ?_⟩
  exact ((((Below.refl w.heap.size w).alloc (Nat.le_refl _) _).trans (hb1.mono (by simp))).trans (hb12.mono (by omega))).setCell (by simp) _ |>.setCell (by simp) _

theorem lowest_any (u d : Int) (w : World) (h1 : -9223372036854775808 ≤ u) (h2 : u ≤ 9223372036854775807) (h3 : 1 ≤ d) (h4 : d ≤ 9223372036854775807) :
    Calls Try.prog 25 #[.int .i64 u, .int .i64 d] w fun e w' => e = .returned (.tuple #[.agg #[.int .i64 (M.up u d), .int .i64 (M.dn u d)], .int .i64 (M.er u d)]) ∧ Below w.heap.size w w' := by
  cases hb : M.bd (M.lu u d) (M.ld u d)
  · rw [M.up_no u d hb, M.dn_no u d hb, M.er_no u d hb]; exact lowest_no u d w h1 h2 h3 h4 hb
  · rw [M.up_yes u d hb, M.dn_yes u d hb, M.er_yes u d hb]; exact lowest_yes u d w h1 h2 h3 h4 hb

theorem Make_any (u d : Int) (w : World) (h1 : -9223372036854775808 ≤ u) (h2 : u ≤ 9223372036854775807) (h4 : d ≤ 9223372036854775807) :
    Calls Try.prog 20 #[.int .i64 u, .int .i64 d] w fun e w' => e = .returned (.tuple #[.agg #[.int .i64 (M.mu u d), .int .i64 (M.md u d)], .int .i64 (M.me u d)]) ∧ Below w.heap.size w w' := by
  by_cases h : d < 1
  · rw [M.mu_no u d h, M.md_no u d h, M.me_no u d h]
    go_enter Try.func20, Try.ntmps20
    go_wp2
    go_returns
    exact ⟨rfl, by go_grown⟩
  · have h3 : 1 ≤ d := by omega
    rw [M.mu_yes u d h3, M.md_yes u d h3, M.me_yes u d h3]
    go_enter Try.func20, Try.ntmps20
    go_wp2_with fail
    refine (lowest_any _ _ _ h1 h2 h3 h4).mono ?_
    rintro e w1 ⟨rfl, hb1⟩
    have c0 : w1.cell? ⟨w.heap.size, 0, none⟩ = some (.int .i64 0) := keepC hb1 (by simp) (by simp)
    have c1 : w1.cell? ⟨w.heap.size, 1, none⟩ = some (.int .i64 0) := keepC hb1 (by simp) (by simp)
    have f0 : w1.frozen? ⟨w.heap.size, 0, none⟩ = false := keepF hb1 (by simp) (by simp)
    have f1 : w1.frozen? ⟨w.heap.size, 1, none⟩ = false := keepF hb1 (by simp) (by simp)
    go_wp2
    refine bodyPost_ret (v := .tuple #[.agg #[.int .i64 (M.up u d), .int .i64 (M.dn u d)], .int .i64 (M.er u d)]) (by simp [results, Try.results20, go_sem, c0, c1]) rfl ⟨rfl, ?_⟩
    exact (((Below.refl w.heap.size w).alloc (Nat.le_refl _) _).trans (hb1.mono (by simp))).setCell (by simp) _ |>.setCell (by simp) _

theorem abs_q (n : Int) (w : World) (h0 : -9223372036854775807 ≤ n) (h : n ≤ 9223372036854775807) :
    Calls Try.prog 28 #[.int .i64 n] w fun e w' => e = .returned (.int .i64 (n.natAbs : Nat)) ∧ w' = w := (abs_any n w h0 h).mono fun _ _ ⟨a, b⟩ => ⟨a, b.symm⟩
theorem Divisor_q (a b : Int) (w : World) (h1 : 0 ≤ a) (h2 : a ≤ 9223372036854775807) (h3 : 1 ≤ b) (h4 : b ≤ 9223372036854775807) :
    Calls Try.prog 27 #[.int .i64 a, .int .i64 b] w fun e w' => e = .returned (.int .i64 (M.gi a b)) ∧ w' = w := (Divisor_all a b w h1 h2 h3 h4).mono fun _ _ ⟨a, b⟩ => ⟨a, b.symm⟩

set_option maxHeartbeats 400000 in
theorem refRight_any (u d : Int) (w : World) (_h1 : -9223372036854775808 ≤ u) (_h2 : u ≤ 9223372036854775807) (_h3 : -9223372036854775808 ≤ d) (_h4 : d ≤ 9223372036854775807) :
    Calls Try.prog 18 #[.agg #[.int .i64 u, .int .i64 d]] w fun e w' => e = .returned (.bool (M.ok u d)) ∧ Below w.heap.size w w' := by
  cases hb : M.bd u d
  · have ho := M.ok_no u d hb
    have hbb := M.bd_no u d hb
    rw [ho]
    by_cases c1 : 0 < d
    · by_cases c2 : d ≤ 1073741824
      · by_cases c3 : u ≤ 1073741824
        · have e4 : decide (-1073741824 ≤ u) = false := by simp; omega
          clear hbb
          go_enter Try.func18, Try.ntmps18
          go_wp2_with fail
          go_quiet (fail)
          go_wp2
          go_ret
          exact ⟨rfl, below_drewN ((Below.refl _ _).alloc (Nat.le_refl _) _) _⟩
        · have e3 : decide (u ≤ 1073741824) = false := by simp; omega
          clear hbb
          go_enter Try.func18, Try.ntmps18
          go_wp2_with fail
          go_quiet (fail)
          go_wp2
          go_ret
          exact ⟨rfl, below_drewN ((Below.refl _ _).alloc (Nat.le_refl _) _) _⟩
      · have e3 : decide (d ≤ 1073741824) = false := by simp; omega
        clear hbb
        go_enter Try.func18, Try.ntmps18
        go_wp2_with fail
        go_quiet (fail)
        go_wp2
        go_ret
        exact ⟨rfl, below_drewN ((Below.refl _ _).alloc (Nat.le_refl _) _) _⟩
    · have e3 : decide (0 < d) = false := by simp; omega
      clear hbb
      go_enter Try.func18, Try.ntmps18
      go_wp2_with fail
      go_quiet (fail)
      go_wp2
      go_ret
      exact ⟨rfl, below_drewN ((Below.refl _ _).alloc (Nat.le_refl _) _) _⟩
  · have ho := M.ok_bd u d hb
    have HO : Hid (M.ok u d = (M.gi (u.natAbs : Nat) d == 1)) := by show _ = _; rw [M.gi_abs]; exact ho
    clear ho
    have hbb := M.bd_yes u d hb
    obtain ⟨b1, b2, b3, b4⟩ := hbb
    have b5 : 0 < d := by omega
    go_enter Try.func18, Try.ntmps18
    go_wp2_with fail
    go_quiet (first | (go_at_call 28; exact Calls.quiet_of_same (abs_q _ _ (by omega) (by omega))) | (go_at_call 27; exact Calls.quiet_of_same (Divisor_q _ _ _ (by omega) (by omega) (by omega) (by omega))))
    go_wp2
    go_ret
    exact ⟨ret_bool HO.out.symm, below_drewN ((Below.refl _ _).alloc (Nat.le_refl _) _) _⟩
end Go.Proofs.Ytgcnmmjgdpdmbad.F
