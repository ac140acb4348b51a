/- What the document's Write comes to, where nothing is written; what SameValues comes to. -/
import Derived.Test.YthhaakhjcagmnacR4
import Derived.Test.YthhaakhjcagmnacR5
namespace Go.Proofs.Ythhaakhjcagmnac.F
open Go.RowKit
set_option linter.unusedVariables false
set_option linter.unusedSimpArgs false

theorem refWrite_form (u d : Int) (w : World) (h1 : -9223372036854775808 ≤ u) (h2 : u ≤ 9223372036854775807) (h3 : -9223372036854775808 ≤ d) (h4 : d ≤ 9223372036854775807) (hk : M.ok u d = false) :
    Calls Try.prog 18 #[.agg #[.int .i64 u, .int .i64 d]] w fun e w' => e = .returned (.tuple #[.slice none 0 0, .int .i64 2]) ∧ Below w.heap.size w w' := by
  go_enter Try.func18, Try.ntmps18
  go_wp2_with fail
  refine (refRight_any u d _ h1 h2 h3 h4).mono ?_
  rintro e w1 ⟨rfl, hb1⟩
  rw [hk]
  go_wp2_with fail
  go_returns
  exact ⟨rfl, Below.trans (by go_grown) (hb1.mono (by go_size))⟩
theorem refWrite_range (u d : Int) (w : World) (hk : M.ok u d = true) (hu : u ≤ 0 ∨ 65536 * d < u) :
    Calls Try.prog 18 #[.agg #[.int .i64 u, .int .i64 d]] w fun e w' => e = .returned (.tuple #[.slice none 0 0, .int .i64 3]) ∧ Below w.heap.size w w' := by
  obtain ⟨k1, k2, k3, k4, _⟩ := M.ok_yes _ _ hk
  rcases (show u < 1 ∨ (¬ u < 1 ∧ 65536 * d < u) by omega) with h | ⟨h, h'⟩
  all_goals
    clear hu
    go_enter Try.func18, Try.ntmps18
    go_wp2_with fail
    refine (refRight_any u d _ (by omega) (by omega) (by omega) (by omega)).mono ?_
    rintro e w1 ⟨rfl, hb1⟩
    rw [hk]
    have A0 : w1.cell? ⟨w.heap.size, 0, none⟩ = some (.int .i64 u) := keepC hb1 (by go_size) (by simp [go_sem])
    have A1 : w1.cell? ⟨w.heap.size, 1, none⟩ = some (.int .i64 d) := keepC hb1 (by go_size) (by simp [go_sem])
    have z1 := hb1.size
    simp at z1
    go_wp2_with fail
    go_returns
    exact ⟨rfl, Below.trans (by go_grown) (hb1.mono (by go_size))⟩
theorem refWrite_none (u d : Int) (w : World) (hk : M.ok u d = true) (h0 : 0 < u) (hu : u ≤ 65536 * d) (hd : 1024 % d ≠ 0) :
    Calls Try.prog 18 #[.agg #[.int .i64 u, .int .i64 d]] w fun e w' => e = .returned (.tuple #[.slice none 0 0, .int .i64 6]) ∧ Below w.heap.size w w' := by
  obtain ⟨k1, k2, k3, k4, _⟩ := M.ok_yes _ _ hk
  have hne : d ≠ 0 := by omega
  have hdb : (1024 % d != 0) = true := by simpa using hd
  have h1 : ¬ u < 1 := by omega
  go_enter Try.func18, Try.ntmps18
  go_wp2_with fail
  refine (refRight_any u d _ (by omega) (by omega) (by omega) (by omega)).mono ?_
  rintro e w1 ⟨rfl, hb1⟩
  rw [hk]
  have A0 : w1.cell? ⟨w.heap.size, 0, none⟩ = some (.int .i64 u) := keepC hb1 (by go_size) (by simp [go_sem])
  have A1 : w1.cell? ⟨w.heap.size, 1, none⟩ = some (.int .i64 d) := keepC hb1 (by go_size) (by simp [go_sem])
  have z1 := hb1.size
  simp at z1
  go_wp2_with fail
  go_returns
  exact ⟨rfl, Below.trans (by go_grown) (hb1.mono (by go_size))⟩

theorem SameValues_nil (w : World) :
    Calls Try.prog 19 #[.slice none 0 0, .slice none 0 0] w fun e w' => e = .returned (.bool true) ∧ Below w.heap.size w w' := by
  go_enter Try.func19, Try.ntmps19
  go_wp2_with fail
  refine wp_loop_rounds 1 ?_
  rw [rounds_succ]
  go_wp2_with fail
  go_ret
  exact ⟨rfl, by go_grown⟩

set_option maxHeartbeats 1000000 in
theorem SameValues_own (v v' : Value) (N base base' : Nat) (F : Nat → List Value) (x y : Nat → Int) (w : World) (hN : 1 ≤ N) (hN2 : N ≤ 70000) (hF : ∀ k, F k = [.int .i64 (x k), .int .i64 (y k)])
    (h : w.ownsRow base 44 2 v N (rows F N)) (h' : w.ownsRow base' 44 2 v' N (rows F N)) :
    Calls Try.prog 19 #[v, v'] w fun e w' => e = .returned (.bool true) ∧ Below w.heap.size w w' := by
  have hlen : ∀ k, (F k).length = 2 := fun k => by rw [hF k]; rfl
  obtain ⟨g, cap, rfl, _, c2, c3, c4⟩ := own_cells h (by omega)
  obtain ⟨g', cap', rfl, _, c2', c3', c4'⟩ := own_cells h' (by omega)
  have H0 : Hid (∀ k, k < N → w.cell? ⟨g, k * 2, none⟩ = some (.int .i64 (x k)) ∧ w.cell? ⟨g, k * 2 + 1, none⟩ = some (.int .i64 (y k)) ∧ w.cell? ⟨g', k * 2, none⟩ = some (.int .i64 (x k)) ∧ w.cell? ⟨g', k * 2 + 1, none⟩ = some (.int .i64 (y k))) := fun k hk => by
    have e0 := rows_get hlen N k 0 hk (by omega)
    have e1 := rows_get hlen N k 1 hk (by omega)
    rw [Nat.add_zero] at e0
    rw [hF k] at e0 e1
    exact ⟨(c4 _ (by omega)).trans e0, (c4 _ (by omega)).trans e1, (c4' _ (by omega)).trans e0, (c4' _ (by omega)).trans e1⟩
  clear c4 c4' h h' hF hlen
  go_enter Try.func19, Try.ntmps19
  go_wp2_with fail
  go_loopw [13] (fun i wr => ∃ k : Nat, k ≤ N ∧ i = .int .i64 k ∧ Below w.heap.size w wr)
    (fun i _ => N - (intOf i).toNat)
  case atStart => exact ⟨0, by omega, rfl, Below.refl _ _⟩
  case round =>
    obtain ⟨k, hk, rfl, hbr⟩ := hrel
    have zr := hbr.size
    by_cases hlt : k < N
    · obtain ⟨m0, m1, m2, m3⟩ := H0.out k hlt
      have q0 := keepC hbr c2 m0
      have q1 := keepC hbr c2 m1
      have r0 := keepC hbr c2' m2
      have r1 := keepC hbr c2' m3
      clear m0 m1 m2 m3
      generalize x k = X at *
      generalize y k = Y at *
      go_wp2_with fail
      go_region
      go_wp2_with fail
      go_roundw
      case rel => exact ⟨k + 1, by omega, by go_num, hbr.drew⟩
      case measure => simp [intOf]; omega
    · go_wp2_with fail
      go_ret
      exact ⟨rfl, hbr⟩
end Go.Proofs.Ythhaakhjcagmnac.F
