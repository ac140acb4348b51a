/- What the program's Length and wrongLength come to. -/
import Derived.Test.YtgcnmmjgdpdmbadFW2
import Derived.Test.YtgcnmmjgdpdmbadRMath2
import Derived.LoopTactic
import Derived.Deep.RegionWith
namespace Go.Proofs.Ytgcnmmjgdpdmbad.F
open Go.RowKit
set_option linter.unusedVariables false
set_option linter.unusedSimpArgs false

theorem wid {x : Int} (h1 : -9223372036854775808 ≤ x) (h2 : x ≤ 9223372036854775807) : IntKind.i64.wrap x = x := by
  rw [IntKind.wrap_i64]; omega
/-- What a cell holds, whatever it is. -/
def cv (w : World) (b o : Nat) : Value := (w.cell? ⟨b, o, none⟩).getD (.bool false)
theorem cv_some {w : World} {b o : Nat} {v : Value} (h : w.cell? ⟨b, o, none⟩ = some v) : w.cell? ⟨b, o, none⟩ = some (cv w b o) := by unfold cv; rw [h]; rfl
theorem Length_no (h d : Int) (w : World) (hk : h < 0 ∨ 10 < h ∨ d < 0 ∨ 3 < d) :
    Calls Try.prog 11 #[.agg #[.int .i64 h, .int .i64 d]] w fun e w' => e = .returned (.tuple #[.agg #[.int .i64 0, .int .i64 0], .int .i64 3]) ∧ Below w.heap.size w w' := by
  by_cases h1 : h < 0
  · go_enter Try.func11, Try.ntmps11
    go_wp2_with fail
    go_returns
    exact ⟨rfl, by go_grown⟩
  by_cases h2 : 10 < h
  · go_enter Try.func11, Try.ntmps11
    go_wp2_with fail
    go_returns
    exact ⟨rfl, by go_grown⟩
  by_cases h3 : d < 0
  · go_enter Try.func11, Try.ntmps11
    go_wp2_with fail
    go_returns
    exact ⟨rfl, by go_grown⟩
  have h4 : 3 < d := by omega
  clear hk
  go_enter Try.func11, Try.ntmps11
  go_wp2_with fail
  go_returns
  exact ⟨rfl, by go_grown⟩

theorem shl1 (n : Nat) (v : Int) (hn : n ≤ 13) (hv : v = 2 ^ n) : Op.shift .shl .i64 1 .i64 (n : Int) = pure (.int .i64 v) := by
  have h2 : (2 : Int) ^ n ≤ 2 ^ 13 := M.pow_le n 13 hn
  have h3 : (0 : Int) ≤ 2 ^ n := by exact Int.pow_nonneg (by omega)
  rw [shift_shl .i64 .i64 1 n (by omega) (by show (n : Int) ≤ 64; omega)]
  simp only [Int.toNat_natCast, Int.one_mul]
  rw [wid (by omega) (by omega), hv]
set_option maxHeartbeats 1000000 in
theorem Length_gen (a b U V D : Int) (w : World) (ha : 0 ≤ a) (ha2 : a ≤ 10) (hb : 0 ≤ b) (hb2 : b ≤ 3)
    (hs1 : Op.shift .shl .i64 1 .i64 (IntKind.i64.wrap (b + 1)) = pure (.int .i64 V)) (hs2 : Op.shift .shl .i64 1 .i64 (IntKind.i64.wrap (a + b)) = pure (.int .i64 D)) (hs3 : IntKind.i64.wrap (V - 1) = U)
    (hM : ∀ w, Calls Try.prog 20 #[.int .i64 U, .int .i64 D] w fun e w' => e = .returned (.tuple #[.agg #[.int .i64 U, .int .i64 D], .int .i64 0]) ∧ Below w.heap.size w w') :
    Calls Try.prog 11 #[.agg #[.int .i64 a, .int .i64 b]] w fun e w' => e = .returned (.tuple #[.agg #[.int .i64 U, .int .i64 D], .int .i64 0]) ∧ Below w.heap.size w w' := by
  go_enter Try.func11, Try.ntmps11
  go_wp2_with fail
  go_region_with (go_at_call 20; refine (hM _).mono ?_; rintro e wa ⟨rfl, hba⟩; have d0 : wa.cell? ⟨w.heap.size + 1, 0, none⟩ = some (.int .i64 0) := keepC hba (by simp) (by simp [go_sem]); have d1 : wa.cell? ⟨w.heap.size + 1, 1, none⟩ = some (.int .i64 0) := keepC hba (by simp) (by simp [go_sem]); have f0 : wa.frozen? ⟨w.heap.size + 1, 0, none⟩ = false := keepF hba (by simp) (by simp [go_sem]); have f1 : wa.frozen? ⟨w.heap.size + 1, 1, none⟩ = false := keepF hba (by simp) (by simp [go_sem]); have z1 : w.heap.size + 1 < wa.heap.size := (by have := hba.size; simp at this; omega); have hbw : Below w.heap.size w wa := Below.trans (by go_grown) (hba.mono (by simp; omega)))
  all_goals
    go_wp2_with fail
    refine bodyPost_ret (v := .tuple #[.agg #[.int .i64 U, .int .i64 D], .int .i64 0]) (by simp [results, Try.results11, go_sem, d0, d1]) rfl ⟨rfl, ?_⟩
    exact (hbw.setCell (by simp) _).setCell (by simp) _
theorem Length_yes (h d : Nat) (w : World) (hh : h ≤ 10) (hd : d ≤ 3) :
    Calls Try.prog 11 #[.agg #[.int .i64 h, .int .i64 d]] w fun e w' => e = .returned (.tuple #[.agg #[.int .i64 (M.LU d), .int .i64 (M.LD h d)], .int .i64 0]) ∧ Below w.heap.size w w' := by
  obtain ⟨m1, m2, m3⟩ := M.L_make h d hh hd
  obtain ⟨_, l1, l2, l3, l4⟩ := M.L_ok h d hh hd
  refine Length_gen h d (M.LU d) (M.LU d + 1) (M.LD h d) w (by omega) (by omega) (by omega) (by omega) ?_ ?_ ?_ ?_
  · rw [wid (by omega) (by omega)]; exact shl1 (d + 1) _ (by omega) (by unfold M.LU; omega)
  · rw [wid (by omega) (by omega), ← Int.natCast_add]; exact shl1 (h + d) (M.LD h d) (by omega) rfl
  · rw [wid (by omega) (by omega)]; omega
  · intro w
    have hM := Make_any (M.LU d) (M.LD h d) w (by omega) (by omega) (by omega)
    rw [m1, m2, m3] at hM
    exact hM

theorem wrongLength_form (u d : Int) (w : World) (h1 : -9223372036854775808 ≤ u) (h2 : u ≤ 9223372036854775807) (h3 : -9223372036854775808 ≤ d) (h4 : d ≤ 9223372036854775807) (hk : M.ok u d = false) :
    Calls Try.prog 14 #[.agg #[.int .i64 u, .int .i64 d]] w fun e w' => e = .returned (.int .i64 2) ∧ Below w.heap.size w w' := by
  go_enter Try.func14, Try.ntmps14
  go_wp2_with fail
  refine (Right_any u d _ h1 h2 h3 h4).mono ?_
  rintro e w1 ⟨rfl, hb1⟩
  rw [hk]
  go_wp2_with fail
  go_ret
  exact ⟨rfl, Below.trans (by go_grown) (hb1.mono (by go_size))⟩
theorem wrongLength_range (u d : Int) (w : World) (hk : M.ok u d = true) (hu : u ≤ 0) :
    Calls Try.prog 14 #[.agg #[.int .i64 u, .int .i64 d]] w fun e w' => e = .returned (.int .i64 3) ∧ Below w.heap.size w w' := by
  obtain ⟨k1, k2, k3, k4, _⟩ := M.ok_yes _ _ hk
  go_enter Try.func14, Try.ntmps14
  go_wp2_with fail
  refine (Right_any u d _ (by omega) (by omega) (by omega) (by omega)).mono ?_
  rintro e w1 ⟨rfl, hb1⟩
  rw [hk]
  have A0 : w1.cell? ⟨w.heap.size, 0, none⟩ = some (.int .i64 u) := keepC hb1 (by go_size) (by simp [go_sem])
  have z1 := hb1.size
  simp at z1
  go_wp2_with fail
  go_ret
  exact ⟨rfl, Below.trans (by go_grown) (hb1.mono (by go_size))⟩
theorem wrongLength_yes (u d : Int) (w : World) (hk : M.ok u d = true) (hu : 0 < u) :
    Calls Try.prog 14 #[.agg #[.int .i64 u, .int .i64 d]] w fun e w' => e = .returned (.int .i64 0) ∧ Below w.heap.size w w' := by
  obtain ⟨k1, k2, k3, k4, _⟩ := M.ok_yes _ _ hk
  go_enter Try.func14, Try.ntmps14
  go_wp2_with fail
  refine (Right_any u d _ (by omega) (by omega) (by omega) (by omega)).mono ?_
  rintro e w1 ⟨rfl, hb1⟩
  rw [hk]
  have A0 : w1.cell? ⟨w.heap.size, 0, none⟩ = some (.int .i64 u) := keepC hb1 (by go_size) (by simp [go_sem])
  have z1 := hb1.size
  simp at z1
  go_wp2_with fail
  go_ret
  exact ⟨rfl, Below.trans (by go_grown) (hb1.mono (by go_size))⟩
end Go.Proofs.Ytgcnmmjgdpdmbad.F
