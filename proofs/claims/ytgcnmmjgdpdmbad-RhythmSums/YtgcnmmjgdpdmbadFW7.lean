/- What the program's and the document's Plus, Minus and Times come to. -/
import Derived.Test.YtgcnmmjgdpdmbadFW4
namespace Go.Proofs.Ytgcnmmjgdpdmbad.F
open Go.RowKit

set_option maxHeartbeats 400000 in
theorem Times_no (a b c d : Int) (w : World) (h1 : -9223372036854775808 ≤ a) (h2 : a ≤ 9223372036854775807) (h3 : -9223372036854775808 ≤ b) (h4 : b ≤ 9223372036854775807) (h5 : -9223372036854775808 ≤ c) (h6 : c ≤ 9223372036854775807) (h7 : -9223372036854775808 ≤ d) (h8 : d ≤ 9223372036854775807) (hk : (M.ok a b && M.ok c d) = false) :
    Calls Try.prog 31 #[.agg #[.int .i64 a, .int .i64 b], .agg #[.int .i64 c, .int .i64 d]] w fun e w' => e = .returned (.tuple #[.agg #[.int .i64 0, .int .i64 0], .int .i64 2]) ∧ Below w.heap.size w w' := by
    go_enter Try.func31, Try.ntmps31
    go_wp2_with fail
    refine (bothRight_any _ _ _ _ _ h1 h2 h3 h4 h5 h6 h7 h8).mono ?_
    rintro e w1 ⟨rfl, hb1⟩
    rw [hk]
    have A0 : w1.cell? ⟨w.heap.size, 0, none⟩ = some (.int .i64 a) := keepC hb1 (by go_size) (by simp [go_sem])
    have A1 : w1.cell? ⟨w.heap.size, 1, none⟩ = some (.int .i64 b) := keepC hb1 (by go_size) (by simp [go_sem])
    have B0 : w1.cell? ⟨w.heap.size + 1, 0, none⟩ = some (.int .i64 c) := keepC hb1 (by go_size) (by simp [go_sem])
    have B1 : w1.cell? ⟨w.heap.size + 1, 1, none⟩ = some (.int .i64 d) := keepC hb1 (by go_size) (by simp [go_sem])
    have R0 : w1.cell? ⟨w.heap.size + 2, 0, none⟩ = some (.int .i64 0) := keepC hb1 (by go_size) (by simp [go_sem])
    have R1 : w1.cell? ⟨w.heap.size + 2, 1, none⟩ = some (.int .i64 0) := keepC hb1 (by go_size) (by simp [go_sem])
    have F0 : w1.frozen? ⟨w.heap.size + 2, 0, none⟩ = false := keepF hb1 (by go_size) (by simp [go_sem])
    have F1 : w1.frozen? ⟨w.heap.size + 2, 1, none⟩ = false := keepF hb1 (by go_size) (by simp [go_sem])
    have hw1 : Below w.heap.size w w1 := Below.trans (by go_grown) (hb1.mono (by go_size))
    have z1 := hb1.size
    simp at z1
    clear A0 A1 B0 B1
    go_wp2
    refine bodyPost_ret (v := .tuple #[.agg #[.int .i64 0, .int .i64 0], .int .i64 2]) (by simp [results, Try.results31, go_sem, R0, R1]) rfl ⟨rfl, ?_⟩
    exact (hw1.setCell (by go_size) _).setCell (by go_size) _

set_option maxHeartbeats 400000 in
theorem Times_yes (a b c d : Int) (w : World) (h1 : -9223372036854775808 ≤ a) (h2 : a ≤ 9223372036854775807) (h3 : -9223372036854775808 ≤ b) (h4 : b ≤ 9223372036854775807) (h5 : -9223372036854775808 ≤ c) (h6 : c ≤ 9223372036854775807) (h7 : -9223372036854775808 ≤ d) (h8 : d ≤ 9223372036854775807) (hk : (M.ok a b && M.ok c d) = true) :
    Calls Try.prog 31 #[.agg #[.int .i64 a, .int .i64 b], .agg #[.int .i64 c, .int .i64 d]] w fun e w' => e = .returned (.tuple #[.agg #[.int .i64 (M.up (a * c) (b * d)), .int .i64 (M.dn (a * c) (b * d))], .int .i64 (M.er (a * c) (b * d))]) ∧ Below w.heap.size w w' := by
    obtain ⟨k1, k2⟩ : M.ok a b = true ∧ M.ok c d = true := by simpa using hk
    obtain ⟨a1, a2, b1, b2, _⟩ := M.ok_yes _ _ k1
    obtain ⟨c1, c2, d1, d2, _⟩ := M.ok_yes _ _ k2
    obtain ⟨m1, m2⟩ := M.mul_bd a d (by omega) (by omega) (by omega) (by omega)
    obtain ⟨m3, m4⟩ := M.mul_bd c b (by omega) (by omega) (by omega) (by omega)
    obtain ⟨m5, m6⟩ := M.mul_bd b d (by omega) (by omega) (by omega) (by omega)
    obtain ⟨m7, m8⟩ := M.mul_bd a c (by omega) (by omega) (by omega) (by omega)
    have m9 := M.mul_pos' b d b1 d1
    clear k1 k2
    go_enter Try.func31, Try.ntmps31
    go_wp2_with fail
    refine (bothRight_any _ _ _ _ _ h1 h2 h3 h4 h5 h6 h7 h8).mono ?_
    rintro e w1 ⟨rfl, hb1⟩
    rw [hk]
    have A0 : w1.cell? ⟨w.heap.size, 0, none⟩ = some (.int .i64 a) := keepC hb1 (by go_size) (by simp [go_sem])
    have A1 : w1.cell? ⟨w.heap.size, 1, none⟩ = some (.int .i64 b) := keepC hb1 (by go_size) (by simp [go_sem])
    have B0 : w1.cell? ⟨w.heap.size + 1, 0, none⟩ = some (.int .i64 c) := keepC hb1 (by go_size) (by simp [go_sem])
    have B1 : w1.cell? ⟨w.heap.size + 1, 1, none⟩ = some (.int .i64 d) := keepC hb1 (by go_size) (by simp [go_sem])
    have R0 : w1.cell? ⟨w.heap.size + 2, 0, none⟩ = some (.int .i64 0) := keepC hb1 (by go_size) (by simp [go_sem])
    have R1 : w1.cell? ⟨w.heap.size + 2, 1, none⟩ = some (.int .i64 0) := keepC hb1 (by go_size) (by simp [go_sem])
    have F0 : w1.frozen? ⟨w.heap.size + 2, 0, none⟩ = false := keepF hb1 (by go_size) (by simp [go_sem])
    have F1 : w1.frozen? ⟨w.heap.size + 2, 1, none⟩ = false := keepF hb1 (by go_size) (by simp [go_sem])
    have hw1 : Below w.heap.size w w1 := Below.trans (by go_grown) (hb1.mono (by go_size))
    have z1 := hb1.size
    simp at z1
    clear hb1
    go_wp2_with fail
    refine (lowest_any (a * c) (b * d) _ (by omega) (by omega) (by omega) (by omega)).mono ?_
    rintro e w2 ⟨rfl, hb2⟩
    replace R0 := keepC hb2 (by omega) R0
    replace R1 := keepC hb2 (by omega) R1
    replace F0 := keepF hb2 (by omega) F0
    replace F1 := keepF hb2 (by omega) F1
    go_wp2
    refine bodyPost_ret (v := .tuple #[.agg #[.int .i64 (M.up (a * c) (b * d)), .int .i64 (M.dn (a * c) (b * d))], .int .i64 (M.er (a * c) (b * d))]) (by simp [results, Try.results31, go_sem, R0, R1]) rfl ⟨rfl, ?_⟩
    exact ((hw1.trans (hb2.mono (by omega))).setCell (by go_size) _).setCell (by go_size) _

end Go.Proofs.Ytgcnmmjgdpdmbad.F
