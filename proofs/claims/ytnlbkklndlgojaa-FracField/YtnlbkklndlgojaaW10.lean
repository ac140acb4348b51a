/- What the program's and the document's Order come to. -/
import Derived.Test.YtnlbkklndlgojaaW4
import Derived.Test.YtnlbkklndlgojaaMath3
namespace Go.Proofs.Ytnlbkklndlgojaa
open Go.RowKit

theorem Compare_any (x y : Int) (w : World) :
    Calls Try.prog 31 #[.int .i64 x, .int .i64 y] w fun e w' => e = .returned (.int .i64 (M.sg x y)) ∧ w = w' := by
  rcases Int.lt_trichotomy x y with h | h | h
  · rw [M.sg_lt x y h]
    go_enter Try.func31, Try.ntmps31
    go_wp2
    go_ret
    exact ⟨rfl, rfl⟩
  · rw [M.sg_eq x y h]
    subst h
    go_enter Try.func31, Try.ntmps31
    go_wp2
    go_ret
    exact ⟨rfl, rfl⟩
  · rw [M.sg_gt x y h]
    have h' : ¬ x < y := by omega
    go_enter Try.func31, Try.ntmps31
    go_wp2
    go_ret
    exact ⟨rfl, rfl⟩

theorem Sign_any (a b c d : Int) (w : World) (m1 : -1152921504606846976 ≤ a * d) (m2 : a * d ≤ 1152921504606846976) (m3 : -1152921504606846976 ≤ c * b) (m4 : c * b ≤ 1152921504606846976) :
    Calls Try.prog 32 #[.agg #[.int .i64 a, .int .i64 b], .agg #[.int .i64 c, .int .i64 d]] w fun e w' => e = .returned (.int .i64 (M.sg (a * d) (c * b))) ∧ Below w.heap.size w w' := by
  rcases Int.lt_trichotomy (a * d) (c * b) with h | h | h
  · rw [M.sg_lt _ _ h]
    go_enter Try.func32, Try.ntmps32
    go_wp2
    go_ret
    exact ⟨rfl, by go_grown⟩
  · rw [M.sg_eq _ _ h]
    have h1 : ¬ a * d < c * b := by omega
    have h2 : ¬ c * b < a * d := by omega
    clear h
    go_enter Try.func32, Try.ntmps32
    go_wp2
    go_ret
    exact ⟨rfl, by go_grown⟩
  · rw [M.sg_gt _ _ h]
    have h' : ¬ a * d < c * b := by omega
    go_enter Try.func32, Try.ntmps32
    go_wp2
    go_ret
    exact ⟨rfl, by go_grown⟩

set_option maxHeartbeats 400000 in
theorem Order_no (a b c d : Int) (w : World) (h1 : -9223372036854775808 ≤ a) (h2 : a ≤ 9223372036854775807) (h3 : -9223372036854775808 ≤ b) (h4 : b ≤ 9223372036854775807) (h5 : -9223372036854775808 ≤ c) (h6 : c ≤ 9223372036854775807) (h7 : -9223372036854775808 ≤ d) (h8 : d ≤ 9223372036854775807) (hk : (M.ok a b && M.ok c d) = false) :
    Calls Try.prog 21 #[.agg #[.int .i64 a, .int .i64 b], .agg #[.int .i64 c, .int .i64 d]] w fun e w' => e = .returned (.tuple #[.int .i64 0, .int .i64 2]) ∧ Below w.heap.size w w' := by
    go_enter Try.func21, Try.ntmps21
    go_wp2_with fail
    refine (bothRight_any _ _ _ _ _ h1 h2 h3 h4 h5 h6 h7 h8).mono ?_
    rintro e w1 ⟨rfl, hb1⟩
    rw [hk]
    have hw1 : Below w.heap.size w w1 := Below.trans (by go_grown) (hb1.mono (by go_size))
    go_wp2
    go_ret2
    exact ⟨rfl, hw1⟩

set_option maxHeartbeats 400000 in
theorem Order_yes (a b c d : Int) (w : World) (h1 : -9223372036854775808 ≤ a) (h2 : a ≤ 9223372036854775807) (h3 : -9223372036854775808 ≤ b) (h4 : b ≤ 9223372036854775807) (h5 : -9223372036854775808 ≤ c) (h6 : c ≤ 9223372036854775807) (h7 : -9223372036854775808 ≤ d) (h8 : d ≤ 9223372036854775807) (hk1 : M.ok a b = true) (hk2 : M.ok c d = true) :
    Calls Try.prog 21 #[.agg #[.int .i64 a, .int .i64 b], .agg #[.int .i64 c, .int .i64 d]] w fun e w' => e = .returned (.tuple #[.int .i64 (M.sg (a * d) (c * b)), .int .i64 0]) ∧ Below w.heap.size w w' := by
    have hk : (M.ok a b && M.ok c d) = true := by simp [hk1, hk2]
    obtain ⟨a1, a2, b1, b2, _⟩ := M.ok_yes _ _ hk1
    obtain ⟨c1, c2, d1, d2, _⟩ := M.ok_yes _ _ hk2
    obtain ⟨m1, m2⟩ := M.mul_bd a d (by omega) (by omega) (by omega) (by omega)
    obtain ⟨m5, m6⟩ := M.mul_bd c b (by omega) (by omega) (by omega) (by omega)
    clear hk1 hk2
    go_enter Try.func21, Try.ntmps21
    go_wp2_with fail
    refine (bothRight_any _ _ _ _ _ h1 h2 h3 h4 h5 h6 h7 h8).mono ?_
    rintro e w1 ⟨rfl, hb1⟩
    rw [hk]
    have A0 : w1.cell? ⟨w.heap.size, 0, none⟩ = some (.int .i64 a) := keepC hb1 (by go_size) (by simp [go_sem])
    have A1 : w1.cell? ⟨w.heap.size, 1, none⟩ = some (.int .i64 b) := keepC hb1 (by go_size) (by simp [go_sem])
    have B0 : w1.cell? ⟨w.heap.size + 1, 0, none⟩ = some (.int .i64 c) := keepC hb1 (by go_size) (by simp [go_sem])
    have B1 : w1.cell? ⟨w.heap.size + 1, 1, none⟩ = some (.int .i64 d) := keepC hb1 (by go_size) (by simp [go_sem])
    have hw1 : Below w.heap.size w w1 := Below.trans (by go_grown) (hb1.mono (by go_size))
    have z1 := hb1.size
    simp at z1
    clear hb1
    go_wp2_with fail
    refine (Compare_any _ _ _).mono ?_
    rintro e w2 ⟨rfl, rfl⟩
    go_wp2
    go_ret2
    exact ⟨rfl, hw1⟩

set_option maxHeartbeats 400000 in
theorem Order_refno (a b c d : Int) (w : World) (h1 : -9223372036854775808 ≤ a) (h2 : a ≤ 9223372036854775807) (h3 : -9223372036854775808 ≤ b) (h4 : b ≤ 9223372036854775807) (h5 : -9223372036854775808 ≤ c) (h6 : c ≤ 9223372036854775807) (h7 : -9223372036854775808 ≤ d) (h8 : d ≤ 9223372036854775807) (hk : M.ok a b = false ∨ (M.ok a b = true ∧ M.ok c d = false)) :
    Calls Try.prog 22 #[.agg #[.int .i64 a, .int .i64 b], .agg #[.int .i64 c, .int .i64 d]] w fun e w' => e = .returned (.tuple #[.int .i64 0, .int .i64 2]) ∧ Below w.heap.size w w' := by
  rcases hk with hk | ⟨hk1, hk2⟩
  · go_enter Try.func22, Try.ntmps22
    go_wp2_with fail
    refine (refRight_any _ _ _ h1 h2 h3 h4).mono ?_
    rintro e w1 ⟨rfl, hb1⟩
    rw [hk]
    have hw1 : Below w.heap.size w w1 := Below.trans (by go_grown) (hb1.mono (by go_size))
    go_wp2
    go_ret2
    exact ⟨rfl, hw1⟩
  · go_enter Try.func22, Try.ntmps22
    go_wp2_with fail
    refine (refRight_any _ _ _ h1 h2 h3 h4).mono ?_
    rintro e w1 ⟨rfl, hb1⟩
    rw [hk1]
    have A0 : w1.cell? ⟨w.heap.size, 0, none⟩ = some (.int .i64 a) := keepC hb1 (by go_size) (by simp [go_sem])
    have A1 : w1.cell? ⟨w.heap.size, 1, none⟩ = some (.int .i64 b) := keepC hb1 (by go_size) (by simp [go_sem])
    have B0 : w1.cell? ⟨w.heap.size + 1, 0, none⟩ = some (.int .i64 c) := keepC hb1 (by go_size) (by simp [go_sem])
    have B1 : w1.cell? ⟨w.heap.size + 1, 1, none⟩ = some (.int .i64 d) := keepC hb1 (by go_size) (by simp [go_sem])
    have hw1 : Below w.heap.size w w1 := Below.trans (by go_grown) (hb1.mono (by go_size))
    have z1 := hb1.size
    simp at z1
    clear A0 A1 hb1
    go_wp2_with fail
    refine (refRight_any _ _ _ h5 h6 h7 h8).mono ?_
    rintro e w2 ⟨rfl, hb2⟩
    rw [hk2]
    clear B0 B1
    go_wp2
    go_ret2
    exact ⟨rfl, hw1.trans (hb2.mono (by omega))⟩

set_option maxHeartbeats 400000 in
theorem Order_refyes (a b c d : Int) (w : World) (h1 : -9223372036854775808 ≤ a) (h2 : a ≤ 9223372036854775807) (h3 : -9223372036854775808 ≤ b) (h4 : b ≤ 9223372036854775807) (h5 : -9223372036854775808 ≤ c) (h6 : c ≤ 9223372036854775807) (h7 : -9223372036854775808 ≤ d) (h8 : d ≤ 9223372036854775807) (hk1 : M.ok a b = true) (hk2 : M.ok c d = true) :
    Calls Try.prog 22 #[.agg #[.int .i64 a, .int .i64 b], .agg #[.int .i64 c, .int .i64 d]] w fun e w' => e = .returned (.tuple #[.int .i64 (M.sg (a * d) (c * b)), .int .i64 0]) ∧ Below w.heap.size w w' := by
    obtain ⟨a1, a2, b1, b2, _⟩ := M.ok_yes _ _ hk1
    obtain ⟨c1, c2, d1, d2, _⟩ := M.ok_yes _ _ hk2
    obtain ⟨m1, m2⟩ := M.mul_bd a d (by omega) (by omega) (by omega) (by omega)
    obtain ⟨m5, m6⟩ := M.mul_bd c b (by omega) (by omega) (by omega) (by omega)
    go_enter Try.func22, Try.ntmps22
    go_wp2_with fail
    refine (refRight_any _ _ _ h1 h2 h3 h4).mono ?_
    rintro e w1 ⟨rfl, hb1⟩
    rw [hk1]
    have A0 : w1.cell? ⟨w.heap.size, 0, none⟩ = some (.int .i64 a) := keepC hb1 (by go_size) (by simp [go_sem])
    have A1 : w1.cell? ⟨w.heap.size, 1, none⟩ = some (.int .i64 b) := keepC hb1 (by go_size) (by simp [go_sem])
    have B0 : w1.cell? ⟨w.heap.size + 1, 0, none⟩ = some (.int .i64 c) := keepC hb1 (by go_size) (by simp [go_sem])
    have B1 : w1.cell? ⟨w.heap.size + 1, 1, none⟩ = some (.int .i64 d) := keepC hb1 (by go_size) (by simp [go_sem])
    have hw1 : Below w.heap.size w w1 := Below.trans (by go_grown) (hb1.mono (by go_size))
    have z1 := hb1.size
    simp at z1
    clear hb1
    go_wp2_with fail
    refine (refRight_any _ _ _ h5 h6 h7 h8).mono ?_
    rintro e w2 ⟨rfl, hb2⟩
    rw [hk2]
    replace A0 := keepC hb2 (by omega) A0
    replace A1 := keepC hb2 (by omega) A1
    replace B0 := keepC hb2 (by omega) B0
    replace B1 := keepC hb2 (by omega) B1
    have z2 := hb2.size
    have hw2 := hw1.trans (hb2.mono (by omega))
    clear hb2 hw1
    go_wp2_with fail
    refine (Sign_any _ _ _ _ _ m1 m2 m5 m6).mono ?_
    rintro e w3 ⟨rfl, hb3⟩
    go_wp2
    go_ret2
    exact ⟨rfl, hw2.trans (hb3.mono (by omega))⟩
end Go.Proofs.Ytnlbkklndlgojaa
