/- The helpers of the outright statements: alive and two; three fractions that came in. -/
import Derived.Test.YtnlbkklndlgojaaW12
import Derived.Test.YtnlbkklndlgojaaMath4
namespace Go.Proofs.Ytnlbkklndlgojaa
open Go.RowKit

theorem alive_any (w : World) : Calls Try.prog 23 #[] w fun e w' => e = .returned (.bool true) ∧ Below w.heap.size w w' := by
  have e1 : M.mu 2 4 = 1 := by decide
  have e2 : M.md 2 4 = 2 := by decide
  have e3 : M.me 2 4 = 0 := by decide
  have HE : Hid (M.mu 2 4 = 1 ∧ M.md 2 4 = 2 ∧ M.me 2 4 = 0) := ⟨e1, e2, e3⟩
  clear e1 e2 e3
  go_enter Try.func23, Try.ntmps23
  go_wp2_with fail
  refine (Make_any 2 4 _ (by omega) (by omega) (by omega)).mono ?_
  rintro e w1 ⟨rfl, hb1⟩
  rw [HE.out.1, HE.out.2.1, HE.out.2.2]
  go_wp2
  go_ret
  exact ⟨rfl, hb1.alloc (by simpa using hb1.size) _⟩

set_option maxHeartbeats 400000 in
theorem two_plus (a b c d : Int) (w : World) (h1 : -9223372036854775808 ≤ a) (h2 : a ≤ 9223372036854775807) (h3 : -9223372036854775808 ≤ b) (h4 : b ≤ 9223372036854775807) (h5 : -9223372036854775808 ≤ c) (h6 : c ≤ 9223372036854775807) (h7 : -9223372036854775808 ≤ d) (h8 : d ≤ 9223372036854775807) :
    Calls Try.prog 24 #[.bool true, .agg #[.int .i64 a, .int .i64 b], .agg #[.int .i64 c, .int .i64 d]] w fun e w' => e = .returned (.tuple #[.agg #[.int .i64 (M.rU (M.ok a b && M.ok c d) (a * d + c * b) (b * d)), .int .i64 (M.rD (M.ok a b && M.ok c d) (a * d + c * b) (b * d))], .bool (M.rE (M.ok a b && M.ok c d) (a * d + c * b) (b * d) == 0)]) ∧ Below w.heap.size w w' := by
  go_enter Try.func24, Try.ntmps24
  go_wp2_with fail
  refine (Plus_any a b c d _ h1 h2 h3 h4 h5 h6 h7 h8).mono ?_
  rintro e w1 ⟨rfl, hb1⟩
  have R0 : w1.cell? ⟨w.heap.size + 1 + 1, 0, none⟩ = some (.int .i64 0) := keepC hb1 (by go_size) (by simp [go_sem])
  have R1 : w1.cell? ⟨w.heap.size + 1 + 1, 1, none⟩ = some (.int .i64 0) := keepC hb1 (by go_size) (by simp [go_sem])
  have F0 : w1.frozen? ⟨w.heap.size + 1 + 1, 0, none⟩ = false := keepF hb1 (by go_size) (by simp [go_sem])
  have F1 : w1.frozen? ⟨w.heap.size + 1 + 1, 1, none⟩ = false := keepF hb1 (by go_size) (by simp [go_sem])
  have hw1 : Below w.heap.size w w1 := Below.trans (by go_grown) (hb1.mono (by go_size))
  have z1 := hb1.size
  simp at z1
  have s2 : w.heap.size + 1 + 1 < w1.heap.size := by omega
  clear hb1
  go_wp2
  refine bodyPost_ret (v := .tuple #[.agg #[.int .i64 _, .int .i64 _], .bool (_ == 0)]) (by simp [results, Try.results24, go_sem, R0, R1, s2]) rfl ⟨rfl, ?_⟩
  exact ((hw1.setCell (by go_size) _).setCell (by go_size) _).alloc (by go_size) _

set_option maxHeartbeats 400000 in
theorem two_times (a b c d : Int) (w : World) (h1 : -9223372036854775808 ≤ a) (h2 : a ≤ 9223372036854775807) (h3 : -9223372036854775808 ≤ b) (h4 : b ≤ 9223372036854775807) (h5 : -9223372036854775808 ≤ c) (h6 : c ≤ 9223372036854775807) (h7 : -9223372036854775808 ≤ d) (h8 : d ≤ 9223372036854775807) :
    Calls Try.prog 24 #[.bool false, .agg #[.int .i64 a, .int .i64 b], .agg #[.int .i64 c, .int .i64 d]] w fun e w' => e = .returned (.tuple #[.agg #[.int .i64 (M.rU (M.ok a b && M.ok c d) (a * c) (b * d)), .int .i64 (M.rD (M.ok a b && M.ok c d) (a * c) (b * d))], .bool (M.rE (M.ok a b && M.ok c d) (a * c) (b * d) == 0)]) ∧ Below w.heap.size w w' := by
  go_enter Try.func24, Try.ntmps24
  go_wp2_with fail
  refine (Times_any a b c d _ h1 h2 h3 h4 h5 h6 h7 h8).mono ?_
  rintro e w1 ⟨rfl, hb1⟩
  have R0 : w1.cell? ⟨w.heap.size + 1 + 1, 0, none⟩ = some (.int .i64 0) := keepC hb1 (by go_size) (by simp [go_sem])
  have R1 : w1.cell? ⟨w.heap.size + 1 + 1, 1, none⟩ = some (.int .i64 0) := keepC hb1 (by go_size) (by simp [go_sem])
  have F0 : w1.frozen? ⟨w.heap.size + 1 + 1, 0, none⟩ = false := keepF hb1 (by go_size) (by simp [go_sem])
  have F1 : w1.frozen? ⟨w.heap.size + 1 + 1, 1, none⟩ = false := keepF hb1 (by go_size) (by simp [go_sem])
  have hw1 : Below w.heap.size w w1 := Below.trans (by go_grown) (hb1.mono (by go_size))
  have z1 := hb1.size
  simp at z1
  have s2 : w.heap.size + 1 + 1 < w1.heap.size := by omega
  clear hb1
  go_wp2
  refine bodyPost_ret (v := .tuple #[.agg #[.int .i64 _, .int .i64 _], .bool (_ == 0)]) (by simp [results, Try.results24, go_sem, R0, R1, s2]) rfl ⟨rfl, ?_⟩
  exact ((hw1.setCell (by go_size) _).setCell (by go_size) _).alloc (by go_size) _

/-- Three fractions that came in, as calls leave them. -/
structure Kp (w W : World) (a b c d e f : Int) : Prop where
  bel : Below w.heap.size w W
  s : w.heap.size + 1 + 1 < W.heap.size
  t0 : w.heap.size < W.heap.size
  t1 : w.heap.size + 1 < W.heap.size
  x0 : W.cell? ⟨w.heap.size, 0, none⟩ = some (.int .i64 a)
  x1 : W.cell? ⟨w.heap.size, 1, none⟩ = some (.int .i64 b)
  y0 : W.cell? ⟨w.heap.size + 1, 0, none⟩ = some (.int .i64 c)
  y1 : W.cell? ⟨w.heap.size + 1, 1, none⟩ = some (.int .i64 d)
  z0 : W.cell? ⟨w.heap.size + 1 + 1, 0, none⟩ = some (.int .i64 e)
  z1 : W.cell? ⟨w.heap.size + 1 + 1, 1, none⟩ = some (.int .i64 f)

theorem Kp.step {w W W' : World} {a b c d e f : Int} (h : Kp w W a b c d e f) (hb : Below W.heap.size W W') : Kp w W' a b c d e f := by
  have z := hb.size
  have k := h.s
  exact ⟨h.bel.trans (hb.mono (by omega)), by omega, by omega, by omega, keepC hb (by omega) h.x0, keepC hb (by omega) h.x1, keepC hb (by omega) h.y0, keepC hb (by omega) h.y1, keepC hb (by omega) h.z0, keepC hb (by omega) h.z1⟩

theorem Kp.mk3 {w w1 : World} {a b c d e f : Int}
    (hb : Below (((w.alloc (.cells #[.int .i64 a, .int .i64 b] 23)).alloc (.cells #[.int .i64 c, .int .i64 d] 23)).alloc (.cells #[.int .i64 e, .int .i64 f] 23)).heap.size (((w.alloc (.cells #[.int .i64 a, .int .i64 b] 23)).alloc (.cells #[.int .i64 c, .int .i64 d] 23)).alloc (.cells #[.int .i64 e, .int .i64 f] 23)) w1) :
    Kp w w1 a b c d e f := by
  have z := hb.size
  simp at z
  exact ⟨Below.trans (by go_grown) (hb.mono (by go_size)), by omega, by omega, by omega, keepC hb (by go_size) (by simp [go_sem]), keepC hb (by go_size) (by simp [go_sem]), keepC hb (by go_size) (by simp [go_sem]), keepC hb (by go_size) (by simp [go_sem]), keepC hb (by go_size) (by simp [go_sem]), keepC hb (by go_size) (by simp [go_sem])⟩

/-- What came in is as it was where a new variable lies. -/
theorem Kp.lay {w W : World} {a b c d e f : Int} (h : Kp w W a b c d e f) (o : Obj) : Kp w (W.alloc o) a b c d e f := h.step (by go_grown)
end Go.Proofs.Ytnlbkklndlgojaa
