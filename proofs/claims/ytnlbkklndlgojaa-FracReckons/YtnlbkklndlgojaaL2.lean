/- The statement FracReckons: the walk of its text. -/
import Derived.Test.YtnlbkklndlgojaaW12
namespace Go.Proofs.Ytnlbkklndlgojaa
open Go.RowKit

set_option maxHeartbeats 2000000 in
theorem reckons_walk (a b c d : Int) (w : World) (h1 : -9223372036854775808 ≤ a) (h2 : a ≤ 9223372036854775807) (h3 : -9223372036854775808 ≤ b) (h4 : b ≤ 9223372036854775807) (h5 : -9223372036854775808 ≤ c) (h6 : c ≤ 9223372036854775807) (h7 : -9223372036854775808 ≤ d) (h8 : d ≤ 9223372036854775807) :
    Calls Try.prog 4 #[.agg #[.int .i64 a, .int .i64 b], .agg #[.int .i64 c, .int .i64 d]] w fun e w' => e = .returned (.bool true) ∧ Below w.heap.size w w' := by
  go_enter Try.func4, Try.ntmps4
  go_wp2_with fail
  refine (Plus_any a b c d _ h1 h2 h3 h4 h5 h6 h7 h8).mono ?_
  rintro e w1 ⟨rfl, hb1⟩
  have x0 : w1.cell? ⟨w.heap.size, 0, none⟩ = some (.int .i64 a) := keepC hb1 (by go_size) (by simp [go_sem])
  have x1 : w1.cell? ⟨w.heap.size, 1, none⟩ = some (.int .i64 b) := keepC hb1 (by go_size) (by simp [go_sem])
  have y0 : w1.cell? ⟨w.heap.size + 1, 0, none⟩ = some (.int .i64 c) := keepC hb1 (by go_size) (by simp [go_sem])
  have y1 : w1.cell? ⟨w.heap.size + 1, 1, none⟩ = some (.int .i64 d) := keepC hb1 (by go_size) (by simp [go_sem])
  have z1 := hb1.size
  simp at z1
  have s1 : w.heap.size < w1.heap.size := by omega
  have s2 : w.heap.size + 1 < w1.heap.size := by omega
  go_wp2_with fail
  refine (Plus_ref a b c d _ h1 h2 h3 h4 h5 h6 h7 h8).mono ?_
  rintro e w2 ⟨rfl, hb2⟩
  have st := St.mk2 (r := .int .i64 (M.rU (M.ok a b && M.ok c d) (a * d + c * b) (b * d))) (s := .int .i64 (M.rD (M.ok a b && M.ok c d) (a * d + c * b) (b * d))) hb1 hb2
  clear x0 x1 y0 y1 hb1 hb2 z1 s1 s2
  have ss := st
  obtain ⟨_, t0, t1, t2, x0, x1, y0, y1, p0, p1, r0, r1, f0, f1, g0, g1⟩ := ss
  go_wp2_with fail
  refine (Minus_any a b c d _ h1 h2 h3 h4 h5 h6 h7 h8).mono ?_
  rintro e w3 ⟨rfl, hb⟩
  replace st := st.step hb
  clear hb
  clear t0 t1 t2 x0 x1 y0 y1 p0 p1 r0 r1 f0 f1 g0 g1
  have ss := st
  obtain ⟨_, t0, t1, t2, x0, x1, y0, y1, p0, p1, r0, r1, f0, f1, g0, g1⟩ := ss
  go_wp2_with fail
  refine (Minus_ref a b c d _ h1 h2 h3 h4 h5 h6 h7 h8).mono ?_
  rintro e w4 ⟨rfl, hb⟩
  replace st := (st.setA _ _).step hb
  clear hb
  clear t0 t1 t2 x0 x1 y0 y1 p0 p1 r0 r1 f0 f1 g0 g1
  have ss := st
  obtain ⟨_, t0, t1, t2, x0, x1, y0, y1, p0, p1, r0, r1, f0, f1, g0, g1⟩ := ss
  go_wp2_with fail
  refine (Times_any a b c d _ h1 h2 h3 h4 h5 h6 h7 h8).mono ?_
  rintro e w5 ⟨rfl, hb⟩
  replace st := (st.setB _ _).step hb
  clear hb
  clear t0 t1 t2 x0 x1 y0 y1 p0 p1 r0 r1 f0 f1 g0 g1
  have ss := st
  obtain ⟨_, t0, t1, t2, x0, x1, y0, y1, p0, p1, r0, r1, f0, f1, g0, g1⟩ := ss
  go_wp2_with fail
  refine (Times_ref a b c d _ h1 h2 h3 h4 h5 h6 h7 h8).mono ?_
  rintro e w6 ⟨rfl, hb⟩
  replace st := (st.setA _ _).step hb
  clear hb
  clear t0 t1 t2 x0 x1 y0 y1 p0 p1 r0 r1 f0 f1 g0 g1
  have ss := st
  obtain ⟨_, t0, t1, t2, x0, x1, y0, y1, p0, p1, r0, r1, f0, f1, g0, g1⟩ := ss
  go_wp2_with fail
  refine (Over_any a b c d _ h1 h2 h3 h4 h5 h6 h7 h8).mono ?_
  rintro e w7 ⟨rfl, hb⟩
  replace st := (st.setB _ _).step hb
  clear hb
  clear t0 t1 t2 x0 x1 y0 y1 p0 p1 r0 r1 f0 f1 g0 g1
  have ss := st
  obtain ⟨_, t0, t1, t2, x0, x1, y0, y1, p0, p1, r0, r1, f0, f1, g0, g1⟩ := ss
  go_wp2_with fail
  refine (Over_ref a b c d _ h1 h2 h3 h4 h5 h6 h7 h8).mono ?_
  rintro e w8 ⟨rfl, hb⟩
  replace st := (st.setA _ _).step hb
  clear hb
  clear t0 t1 t2 x0 x1 y0 y1 p0 p1 r0 r1 f0 f1 g0 g1
  have ss := st
  obtain ⟨_, t0, t1, t2, x0, x1, y0, y1, p0, p1, r0, r1, f0, f1, g0, g1⟩ := ss
  go_wp2_with fail
  refine (Order_any a b c d _ h1 h2 h3 h4 h5 h6 h7 h8).mono ?_
  rintro e w9 ⟨rfl, hb⟩
  replace st := (st.setB _ _).step hb
  clear hb
  clear t0 t1 t2 x0 x1 y0 y1 p0 p1 r0 r1 f0 f1 g0 g1
  have ss := st
  obtain ⟨_, t0, t1, t2, x0, x1, y0, y1, p0, p1, r0, r1, f0, f1, g0, g1⟩ := ss
  go_wp2_with fail
  refine (Order_ref a b c d _ h1 h2 h3 h4 h5 h6 h7 h8).mono ?_
  rintro e w10 ⟨rfl, hb⟩
  replace st := st.step hb
  clear hb
  clear t0 t1 t2 x0 x1 y0 y1 p0 p1 r0 r1 f0 f1 g0 g1
  go_wp2
  go_ret
  exact ⟨rfl, st.bel⟩
end Go.Proofs.Ytnlbkklndlgojaa
