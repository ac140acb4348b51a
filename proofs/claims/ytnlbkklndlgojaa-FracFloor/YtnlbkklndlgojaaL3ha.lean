/- The statement FracFloor: the walk of its text. -/
import Derived.Test.YtnlbkklndlgojaaW13
namespace Go.Proofs.Ytnlbkklndlgojaa
open Go.RowKit
set_option linter.unusedVariables false

set_option maxHeartbeats 1000000 in
theorem floor_h_a_kz0 (a b c d e f : Int) (w : World) (h1 : -9223372036854775808 ≤ a) (h2 : a ≤ 9223372036854775807) (h3 : -9223372036854775808 ≤ b) (h4 : b ≤ 9223372036854775807) (h5 : -9223372036854775808 ≤ c) (h6 : c ≤ 9223372036854775807) (h7 : -9223372036854775808 ≤ d) (h8 : d ≤ 9223372036854775807) (h9 : -9223372036854775808 ≤ e) (h10 : e ≤ 9223372036854775807) (h11 : -9223372036854775808 ≤ f) (h12 : f ≤ 9223372036854775807) (kx : M.ok a b = true) (hn : a / b + 1 ≤ 1073741824) (ky : M.ok c d = true) (kz : M.ok e f = false) (ea : (a == c) = false) :
    Calls Try.prog 6 #[.agg #[.int .i64 a, .int .i64 b], .agg #[.int .i64 c, .int .i64 d], .agg #[.int .i64 e, .int .i64 f]] w fun e w' => e = .returned (.bool true) ∧ Below w.heap.size w w' := by
  obtain ⟨a1, a2, b1, b2, _⟩ := M.ok_yes _ _ kx
  obtain ⟨q1, q2⟩ := M.div_bd a b a1 a2 b1
  have ln := M.ok_one (a / b) q1 q2
  have fle := M.floor_le a b kx
  have ln1 := M.ok_one (a / b + 1) (by omega) hn
  have fgt := M.floor_gt a b kx
  have FG : Hid (M.sg ((a / b + 1) * b) (a * 1) = 1) := fgt
  clear fgt
  obtain ⟨c1, c2, d1, d2, _⟩ := M.ok_yes _ _ ky
  have hsw := M.sg_swap (a * d) (c * b)
  have hsm := M.sg_same a b c d kx ky
  obtain ⟨g1, g2⟩ := M.sg_bd (c * b) (a * d)
  have SW : Hid (M.sg (a * d) (c * b) = -M.sg (c * b) (a * d)) := hsw
  have SM : Hid ((M.sg (a * d) (c * b) == 0) = ((a == c) && (b == d))) := hsm
  clear hsw hsm
  go_enter Try.func6, Try.ntmps6
  go_wp2_with fail
  refine (alive_any _).mono ?_
  rintro e w1 ⟨rfl, hb⟩
  have kp := Kp.mk3 hb
  clear hb
  have kk := kp
  obtain ⟨_, ks, s0, s1, x0, x1, y0, y1, z0, z1⟩ := kk
  go_wp2_with fail
  refine (Floor_any a b _ h1 h2 h3 h4).mono ?_
  rintro e w2 ⟨rfl, hb⟩
  rw [M.fl_yes a b kx, M.fe_yes a b kx]
  replace kp := kp.step hb
  clear hb ks s0 s1 x0 x1 y0 y1 z0 z1
  have kk := kp
  obtain ⟨_, ks, s0, s1, x0, x1, y0, y1, z0, z1⟩ := kk
  go_wp2_with fail
  refine (Order_yes (a / b) 1 a b _ (by omega) (by omega) (by omega) (by omega) h1 h2 h3 h4 ln kx).mono ?_
  rintro e w3 ⟨rfl, hb⟩
  replace kp := kp.step hb
  clear hb ks s0 s1 x0 x1 y0 y1 z0 z1
  generalize M.sg (a / b * b) (a * 1) = g at *
  have kk := kp
  obtain ⟨_, ks, s0, s1, x0, x1, y0, y1, z0, z1⟩ := kk
  go_wp2_with fail
  refine (Order_yes (a / b + 1) 1 a b _ (by omega) (by omega) (by omega) (by omega) h1 h2 h3 h4 ln1 kx).mono ?_
  rintro e w4 ⟨rfl, hb⟩
  rw [FG.out]
  replace kp := kp.step hb
  clear hb ks s0 s1 x0 x1 y0 y1 z0 z1
  have kk := kp
  obtain ⟨_, ks, s0, s1, x0, x1, y0, y1, z0, z1⟩ := kk
  go_wp2_with fail
  refine (Order_yes a b c d _ h1 h2 h3 h4 h5 h6 h7 h8 kx ky).mono ?_
  rintro e w5 ⟨rfl, hb⟩
  replace kp := kp.step hb
  clear hb ks s0 s1 x0 x1 y0 y1 z0 z1
  have kk := kp
  obtain ⟨_, ks, s0, s1, x0, x1, y0, y1, z0, z1⟩ := kk
  go_wp2_with fail
  refine (Order_yes c d a b _ h5 h6 h7 h8 h1 h2 h3 h4 ky kx).mono ?_
  rintro e w6 ⟨rfl, hb⟩
  replace kp := kp.step hb
  clear hb ks s0 s1 x0 x1 y0 y1 z0 z1
  have t1 : (M.sg (a * d) (c * b) != -M.sg (c * b) (a * d)) = false := by rw [← SW.out]; simp
  have t2 : (M.sg (a * d) (c * b) == 0) = false := by rw [SM.out]; simp [ea]
  have kk := kp
  obtain ⟨_, ks, s0, s1, x0, x1, y0, y1, z0, z1⟩ := kk
  go_wp2_with fail
  clear t1 t2
  refine (two_plus a b e f _ h1 h2 h3 h4 h9 h10 h11 h12).mono ?_
  rintro e' w7 ⟨rfl, hb⟩
  rw [show (M.ok a b && M.ok e f) = false from by rw [kx, kz]; rfl]
  replace kp := kp.step hb
  clear hb ks s0 s1 x0 x1 y0 y1 z0 z1
  rw [show M.rE false (a * f + e * b) (b * f) = 2 from rfl]
  have kk := kp
  obtain ⟨_, ks, s0, s1, x0, x1, y0, y1, z0, z1⟩ := kk
  go_wp2_with fail
  refine (two_plus c d e f _ h5 h6 h7 h8 h9 h10 h11 h12).mono ?_
  rintro e' w8 ⟨rfl, hb⟩
  rw [show (M.ok c d && M.ok e f) = false from by rw [ky, kz]; rfl]
  replace kp := (kp.lay _).step hb
  clear ks s0 s1 x0 x1 y0 y1 z0 z1
  clear hb
  go_wp2
  go_ret
  exact ⟨rfl, (kp.lay _).bel⟩

set_option maxHeartbeats 1000000 in
theorem floor_h_a_s1 (a b c d e f : Int) (w : World) (h1 : -9223372036854775808 ≤ a) (h2 : a ≤ 9223372036854775807) (h3 : -9223372036854775808 ≤ b) (h4 : b ≤ 9223372036854775807) (h5 : -9223372036854775808 ≤ c) (h6 : c ≤ 9223372036854775807) (h7 : -9223372036854775808 ≤ d) (h8 : d ≤ 9223372036854775807) (h9 : -9223372036854775808 ≤ e) (h10 : e ≤ 9223372036854775807) (h11 : -9223372036854775808 ≤ f) (h12 : f ≤ 9223372036854775807) (kx : M.ok a b = true) (hn : a / b + 1 ≤ 1073741824) (ky : M.ok c d = true) (kz : M.ok e f = true) (r1 : M.rE true (a * f + e * b) (b * f) ≠ 0) (ea : (a == c) = false) :
    Calls Try.prog 6 #[.agg #[.int .i64 a, .int .i64 b], .agg #[.int .i64 c, .int .i64 d], .agg #[.int .i64 e, .int .i64 f]] w fun e w' => e = .returned (.bool true) ∧ Below w.heap.size w w' := by
  obtain ⟨a1, a2, b1, b2, _⟩ := M.ok_yes _ _ kx
  obtain ⟨q1, q2⟩ := M.div_bd a b a1 a2 b1
  have ln := M.ok_one (a / b) q1 q2
  have fle := M.floor_le a b kx
  have ln1 := M.ok_one (a / b + 1) (by omega) hn
  have fgt := M.floor_gt a b kx
  have FG : Hid (M.sg ((a / b + 1) * b) (a * 1) = 1) := fgt
  clear fgt
  obtain ⟨c1, c2, d1, d2, _⟩ := M.ok_yes _ _ ky
  have hsw := M.sg_swap (a * d) (c * b)
  have hsm := M.sg_same a b c d kx ky
  obtain ⟨g1, g2⟩ := M.sg_bd (c * b) (a * d)
  have SW : Hid (M.sg (a * d) (c * b) = -M.sg (c * b) (a * d)) := hsw
  have SM : Hid ((M.sg (a * d) (c * b) == 0) = ((a == c) && (b == d))) := hsm
  clear hsw hsm
  obtain ⟨e1, e2, f1, f2, _⟩ := M.ok_yes _ _ kz
  have v1 := M.mul_pos' b f b1 f1
  have v2 := M.mul_pos' d f d1 f1
  have R1 : Hid (M.rE true (a * f + e * b) (b * f) ≠ 0) := r1
  clear r1 v1
  go_enter Try.func6, Try.ntmps6
  go_wp2_with fail
  refine (alive_any _).mono ?_
  rintro e w1 ⟨rfl, hb⟩
  have kp := Kp.mk3 hb
  clear hb
  have kk := kp
  obtain ⟨_, ks, s0, s1, x0, x1, y0, y1, z0, z1⟩ := kk
  go_wp2_with fail
  refine (Floor_any a b _ h1 h2 h3 h4).mono ?_
  rintro e w2 ⟨rfl, hb⟩
  rw [M.fl_yes a b kx, M.fe_yes a b kx]
  replace kp := kp.step hb
  clear hb ks s0 s1 x0 x1 y0 y1 z0 z1
  have kk := kp
  obtain ⟨_, ks, s0, s1, x0, x1, y0, y1, z0, z1⟩ := kk
  go_wp2_with fail
  refine (Order_yes (a / b) 1 a b _ (by omega) (by omega) (by omega) (by omega) h1 h2 h3 h4 ln kx).mono ?_
  rintro e w3 ⟨rfl, hb⟩
  replace kp := kp.step hb
  clear hb ks s0 s1 x0 x1 y0 y1 z0 z1
  generalize M.sg (a / b * b) (a * 1) = g at *
  have kk := kp
  obtain ⟨_, ks, s0, s1, x0, x1, y0, y1, z0, z1⟩ := kk
  go_wp2_with fail
  refine (Order_yes (a / b + 1) 1 a b _ (by omega) (by omega) (by omega) (by omega) h1 h2 h3 h4 ln1 kx).mono ?_
  rintro e w4 ⟨rfl, hb⟩
  rw [FG.out]
  replace kp := kp.step hb
  clear hb ks s0 s1 x0 x1 y0 y1 z0 z1
  have kk := kp
  obtain ⟨_, ks, s0, s1, x0, x1, y0, y1, z0, z1⟩ := kk
  go_wp2_with fail
  refine (Order_yes a b c d _ h1 h2 h3 h4 h5 h6 h7 h8 kx ky).mono ?_
  rintro e w5 ⟨rfl, hb⟩
  replace kp := kp.step hb
  clear hb ks s0 s1 x0 x1 y0 y1 z0 z1
  have kk := kp
  obtain ⟨_, ks, s0, s1, x0, x1, y0, y1, z0, z1⟩ := kk
  go_wp2_with fail
  refine (Order_yes c d a b _ h5 h6 h7 h8 h1 h2 h3 h4 ky kx).mono ?_
  rintro e w6 ⟨rfl, hb⟩
  replace kp := kp.step hb
  clear hb ks s0 s1 x0 x1 y0 y1 z0 z1
  have t1 : (M.sg (a * d) (c * b) != -M.sg (c * b) (a * d)) = false := by rw [← SW.out]; simp
  have t2 : (M.sg (a * d) (c * b) == 0) = false := by rw [SM.out]; simp [ea]
  have kk := kp
  obtain ⟨_, ks, s0, s1, x0, x1, y0, y1, z0, z1⟩ := kk
  go_wp2_with fail
  clear t1 t2
  refine (two_plus a b e f _ h1 h2 h3 h4 h9 h10 h11 h12).mono ?_
  rintro e' w7 ⟨rfl, hb⟩
  rw [show (M.ok a b && M.ok e f) = true from by rw [kx, kz]; rfl]
  replace kp := kp.step hb
  clear hb ks s0 s1 x0 x1 y0 y1 z0 z1
  rw [show (M.rE true (a * f + e * b) (b * f) == 0) = false from by rw [beq_eq_false_iff_ne]; exact R1.out]
  have kk := kp
  obtain ⟨_, ks, s0, s1, x0, x1, y0, y1, z0, z1⟩ := kk
  go_wp2_with fail
  refine (two_plus c d e f _ h5 h6 h7 h8 h9 h10 h11 h12).mono ?_
  rintro e' w8 ⟨rfl, hb⟩
  rw [show (M.ok c d && M.ok e f) = true from by rw [ky, kz]; rfl]
  replace kp := (kp.lay _).step hb
  clear ks s0 s1 x0 x1 y0 y1 z0 z1
  clear hb
  go_wp2
  go_ret
  exact ⟨rfl, (kp.lay _).bel⟩

set_option maxHeartbeats 1000000 in
theorem floor_h_a_s2 (a b c d e f : Int) (w : World) (h1 : -9223372036854775808 ≤ a) (h2 : a ≤ 9223372036854775807) (h3 : -9223372036854775808 ≤ b) (h4 : b ≤ 9223372036854775807) (h5 : -9223372036854775808 ≤ c) (h6 : c ≤ 9223372036854775807) (h7 : -9223372036854775808 ≤ d) (h8 : d ≤ 9223372036854775807) (h9 : -9223372036854775808 ≤ e) (h10 : e ≤ 9223372036854775807) (h11 : -9223372036854775808 ≤ f) (h12 : f ≤ 9223372036854775807) (kx : M.ok a b = true) (hn : a / b + 1 ≤ 1073741824) (ky : M.ok c d = true) (kz : M.ok e f = true) (r1 : M.rE true (a * f + e * b) (b * f) = 0) (r2 : M.rE true (c * f + e * d) (d * f) ≠ 0) (ea : (a == c) = false) :
    Calls Try.prog 6 #[.agg #[.int .i64 a, .int .i64 b], .agg #[.int .i64 c, .int .i64 d], .agg #[.int .i64 e, .int .i64 f]] w fun e w' => e = .returned (.bool true) ∧ Below w.heap.size w w' := by
  obtain ⟨a1, a2, b1, b2, _⟩ := M.ok_yes _ _ kx
  obtain ⟨q1, q2⟩ := M.div_bd a b a1 a2 b1
  have ln := M.ok_one (a / b) q1 q2
  have fle := M.floor_le a b kx
  have ln1 := M.ok_one (a / b + 1) (by omega) hn
  have fgt := M.floor_gt a b kx
  have FG : Hid (M.sg ((a / b + 1) * b) (a * 1) = 1) := fgt
  clear fgt
  obtain ⟨c1, c2, d1, d2, _⟩ := M.ok_yes _ _ ky
  have hsw := M.sg_swap (a * d) (c * b)
  have hsm := M.sg_same a b c d kx ky
  obtain ⟨g1, g2⟩ := M.sg_bd (c * b) (a * d)
  have SW : Hid (M.sg (a * d) (c * b) = -M.sg (c * b) (a * d)) := hsw
  have SM : Hid ((M.sg (a * d) (c * b) == 0) = ((a == c) && (b == d))) := hsm
  clear hsw hsm
  obtain ⟨e1, e2, f1, f2, _⟩ := M.ok_yes _ _ kz
  have v1 := M.mul_pos' b f b1 f1
  have v2 := M.mul_pos' d f d1 f1
  have R1 : Hid (M.rE true (a * f + e * b) (b * f) = 0) := r1
  clear r1 v1
  have R2 : Hid (M.rE true (c * f + e * d) (d * f) ≠ 0) := r2
  clear r2 v2
  go_enter Try.func6, Try.ntmps6
  go_wp2_with fail
  refine (alive_any _).mono ?_
  rintro e w1 ⟨rfl, hb⟩
  have kp := Kp.mk3 hb
  clear hb
  have kk := kp
  obtain ⟨_, ks, s0, s1, x0, x1, y0, y1, z0, z1⟩ := kk
  go_wp2_with fail
  refine (Floor_any a b _ h1 h2 h3 h4).mono ?_
  rintro e w2 ⟨rfl, hb⟩
  rw [M.fl_yes a b kx, M.fe_yes a b kx]
  replace kp := kp.step hb
  clear hb ks s0 s1 x0 x1 y0 y1 z0 z1
  have kk := kp
  obtain ⟨_, ks, s0, s1, x0, x1, y0, y1, z0, z1⟩ := kk
  go_wp2_with fail
  refine (Order_yes (a / b) 1 a b _ (by omega) (by omega) (by omega) (by omega) h1 h2 h3 h4 ln kx).mono ?_
  rintro e w3 ⟨rfl, hb⟩
  replace kp := kp.step hb
  clear hb ks s0 s1 x0 x1 y0 y1 z0 z1
  generalize M.sg (a / b * b) (a * 1) = g at *
  have kk := kp
  obtain ⟨_, ks, s0, s1, x0, x1, y0, y1, z0, z1⟩ := kk
  go_wp2_with fail
  refine (Order_yes (a / b + 1) 1 a b _ (by omega) (by omega) (by omega) (by omega) h1 h2 h3 h4 ln1 kx).mono ?_
  rintro e w4 ⟨rfl, hb⟩
  rw [FG.out]
  replace kp := kp.step hb
  clear hb ks s0 s1 x0 x1 y0 y1 z0 z1
  have kk := kp
  obtain ⟨_, ks, s0, s1, x0, x1, y0, y1, z0, z1⟩ := kk
  go_wp2_with fail
  refine (Order_yes a b c d _ h1 h2 h3 h4 h5 h6 h7 h8 kx ky).mono ?_
  rintro e w5 ⟨rfl, hb⟩
  replace kp := kp.step hb
  clear hb ks s0 s1 x0 x1 y0 y1 z0 z1
  have kk := kp
  obtain ⟨_, ks, s0, s1, x0, x1, y0, y1, z0, z1⟩ := kk
  go_wp2_with fail
  refine (Order_yes c d a b _ h5 h6 h7 h8 h1 h2 h3 h4 ky kx).mono ?_
  rintro e w6 ⟨rfl, hb⟩
  replace kp := kp.step hb
  clear hb ks s0 s1 x0 x1 y0 y1 z0 z1
  have t1 : (M.sg (a * d) (c * b) != -M.sg (c * b) (a * d)) = false := by rw [← SW.out]; simp
  have t2 : (M.sg (a * d) (c * b) == 0) = false := by rw [SM.out]; simp [ea]
  have kk := kp
  obtain ⟨_, ks, s0, s1, x0, x1, y0, y1, z0, z1⟩ := kk
  go_wp2_with fail
  clear t1 t2
  refine (two_plus a b e f _ h1 h2 h3 h4 h9 h10 h11 h12).mono ?_
  rintro e' w7 ⟨rfl, hb⟩
  rw [show (M.ok a b && M.ok e f) = true from by rw [kx, kz]; rfl]
  replace kp := kp.step hb
  clear hb ks s0 s1 x0 x1 y0 y1 z0 z1
  rw [show (M.rE true (a * f + e * b) (b * f) == 0) = true from by rw [beq_iff_eq]; exact R1.out]
  have kk := kp
  obtain ⟨_, ks, s0, s1, x0, x1, y0, y1, z0, z1⟩ := kk
  go_wp2_with fail
  refine (two_plus c d e f _ h5 h6 h7 h8 h9 h10 h11 h12).mono ?_
  rintro e' w8 ⟨rfl, hb⟩
  rw [show (M.ok c d && M.ok e f) = true from by rw [ky, kz]; rfl]
  replace kp := (kp.lay _).step hb
  clear ks s0 s1 x0 x1 y0 y1 z0 z1
  rw [show (M.rE true (c * f + e * d) (d * f) == 0) = false from by rw [beq_eq_false_iff_ne]; exact R2.out]
  clear hb
  go_wp2
  go_ret
  exact ⟨rfl, (kp.lay _).bel⟩

set_option maxHeartbeats 1000000 in
theorem floor_h_a_s3 (a b c d e f : Int) (w : World) (h1 : -9223372036854775808 ≤ a) (h2 : a ≤ 9223372036854775807) (h3 : -9223372036854775808 ≤ b) (h4 : b ≤ 9223372036854775807) (h5 : -9223372036854775808 ≤ c) (h6 : c ≤ 9223372036854775807) (h7 : -9223372036854775808 ≤ d) (h8 : d ≤ 9223372036854775807) (h9 : -9223372036854775808 ≤ e) (h10 : e ≤ 9223372036854775807) (h11 : -9223372036854775808 ≤ f) (h12 : f ≤ 9223372036854775807) (kx : M.ok a b = true) (hn : a / b + 1 ≤ 1073741824) (ky : M.ok c d = true) (kz : M.ok e f = true) (r1 : M.rE true (a * f + e * b) (b * f) = 0) (r2 : M.rE true (c * f + e * d) (d * f) = 0) (ea : (a == c) = false) :
    Calls Try.prog 6 #[.agg #[.int .i64 a, .int .i64 b], .agg #[.int .i64 c, .int .i64 d], .agg #[.int .i64 e, .int .i64 f]] w fun e w' => e = .returned (.bool true) ∧ Below w.heap.size w w' := by
  obtain ⟨a1, a2, b1, b2, _⟩ := M.ok_yes _ _ kx
  obtain ⟨q1, q2⟩ := M.div_bd a b a1 a2 b1
  have ln := M.ok_one (a / b) q1 q2
  have fle := M.floor_le a b kx
  have ln1 := M.ok_one (a / b + 1) (by omega) hn
  have fgt := M.floor_gt a b kx
  have FG : Hid (M.sg ((a / b + 1) * b) (a * 1) = 1) := fgt
  clear fgt
  obtain ⟨c1, c2, d1, d2, _⟩ := M.ok_yes _ _ ky
  have hsw := M.sg_swap (a * d) (c * b)
  have hsm := M.sg_same a b c d kx ky
  obtain ⟨g1, g2⟩ := M.sg_bd (c * b) (a * d)
  have SW : Hid (M.sg (a * d) (c * b) = -M.sg (c * b) (a * d)) := hsw
  have SM : Hid ((M.sg (a * d) (c * b) == 0) = ((a == c) && (b == d))) := hsm
  clear hsw hsm
  obtain ⟨e1, e2, f1, f2, _⟩ := M.ok_yes _ _ kz
  have v1 := M.mul_pos' b f b1 f1
  have v2 := M.mul_pos' d f d1 f1
  obtain ⟨u1, u2, u3⟩ := M.r_yes _ _ v1 r1
  obtain ⟨u4, u5, u6⟩ := M.r_yes _ _ v2 r2
  have us := M.sg_sums a b c d e f b1 d1 f1
  have UU : Hid (M.rU true (a * f + e * b) (b * f) = M.lu (a * f + e * b) (b * f) ∧ M.rD true (a * f + e * b) (b * f) = M.ld (a * f + e * b) (b * f) ∧ M.rU true (c * f + e * d) (d * f) = M.lu (c * f + e * d) (d * f) ∧ M.rD true (c * f + e * d) (d * f) = M.ld (c * f + e * d) (d * f) ∧ M.sg (M.lu (a * f + e * b) (b * f) * M.ld (c * f + e * d) (d * f)) (M.lu (c * f + e * d) (d * f) * M.ld (a * f + e * b) (b * f)) = M.sg (a * d) (c * b)) := ⟨u1, u2, u4, u5, us⟩
  clear u1 u2 u4 u5 us
  have R1 : Hid (M.rE true (a * f + e * b) (b * f) = 0) := r1
  clear r1 v1
  have R2 : Hid (M.rE true (c * f + e * d) (d * f) = 0) := r2
  clear r2 v2
  go_enter Try.func6, Try.ntmps6
  go_wp2_with fail
  refine (alive_any _).mono ?_
  rintro e w1 ⟨rfl, hb⟩
  have kp := Kp.mk3 hb
  clear hb
  have kk := kp
  obtain ⟨_, ks, s0, s1, x0, x1, y0, y1, z0, z1⟩ := kk
  go_wp2_with fail
  refine (Floor_any a b _ h1 h2 h3 h4).mono ?_
  rintro e w2 ⟨rfl, hb⟩
  rw [M.fl_yes a b kx, M.fe_yes a b kx]
  replace kp := kp.step hb
  clear hb ks s0 s1 x0 x1 y0 y1 z0 z1
  have kk := kp
  obtain ⟨_, ks, s0, s1, x0, x1, y0, y1, z0, z1⟩ := kk
  go_wp2_with fail
  refine (Order_yes (a / b) 1 a b _ (by omega) (by omega) (by omega) (by omega) h1 h2 h3 h4 ln kx).mono ?_
  rintro e w3 ⟨rfl, hb⟩
  replace kp := kp.step hb
  clear hb ks s0 s1 x0 x1 y0 y1 z0 z1
  generalize M.sg (a / b * b) (a * 1) = g at *
  have kk := kp
  obtain ⟨_, ks, s0, s1, x0, x1, y0, y1, z0, z1⟩ := kk
  go_wp2_with fail
  refine (Order_yes (a / b + 1) 1 a b _ (by omega) (by omega) (by omega) (by omega) h1 h2 h3 h4 ln1 kx).mono ?_
  rintro e w4 ⟨rfl, hb⟩
  rw [FG.out]
  replace kp := kp.step hb
  clear hb ks s0 s1 x0 x1 y0 y1 z0 z1
  have kk := kp
  obtain ⟨_, ks, s0, s1, x0, x1, y0, y1, z0, z1⟩ := kk
  go_wp2_with fail
  refine (Order_yes a b c d _ h1 h2 h3 h4 h5 h6 h7 h8 kx ky).mono ?_
  rintro e w5 ⟨rfl, hb⟩
  replace kp := kp.step hb
  clear hb ks s0 s1 x0 x1 y0 y1 z0 z1
  have kk := kp
  obtain ⟨_, ks, s0, s1, x0, x1, y0, y1, z0, z1⟩ := kk
  go_wp2_with fail
  refine (Order_yes c d a b _ h5 h6 h7 h8 h1 h2 h3 h4 ky kx).mono ?_
  rintro e w6 ⟨rfl, hb⟩
  replace kp := kp.step hb
  clear hb ks s0 s1 x0 x1 y0 y1 z0 z1
  have t1 : (M.sg (a * d) (c * b) != -M.sg (c * b) (a * d)) = false := by rw [← SW.out]; simp
  have t2 : (M.sg (a * d) (c * b) == 0) = false := by rw [SM.out]; simp [ea]
  have kk := kp
  obtain ⟨_, ks, s0, s1, x0, x1, y0, y1, z0, z1⟩ := kk
  go_wp2_with fail
  clear t1 t2
  refine (two_plus a b e f _ h1 h2 h3 h4 h9 h10 h11 h12).mono ?_
  rintro e' w7 ⟨rfl, hb⟩
  rw [show (M.ok a b && M.ok e f) = true from by rw [kx, kz]; rfl]
  replace kp := kp.step hb
  clear hb ks s0 s1 x0 x1 y0 y1 z0 z1
  rw [show (M.rE true (a * f + e * b) (b * f) == 0) = true from by rw [beq_iff_eq]; exact R1.out]
  rw [UU.out.1, UU.out.2.1]
  have kk := kp
  obtain ⟨_, ks, s0, s1, x0, x1, y0, y1, z0, z1⟩ := kk
  go_wp2_with fail
  refine (two_plus c d e f _ h5 h6 h7 h8 h9 h10 h11 h12).mono ?_
  rintro e' w8 ⟨rfl, hb⟩
  rw [show (M.ok c d && M.ok e f) = true from by rw [ky, kz]; rfl]
  replace kp := (kp.lay _).step hb
  clear ks s0 s1 x0 x1 y0 y1 z0 z1
  rw [show (M.rE true (c * f + e * d) (d * f) == 0) = true from by rw [beq_iff_eq]; exact R2.out]
  rw [UU.out.2.2.1, UU.out.2.2.2.1]
  have P0 : w8.cell? ⟨w7.heap.size, 0, none⟩ = some (.int .i64 (M.lu (a * f + e * b) (b * f))) := keepC hb (by simp) (by simp)
  have P1 : w8.cell? ⟨w7.heap.size, 1, none⟩ = some (.int .i64 (M.ld (a * f + e * b) (b * f))) := keepC hb (by simp) (by simp)
  have zz := hb.size
  simp at zz
  have zs : w7.heap.size < w8.heap.size := by omega
  clear hb
  have l1 := M.ok_yes _ _ u3
  have l2 := M.ok_yes _ _ u6
  go_wp2_with fail
  refine (Order_yes (M.lu (a * f + e * b) (b * f)) (M.ld (a * f + e * b) (b * f)) (M.lu (c * f + e * d) (d * f)) (M.ld (c * f + e * d) (d * f)) _ (by omega) (by omega) (by omega) (by omega) (by omega) (by omega) (by omega) (by omega) u3 u6).mono ?_
  rintro e' wz ⟨rfl, hb⟩
  rw [UU.out.2.2.2.2]
  replace kp := (kp.lay _).step hb
  go_wp2
  go_ret
  exact ⟨rfl, kp.bel⟩

end Go.Proofs.Ytnlbkklndlgojaa
