/- The statement FracFloor: the walk of its text. -/
import Derived.Test.YtnlbkklndlgojaaW13
namespace Go.Proofs.Ytnlbkklndlgojaa
open Go.RowKit
set_option linter.unusedVariables false

set_option maxHeartbeats 1000000 in
theorem floor_no (a b c d e f : Int) (w : World) (h1 : -9223372036854775808 ≤ a) (h2 : a ≤ 9223372036854775807) (h3 : -9223372036854775808 ≤ b) (h4 : b ≤ 9223372036854775807) (h5 : -9223372036854775808 ≤ c) (h6 : c ≤ 9223372036854775807) (h7 : -9223372036854775808 ≤ d) (h8 : d ≤ 9223372036854775807) (h9 : -9223372036854775808 ≤ e) (h10 : e ≤ 9223372036854775807) (h11 : -9223372036854775808 ≤ f) (h12 : f ≤ 9223372036854775807) (kx : M.ok a b = false) :
    Calls Try.prog 6 #[.agg #[.int .i64 a, .int .i64 b], .agg #[.int .i64 c, .int .i64 d], .agg #[.int .i64 e, .int .i64 f]] w fun e w' => e = .returned (.bool true) ∧ Below w.heap.size w w' := by
  go_enter Try.func6, Try.ntmps6
  go_wp2_with fail
  refine (alive_any _).mono ?_
  rintro e w1 ⟨rfl, hb⟩
  have kp := Kp.mk3 hb
  clear hb
  have kk := kp
  obtain ⟨_, ks, s0, s1, x0, x1, y0, y1, z0, z1⟩ := kk
  go_wp2_with fail
  refine (Floor_any a b _ h1 h2 h3 h4).mono ?_
  rintro e w2 ⟨rfl, hb⟩
  rw [M.fl_no a b kx, M.fe_no a b kx]
  replace kp := kp.step hb
  clear hb ks s0 s1 x0 x1 y0 y1 z0 z1
  have kk := kp
  obtain ⟨_, ks, s0, s1, x0, x1, y0, y1, z0, z1⟩ := kk
  go_wp2_with fail
  refine (Order_no a b c d _ h1 h2 h3 h4 h5 h6 h7 h8 (by rw [kx]; rfl)).mono ?_
  rintro e w3 ⟨rfl, hb⟩
  replace kp := kp.step hb
  clear hb ks s0 s1 x0 x1 y0 y1 z0 z1
  go_wp2
  go_ret
  exact ⟨rfl, kp.bel⟩
set_option maxHeartbeats 1000000 in
theorem floor_h_ky0 (a b c d e f : Int) (w : World) (h1 : -9223372036854775808 ≤ a) (h2 : a ≤ 9223372036854775807) (h3 : -9223372036854775808 ≤ b) (h4 : b ≤ 9223372036854775807) (h5 : -9223372036854775808 ≤ c) (h6 : c ≤ 9223372036854775807) (h7 : -9223372036854775808 ≤ d) (h8 : d ≤ 9223372036854775807) (h9 : -9223372036854775808 ≤ e) (h10 : e ≤ 9223372036854775807) (h11 : -9223372036854775808 ≤ f) (h12 : f ≤ 9223372036854775807) (kx : M.ok a b = true) (hn : a / b + 1 ≤ 1073741824) (ky : M.ok c d = false) :
    Calls Try.prog 6 #[.agg #[.int .i64 a, .int .i64 b], .agg #[.int .i64 c, .int .i64 d], .agg #[.int .i64 e, .int .i64 f]] w fun e w' => e = .returned (.bool true) ∧ Below w.heap.size w w' := by
  obtain ⟨a1, a2, b1, b2, _⟩ := M.ok_yes _ _ kx
  obtain ⟨q1, q2⟩ := M.div_bd a b a1 a2 b1
  have ln := M.ok_one (a / b) q1 q2
  have fle := M.floor_le a b kx
  have ln1 := M.ok_one (a / b + 1) (by omega) hn
  have fgt := M.floor_gt a b kx
  have FG : Hid (M.sg ((a / b + 1) * b) (a * 1) = 1) := fgt
  clear fgt
  go_enter Try.func6, Try.ntmps6
  go_wp2_with fail
  refine (alive_any _).mono ?_
  rintro e w1 ⟨rfl, hb⟩
  have kp := Kp.mk3 hb
  clear hb
  have kk := kp
  obtain ⟨_, ks, s0, s1, x0, x1, y0, y1, z0, z1⟩ := kk
  go_wp2_with fail
  refine (Floor_any a b _ h1 h2 h3 h4).mono ?_
  rintro e w2 ⟨rfl, hb⟩
  rw [M.fl_yes a b kx, M.fe_yes a b kx]
  replace kp := kp.step hb
  clear hb ks s0 s1 x0 x1 y0 y1 z0 z1
  have kk := kp
  obtain ⟨_, ks, s0, s1, x0, x1, y0, y1, z0, z1⟩ := kk
  go_wp2_with fail
  refine (Order_yes (a / b) 1 a b _ (by omega) (by omega) (by omega) (by omega) h1 h2 h3 h4 ln kx).mono ?_
  rintro e w3 ⟨rfl, hb⟩
  replace kp := kp.step hb
  clear hb ks s0 s1 x0 x1 y0 y1 z0 z1
  generalize M.sg (a / b * b) (a * 1) = g at *
  have kk := kp
  obtain ⟨_, ks, s0, s1, x0, x1, y0, y1, z0, z1⟩ := kk
  go_wp2_with fail
  refine (Order_yes (a / b + 1) 1 a b _ (by omega) (by omega) (by omega) (by omega) h1 h2 h3 h4 ln1 kx).mono ?_
  rintro e w4 ⟨rfl, hb⟩
  rw [FG.out]
  replace kp := kp.step hb
  clear hb ks s0 s1 x0 x1 y0 y1 z0 z1
  have kk := kp
  obtain ⟨_, ks, s0, s1, x0, x1, y0, y1, z0, z1⟩ := kk
  go_wp2_with fail
  refine (Order_no a b c d _ h1 h2 h3 h4 h5 h6 h7 h8 (by rw [kx, ky]; rfl)).mono ?_
  rintro e w5 ⟨rfl, hb⟩
  replace kp := kp.step hb
  clear hb ks s0 s1 x0 x1 y0 y1 z0 z1
  go_wp2
  go_ret
  exact ⟨rfl, kp.bel⟩

set_option maxHeartbeats 1000000 in
theorem floor_n_ky0 (a b c d e f : Int) (w : World) (h1 : -9223372036854775808 ≤ a) (h2 : a ≤ 9223372036854775807) (h3 : -9223372036854775808 ≤ b) (h4 : b ≤ 9223372036854775807) (h5 : -9223372036854775808 ≤ c) (h6 : c ≤ 9223372036854775807) (h7 : -9223372036854775808 ≤ d) (h8 : d ≤ 9223372036854775807) (h9 : -9223372036854775808 ≤ e) (h10 : e ≤ 9223372036854775807) (h11 : -9223372036854775808 ≤ f) (h12 : f ≤ 9223372036854775807) (kx : M.ok a b = true) (hn : ¬ a / b + 1 ≤ 1073741824) (ky : M.ok c d = false) :
    Calls Try.prog 6 #[.agg #[.int .i64 a, .int .i64 b], .agg #[.int .i64 c, .int .i64 d], .agg #[.int .i64 e, .int .i64 f]] w fun e w' => e = .returned (.bool true) ∧ Below w.heap.size w w' := by
  obtain ⟨a1, a2, b1, b2, _⟩ := M.ok_yes _ _ kx
  obtain ⟨q1, q2⟩ := M.div_bd a b a1 a2 b1
  have ln := M.ok_one (a / b) q1 q2
  have fle := M.floor_le a b kx
  go_enter Try.func6, Try.ntmps6
  go_wp2_with fail
  refine (alive_any _).mono ?_
  rintro e w1 ⟨rfl, hb⟩
  have kp := Kp.mk3 hb
  clear hb
  have kk := kp
  obtain ⟨_, ks, s0, s1, x0, x1, y0, y1, z0, z1⟩ := kk
  go_wp2_with fail
  refine (Floor_any a b _ h1 h2 h3 h4).mono ?_
  rintro e w2 ⟨rfl, hb⟩
  rw [M.fl_yes a b kx, M.fe_yes a b kx]
  replace kp := kp.step hb
  clear hb ks s0 s1 x0 x1 y0 y1 z0 z1
  have kk := kp
  obtain ⟨_, ks, s0, s1, x0, x1, y0, y1, z0, z1⟩ := kk
  go_wp2_with fail
  refine (Order_yes (a / b) 1 a b _ (by omega) (by omega) (by omega) (by omega) h1 h2 h3 h4 ln kx).mono ?_
  rintro e w3 ⟨rfl, hb⟩
  replace kp := kp.step hb
  clear hb ks s0 s1 x0 x1 y0 y1 z0 z1
  generalize M.sg (a / b * b) (a * 1) = g at *
  have kk := kp
  obtain ⟨_, ks, s0, s1, x0, x1, y0, y1, z0, z1⟩ := kk
  go_wp2_with fail
  refine (Order_no a b c d _ h1 h2 h3 h4 h5 h6 h7 h8 (by rw [kx, ky]; rfl)).mono ?_
  rintro e w4 ⟨rfl, hb⟩
  replace kp := kp.step hb
  clear hb ks s0 s1 x0 x1 y0 y1 z0 z1
  go_wp2
  go_ret
  exact ⟨rfl, kp.bel⟩

end Go.Proofs.Ytnlbkklndlgojaa
