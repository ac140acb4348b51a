/- The law RulesTell: its walk, over what the document's Find answers. -/
import Derived.Test.YtmgkbnlmdhnjnaeUMath10
import Derived.Test.YtmgkbnlmdhnjnaeUR7
import Derived.Lib.QuietBelow
namespace Go.Proofs.Ytmgkbnlmdhnjnae.U
open Go.RowKit Go.Maps Go.Sort
set_option linter.unusedVariables false
set_option linter.unusedSimpArgs false

set_option maxRecDepth 100000 in
set_option maxHeartbeats 8000000 in
theorem tell_walk (r : M.Ru) (ao : Option Addr) (n c : Nat) (g : Nat → Int) (bo : Option Addr) (l d : Nat) (y : Nat → Int) (w : World) (hp : LI w ao n g) (hc : n ≤ c) (hcm : c ≤ 9223372036854775807) (hq : LI w bo l y) (hd : l ≤ d) (hdm : d ≤ 9223372036854775807)
    (HWy : M.wr r g n = 0 → WaysC r ao n c g)
    (HFr : ∀ w, LI w ao n g → Calls Try.prog 24 #[.agg #[.int .i64 r.low, .int .i64 r.high, .bool r.above, .int .i64 r.leap, .int .i64 r.classes], .slice ao n c] w fun e w' => (∃ bo m d x E, e = .returned (.tuple #[.slice bo m d, .int .i64 E]) ∧ m ≤ d ∧ d ≤ 9223372036854775807 ∧ LI w' bo m x ∧ FnR r g n x m E) ∧ Below w.heap.size w w') :
    Calls Try.prog 7 #[.agg #[.int .i64 r.low, .int .i64 r.high, .bool r.above, .int .i64 r.leap, .int .i64 r.classes], .slice ao n c, .slice bo l d] w fun e w' => e = .returned (.bool true) ∧ Below w.heap.size w w' := by
  have HW1 := fun w hp => Wrong_any r ao n c g w hp hc hcm
  have HW2 := fun w hp => refWrong_any r ao n c g w hp hc hcm
  have HK1 := fun w hp hq => Check_any r ao n c g bo l d y w hp hc hcm hq hd hdm
  have HK2 := fun w hp hq => refCheck_any r ao n c g bo l d y w hp hc hcm hq hd hdm
  have HC1 := fun w hp => Count_any r ao n c g w hp hc hcm
  have HC2 := fun w hp => refCount_any r ao n c g w hp hc hcm HWy
  have HF1 := fun w hp => Find_any r ao n c g w hp hc hcm
  generalize M.cn r g n = CN at *
  clear HWy
  have HCU : Hid (∀ W I E W' I' E', CkR r g n y l W I E → CkR r g n y l W' I' E' → W = W' ∧ I = I' ∧ E = E') := fun _ _ _ _ _ _ h h' => h.unique h'
  have HFU : Hid (∀ x y m m' E E', FnR r g n x m E → FnR r g n y m' E' → E' = E ∧ m' = m ∧ ∀ i, i < m → x i = y i) := fun _ _ _ _ _ _ h h' => h.unique h'
  generalize M.wr r g n = WR at *
  go_enter Try.func7, Try.ntmps7
  go_wp2_with fail
  obtain ⟨W, hW⟩ : ∃ x, x = w.alloc (.cells #[.int .i64 r.low, .int .i64 r.high, .bool r.above, .int .i64 r.leap, .int .i64 r.classes] 38) := ⟨_, rfl⟩
  have hK0 : WK w W r := by
    refine ⟨by rw [hW]; go_grown, by rw [hW]; simp, ?_, ?_, ?_, ?_, ?_⟩ <;> rw [hW] <;> simp [go_sem]
  rw [← hW]
  clear hW
  have k0 := cell_regrown hK0.r0
  have k1 := cell_regrown hK0.r1
  have k2 := cell_regrown hK0.r2
  have k3 := cell_regrown hK0.r3
  have k4 := cell_regrown hK0.r4
  have cA : ∀ d os, Calls Try.prog 17 #[.agg #[.int .i64 r.low, .int .i64 r.high, .bool r.above, .int .i64 r.leap, .int .i64 r.classes], .slice ao n c] (grow (redrawn W d) os) fun e w'' => e = .returned (.int .i64 WR) ∧ ∃ p : Regrown, w'' = grow (redrawn W p.d) p.os := fun d os => Calls.regrown_of (HW1 _ (hp.step (hK0.bel.trans ((below_regrown W d os).mono (Nat.le_of_lt hK0.rs)))))
  have cB : ∀ d os, Calls Try.prog 18 #[.agg #[.int .i64 r.low, .int .i64 r.high, .bool r.above, .int .i64 r.leap, .int .i64 r.classes], .slice ao n c] (grow (redrawn W d) os) fun e w'' => e = .returned (.int .i64 WR) ∧ ∃ p : Regrown, w'' = grow (redrawn W p.d) p.os := fun d os => Calls.regrown_of (HW2 _ (hp.step (hK0.bel.trans ((below_regrown W d os).mono (Nat.le_of_lt hK0.rs)))))
  have n1 : (WR != WR) = false := by simp
  refine wp_region_quiet_below (by kernel_rfl) (by kernel_rfl) ?_
  repeat (go_big_quiet_step (first | exact cA _ _ | exact cB _ _))
  refine wpQuiet_nil ?_
  intro _ hw'
  obtain ⟨⟨dq, osq⟩, hw''⟩ := hw'
  subst hw''
  have hK1 := hK0.step (below_regrown W dq osq)
  obtain ⟨w1, hw1⟩ : ∃ x, x = grow (redrawn W dq) osq := ⟨_, rfl⟩
  rw [← hw1] at hK1 ⊢
  have q0 := hK1.r0
  have q1 := hK1.r1
  have q2 := hK1.r2
  have q3 := hK1.r3
  have q4 := hK1.r4
  have qs := hK1.rs
  clear hw1 k0 k1 k2 k3 k4 cA cB hK0 HW1 HW2
  go_wp2_with fail
  refine (HK1 _ (hp.step hK1.bel) (hq.step hK1.bel)).mono ?_
  rintro e w2 ⟨⟨A, I, E, rfl, hck⟩, hb⟩
  have hK2 := hK1.step hb
  replace q0 := hK2.r0
  replace q1 := hK2.r1
  replace q2 := hK2.r2
  replace q3 := hK2.r3
  replace q4 := hK2.r4
  replace qs := hK2.rs
  clear hb hK1
  go_wp2_with fail
  refine (HK2 _ (hp.step hK2.bel) (hq.step hK2.bel)).mono ?_
  rintro e w3 ⟨⟨A2, I2, E2, rfl, hck2⟩, hb⟩
  obtain ⟨u1, u2, u3⟩ := HCU.out _ _ _ _ _ _ hck hck2
  subst A2 I2 E2
  have hK3 := hK2.step hb
  replace q0 := hK3.r0
  replace q1 := hK3.r1
  replace q2 := hK3.r2
  replace q3 := hK3.r3
  replace q4 := hK3.r4
  replace qs := hK3.rs
  clear hb hK2 hck hck2 HCU HK1 HK2
  have n2 : (A != A) = false := by simp
  have n3 : (I != I) = false := by simp
  have n4 : (E != E) = false := by simp
  go_wp2_with fail
  refine (HC1 _ (hp.step hK3.bel)).mono ?_
  rintro e w4 ⟨rfl, hb⟩
  have hK4 := hK3.step hb
  replace q0 := hK4.r0
  replace q1 := hK4.r1
  replace q2 := hK4.r2
  replace q3 := hK4.r3
  replace q4 := hK4.r4
  replace qs := hK4.rs
  clear hb hK3
  go_wp2_with fail
  refine (HC2 _ (hp.step hK4.bel)).mono ?_
  rintro e w5 ⟨rfl, hb⟩
  have hK5 := hK4.step hb
  replace q0 := hK5.r0
  replace q1 := hK5.r1
  replace q2 := hK5.r2
  replace q3 := hK5.r3
  replace q4 := hK5.r4
  replace qs := hK5.rs
  clear hb hK4 HC1 HC2
  have n5 : (CN != CN) = false := by simp
  go_wp2_with fail
  refine (HF1 _ (hp.step hK5.bel)).mono ?_
  rintro e w6 ⟨⟨xo, m, xd, x, F, rfl, hmd, hxd, hlx, hFx⟩, hb⟩
  have hK6 := hK5.step hb
  replace q0 := hK6.r0
  replace q1 := hK6.r1
  replace q2 := hK6.r2
  replace q3 := hK6.r3
  replace q4 := hK6.r4
  replace qs := hK6.rs
  clear hb hK5 HF1
  go_wp2_with fail
  refine (HFr _ (hp.step hK6.bel)).mono ?_
  rintro e w7 ⟨⟨yo, m2, yd, z, F2, rfl, hmd2, hyd, hly, hFy⟩, hb⟩
  obtain ⟨u1, u2, u3⟩ := HFU.out _ _ _ _ _ _ hFx hFy
  subst F2 m2
  replace hlx := hlx.step hb
  have hK7 := hK6.step hb
  have HS := fun w hp hq => Same_yes xo yo m xd yd x z w hp hmd hxd hq hmd2 hyd u3
  have n6 : (F == F) = true := by simp
  clear hb hK6 HFr hFx hFy HFU q0 q1 q2 q3 q4 qs u3
  go_wp2_with fail
  refine (HS _ hlx hly).mono ?_
  rintro e w8 ⟨rfl, hb⟩
  go_wp2_with fail
  go_returns
  exact ⟨rfl, (hK7.step hb).bel⟩
end Go.Proofs.Ytmgkbnlmdhnjnae.U
