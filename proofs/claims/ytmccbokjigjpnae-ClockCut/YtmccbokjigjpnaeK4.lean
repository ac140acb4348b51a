/- What the program's Twice, wrongRate, sample and Place come to. -/
import Derived.Test.YtmccbokjigjpnaeK3
import Derived.Test.YtmccbokjigjpnaeKMath3
namespace Go.Proofs.Ytmccbokjigjpnae.F
open Go.RowKit
set_option linter.unusedVariables false
set_option linter.unusedSimpArgs false

theorem sample_any (x u d : Int) (w : World) (x1 : 0 ≤ x * u) (x2 : x * u ≤ 562949953421312) (d1 : 0 < d) :
    Calls Try.prog 20 #[.int .i64 x, .agg #[.int .i64 u, .int .i64 d]] w fun e w' => e = .returned (.int .i64 (x * u / d)) ∧ Below w.heap.size w w' := by
  have hne : (d == 0) = false := by simp; omega
  have h1 : 0 ≤ x * u / d := Int.ediv_nonneg x1 (by omega)
  have h2 := Int.ediv_le_self d x1
  go_enter Try.func20, Try.ntmps20
  go_wp2_with fail
  go_returns
  exact ⟨rfl, by go_grown⟩

theorem wrongRate_any (u d : Int) (w : World) (h1 : -9223372036854775808 ≤ u) (h2 : u ≤ 9223372036854775807) (h3 : -9223372036854775808 ≤ d) (h4 : d ≤ 9223372036854775807) :
    Calls Try.prog 19 #[.agg #[.int .i64 u, .int .i64 d]] w fun e w' => e = .returned (.int .i64 (K.M.rte (M.ok u d) u d)) ∧ Below w.heap.size w w' := by
  cases hk : M.ok u d
  · rw [K.M.rte_form]
    go_enter Try.func19, Try.ntmps19
    go_wp2_with fail
    refine (Right_any u d _ h1 h2 h3 h4).mono ?_
    rintro e w1 ⟨rfl, hb1⟩
    rw [hk]
    go_wp2_with fail
    go_returns
    exact ⟨rfl, Below.trans (by go_grown) (hb1.mono (by go_size))⟩
  · rcases (show u ≤ 0 ∨ (0 < u ∧ 4096 < u) ∨ (0 < u ∧ u ≤ 4096 ∧ 4096 < d) ∨ (0 < u ∧ u ≤ 4096 ∧ d ≤ 4096) by omega) with c | ⟨c1, c2⟩ | ⟨c1, c2, c3⟩ | ⟨c1, c2, c3⟩
    all_goals first | rw [K.M.rte_range (by omega)] | rw [K.M.rte_yes (by omega)]
    all_goals
      go_enter Try.func19, Try.ntmps19
      go_wp2_with fail
      refine (Right_any u d _ h1 h2 h3 h4).mono ?_
      rintro e w1 ⟨rfl, hb1⟩
      rw [hk]
      have A0 : w1.cell? ⟨w.heap.size, 0, none⟩ = some (.int .i64 u) := keepC hb1 (by go_size) (by simp [go_sem])
      have A1 : w1.cell? ⟨w.heap.size, 1, none⟩ = some (.int .i64 d) := keepC hb1 (by go_size) (by simp [go_sem])
      have z1 := hb1.size
      simp at z1
      go_wp2_with fail
      go_ret
      exact ⟨rfl, Below.trans (by go_grown) (hb1.mono (by go_size))⟩

theorem Twice_any (ao : Option Addr) (n c : Nat) (A P : Nat → Int) (R : Nat → Bool) (t : Int) (w : World) (hp : ML w ao n A P R) (hc : n ≤ c) (hcm : c ≤ 9223372036854775807) :
    Calls Try.prog 9 #[.slice ao n c, .int .i64 t] w fun e w' => e = .returned (.tuple #[.int .i64 (K.M.tv A P R n t), .int .i64 (K.M.te A P n t)]) ∧ Below w.heap.size w w' := by
  by_cases c1 : K.M.wr A P n = 0
  · by_cases c2 : t < 0 ∨ 1048576 < t
    · obtain ⟨e1, e2⟩ := K.M.te_range (R := R) c1 c2
      rw [e1, e2]
      have HT : Hid (∀ w, Calls Try.prog 16 #[.int .i64 t] w fun e w' => e = .returned (.bool false) ∧ w' = w) := fun w => ticked_no t w c2
      clear c2 e1 e2
      go_enter Try.func9, Try.ntmps9
      go_wp2_with fail
      refine (Wrong_any ao n c A P R _ hp hc hcm).mono ?_
      rintro e w1 ⟨rfl, hb1⟩
      rw [c1]
      go_wp2_with fail
      refine (HT.out _).mono ?_
      rintro e w2 ⟨rfl, hw⟩
      rw [hw]
      go_wp2_with fail
      go_returns
      exact ⟨rfl, hb1⟩
    · obtain ⟨e1, e2⟩ := K.M.te_yes (R := R) c1 c2
      rw [e1, e2]
      have HT := fun w => ticked_yes t w (by omega) (by omega)
      have HR := K.M.wr_rt c1
      go_enter Try.func9, Try.ntmps9
      go_wp2_with fail
      refine (Wrong_any ao n c A P R _ hp hc hcm).mono ?_
      rintro e w1 ⟨rfl, hb1⟩
      rw [c1]
      go_wp2_with fail
      refine (HT _).mono ?_
      rintro e w2 ⟨rfl, hw⟩
      rw [hw]
      go_wp2_with fail
      refine (twice_any ao n c A P R t _ (hp.step hb1) hc hcm HR (by omega) (by omega)).mono ?_
      rintro e w3 ⟨rfl, hb3⟩
      go_wp2_with fail
      go_returns
      exact ⟨rfl, hb1.trans (hb3.mono hb1.size)⟩
  · obtain ⟨e1, e2⟩ := K.M.te_wrong (R := R) (t := t) c1
    rw [e1, e2]
    have hne : (K.M.wr A P n != 0) = true := by simp [c1]
    have HW := fun w hp => Wrong_any ao n c A P R w hp hc hcm
    clear e1 e2
    generalize K.M.wr A P n = V at *
    go_enter Try.func9, Try.ntmps9
    go_wp2_with fail
    refine (HW _ hp).mono ?_
    rintro e w1 ⟨rfl, hb1⟩
    go_wp2_with fail
    go_returns
    exact ⟨rfl, hb1⟩

set_option maxHeartbeats 1000000 in
theorem Place_any (ao : Option Addr) (n c : Nat) (A P : Nat → Int) (R : Nat → Bool) (t u d : Int) (w : World) (hp : ML w ao n A P R) (hc : n ≤ c) (hcm : c ≤ 9223372036854775807) (h1 : -9223372036854775808 ≤ u) (h2 : u ≤ 9223372036854775807) (h3 : -9223372036854775808 ≤ d) (h4 : d ≤ 9223372036854775807) :
    Calls Try.prog 11 #[.slice ao n c, .int .i64 t, .agg #[.int .i64 u, .int .i64 d]] w fun e w' => e = .returned (.tuple #[.int .i64 (K.M.pv A P R n t (M.ok u d) u d), .int .i64 (K.M.pe A P n t (M.ok u d) u d)]) ∧ Below w.heap.size w w' := by
  have HW := fun w hp => Twice_any ao n c A P R t w hp hc hcm
  by_cases c1 : K.M.te A P n t = 0
  · obtain ⟨y1, y2, y3⟩ := K.M.te_zero c1
    have e1 := (K.M.te_yes (R := R) (t := t) y1 (by omega)).2
    rw [e1, c1] at HW
    clear e1
    by_cases c2 : K.M.rte (M.ok u d) u d = 0
    · obtain ⟨e1, e2⟩ := K.M.pe_yes (R := R) c1 c2
      rw [e1, e2]
      obtain ⟨k0, u1, u2, d2⟩ := K.M.rte_zero c2
      obtain ⟨k1, k2, k3, k4, _⟩ := M.ok_yes _ _ k0
      obtain ⟨s1, s2, s3, s4⟩ := K.M.sm_bd (R := R) (K.M.wr_rt y1) (t := t) (u := u) (d := d) y2 y3 u1 u2 (by omega)
      have HS := fun w => sample_any (K.M.tw A P R n n t) u d w s1 s2 (by omega)
      have hs : K.M.tw A P R n n t * u / d = K.M.sm A P R n u d t := rfl
      rw [hs] at HS
      have HX := fun w => wrongRate_any u d w h1 h2 h3 h4
      rw [c2] at HX
      clear e1 e2 hs c1 c2
      generalize K.M.tw A P R n n t = X at *
      generalize K.M.sm A P R n u d t = Y at *
      go_enter Try.func11, Try.ntmps11
      go_wp2_with fail
      refine (HW _ (hp.step (by go_grown))).mono ?_
      rintro e w1 ⟨rfl, hb1⟩
      have A0 : w1.cell? ⟨w.heap.size, 0, none⟩ = some (.int .i64 u) := keepC hb1 (by go_size) (by simp [go_sem])
      have A1 : w1.cell? ⟨w.heap.size, 1, none⟩ = some (.int .i64 d) := keepC hb1 (by go_size) (by simp [go_sem])
      have z1 := hb1.size
      simp at z1
      have h01 : Below w.heap.size w w1 := Below.trans (by go_grown) (hb1.mono (by go_size))
      go_wp2_with fail
      refine (HX _).mono ?_
      rintro e w2 ⟨rfl, hb2⟩
      have B0 := keepC hb2 (by omega) A0
      have B1 := keepC hb2 (by omega) A1
      have z2 := hb2.size
      have sz : w.heap.size < w2.heap.size := by omega
      go_wp2_with fail
      refine (HS _).mono ?_
      rintro e w3 ⟨rfl, hb3⟩
      go_wp2_with fail
      go_returns
      exact ⟨rfl, (h01.trans (hb2.mono h01.size)).trans (hb3.mono (by omega))⟩
    · obtain ⟨e1, e2⟩ := K.M.pe_rte (R := R) c1 c2
      rw [e1, e2]
      have hne : (K.M.rte (M.ok u d) u d != 0) = true := by simp [c2]
      have HX := fun w => wrongRate_any u d w h1 h2 h3 h4
      clear e1 e2
      generalize K.M.rte (M.ok u d) u d = V at *
      go_enter Try.func11, Try.ntmps11
      go_wp2_with fail
      refine (HW _ (hp.step (by go_grown))).mono ?_
      rintro e w1 ⟨rfl, hb1⟩
      have A0 : w1.cell? ⟨w.heap.size, 0, none⟩ = some (.int .i64 u) := keepC hb1 (by go_size) (by simp [go_sem])
      have A1 : w1.cell? ⟨w.heap.size, 1, none⟩ = some (.int .i64 d) := keepC hb1 (by go_size) (by simp [go_sem])
      have z1 := hb1.size
      simp at z1
      have h01 : Below w.heap.size w w1 := Below.trans (by go_grown) (hb1.mono (by go_size))
      go_wp2_with fail
      refine (HX _).mono ?_
      rintro e w2 ⟨rfl, hb2⟩
      go_wp2_with fail
      go_returns
      exact ⟨rfl, h01.trans (hb2.mono h01.size)⟩
  · obtain ⟨e1, e2⟩ := K.M.pe_te (R := R) (k := M.ok u d) (u := u) (d := d) c1
    have e3 : K.M.tv A P R n t = 0 := by unfold K.M.tv; rw [if_neg c1]
    rw [e3] at HW
    rw [e1, e2]
    have hne : (K.M.te A P n t != 0) = true := by simp [c1]
    clear e1 e2 e3
    generalize K.M.te A P n t = V at *
    go_enter Try.func11, Try.ntmps11
    go_wp2_with fail
    refine (HW _ (hp.step (by go_grown))).mono ?_
    rintro e w1 ⟨rfl, hb1⟩
    have h01 : Below w.heap.size w w1 := Below.trans (by go_grown) (hb1.mono (by go_size))
    go_wp2_with fail
    go_returns
    exact ⟨rfl, h01⟩
end Go.Proofs.Ytmccbokjigjpnae.F
