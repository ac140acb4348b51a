/- What the law's alive comes to; the law ClockRises. -/
import Derived.Test.YtmccbokjigjpnaeK4
namespace Go.Proofs.Ytmccbokjigjpnae.F
open Go.RowKit
set_option linter.unusedVariables false
set_option linter.unusedSimpArgs false

theorem alive_any (w : World) :
    Calls Try.prog 15 #[] w fun e w' => e = .returned (.bool true) ∧ Below w.heap.size w w' := by
  have hT := fun w hp => Twice_any (some ⟨w.heap.size - 1, 0, none⟩) 1 1 (fun _ => 0) (fun _ => 3) (fun _ => false) 2 w hp (by omega) (by omega)
  have e1 : K.M.te (fun _ => 0) (fun _ => 3) 1 2 = 0 := by decide +kernel
  have e2 : K.M.tv (fun _ => 0) (fun _ => 3) (fun _ => false) 1 2 = 12 := by decide +kernel
  rw [e1, e2] at hT
  have hM : ML (w.alloc (Obj.cells #[.int .i64 0, .int .i64 3, .bool false] 35)) (some ⟨w.heap.size, 0, none⟩) 1 (fun _ => 0) (fun _ => 3) (fun _ => false) := by
    refine ⟨fun _ => ⟨w.heap.size, 0, rfl, by simp, fun j hj => ?_, fun j hj => ?_, fun j hj => ?_⟩⟩
    all_goals
      obtain rfl : j = 0 := by omega
      simp [go_sem]
  have hC := hT (w.alloc (Obj.cells #[.int .i64 0, .int .i64 3, .bool false] 35)) (by simpa using hM)
  clear hT e1 e2 hM
  simp at hC
  go_enter Try.func15, Try.ntmps15
  go_wp2_with fail
  refine hC.mono ?_
  rintro e w1 ⟨rfl, hb1⟩
  go_wp2_with fail
  go_returns
  exact ⟨rfl, Below.trans (by go_grown) (hb1.mono (by simp))⟩

set_option maxHeartbeats 1000000 in
theorem rises_walk (ao : Option Addr) (n c : Nat) (A P : Nat → Int) (R : Nat → Bool) (t m : Int) (w : World) (hp : ML w ao n A P R) (hc : n ≤ c) (hcm : c ≤ 9223372036854775807) (t1 : -9223372036854775808 ≤ t) (t2 : t ≤ 9223372036854775807) (m1 : -9223372036854775808 ≤ m) (m2 : m ≤ 9223372036854775807) :
    Calls Try.prog 5 #[.slice ao n c, .int .i64 t, .int .i64 m] w fun e w' => e = .returned (.bool true) ∧ Below w.heap.size w w' := by
  by_cases h : 0 ≤ t ∧ 1 ≤ m ∧ t ≤ 1048576 ∧ m ≤ 1048576 - t
  · obtain ⟨g1, g2, g3, g4⟩ := h
    have HT := fun w hp => Twice_any ao n c A P R t w hp hc hcm
    have HU := fun w hp => Twice_any ao n c A P R (t + m) w hp hc hcm
    by_cases e : K.M.te A P n t = 0
    · have e3 := (K.M.te_zero e).1
      obtain ⟨e1, e2⟩ := K.M.te_yes (R := R) (t := t + m) e3 (by omega)
      have e4 := (K.M.te_yes (R := R) (t := t) e3 (by omega)).2
      rw [e1, e2] at HU
      rw [e, e4] at HT
      have r1 := (K.M.wr_rt e3).rises (R := R) t m g1 (by omega)
      have r2 := (K.M.wr_rt e3).from_zero (R := R) t g1
      obtain ⟨b1, b2⟩ := (K.M.wr_rt e3).tw_all (R := R) t g1 n (by omega)
      obtain ⟨b3, b4⟩ := (K.M.wr_rt e3).tw_all (R := R) (t + m) (by omega) n (by omega)
      clear e e1 e2 e3 e4
      generalize K.M.tw A P R n n t = X at *
      generalize K.M.tw A P R n n (t + m) = Y at *
      have g5 : ¬ Y - X < 2 * m - 1 := by omega
      have g6 : ¬ X < 2 * t - 1 := by omega
      have g7 : 2 * m - 1 ≤ Y - X := by omega
      have g8 : 2 * t - 1 ≤ X := by omega
      go_enter Try.func5, Try.ntmps5
      go_wp2_with fail
      refine (alive_any _).mono ?_
      rintro e w1 ⟨rfl, hb1⟩
      go_wp2_with fail
      refine (HT _ (hp.step hb1)).mono ?_
      rintro e w2 ⟨rfl, hb2⟩
      have k2 := hb1.trans (hb2.mono hb1.size)
      go_wp2_with fail
      refine (HU _ (hp.step k2)).mono ?_
      rintro e w3 ⟨rfl, hb3⟩
      have k3 := k2.trans (hb3.mono k2.size)
      go_wp2_with fail
      go_returns
      exact ⟨rfl, k3⟩
    · have hne : (K.M.te A P n t != 0) = true := by simp [e]
      clear HU
      generalize K.M.te A P n t = V at *
      generalize K.M.tv A P R n t = Y at *
      go_enter Try.func5, Try.ntmps5
      go_wp2_with fail
      refine (alive_any _).mono ?_
      rintro e w1 ⟨rfl, hb1⟩
      go_wp2_with fail
      refine (HT _ (hp.step hb1)).mono ?_
      rintro e w2 ⟨rfl, hb2⟩
      have k2 := hb1.trans (hb2.mono hb1.size)
      go_wp2_with fail
      go_returns
      exact ⟨rfl, k2⟩
  · rcases (show t < 0 ∨ (0 ≤ t ∧ m < 1) ∨ (0 ≤ t ∧ 1 ≤ m ∧ 1048576 < t) ∨ (0 ≤ t ∧ 1 ≤ m ∧ t ≤ 1048576 ∧ 1048576 - t < m) by omega) with c | ⟨c1, c2⟩ | ⟨c1, c2, c3⟩ | ⟨c1, c2, c3, c4⟩
    all_goals
      clear h
      go_enter Try.func5, Try.ntmps5
      go_wp2_with fail
      refine (alive_any _).mono ?_
      rintro e w1 ⟨rfl, hb1⟩
      go_wp2_with fail
      go_returns
      exact ⟨rfl, hb1⟩
end Go.Proofs.Ytmccbokjigjpnae.F
