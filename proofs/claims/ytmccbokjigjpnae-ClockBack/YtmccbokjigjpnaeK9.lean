/- The law ClockBack. -/
import Derived.Test.YtmccbokjigjpnaeK5
import Derived.Test.YtmccbokjigjpnaeK8
namespace Go.Proofs.Ytmccbokjigjpnae.F
open Go.RowKit
set_option linter.unusedVariables false
set_option linter.unusedSimpArgs false

set_option maxHeartbeats 2000000 in
theorem back_walk (ao : Option Addr) (n c : Nat) (A P : Nat → Int) (R : Nat → Bool) (t p u d : Int) (w : World) (hp : ML w ao n A P R) (hc : n ≤ c) (hcm : c ≤ 9223372036854775807) (h1 : -9223372036854775808 ≤ u) (h2 : u ≤ 9223372036854775807) (h3 : -9223372036854775808 ≤ d) (h4 : d ≤ 9223372036854775807) :
    Calls Try.prog 4 #[.slice ao n c, .int .i64 t, .int .i64 p, .agg #[.int .i64 u, .int .i64 d]] w fun e w' => e = .returned (.bool true) ∧ Below w.heap.size w w' := by
  have HP := fun w hp => Place_any ao n c A P R t u d w hp hc hcm h1 h2 h3 h4
  by_cases e : K.M.pe A P n t (M.ok u d) u d = 0
  · have e1 : K.M.te A P n t = 0 ∧ K.M.rte (M.ok u d) u d = 0 := by
      unfold K.M.pe at e
      split at e
      · rename_i x; exact absurd e x
      · rename_i x; exact ⟨by omega, e⟩
    obtain ⟨e2, e3⟩ := e1
    obtain ⟨y1, y2, y3⟩ := K.M.te_zero e2
    obtain ⟨k0, u1, u2, d2⟩ := K.M.rte_zero e3
    obtain ⟨k1, k2, k3, k4, _⟩ := M.ok_yes _ _ k0
    have HB := fun w hp => Back_yes ao n c A P R p u d w hp hc hcm h1 h2 h3 h4 y1 e3
    rw [e, (K.M.pe_yes (R := R) e2 e3).2] at HP
    have HM : Hid (∀ s t, 0 ≤ s → s ≤ t → K.M.sm A P R n u d s ≤ K.M.sm A P R n u d t) := fun s t => (K.M.wr_rt y1).sm_mono u d s t u1 (by omega)
    clear e e2 e3 k0
    go_enter Try.func4, Try.ntmps4
    go_wp2_with fail
    refine (alive_any _).mono ?_
    rintro e w1 ⟨rfl, hb1⟩
    have c0 : w1.cell? ⟨w.heap.size, 0, none⟩ = some (.int .i64 u) := keepC hb1 (by simp) (by simp [go_sem])
    have c1 : w1.cell? ⟨w.heap.size, 1, none⟩ = some (.int .i64 d) := keepC hb1 (by simp) (by simp [go_sem])
    have z1 := hb1.size
    simp at z1
    have h01 : Below w.heap.size w w1 := Below.trans (by go_grown) (hb1.mono (by simp))
    clear hb1
    go_wp2_with fail
    refine (HP _ (hp.step h01)).mono ?_
    rintro e w2 ⟨rfl, hb2⟩
    replace c0 := keepC hb2 (by omega) c0
    replace c1 := keepC hb2 (by omega) c1
    have z2 := hb2.size
    have sz : w.heap.size < w2.heap.size := by omega
    have h02 := h01.trans (hb2.mono h01.size)
    clear hb2
    go_wp2_with fail
    refine (HB _ (hp.step h02)).mono ?_
    rintro e w3 ⟨⟨H, hF, hH⟩, hb3⟩
    have h03 := h02.trans (hb3.mono h02.size)
    have hl := hF.lo
    have g1 : Hid (t < H → K.M.sm A P R n u d t < p) := hF.below t y2
    have g2 : Hid (H ≠ 1048577 → H ≤ t → p ≤ K.M.sm A P R n u d t) := fun a b => by
      have := hF.at_ (by have := hF.hi; omega); have := HM.out H t hl b; omega
    clear hF HM
    generalize K.M.sm A P R n u d t = Y at *
    rcases hH with ⟨rfl, rfl⟩ | ⟨hne, rfl⟩
    · have g3 : Y < p := g1.out (by omega)
      go_wp2_with fail
      go_returns
      exact ⟨rfl, h03⟩
    · by_cases hlt : t < H
      · have g3 : Y < p := g1.out hlt
        have g4 : decide (p ≤ Y) = false := by simp; omega
        have g5 : decide (H ≤ t) = false := by simp; omega
        go_wp2_with fail
        go_returns
        exact ⟨by simp [g4, g5], h03⟩
      · have g3 : p ≤ Y := g2.out hne (by omega)
        have g4 : decide (p ≤ Y) = true := by simp; omega
        have g5 : decide (H ≤ t) = true := by simp; omega
        go_wp2_with fail
        go_returns
        exact ⟨by simp [g4, g5], h03⟩
  · have hne : (K.M.pe A P n t (M.ok u d) u d != 0) = true := by simp [e]
    generalize K.M.pe A P n t (M.ok u d) u d = V at *
    generalize K.M.pv A P R n t (M.ok u d) u d = Y at *
    go_enter Try.func4, Try.ntmps4
    go_wp2_with fail
    refine (alive_any _).mono ?_
    rintro e w1 ⟨rfl, hb1⟩
    have c0 : w1.cell? ⟨w.heap.size, 0, none⟩ = some (.int .i64 u) := keepC hb1 (by simp) (by simp [go_sem])
    have c1 : w1.cell? ⟨w.heap.size, 1, none⟩ = some (.int .i64 d) := keepC hb1 (by simp) (by simp [go_sem])
    have z1 := hb1.size
    simp at z1
    have h01 : Below w.heap.size w w1 := Below.trans (by go_grown) (hb1.mono (by simp))
    go_wp2_with fail
    refine (HP _ (hp.step h01)).mono ?_
    rintro e w2 ⟨rfl, hb2⟩
    have h02 := h01.trans (hb2.mono h01.size)
    go_wp2_with fail
    go_returns
    exact ⟨rfl, h02⟩
end Go.Proofs.Ytmccbokjigjpnae.F
