/- The law ClockCut. -/
import Derived.Test.YtmccbokjigjpnaeK15
namespace Go.Proofs.Ytmccbokjigjpnae.F
open Go.RowKit
set_option linter.unusedVariables false
set_option linter.unusedSimpArgs false

theorem cut_none (ao : Option Addr) (n c : Nat) (A P : Nat → Int) (R : Nat → Bool) (k cut t : Int) (w : World) (hp : ML w ao n A P R) (hc : n ≤ c) (hcm : c ≤ 9223372036854775807) (h : K.M.wr A P n ≠ 0 ∨ k < 0 ∨ (n : Int) ≤ k) :
    Calls Try.prog 6 #[.slice ao n c, .int .i64 k, .int .i64 cut, .int .i64 t] w fun e w' => e = .returned (.bool true) ∧ Below w.heap.size w w' := by
  have HW := fun w hp => Wrong_any ao n c A P R w hp hc hcm
  by_cases h1 : K.M.wr A P n = 0
  · rw [h1] at HW
    rcases (show k < 0 ∨ (0 ≤ k ∧ (n : Int) ≤ k) by omega) with x | ⟨x, y⟩
    all_goals
      clear h
      go_enter Try.func6, Try.ntmps6
      go_wp2_with fail
      refine (alive_any _).mono ?_
      rintro e w1 ⟨rfl, hb1⟩
      go_wp2_with fail
      refine (HW _ (hp.step hb1)).mono ?_
      rintro e w2 ⟨rfl, hb2⟩
      have k2 := hb1.trans (hb2.mono hb1.size)
      go_wp2_with fail
      go_returns
      exact ⟨rfl, k2⟩
  · have hne : (K.M.wr A P n != 0) = true := by simp [h1]
    clear h
    generalize K.M.wr A P n = V at *
    go_enter Try.func6, Try.ntmps6
    go_wp2_with fail
    refine (alive_any _).mono ?_
    rintro e w1 ⟨rfl, hb1⟩
    go_wp2_with fail
    refine (HW _ (hp.step hb1)).mono ?_
    rintro e w2 ⟨rfl, hb2⟩
    have k2 := hb1.trans (hb2.mono hb1.size)
    go_wp2_with fail
    go_returns
    exact ⟨rfl, k2⟩

theorem cut_any (ao : Option Addr) (n c : Nat) (A P : Nat → Int) (R : Nat → Bool) (k cut t : Int) (w : World) (hp : ML w ao n A P R) (hc : n ≤ c) (hcm : c ≤ 9223372036854775807) :
    Calls Try.prog 6 #[.slice ao n c, .int .i64 k, .int .i64 cut, .int .i64 t] w fun e w' => e = .returned (.bool true) ∧ Below w.heap.size w w' := by
  by_cases h : K.M.wr A P n ≠ 0 ∨ k < 0 ∨ (n : Int) ≤ k
  · exact cut_none ao n c A P R k cut t w hp hc hcm h
  · have hw : K.M.wr A P n = 0 := by
      by_cases e : K.M.wr A P n = 0
      · exact e
      · exact absurd (Or.inl e) h
    obtain ⟨j, rfl⟩ : ∃ j : Nat, k = j := ⟨k.toNat, by omega⟩
    have hj : j < n := by omega
    have hR := K.M.wr_rt hw
    cases hr : K.M.rn P R n j
    · refine cut_walk ao n c A P R (K.M.ins A j cut) (K.M.ins P j (P j)) (K.M.ins (K.M.rn P R n) j false) (fun i => if i ≤ j then i else i + 1) j cut t w hp hc hcm hw hj (by simp) ?_ ?_ ?_ ?_ ?_
      · intro i hi; have := hR.many; split <;> omega
      · intro i hi
        show [_, _, _] = _
        split
        · rename_i x; rw [K.M.ins_lo A j cut i x, K.M.ins_lo P j _ i x, K.M.ins_lo (K.M.rn P R n) j _ i x]
        · rename_i x; rw [K.M.ins_hi A j cut i (by omega), K.M.ins_hi P j _ i (by omega), K.M.ins_hi (K.M.rn P R n) j _ i (by omega)]
      · intro i hi hx
        have : i ≠ j := fun e => hx ⟨e, hr⟩
        split <;> split <;> omega
      · intro _
        refine ⟨by simp, ?_⟩
        show [_, _, _] = _
        simp only [Nat.le_refl, if_true]
        rw [K.M.ins_at, K.M.ins_at, K.M.ins_at]
      · have e : (if n ≤ j then n else n + 1) = n + 1 := if_neg (by omega)
        simp only [e]
        by_cases a : K.M.te A P n t = 0
        · by_cases b : K.M.te (K.M.ins A j cut) (K.M.ins P j (P j)) (n + 1) t = 0
          · right; right
            have a1 := K.M.te_zero a
            have b1 := K.M.te_zero b
            rw [(K.M.te_yes a1.1 (by omega)).2, (K.M.te_yes b1.1 (by omega)).2, K.M.tw_cut_rn hR j hj cut t hr (K.M.wr_rt b1.1)]
          · exact .inr (.inl b)
        · exact .inl a
    · refine cut_walk ao n c A P R A P (K.M.rn P R n) (fun i => i) j cut t w hp hc hcm hw hj rfl ?_ ?_ ?_ ?_ ?_
      · intro i hi; have := hR.many; omega
      · intro i hi; rfl
      · intro i hi hx; rfl
      · intro x; rw [hr] at x; cases x
      · by_cases a : K.M.te A P n t = 0
        · right; right
          have a1 := K.M.te_zero a
          rw [(K.M.te_yes a1.1 (by omega)).2, (K.M.te_yes a1.1 (by omega)).2, K.M.tw_rn hR t n (by omega)]
        · exact .inl a
end Go.Proofs.Ytmccbokjigjpnae.F
