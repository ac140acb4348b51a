/- What the document's May comes to; and the first loop of RulesMoved. -/
import Derived.Test.YtmgkbnlmdhnjnaeU13
import Derived.Test.YtmgkbnlmdhnjnaeUMath6
namespace Go.Proofs.Ytmgkbnlmdhnjnae.U
open Go.RowKit Go.Maps Go.Sort
set_option linter.unusedVariables false
set_option linter.unusedSimpArgs false

theorem M.half (c : Int) (i : Nat) : c / 2 ^ i / 2 = c / 2 ^ (i + 1) := by
  have hp : (0 : Int) ≤ 2 ^ i := Int.le_of_lt (Int.pow_pos (by omega))
  rw [Int.ediv_ediv_of_nonneg hp, Int.pow_succ]
theorem M.half_bd {c : Int} (h0 : 0 ≤ c) (h1 : c ≤ 4095) (i : Nat) : 0 ≤ c / 2 ^ i ∧ c / 2 ^ i ≤ 4095 := by
  have hp : (0 : Int) < 2 ^ i := Int.pow_pos (by omega)
  exact ⟨Int.ediv_nonneg h0 (by omega), Int.le_trans (Int.ediv_le_self _ h0) h1⟩

set_option maxHeartbeats 4000000 in
theorem May_any (c k : Int) (w : World) (h0 : 0 ≤ c) (h1 : c ≤ 4095) (k0 : 0 ≤ k) (k1 : k ≤ 127) :
    Calls Try.prog 53 #[.int .i64 c, .int .i64 k] w fun e w' => e = .returned (.bool (decide (M.bit c k = 1))) ∧ w' = w := by
  have HV : Hid (decide (M.bit c k = 1) = decide (c / 2 ^ (k % 12).toNat % 2 = 1)) := rfl
  generalize decide (M.bit c k = 1) = V at *
  obtain ⟨p, hp, hp2⟩ : ∃ p : Nat, k % 12 = (p : Int) ∧ p < 12 := ⟨(k % 12).toNat, by omega, by omega⟩
  have hV2 : Hid (V = decide (c / 2 ^ p % 2 = 1)) := by
    show _ = _
    rw [HV.out, hp]; rfl
  have hbd := fun i => M.half_bd h0 h1 i
  have HH : Hid (∀ i, c / 2 ^ i / 2 = c / 2 ^ (i + 1)) := M.half c
  have HP : Hid (k % 12 = (p : Int)) := hp
  have c0 : Hid (c = c / 2 ^ 0) := by show _ = _; simp
  generalize hX : (fun i : Nat => c / 2 ^ i) = X at *
  have eX : ∀ i, c / 2 ^ i = X i := fun i => by rw [← hX]
  simp only [eX] at hbd
  have HH' : Hid (∀ i, X i / 2 = X (i + 1)) := fun i => by have := HH.out i; rw [eX, eX] at this; exact this
  have hV3 : Hid (V = decide (X p % 2 = 1)) := by show _ = _; rw [hV2.out, eX]
  have c0' : c = X 0 := by rw [← eX]; exact c0.out
  clear HH hV2 eX hX c0 HV
  subst c0'
  go_enter Try.func53, Try.ntmps53
  go_wp2_with fail
  go_loopw [0, 5] (fun a s wr => ∃ i : Nat, i ≤ p ∧ a = .int .i64 (X i) ∧ s = .int .i64 (i : Int) ∧ wr = w) (fun _ s _ => p - (intOf s).toNat)
  case atStart => exact ⟨0, by omega, rfl, rfl, rfl⟩
  case round =>
    obtain ⟨i, hip, rfl, rfl, hw⟩ := hrel
    subst hw
    have hb := hbd i
    have w3 : IntKind.i64.wrap ((i : Int) + 1) = (i : Int) + 1 := wid (by omega) (by omega)
    by_cases hi : i < p
    · have e1 : Hid (X i / 2 = X (i + 1)) := HH'.out i
      have t1 : (i : Int) < k % 12 := by omega
      clear HH' hV3 hbd
      go_wp2_with fail
      go_roundw
      case rel => exact ⟨i + 1, by omega, by rw [← e1.out], by push_cast; rfl, by first | rfl | trivial⟩
      case measure => simp [intOf]; omega
    · have hie : i = p := by omega
      have t1 : ¬ (i : Int) < k % 12 := by omega
      have t2 : X i % 2 = 0 ∨ X i % 2 = 1 := by omega
      subst hie
      clear HH' hbd
      rcases t2 with t2 | t2
      · have hv : V = false := by rw [hV3.out, t2]; rfl
        have t3 : (X i % 2 == 1) = false := by rw [t2]; rfl
        subst hv
        clear hV3 t2
        go_wp2_with fail
        go_returns
        exact ⟨rfl, rfl⟩
      · have hv : V = true := by rw [hV3.out, t2]; rfl
        have t3 : (X i % 2 == 1) = true := by rw [t2]; rfl
        subst hv
        clear hV3 t2
        go_wp2_with fail
        go_returns
        exact ⟨rfl, rfl⟩
end Go.Proofs.Ytmgkbnlmdhnjnae.U
