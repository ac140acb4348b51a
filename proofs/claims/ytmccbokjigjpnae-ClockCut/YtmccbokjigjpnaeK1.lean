/- What the program's ticked, Wrong and stretch come to. -/
import Derived.Test.YtmccbokjigjpnaeFW2
import Derived.Test.YtmccbokjigjpnaeKMath
import Derived.LoopTactic
import Derived.Deep.RegionWith
import Derived.BigQuiet
namespace Go.Proofs.Ytmccbokjigjpnae.F
open Go.RowKit
set_option linter.unusedVariables false
set_option linter.unusedSimpArgs false

theorem wid {x : Int} (h1 : -9223372036854775808 ≤ x) (h2 : x ≤ 9223372036854775807) : IntKind.i64.wrap x = x := by
  rw [IntKind.wrap_i64]; omega
/-- Marks as they lie in memory. -/
structure ML (w : World) (ao : Option Addr) (n : Nat) (A P : Nat → Int) (R : Nat → Bool) : Prop where
  at' : 0 < n → ∃ b off, ao = some ⟨b, off, none⟩ ∧ b < w.heap.size ∧ (∀ j, j < n → w.cell? ⟨b, off + j * 3, none⟩ = some (.int .i64 (A j))) ∧ (∀ j, j < n → w.cell? ⟨b, off + j * 3 + 1, none⟩ = some (.int .i64 (P j))) ∧ (∀ j, j < n → w.cell? ⟨b, off + j * 3 + 2, none⟩ = some (.bool (R j)))
theorem ML.step {w w' : World} {ao : Option Addr} {n : Nat} {A P : Nat → Int} {R : Nat → Bool} (h : ML w ao n A P R) (hb : Below w.heap.size w w') : ML w' ao n A P R := by
  refine ⟨fun hn => ?_⟩
  obtain ⟨b, off, h1, h2, h3, h4, h5⟩ := h.at' hn
  have := hb.size
  exact ⟨b, off, h1, by omega, fun j hj => keepC hb h2 (h3 j hj), fun j hj => keepC hb h2 (h4 j hj), fun j hj => keepC hb h2 (h5 j hj)⟩

theorem ticked_yes (t : Int) (w : World) (h1 : 0 ≤ t) (h2 : t ≤ 1048576) :
    Calls Try.prog 16 #[.int .i64 t] w fun e w' => e = .returned (.bool true) ∧ w' = w := by
  go_enter Try.func16, Try.ntmps16
  go_wp2_with fail
  go_ret
  exact ⟨rfl, rfl⟩
theorem ticked_no (t : Int) (w : World) (h : t < 0 ∨ 1048576 < t) :
    Calls Try.prog 16 #[.int .i64 t] w fun e w' => e = .returned (.bool false) ∧ w' = w := by
  by_cases h1 : t < 0
  case' neg => have h2 : decide (t ≤ 1048576) = false := by simp; omega
  all_goals
    go_enter Try.func16, Try.ntmps16
    go_wp2_with fail
    go_ret
    exact ⟨rfl, rfl⟩

set_option maxHeartbeats 4000000 in
theorem Wrong_any (ao : Option Addr) (n c : Nat) (A P : Nat → Int) (R : Nat → Bool) (w : World) (hp : ML w ao n A P R) (hc : n ≤ c) (hcm : c ≤ 9223372036854775807) :
    Calls Try.prog 7 #[.slice ao n c] w fun e w' => e = .returned (.int .i64 (K.M.wr A P n)) ∧ Below w.heap.size w w' := by
  by_cases hz : n = 0
  · rw [K.M.wr_many (Or.inl hz)]
    subst hz
    go_enter Try.func7, Try.ntmps7
    go_wp2_with fail
    go_returns
    exact ⟨rfl, by go_grown⟩
  by_cases hm : 256 < n
  · rw [K.M.wr_many (Or.inr hm)]
    have hm' : (256 : Int) < n := by omega
    have hzb : ((n : Int) == 0) = false := by simp; omega
    go_enter Try.func7, Try.ntmps7
    go_wp2_with fail
    go_returns
    exact ⟨rfl, by go_grown⟩
  have hn : ¬ (n = 0 ∨ 256 < n) := by omega
  have hm' : ¬ (256 : Int) < n := by omega
  have hzb : ((n : Int) == 0) = false := by simp; omega
  obtain ⟨b, off, rfl, hbl, q0, q1, q2⟩ := hp.at' (by omega)
  have HE : Hid (K.M.wk A P n = 0 → K.M.wr A P n = 0) := K.M.wr_end hn
  have HW : Hid (∀ k v, k < n → K.M.wk A P k = 0 → K.M.bad A P k = v → v ≠ 0 → K.M.wr A P n = v) := fun k v a b d e => K.M.wr_at k v a hn b d e
  generalize K.M.wr A P n = V at *
  go_enter Try.func7, Try.ntmps7
  go_wp2_with fail
  go_loopw [15] (fun i wr => ∃ k : Nat, k ≤ n ∧ i = .int .i64 k ∧ Hid (K.M.wk A P k = 0) ∧ Below w.heap.size w wr) (fun i _ => n - (intOf i).toNat)
  case atStart => exact ⟨0, by omega, rfl, rfl, by go_grown⟩
  case round =>
    obtain ⟨k, hkn, rfl, hwk, hbr⟩ := hrel
    have zr := hbr.size
    by_cases hlt : k < n
    · have r0 := keepC hbr hbl (q0 k hlt)
      have r1 := keepC hbr hbl (q1 k hlt)
      have r2 := keepC hbr hbl (q2 k hlt)
      have hbk : b < wr.heap.size := by omega
      by_cases c1 : P k < 1
      · have hV : Hid (V = 3) := HW.out k 3 hlt hwk.out (K.M.bad_range k (by omega)) (by omega)
        clear q0 q1 q2 hwk
        go_wp2_with fail
        go_returns
        exact ⟨by rw [hV.out]; rfl, hbr.alloc hbr.size _⟩
      by_cases c2 : 65536 < P k
      · have hV : Hid (V = 3) := HW.out k 3 hlt hwk.out (K.M.bad_range k (by omega)) (by omega)
        clear q0 q1 q2 hwk
        go_wp2_with fail
        go_returns
        exact ⟨by rw [hV.out]; rfl, hbr.alloc hbr.size _⟩
      by_cases c3 : A k < 0 ∨ 1048576 < A k
      · have hV : Hid (V = 3) := HW.out k 3 hlt hwk.out (K.M.bad_range k (by omega)) (by omega)
        have HT : Hid (∀ w, Calls Try.prog 16 #[.int .i64 (A k)] w fun e w' => e = .returned (.bool false) ∧ w' = w) := fun w => ticked_no (A k) w c3
        clear q0 q1 q2 hwk c3
        go_wp2_with fail
        refine (HT.out _).mono ?_
        rintro e w1 ⟨rfl, hw⟩
        rw [hw]
        go_wp2_with fail
        go_returns
        exact ⟨by rw [hV.out]; rfl, hbr.alloc hbr.size _⟩
      have HT := fun w => ticked_yes (A k) w (by omega) (by omega)
      by_cases c4 : (k = 0 ∧ A 0 ≠ 0) ∨ (0 < k ∧ A k ≤ A (k - 1))
      · have hV : Hid (V = 8) := HW.out k 8 hlt hwk.out (K.M.bad_fit k (by omega) c4) (by omega)
        by_cases c5 : k = 0
        · subst c5
          have c6 : A 0 ≠ 0 := by
            rcases c4 with x | x
            · exact x.2
            · omega
          have c7 : (A 0 != 0) = true := by simp [c6]
          clear q0 q1 q2 hwk c4 c3 HW HE
          simp only [Nat.zero_mul, Nat.add_zero] at r0 r1 r2
          go_wp2_with fail
          refine (HT _).mono ?_
          rintro e w1 ⟨rfl, hw⟩
          rw [hw]
          go_wp2_with fail
          go_quiet (fail)
          go_wp2_with fail
          go_returns
          exact ⟨by rw [hV.out]; rfl, below_drewN (hbr.alloc hbr.size _) _⟩
        · have c6 : A k ≤ A (k - 1) := by
            rcases c4 with x | x
            · omega
            · exact x.2
          have r3 := keepC hbr hbl (q0 (k - 1) (by omega))
          have k0 : ((k : Int) == 0) = false := by simp; omega
          have k1 : (0 : Int) < k := by omega
          have k2 : decide (0 < k) = true := by simp; omega
          have k3 : IntKind.i64.wrap ((k : Int) - 1) = ((k - 1 : Nat) : Int) := by rw [wid (by omega) (by omega)]; omega
          clear q0 q1 q2 hwk c4 c3 HW HE
          go_wp2_with fail
          refine (HT _).mono ?_
          rintro e w1 ⟨rfl, hw⟩
          rw [hw]
          go_wp2_with fail
          go_quiet (fail)
          go_wp2_with fail
          go_returns
          exact ⟨by rw [hV.out]; rfl, below_drewN (hbr.alloc hbr.size _) _⟩
      · have hwk2 : Hid (K.M.wk A P (k + 1) = 0) := K.M.wk_next k hwk.out (K.M.ok_bad k (by omega) (by omega) (by omega) (by omega) (fun z => by
            by_cases g : A 0 = 0
            · exact g
            · exact absurd (Or.inl ⟨z, g⟩) c4) (fun z => by
            have : ¬ A k ≤ A (k - 1) := fun g => c4 (Or.inr ⟨z, g⟩)
            omega))
        by_cases c5 : k = 0
        · subst c5
          have c6 : A 0 = 0 := by
            by_cases g : A 0 = 0
            · exact g
            · exact absurd (Or.inl ⟨rfl, g⟩) c4
          have c7 : (A 0 != 0) = false := by simp [c6]
          clear q0 q1 q2 hwk c4 c3 HW HE
          simp only [Nat.zero_mul, Nat.add_zero, c6] at r0 r1 r2 HT c7
          go_wp2_with fail
          refine (HT _).mono ?_
          rintro e w1 ⟨rfl, hw⟩
          rw [hw]
          go_wp2_with fail
          go_quiet (fail)
          go_wp2_with fail
          go_roundw
          case rel => exact ⟨1, by omega, rfl, hwk2, below_drewN (hbr.alloc hbr.size _) _⟩
          case measure => simp [intOf]; omega
        · have c6 : A (k - 1) < A k := by
            have : ¬ A k ≤ A (k - 1) := fun g => c4 (Or.inr ⟨by omega, g⟩)
            omega
          have c7 : decide (A k ≤ A (k - 1)) = false := by simp; omega
          have r3 := keepC hbr hbl (q0 (k - 1) (by omega))
          have k0 : ((k : Int) == 0) = false := by simp; omega
          have k1 : (0 : Int) < k := by omega
          have k2 : decide (0 < k) = true := by simp; omega
          have k3 : IntKind.i64.wrap ((k : Int) - 1) = ((k - 1 : Nat) : Int) := by rw [wid (by omega) (by omega)]; omega
          clear q0 q1 q2 hwk c4 c3 HW HE
          go_wp2_with fail
          refine (HT _).mono ?_
          rintro e w1 ⟨rfl, hw⟩
          rw [hw]
          go_wp2_with fail
          go_quiet (fail)
          go_wp2_with fail
          go_roundw
          case rel => exact ⟨k + 1, by omega, by first | rfl | go_num, hwk2, below_drewN (hbr.alloc hbr.size _) _⟩
          case measure => simp [intOf]; omega
    · obtain rfl : k = n := by omega
      have hV : Hid (V = 0) := HE.out hwk.out
      clear q0 q1 q2 hwk HW HE
      go_wp2_with fail
      go_returns
      exact ⟨by rw [hV.out]; rfl, hbr⟩
end Go.Proofs.Ytmccbokjigjpnae.F
