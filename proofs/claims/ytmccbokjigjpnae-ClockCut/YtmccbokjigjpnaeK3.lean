/- What the program's twice comes to. -/
import Derived.Test.YtmccbokjigjpnaeK2
namespace Go.Proofs.Ytmccbokjigjpnae.F
open Go.RowKit
set_option linter.unusedVariables false
set_option linter.unusedSimpArgs false

/-- A mark's part, by the program's stretch. -/
theorem stretch_mid {A P : Nat → Int} {R : Nat → Bool} {n : Nat} (h : K.M.Rt A P n) (k : Nat) (hk : k + 1 < n) (t : Int) (ht : A k < t) (ht2 : t ≤ 1048576) (w : World) :
    Calls Try.prog 24 #[.agg #[.int .i64 (A k), .int .i64 (P k), .bool (R k)], .agg #[.int .i64 (A (k + 1)), .int .i64 (P (k + 1)), .bool (R (k + 1))], .int .i64 (K.M.ex A n k t - A k)] w fun e w' => e = .returned (.int .i64 (K.M.pc A P R n k t)) ∧ Below w.heap.size w w' := by
  obtain ⟨p1, p2⟩ := h.pace k (by omega)
  obtain ⟨q1, q2⟩ := h.pace (k + 1) hk
  have hr := h.rise k hk
  obtain ⟨a1, a2⟩ := h.tick k (by omega)
  obtain ⟨a3, a4⟩ := h.tick (k + 1) hk
  obtain ⟨e1, e2, e3, _⟩ := h.pc_bd (R := R) k (by omega) t ht
  have e4 := e3 hk
  cases hR : R k
  · rw [K.M.pc_even k t ht (fun x => by rw [hR] at x; exact absurd x.1 (by simp))]
    exact stretch_even _ _ _ _ _ _ w p1 p2 (by omega) (by omega)
  · rw [K.M.pc_ramp k t ht hR hk]
    exact stretch_ramp _ _ _ _ _ _ _ w p1 p2 q1 q2 (by omega) rfl (by omega) (by omega) (by omega)
theorem stretch_last {A P : Nat → Int} {R : Nat → Bool} {n : Nat} (h : K.M.Rt A P n) (k : Nat) (hk : k < n) (hl : ¬ k + 1 < n) (t : Int) (ht : A k < t) (ht2 : t ≤ 1048576) (w : World) :
    Calls Try.prog 24 #[.agg #[.int .i64 (A k), .int .i64 (P k), .bool (R k)], .agg #[.int .i64 t, .int .i64 (P k), .bool false], .int .i64 (t - A k)] w fun e w' => e = .returned (.int .i64 (K.M.pc A P R n k t)) ∧ Below w.heap.size w w' := by
  obtain ⟨p1, p2⟩ := h.pace k (by omega)
  obtain ⟨a1, a2⟩ := h.tick k (by omega)
  have e : K.M.pc A P R n k t = 2 * P k * (t - A k) := by rw [K.M.pc_even k t ht (fun x => hl x.2), K.M.ex_last k t hl]
  cases hR : R k
  · rw [e]
    exact stretch_even _ _ _ _ _ _ w p1 p2 (by omega) (by omega)
  · rw [e, ← K.M.rp_same (P k) (t - A k) (t - A k) (by omega)]
    exact stretch_ramp _ _ _ _ _ _ _ w p1 p2 p1 p2 (by omega) rfl (by omega) (by omega) (by omega)

set_option maxHeartbeats 4000000 in
theorem twice_any (ao : Option Addr) (n c : Nat) (A P : Nat → Int) (R : Nat → Bool) (t : Int) (w : World) (hp : ML w ao n A P R) (hc : n ≤ c) (hcm : c ≤ 9223372036854775807) (h : K.M.Rt A P n) (t1 : 0 ≤ t) (t2 : t ≤ 1048576) :
    Calls Try.prog 17 #[.slice ao n c, .int .i64 t] w fun e w' => e = .returned (.int .i64 (K.M.tw A P R n n t)) ∧ Below w.heap.size w w' := by
  have hone := h.one
  have hmany := h.many
  obtain ⟨b, off, rfl, hbl, q0, q1, q2⟩ := hp.at' (by omega)
  have HE : Hid (∀ k, k < n → t ≤ A k → K.M.tw A P R n n t = K.M.tw A P R n k t) := fun k hk e => h.tw_stop t k e n (by omega) (by omega)
  have HB : Hid (∀ k, k ≤ n → 0 ≤ K.M.tw A P R n k t ∧ K.M.tw A P R n k t ≤ 131072 * t) := fun k hk => h.tw_all t t1 k hk
  have HL : Hid (K.M.tw A P R n n t = K.M.tw A P R n n t) := rfl
  go_enter Try.func17, Try.ntmps17
  go_wp2_with fail
  go_loopw [5, 11] (fun s i wr => ∃ k : Nat, k ≤ n ∧ i = .int .i64 k ∧ s = .int .i64 (K.M.tw A P R n k t) ∧ Below w.heap.size w wr) (fun _ i _ => n - (intOf i).toNat)
  case atStart => exact ⟨0, by omega, rfl, rfl, by go_grown⟩
  case round =>
    obtain ⟨k, hkn, rfl, rfl, hbr⟩ := hrel
    have zr := hbr.size
    by_cases hlt : k < n
    · have r0 := keepC hbr hbl (q0 k hlt)
      have r1 := keepC hbr hbl (q1 k hlt)
      have r2 := keepC hbr hbl (q2 k hlt)
      have hbk : b < wr.heap.size := by omega
      obtain ⟨a1, a2⟩ := h.tick k hlt
      by_cases c1 : t ≤ A k
      · have hV := HE.out k hlt c1
        have HV : Hid (K.M.tw A P R n n t = K.M.tw A P R n k t) := hV
        clear hV q0 q1 q2
        generalize K.M.tw A P R n k t = S at *
        go_wp2_with fail
        go_returns
        exact ⟨by rw [HV.out]; rfl, hbr.alloc hbr.size _⟩
      · obtain ⟨s1, s2⟩ := HB.out k (by omega)
        obtain ⟨s3, s4⟩ := HB.out (k + 1) (by omega)
        have hs : K.M.tw A P R n (k + 1) t = K.M.tw A P R n k t + K.M.pc A P R n k t := rfl
        by_cases hl : k + 1 < n
        · have r3 := keepC hbr hbl (q0 (k + 1) hl)
          have r4 := keepC hbr hbl (q1 (k + 1) hl)
          have r5 := keepC hbr hbl (q2 (k + 1) hl)
          obtain ⟨b1, b2⟩ := h.tick (k + 1) hl
          have HS := fun w => stretch_mid (R := R) h k hl t (by omega) t2 w
          by_cases hx : A (k + 1) < t
          · have hex : K.M.ex A n k t = A (k + 1) := K.M.ex_full k t hl (by omega)
            rw [hex] at HS
            clear hex
            generalize hD : K.M.pc A P R n k t = D at *
            generalize hS : K.M.tw A P R n k t = S at *
            have HK : Hid (K.M.tw A P R n (k + 1) t = S + D) := hs
            rw [hs] at s3 s4
            clear q0 q1 q2 hs hD hS HE HB
            go_wp2_with fail
            refine (HS _).mono ?_
            rintro e w1 ⟨rfl, hb1⟩
            have z1 := hb1.size
            simp at z1
            have k1 : Below w.heap.size w w1 := ((hbr.alloc hbr.size _).alloc (by simp; omega) _).trans (hb1.mono (by simp; omega))
            clear hb1
            go_wp2_with fail
            go_roundw
            case rel => exact ⟨k + 1, by omega, by first | rfl | go_num, by rw [HK.out], k1⟩
            case measure => simp [intOf]; omega
          · have hex : K.M.ex A n k t = t := K.M.ex_in k t (fun _ => by omega)
            rw [hex] at HS
            clear hex
            generalize hD : K.M.pc A P R n k t = D at *
            generalize hS : K.M.tw A P R n k t = S at *
            have HK : Hid (K.M.tw A P R n (k + 1) t = S + D) := hs
            rw [hs] at s3 s4
            clear q0 q1 q2 hs hD hS HE HB
            go_wp2_with fail
            refine (HS _).mono ?_
            rintro e w1 ⟨rfl, hb1⟩
            have z1 := hb1.size
            simp at z1
            have k1 : Below w.heap.size w w1 := ((hbr.alloc hbr.size _).alloc (by simp; omega) _).trans (hb1.mono (by simp; omega))
            clear hb1
            go_wp2_with fail
            go_roundw
            case rel => exact ⟨k + 1, by omega, by first | rfl | go_num, by rw [HK.out], k1⟩
            case measure => simp [intOf]; omega
        · have HS := fun w => stretch_last (R := R) h k hlt hl t (by omega) t2 w
          generalize hD : K.M.pc A P R n k t = D at *
          generalize hS : K.M.tw A P R n k t = S at *
          have HK : Hid (K.M.tw A P R n (k + 1) t = S + D) := hs
          rw [hs] at s3 s4
          clear q0 q1 q2 hs hD hS HE HB
          go_wp2_with fail
          refine (HS _).mono ?_
          rintro e w1 ⟨rfl, hb1⟩
          have z1 := hb1.size
          simp at z1
          have k1 : Below w.heap.size w w1 := ((hbr.alloc hbr.size _).alloc (by simp; omega) _).trans (hb1.mono (by simp; omega))
          clear hb1
          go_wp2_with fail
          go_roundw
          case rel => exact ⟨k + 1, by omega, by first | rfl | go_num, by rw [HK.out], k1⟩
          case measure => simp [intOf]; omega
    · obtain rfl : k = n := by omega
      clear q0 q1 q2
      go_wp2_with fail
      go_returns
      exact ⟨rfl, hbr⟩
end Go.Proofs.Ytmccbokjigjpnae.F
