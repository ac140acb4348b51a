/- What the document's Twice comes to. -/
import Derived.Test.YtmccbokjigjpnaeK10
namespace Go.Proofs.Ytmccbokjigjpnae.F
open Go.RowKit
set_option linter.unusedVariables false
set_option linter.unusedSimpArgs false

set_option maxRecDepth 20000 in
set_option maxHeartbeats 4000000 in
theorem refTwice_any (ao : Option Addr) (n c : Nat) (A P : Nat → Int) (R : Nat → Bool) (t : Int) (w : World) (hp : ML w ao n A P R) (hc : n ≤ c) (hcm : c ≤ 9223372036854775807) (h : K.M.Rt A P n) (t1 : 0 ≤ t) (t2 : t ≤ 1048576) :
    Calls Try.prog 10 #[.slice ao n c, .int .i64 t] w fun e w' => e = .returned (.int .i64 (K.M.tw A P R n n t)) ∧ Below w.heap.size w w' := by
  have hone := h.one
  have hmany := h.many
  obtain ⟨b, off, rfl, hbl, q0, q1, q2⟩ := hp.at' (by omega)
  have HE : Hid (∀ k, k < n → t ≤ A k → K.M.tw A P R n n t = K.M.tw A P R n k t) := fun k hk e => h.tw_stop t k e n (by omega) (by omega)
  have HB : Hid (∀ k, k ≤ n → 0 ≤ K.M.tw A P R n k t ∧ K.M.tw A P R n k t ≤ 131072 * t) := fun k hk => h.tw_all t t1 k hk
  go_enter Try.func10, Try.ntmps10
  go_wp2_with fail
  go_loopw [5, 12] (fun s i wr => ∃ k : Nat, k ≤ n ∧ i = .int .i64 k ∧ s = .int .i64 (K.M.tw A P R n k t) ∧ Below w.heap.size w wr) (fun _ i _ => n - (intOf i).toNat)
  case atStart => exact ⟨0, by omega, rfl, rfl, by go_grown⟩
  case round =>
    obtain ⟨k, hkn, rfl, rfl, hbr⟩ := hrel
    have zr := hbr.size
    by_cases hlt : k < n
    · have r0 := keepC hbr hbl (q0 k hlt)
      have r1 := keepC hbr hbl (q1 k hlt)
      have r2 := keepC hbr hbl (q2 k hlt)
      have hbk : b < wr.heap.size := by omega
      obtain ⟨a1, a2⟩ := h.tick k hlt
      obtain ⟨p1, p2⟩ := h.pace k hlt
      by_cases c1 : t ≤ A k
      · have hV := HE.out k hlt c1
        have HV : Hid (K.M.tw A P R n n t = K.M.tw A P R n k t) := hV
        clear hV q0 q1 q2
        generalize K.M.tw A P R n k t = S at *
        go_wp2_with fail
        go_returns
        exact ⟨by rw [HV.out]; rfl, hbr.alloc hbr.size _⟩
      · have c1' : A k < t := by omega
        obtain ⟨s1, s2⟩ := HB.out k (by omega)
        obtain ⟨s3, s4⟩ := HB.out (k + 1) (by omega)
        obtain ⟨e1, e2, e3, e4, e5⟩ := h.pc_bd (R := R) k hlt t c1'
        have hs : K.M.tw A P R n (k + 1) t = K.M.tw A P R n k t + K.M.pc A P R n k t := rfl
        by_cases hl : k + 1 < n
        · have r3 := keepC hbr hbl (q0 (k + 1) hl)
          have r4 := keepC hbr hbl (q1 (k + 1) hl)
          have hl' : (k : Int) + 1 < n := by omega
          have e6 := e3 hl
          obtain ⟨b1, b2⟩ := h.tick (k + 1) hl
          obtain ⟨x1, x2⟩ := h.pace (k + 1) hl
          have hr := h.rise k hl
          by_cases hx : A (k + 1) < t
          · have hex : K.M.ex A n k t = A (k + 1) := K.M.ex_full k t hl (by omega)
            cases hR : R k
            · have hD : K.M.pc A P R n k t = 2 * P k * (A (k + 1) - A k) := by rw [K.M.pc_even k t c1' (fun x => by rw [hR] at x; exact absurd x.1 (by simp)), hex]
              rw [hR] at r2
              rw [hex] at e1 e2 e5
              obtain ⟨m1, m2⟩ := mul_bd (2 * P k) (A (k + 1) - A k) 131072 1048576 (by omega) (by omega) (by omega) (by omega)
              have HK : Hid (K.M.tw A P R n (k + 1) t = K.M.tw A P R n k t + 2 * P k * (A (k + 1) - A k)) := by rw [← hD]; exact hs
              rw [hs, hD] at s3 s4
              clear q0 q1 q2 hs hD hex HE HB e4 e5 e3
              generalize K.M.tw A P R n k t = S at *
              go_wp2_with fail
              go_roundw
              case rel => exact ⟨k + 1, by omega, by first | rfl | go_num, by rw [HK.out], hbr.alloc hbr.size _⟩
              case measure => simp [intOf]; omega
            · have hD := K.M.pc_ramp (A := A) (P := P) k t c1' hR hl
              rw [hR] at r2
              rw [hex] at e1 e2 e5 hD
              have HPc := fun w => piece_any (P k) (P (k + 1)) (A (k + 1) - A k) (A (k + 1) - A k) w p1 p2 x1 x2 (by omega) (by omega) (by omega)
              have hN0 : 0 ≤ 2 * P k * (A (k + 1) - A k) * (A (k + 1) - A k) + (P (k + 1) - P k) * (A (k + 1) - A k) * (A (k + 1) - A k) := by
                have := Int.mul_nonneg (K.M.num_ge (P k) (P (k + 1)) (A (k + 1) - A k) (A (k + 1) - A k) p1 x1 (by omega) (by omega)) (show 0 ≤ A (k + 1) - A k by omega)
                grind
              have hQ : (2 * P k * (A (k + 1) - A k) * (A (k + 1) - A k) + (P (k + 1) - P k) * (A (k + 1) - A k) * (A (k + 1) - A k)).tdiv (A (k + 1) - A k) = K.M.pc A P R n k t := by
                rw [Int.tdiv_eq_ediv_of_nonneg hN0, K.M.rp_doc, hD]
              have w1 : IntKind.i64.wrap (A (k + 1) - A k) = A (k + 1) - A k := wid (by omega) (by omega)
              have w2 : IntKind.i64.wrap (A (k + 1) - A k) = A (k + 1) - A k := wid (by omega) (by omega)
              have w3 : IntKind.i64.wrap ((k : Int) + 1) = (k : Int) + 1 := wid (by omega) (by omega)
              have w5 : IntKind.i64.wrap (K.M.tw A P R n k t + K.M.pc A P R n k t) = K.M.tw A P R n k t + K.M.pc A P R n k t := by rw [← hs]; exact wid (by omega) (by omega)
              have w4 : IntKind.i64.wrap (K.M.pc A P R n k t) = K.M.pc A P R n k t := wid (by omega) (by omega)
              have hz : (A (k + 1) - A k == 0) = false := by simp; omega
              have HK : Hid (K.M.tw A P R n (k + 1) t = K.M.tw A P R n k t + K.M.pc A P R n k t) := hs
              clear q0 q1 q2 hs hD hex HE HB e5 e3 hN0
              generalize K.M.tw A P R n k t = S at *
              generalize K.M.pc A P R n k t = D at *
              generalize 2 * P k * (A (k + 1) - A k) * (A (k + 1) - A k) + (P (k + 1) - P k) * (A (k + 1) - A k) * (A (k + 1) - A k) = Nu at *
              go_wp2_with fail
              go_quiet (fail)
              go_wp2_with fail
              go_quiet (first | (go_at_call 18; exact (HPc _).mono fun _ _ ⟨he, hm⟩ => ⟨he, _, hm⟩))
              go_wp2_with fail
              go_roundw
              case rel => exact ⟨k + 1, by omega, by first | rfl | go_num, by first | rw [HK.out] | (rw [HK.out, w5]), below_drewN (hbr.alloc hbr.size _) _⟩
              case measure => simp [intOf]; omega
          · have hex : K.M.ex A n k t = t := K.M.ex_in k t (fun _ => by omega)
            cases hR : R k
            · have hD : K.M.pc A P R n k t = 2 * P k * (t - A k) := by rw [K.M.pc_even k t c1' (fun x => by rw [hR] at x; exact absurd x.1 (by simp)), hex]
              rw [hR] at r2
              rw [hex] at e1 e2 e5
              obtain ⟨m1, m2⟩ := mul_bd (2 * P k) (t - A k) 131072 1048576 (by omega) (by omega) (by omega) (by omega)
              have HK : Hid (K.M.tw A P R n (k + 1) t = K.M.tw A P R n k t + 2 * P k * (t - A k)) := by rw [← hD]; exact hs
              rw [hs, hD] at s3 s4
              clear q0 q1 q2 hs hD hex HE HB e4 e5 e3
              generalize K.M.tw A P R n k t = S at *
              go_wp2_with fail
              go_roundw
              case rel => exact ⟨k + 1, by omega, by first | rfl | go_num, by rw [HK.out], hbr.alloc hbr.size _⟩
              case measure => simp [intOf]; omega
            · have hD := K.M.pc_ramp (A := A) (P := P) k t c1' hR hl
              rw [hR] at r2
              rw [hex] at e1 e2 e5 hD
              have HPc := fun w => piece_any (P k) (P (k + 1)) (A (k + 1) - A k) (t - A k) w p1 p2 x1 x2 (by omega) (by omega) (by omega)
              have hN0 : 0 ≤ 2 * P k * (t - A k) * (A (k + 1) - A k) + (P (k + 1) - P k) * (t - A k) * (t - A k) := by
                have := Int.mul_nonneg (K.M.num_ge (P k) (P (k + 1)) (A (k + 1) - A k) (t - A k) p1 x1 (by omega) (by omega)) (show 0 ≤ t - A k by omega)
                grind
              have hQ : (2 * P k * (t - A k) * (A (k + 1) - A k) + (P (k + 1) - P k) * (t - A k) * (t - A k)).tdiv (A (k + 1) - A k) = K.M.pc A P R n k t := by
                rw [Int.tdiv_eq_ediv_of_nonneg hN0, K.M.rp_doc, hD]
              have w1 : IntKind.i64.wrap (A (k + 1) - A k) = A (k + 1) - A k := wid (by omega) (by omega)
              have w2 : IntKind.i64.wrap (t - A k) = t - A k := wid (by omega) (by omega)
              have w3 : IntKind.i64.wrap ((k : Int) + 1) = (k : Int) + 1 := wid (by omega) (by omega)
              have w5 : IntKind.i64.wrap (K.M.tw A P R n k t + K.M.pc A P R n k t) = K.M.tw A P R n k t + K.M.pc A P R n k t := by rw [← hs]; exact wid (by omega) (by omega)
              have w4 : IntKind.i64.wrap (K.M.pc A P R n k t) = K.M.pc A P R n k t := wid (by omega) (by omega)
              have hz : (A (k + 1) - A k == 0) = false := by simp; omega
              have HK : Hid (K.M.tw A P R n (k + 1) t = K.M.tw A P R n k t + K.M.pc A P R n k t) := hs
              clear q0 q1 q2 hs hD hex HE HB e5 e3 hN0
              generalize K.M.tw A P R n k t = S at *
              generalize K.M.pc A P R n k t = D at *
              generalize 2 * P k * (t - A k) * (A (k + 1) - A k) + (P (k + 1) - P k) * (t - A k) * (t - A k) = Nu at *
              go_wp2_with fail
              go_quiet (fail)
              go_wp2_with fail
              go_quiet (first | (go_at_call 18; exact (HPc _).mono fun _ _ ⟨he, hm⟩ => ⟨he, _, hm⟩))
              go_wp2_with fail
              go_roundw
              case rel => exact ⟨k + 1, by omega, by first | rfl | go_num, by first | rw [HK.out] | (rw [HK.out, w5]), below_drewN (hbr.alloc hbr.size _) _⟩
              case measure => simp [intOf]; omega
        · have hl' : ¬ (k : Int) + 1 < n := by omega
          have hex : K.M.ex A n k t = t := K.M.ex_last k t hl
          have hD : K.M.pc A P R n k t = 2 * P k * (t - A k) := by rw [K.M.pc_even k t c1' (fun x => hl x.2), hex]
          rw [hex] at e1 e2 e5
          obtain ⟨m1, m2⟩ := mul_bd (2 * P k) (t - A k) 131072 1048576 (by omega) (by omega) (by omega) (by omega)
          have HK : Hid (K.M.tw A P R n (k + 1) t = K.M.tw A P R n k t + 2 * P k * (t - A k)) := by rw [← hD]; exact hs
          rw [hs, hD] at s3 s4
          clear q0 q1 q2 hs hD hex HE HB e4 e5 e3
          generalize K.M.tw A P R n k t = S at *
          go_wp2_with fail
          go_roundw
          case rel => exact ⟨k + 1, by omega, by first | rfl | go_num, by rw [HK.out], hbr.alloc hbr.size _⟩
          case measure => simp [intOf]; omega
    · obtain rfl : k = n := by omega
      clear q0 q1 q2
      go_wp2_with fail
      go_returns
      exact ⟨rfl, hbr⟩
end Go.Proofs.Ytmccbokjigjpnae.F
