/- The law StepsSeek: its walk. -/
import Derived.Test.YtaohahahhjkcdahX12
import Derived.Lib.QuietBelow
namespace Go.Proofs.Ytaohahahhjkcdah.X
open Go.RowKit Go.Maps Go.Sort
set_option linter.unusedVariables false
set_option linter.unusedSimpArgs false

theorem M.sk1_no {a s : Int} (h : s < 0) : M.sk1 a s = (0, a) := if_neg (by omega)
theorem M.sk1_yes {a s : Int} (h : 0 ≤ s) (h2 : s ≤ 1125899906842624) : M.sk1 a s = (0, s) := by
  unfold M.sk1 M.sk
  rw [if_pos h, if_neg (by omega)]
theorem M.nx_at {E : List Z.M.Ev} {a x : Int} (h : (M.nx E a x).1 = 0) : (M.nx E a x).2.2 = a + x := by
  unfold M.nx at h ⊢
  split
  · rename_i c; rw [if_pos c] at h; exact absurd (show (3 : Int) = 0 from h) (by decide)
  · rename_i c
    rw [if_neg c] at h
    split
    · rfl
    · rename_i c2; rw [if_neg c2] at h; exact absurd (show (5 : Int) = 0 from h) (by decide)
theorem M.seek (E : List Z.M.Ev) (s t : Int) (h0 : 0 ≤ s) (h1 : s ≤ 1099511627776) : ∃ pa b0 b1, M.py E 0 [(s, t)] = [pa] ∧ M.py E 0 [(-1, s), (-1, t)] = [b0, b1] ∧ (b0.er = 0 → b1 = pa) := by
  refine ⟨_, _, _, rfl, rfl, fun h => ?_⟩
  have e1 : M.sk1 0 (-1) = (0, 0) := M.sk1_no (by omega)
  have e2 : M.sk1 0 s = (0, s) := M.sk1_yes h0 (by omega)
  have e3 : (M.pd1 E 0 (-1, s)).p = s := by
    have h' : (M.nx E (M.sk1 0 (-1)).2 s).1 = 0 := h
    have := M.nx_at h'
    show (M.nx E (M.sk1 0 (-1)).2 s).2.2 = s
    rw [this, e1]; simp
  rw [e3]
  unfold M.pd1
  simp only [e2, M.sk1_no (show (-1 : Int) < 0 by omega)]
set_option maxRecDepth 20000 in
set_option maxHeartbeats 4000000 in
theorem seek_walk (l : List M.Sc) (ao : Option Addr) (c : Nat) (s t : Int) (w : World) (hL : LL w (· < w.heap.size) ao l) (hc : l.length ≤ c) (hcm : c ≤ 9223372036854775807) :
    Calls Try.prog 5 #[.slice ao l.length c, .int .i64 s, .int .i64 t] w fun e w' => e = .returned (.bool true) ∧ Below w.heap.size w w' := by
  have HA := alive_any
  by_cases cg : s < 0 ∨ 1099511627776 < s ∨ t < 0 ∨ 1099511627776 < t
  · rcases (show s < 0 ∨ (¬ s < 0 ∧ 1099511627776 < s) ∨ (¬ s < 0 ∧ ¬ 1099511627776 < s ∧ t < 0) ∨ (¬ s < 0 ∧ ¬ 1099511627776 < s ∧ ¬ t < 0 ∧ 1099511627776 < t) by omega) with h | ⟨h, ha⟩ | ⟨h, ha, hb⟩ | ⟨h, ha, hb, hc'⟩
    all_goals
      clear cg hL
      go_enter Try.func5, Try.ntmps5
      go_wp2_with fail
      refine (HA _).mono ?_
      rintro e w1 ⟨rfl, hb1⟩
      go_wp2_with fail
      go_ret
      exact ⟨rfl, hb1⟩
  have d1 : ¬ s < 0 := by omega
  have d2 : ¬ 1099511627776 < s := by omega
  have d3 : ¬ t < 0 := by omega
  have d4 : ¬ 1099511627776 < t := by omega
  have HL : Hid (LL w (· < w.heap.size) ao l) := hL
  have HP := fun (W : World) (T : List (Int × Int)) (tao : Option Addr) (tc : Nat) (h1 : LL W (· < W.heap.size) ao l) (h2 : TL W (· < W.heap.size) tao T) (h3 : T.length ≤ tc) (h4 : tc ≤ 9223372036854775807) (h5 : T.length ≤ 1048576) => Play_at l T W ao c tao tc h1 hc hcm h2 h3 h4 h5
  obtain ⟨PA, B0, B1, e1, e2, e3⟩ := M.seek (M.pls l 0) s t (by omega) (by omega)
  have HE1 : Hid (M.py (M.pls l 0) 0 [(s, t)] = [PA]) := e1
  have HE2 : Hid (M.py (M.pls l 0) 0 [(-1, s), (-1, t)] = [B0, B1]) := e2
  have HE3 : Hid (B0.er = 0 → B1 = PA) := e3
  clear hL e1 e2 e3 cg
  obtain ⟨VE, hVE⟩ : ∃ V, V = (M.cks l 1 0 0).1 := ⟨_, rfl⟩
  have HVE : Hid (VE = (M.cks l 1 0 0).1) := hVE
  clear hVE
  go_enter Try.func5, Try.ntmps5
  go_wp2_with fail
  refine (HA _).mono ?_
  rintro e w1 ⟨rfl, hb1⟩
  clear HA
  go_wp2_with fail
  have hbA : Below w.heap.size w (w1.alloc (Obj.cells #[.int .i64 s, .int .i64 t] 31)) := hb1.alloc hb1.size _
  refine (HP _ [(s, t)] (some ⟨w1.heap.size, 0, none⟩) 1 (HL.out.to hbA hbA.size) (TL.one (by simp [go_sem]) (by simp [go_sem]) (by simp) (by omega)) (by simp) (by omega) (by simp)).mono ?_
  rintro e w2 ⟨hb2, a2, n2, c2, rfl, j1, j2, j3, j4⟩
  have hb02 := hbA.trans (hb2.mono hbA.size)
  clear hb2 hbA hb1
  rw [← HVE.out] at j3 j4 ⊢
  rw [HE1.out] at j4
  have J4 : Hid (VE = 0 → n2 = 1 ∧ DL w2 (· < w2.heap.size) a2 [PA]) := j4
  clear j3 j4
  go_wp2_with fail
  have hbB : Below w2.heap.size w2 (w2.alloc (Obj.cells #[.int .i64 (-1), .int .i64 s, .int .i64 (-1), .int .i64 t] 31)) := (Below.refl _ _).alloc (Nat.le_refl _) _
  have hb0B := hb02.trans (hbB.mono hb02.size)
  refine (HP _ [(-1, s), (-1, t)] (some ⟨w2.heap.size, 0, none⟩) 2 (HL.out.to hb0B hb0B.size) (TL.two (by simp [go_sem]) (by simp [go_sem]) (by simp [go_sem]) (by simp [go_sem]) (by simp) (by omega) (by omega)) (by simp) (by omega) (by simp)).mono ?_
  rintro e w3 ⟨hb3, a3, n3, c3, rfl, i1, i2, i3, i4⟩
  have hb23 := hbB.trans (hb3.mono hbB.size)
  have hb03 := hb02.trans (hb23.mono hb02.size)
  clear hb3 hbB hb0B HP
  rw [← HVE.out] at i3 i4 ⊢
  rw [HE2.out] at i4
  have hself : (VE != VE) = false := by simp
  by_cases hz : VE = 0
  · obtain ⟨q1, q2⟩ := J4.out hz
    obtain ⟨q3, q4⟩ := i4 hz
    subst hz
    have q2' := q2.keep (w' := w3) (S' := (· < w3.heap.size)) (Kp.below hb23) (fun b hb => Nat.lt_of_lt_of_le hb hb23.size)
    obtain ⟨b1, o1, rfl, l1, f1⟩ := q2'.at' (by simp)
    obtain ⟨b2, o2, rfl, l2, f2⟩ := q4.at' (by simp)
    obtain ⟨ev1, x0, x1, x2, x3, x4⟩ := f1 0 PA rfl
    obtain ⟨ev2, y0, y1, y2, y3, y4⟩ := f2 0 B0 rfl
    obtain ⟨ev3, z0, z1, z2, z3, z4⟩ := f2 1 B1 rfl
    subst q1 q3
    rw [Nat.zero_mul, Nat.add_zero] at x0 x1 x2 x3 y0 y1 y2 y3
    rw [show o2 + 1 * 4 = o2 + 4 by omega] at z0 z1 z2 z3
    clear J4 i4 i3 q2 q2' q4 f1 f2 HVE HE1 HE2
    go_wp2_with fail
    by_cases hz0 : B0.er = 0
    · have e3 := HE3.out hz0
      subst e3
      obtain ⟨ae, ce, rfl, u1, u2, u3⟩ := x4
      obtain ⟨af, cf, rfl, v1, v2, v3⟩ := z4
      have cS : ∀ d os, Calls Try.prog 11 #[.slice ae B1.ev.length ce, .slice af B1.ev.length cf] (grow (redrawn w3 d) os) fun e w'' => e = .returned (.bool true) ∧ ∃ p : Regrown, w'' = grow (redrawn w3 p.d) p.os := fun d os => by
        have hbg := below_regrown w3 d os
        exact Calls.regrown_of (Z.Same_yes B1.ev ae af ce cf _ ((u3.keep (Kp.below hbg)).le (fun b hb => Nat.lt_of_lt_of_le hb hbg.size)) u1 u2 ((v3.keep (Kp.below hbg)).le (fun b hb => Nat.lt_of_lt_of_le hb hbg.size)) v1 v2)
      have hq : (B0.er != 0) = false := by simp [hz0]
      have hq1 : (B1.er == B1.er) = true := by simp
      have hq2 : (B1.p == B1.p) = true := by simp
      clear HE3 hz0 u3 v3 y4
      generalize B0.er = be at *
      generalize B1.er = ce1 at *
      generalize B1.p = cp1 at *
      generalize B1.ev.length = cn at *
      have gx1 := cell_regrown x1
      have gx2 := cell_regrown x2
      have gx3 := cell_regrown x3
      have gy1 := cell_regrown y1
      have gz1 := cell_regrown z1
      have gz2 := cell_regrown z2
      have gz3 := cell_regrown z3
      refine wp_region_quiet_below (by kernel_rfl) (by kernel_rfl) ?_
      repeat (go_big_quiet_step (exact cS _ _))
      refine wpQuiet_nil ?_
      rintro w4 ⟨⟨dq, osq⟩, hw4⟩
      have hb4 : Below w3.heap.size w3 w4 := by rw [hw4]; exact below_regrown w3 dq osq
      clear hw4 cS
      go_wp2_with fail
      go_ret
      exact ⟨rfl, hb03.trans (hb4.mono hb03.size)⟩
    · have hq : (B0.er != 0) = true := by simp [hz0]
      clear HE3 hz0 x4 y4 z4
      generalize B0.er = be at *
      have gy1 := cell_regrown y1
      refine wp_region_quiet_below (by kernel_rfl) (by kernel_rfl) ?_
      repeat (go_big_quiet_step (fail))
      refine wpQuiet_nil ?_
      rintro w4 ⟨⟨dq, osq⟩, hw4⟩
      have hb4 : Below w3.heap.size w3 w4 := by rw [hw4]; exact below_regrown w3 dq osq
      clear hw4
      go_wp2_with fail
      go_ret
      exact ⟨rfl, hb03.trans (hb4.mono hb03.size)⟩
  · have hz' : (VE != 0) = true := by simp [hz]
    clear J4 i4 i3 HVE HE1 HE2 HE3 hz
    go_wp2_with fail
    go_ret
    exact ⟨rfl, hb03⟩
end Go.Proofs.Ytaohahahhjkcdah.X
