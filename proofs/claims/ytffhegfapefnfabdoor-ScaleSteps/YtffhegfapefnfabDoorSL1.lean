/- The walk of the law ScaleSteps. -/
import Derived.Test.YtffhegfapefnfabDoorS4
namespace Go.Proofs.YtffhegfapefnfabDoor
open Go.RowKit
attribute [local go_sem ↓] Go.wp_at_zero Go.wp_at_succ
set_option linter.unusedSimpArgs false

theorem M.mod_ne {x k j : Nat} (hj : j < k) (hk : k < 7) : (((x : Int) + k) % 7 == ((x : Int) + j) % 7) = false := by simp; omega
theorem M.zr_up {l a o m n : Int} (h : M.dk l a o m n = true) (h2 : M.dk l a o m (n + 7) = true) : M.dl l a o m (n + 7) = M.dl l a o m n ∧ M.da l a o m (n + 7) = M.da l a o m n ∧ M.dO l a o m (n + 7) = M.dO l a o m n + 1 := by
  rw [M.dl_yes h, M.dl_yes h2, M.da_yes h, M.da_yes h2, M.dO_yes h, M.dO_yes h2, show (l + (n + 7)) % 7 = (l + n) % 7 by omega]
  exact ⟨rfl, rfl, by omega⟩
theorem M.dk_rt {l a o m n : Int} (h : M.dk l a o m n = true) : M.rt (M.dl l a o m n) (M.da l a o m n) (M.dO l a o m n) = true := by
  rw [M.dl_yes h, M.da_yes h, M.dO_yes h]; exact (M.dk_yes h).2.2.2
theorem M.dk_steps {l a o m n : Int} (h : M.dk l a o m n = true) : M.bs l a o (M.dl l a o m n) (M.da l a o m n) (M.dO l a o m n) = n ∧ M.be l a o (M.dl l a o m n) (M.da l a o m n) (M.dO l a o m n) = 0 := by
  have h1 : M.bk l a o (M.dl l a o m n) (M.da l a o m n) (M.dO l a o m n) = true := by unfold M.bk; rw [M.dk_rt h, (M.dk_yes h).2.1]; rfl
  rw [M.bs_yes h1, M.be_yes h1]
  refine ⟨?_, rfl⟩
  rw [M.dl_yes h, M.dO_yes h]; unfold M.st; omega

set_option maxRecDepth 20000 in
set_option maxHeartbeats 8000000 in
theorem steps_none (l a o m n m2 : Int) (w : World) (ht : SW w) (hk : M.zk l a m = false) :
    Calls Tryd.prog 8 #[.agg #[.int .i64 l, .int .i64 a, .int .i64 o], .int .i64 m, .int .i64 n, .int .i64 m2] w fun e w' => e = .returned (.bool true) ∧ Below w.heap.size w w' := by
  have hz0 := M.ze_ne hk
  have hS := Scale_no l a m
  generalize M.ze l a m = E at *
  go_enter Tryd.func8, Tryd.ntmps8
  go_wp2_with fail
  refine (alive3_any _ (ht.fifs.step (by go_grown))).mono ?_
  rintro e w1 ⟨rfl, hb1⟩
  have z1 := hb1.size
  simp at z1
  have hb01 : Below w.heap.size w w1 := Below.trans (by go_grown) (hb1.mono (by simp))
  have p0 : w1.cell? ⟨w.heap.size, 0, none⟩ = some (.int .i64 l) := keepC hb1 (by simp) (by simp [go_sem])
  have p1 : w1.cell? ⟨w.heap.size, 1, none⟩ = some (.int .i64 a) := keepC hb1 (by simp) (by simp [go_sem])
  have p2 : w1.cell? ⟨w.heap.size, 2, none⟩ = some (.int .i64 o) := keepC hb1 (by simp) (by simp [go_sem])
  have s1 : w.heap.size < w1.heap.size := by omega
  go_wp2_with fail
  refine (hS _ ((ht.fifs.step hb01).step (by go_grown)) hk).mono ?_
  rintro e w2 ⟨rfl, hb2⟩
  go_wp2_with fail
  go_ret
  exact ⟨rfl, hb01.trans (Below.trans (by go_grown) (hb2.mono (by simp; omega)))⟩

set_option maxRecDepth 20000 in
set_option maxHeartbeats 8000000 in
theorem steps_form (l a o m n m2 : Int) (w : World) (ht : SW w) (hk : M.zk l a m = true) (hr : M.rt l a o = false) :
    Calls Tryd.prog 8 #[.agg #[.int .i64 l, .int .i64 a, .int .i64 o], .int .i64 m, .int .i64 n, .int .i64 m2] w fun e w' => e = .returned (.bool true) ∧ Below w.heap.size w w' := by
  obtain ⟨x1, x2, x3, x4, _, _⟩ := M.rt_yes (M.zk_yes hk).2.1
  obtain ⟨x, rfl⟩ : ∃ x : Nat, l = x := ⟨l.toNat, by omega⟩
  have hS := Scale_yes x a m
  go_enter Tryd.func8, Tryd.ntmps8
  go_wp2_with fail
  refine (alive3_any _ (ht.fifs.step (by go_grown))).mono ?_
  rintro e w1 ⟨rfl, hb1⟩
  have z1 := hb1.size
  simp at z1
  have hb01 : Below w.heap.size w w1 := Below.trans (by go_grown) (hb1.mono (by simp))
  have p0 : w1.cell? ⟨w.heap.size, 0, none⟩ = some (.int .i64 x) := keepC hb1 (by simp) (by simp [go_sem])
  have p1 : w1.cell? ⟨w.heap.size, 1, none⟩ = some (.int .i64 a) := keepC hb1 (by simp) (by simp [go_sem])
  have p2 : w1.cell? ⟨w.heap.size, 2, none⟩ = some (.int .i64 o) := keepC hb1 (by simp) (by simp [go_sem])
  have s1 : w.heap.size < w1.heap.size := by omega
  go_wp2_with fail
  refine (hS _ ((ht.fifs.step hb01).step (by go_grown)) hk (by omega)).mono ?_
  rintro e w2 ⟨b, hbb, rfl, hb2, hrow⟩
  have z2 := hb2.size
  simp at z2 hbb
  have k2 : Below w1.heap.size w1 w2 := Below.trans (by go_grown) (hb2.mono (by simp))
  have hb02 : Below w.heap.size w w2 := hb01.trans (k2.mono (by omega))
  have c0 : w2.cell? ⟨w1.heap.size, 0, none⟩ = some (.int .i64 x) := keepC hb2 (by simp) (by simp [go_sem])
  have c1 : w2.cell? ⟨w1.heap.size, 1, none⟩ = some (.int .i64 a) := keepC hb2 (by simp) (by simp [go_sem])
  have sc : w1.heap.size < w2.heap.size := by omega
  replace p0 := keepC k2 (by omega) p0
  replace p1 := keepC k2 (by omega) p1
  replace p2 := keepC k2 (by omega) p2
  have s2 : w.heap.size < w2.heap.size := by omega
  go_wp2_with fail
  refine (Right_any x a o _).mono ?_
  rintro e w3 ⟨rfl, hb3⟩
  have z3 := hb3.size
  have hb03 : Below w.heap.size w w3 := hb02.trans (hb3.mono hb02.size)
  replace c0 := keepC hb3 (by omega) c0
  replace c1 := keepC hb3 (by omega) c1
  replace p0 := keepC hb3 (by omega) p0
  replace p1 := keepC hb3 (by omega) p1
  replace p2 := keepC hb3 (by omega) p2
  have s3 : w.heap.size < w3.heap.size := by omega
  have sc3 : w1.heap.size < w3.heap.size := by omega
  have hl := hrow.lt
  replace hrow := hrow.step hb3 hl (Nat.le_refl _)
  replace hl := hrow.lt
  rw [hr]
  go_wp2_with fail
  go_ret
  exact ⟨rfl, hb03⟩

set_option maxRecDepth 20000 in
set_option maxHeartbeats 8000000 in
theorem steps_yes (x : Nat) (a o m n m2 : Int) (w : World) (ht : SW w) (hk : M.zk x a m = true) (hx : x < 7) (hr : M.rt x a o = true) :
    Calls Tryd.prog 8 #[.agg #[.int .i64 x, .int .i64 a, .int .i64 o], .int .i64 m, .int .i64 n, .int .i64 m2] w fun e w' => e = .returned (.bool true) ∧ Below w.heap.size w w' := by
  obtain ⟨x1, x2, x3, x4, x5, x6⟩ := M.rt_yes hr
  have hr0 := M.rt_class hr
  have hmk' := (M.zk_yes hk).1
  have hS := Scale_yes x a m
  have ha := M.al_zr hk
  have ht0 := ht
  go_enter Tryd.func8, Tryd.ntmps8
  go_wp2_with fail
  refine (alive3_any _ (ht.fifs.step (by go_grown))).mono ?_
  rintro e w1 ⟨rfl, hb1⟩
  have z1 := hb1.size
  simp at z1
  have hb01 : Below w.heap.size w w1 := Below.trans (by go_grown) (hb1.mono (by simp))
  have p0 : w1.cell? ⟨w.heap.size, 0, none⟩ = some (.int .i64 x) := keepC hb1 (by simp) (by simp [go_sem])
  have p1 : w1.cell? ⟨w.heap.size, 1, none⟩ = some (.int .i64 a) := keepC hb1 (by simp) (by simp [go_sem])
  have p2 : w1.cell? ⟨w.heap.size, 2, none⟩ = some (.int .i64 o) := keepC hb1 (by simp) (by simp [go_sem])
  have s1 : w.heap.size < w1.heap.size := by omega
  go_wp2_with fail
  refine (hS _ ((ht.fifs.step hb01).step (by go_grown)) hk (by omega)).mono ?_
  rintro e w2 ⟨b, hbb, rfl, hb2, hrow⟩
  have z2 := hb2.size
  simp at z2 hbb
  have k2 : Below w1.heap.size w1 w2 := Below.trans (by go_grown) (hb2.mono (by simp))
  have hb02 : Below w.heap.size w w2 := hb01.trans (k2.mono (by omega))
  have c0 : w2.cell? ⟨w1.heap.size, 0, none⟩ = some (.int .i64 x) := keepC hb2 (by simp) (by simp [go_sem])
  have c1 : w2.cell? ⟨w1.heap.size, 1, none⟩ = some (.int .i64 a) := keepC hb2 (by simp) (by simp [go_sem])
  have sc : w1.heap.size < w2.heap.size := by omega
  replace p0 := keepC k2 (by omega) p0
  replace p1 := keepC k2 (by omega) p1
  replace p2 := keepC k2 (by omega) p2
  have s2 : w.heap.size < w2.heap.size := by omega
  go_wp2_with fail
  refine (Right_any x a o _).mono ?_
  rintro e w3 ⟨rfl, hb3⟩
  have z3 := hb3.size
  have hb03 : Below w.heap.size w w3 := hb02.trans (hb3.mono hb02.size)
  replace c0 := keepC hb3 (by omega) c0
  replace c1 := keepC hb3 (by omega) c1
  replace p0 := keepC hb3 (by omega) p0
  replace p1 := keepC hb3 (by omega) p1
  replace p2 := keepC hb3 (by omega) p2
  have s3 : w.heap.size < w3.heap.size := by omega
  have sc3 : w1.heap.size < w3.heap.size := by omega
  have hl := hrow.lt
  replace hrow := hrow.step hb3 hl (Nat.le_refl _)
  replace hl := hrow.lt
  rw [hr]
  go_wp2_with fail
  have d0 := hrow.don 0 (by omega)
  have g0 : w3.cell? ⟨b, 0, none⟩ = some (.int .i64 x) := by have := d0.1; rw [show (x : Int) + ((0 : Nat) : Int) = x by omega, show (x : Int) % 7 = x by omega] at this; exact this
  have g1 : w3.cell? ⟨b, 1, none⟩ = some (.int .i64 a) := by have := d0.2; rw [show (x : Int) + ((0 : Nat) : Int) = x by omega, show (x : Int) % 7 = x by omega, ha] at this; exact this
  have hdon := hrow.don
  clear d0 hrow hS ha
  go_region
  go_wp2_with fail
  go_loopw [54] (fun i wr => ∃ k : Nat, k ≤ 7 ∧ i = .int .i64 k ∧ Below w3.heap.size w3 wr)
    (fun i _ => 7 - (intOf i).toNat)
  case atStart => exact ⟨0, by omega, rfl, (Below.refl _ _).drew⟩
  case round =>
    obtain ⟨k, hk7, rfl, hbr⟩ := hrel
    have zr := hbr.size
    by_cases hlt : k < 7
    · have hkc := keepC hbr hl (hdon k hlt).1
      go_wp2_with fail
      go_loopw [13] (fun i wx => ∃ j : Nat, j ≤ k ∧ i = .int .i64 j ∧ Below w3.heap.size w3 wx)
        (fun i _ => k - (intOf i).toNat)
      case atStart => exact ⟨0, by omega, rfl, hbr⟩
      case round =>
        rename World => wx
        obtain ⟨j, hj, rfl, hbx⟩ := hrel
        have zx := hbx.size
        have hlx : b < wx.heap.size := by omega
        by_cases hjk : j < k
        · have q0 := keepC hbx hl (hdon k hlt).1
          have q1 := keepC hbx hl (hdon j (by omega)).1
          have hne := M.mod_ne (x := x) hjk hlt
          generalize ((x : Int) + k) % 7 = A at *
          generalize ((x : Int) + j) % 7 = A' at *
          clear hdon
          go_wp2_with fail
          go_region
          go_wp2_with fail
          go_roundw
          case rel => exact ⟨j + 1, by omega, by go_num, hbx.drew⟩
          case measure => simp [intOf]; omega
        · have ek : j = k := by omega
          subst ek
          clear hdon
          go_wp2_with fail
          go_roundw
          case rel => exact ⟨j + 1, by omega, by go_num, hbx⟩
          case measure => simp [intOf]; omega
    · have e7 : k = 7 := by omega
      subst e7
      replace p0 := keepC hbr (by omega) p0
      replace p1 := keepC hbr (by omega) p1
      replace p2 := keepC hbr (by omega) p2
      replace c0 := keepC hbr (by omega) c0
      replace c1 := keepC hbr (by omega) c1
      have hb0r := hb03.trans (hbr.mono (by omega))
      clear hdon g0 g1
      have ht : SW wr := ht0.step hb0r
      have Cp0 := p0
      have Cp1 := p1
      have Cp2 := p2
      have Cc0 := c0
      have Cc1 := c1
      have tCp : w.heap.size < wr.heap.size := by omega
      have tCc : w1.heap.size < wr.heap.size := by omega
      clear p0 p1 p2 c0 c1
      go_wp2_with fail
      refine (Degree_any x a o m n _ (ht.step (by go_grown)).fifs).mono ?_
      rintro e w11 ⟨rfl, hb11⟩
      have sz11 := hb11.size
      try simp at sz11
      have k11 : Below wr.heap.size wr w11 := Below.trans (by go_grown) (hb11.mono (by (first | (simp; done) | (simp; omega))))
      have h0w11 : Below wr.heap.size wr w11 := k11
      replace Cp0 := keepC k11 (by omega) Cp0
      replace Cp1 := keepC k11 (by omega) Cp1
      replace Cp2 := keepC k11 (by omega) Cp2
      have tCp : w.heap.size < w11.heap.size := by omega
      replace Cc0 := keepC k11 (by omega) Cc0
      replace Cc1 := keepC k11 (by omega) Cc1
      have tCc : w1.heap.size < w11.heap.size := by omega
      cases hd : M.dk x a o m n
      · have gd := M.de_ne hd
        generalize M.de x a o m n = DE at *
        go_wp2_with fail
        refine (Signs_any x a m _ ((ht.step h0w11).step (by go_grown)).fifs).mono ?_
        rintro e w12 ⟨rfl, hb12⟩
        have sz12 := hb12.size
        try simp at sz12
        have k12 : Below w11.heap.size w11 w12 := Below.trans (by go_grown) (hb12.mono (by (first | (simp; done) | (simp; omega))))
        have h0w12 : Below wr.heap.size wr w12 := h0w11.trans (k12.mono h0w11.size)
        replace Cp0 := keepC k12 (by omega) Cp0
        replace Cp1 := keepC k12 (by omega) Cp1
        replace Cp2 := keepC k12 (by omega) Cp2
        have tCp : w.heap.size < w12.heap.size := by omega
        replace Cc0 := keepC k12 (by omega) Cc0
        replace Cc1 := keepC k12 (by omega) Cc1
        have tCc : w1.heap.size < w12.heap.size := by omega
        have Cd0 : w12.cell? ⟨w11.heap.size, 0, none⟩ = some (.int .i64 (M.dl x a o m n)) := keepC hb12 (by (first | (simp; done) | (simp; omega))) (by simp [go_sem])
        have Cd1 : w12.cell? ⟨w11.heap.size, 1, none⟩ = some (.int .i64 (M.da x a o m n)) := keepC hb12 (by (first | (simp; done) | (simp; omega))) (by simp [go_sem])
        have Cd2 : w12.cell? ⟨w11.heap.size, 2, none⟩ = some (.int .i64 (M.dO x a o m n)) := keepC hb12 (by (first | (simp; done) | (simp; omega))) (by simp [go_sem])
        have tCd : w11.heap.size < w12.heap.size := by omega
        rw [M.zs_yes hk, M.ze_yes hk]
        go_wp2_with fail
        refine (Move_any x a 0 4 7 _ ((ht.step h0w12).step (by go_grown)).tab).mono ?_
        rintro e w13 ⟨rfl, hb13⟩
        have sz13 := hb13.size
        try simp at sz13
        have k13 : Below w12.heap.size w12 w13 := Below.trans (by go_grown) (hb13.mono (by (first | (simp; done) | (simp; omega))))
        have h0w13 : Below wr.heap.size wr w13 := h0w12.trans (k13.mono h0w12.size)
        replace Cp0 := keepC k13 (by omega) Cp0
        replace Cp1 := keepC k13 (by omega) Cp1
        replace Cp2 := keepC k13 (by omega) Cp2
        have tCp : w.heap.size < w13.heap.size := by omega
        replace Cc0 := keepC k13 (by omega) Cc0
        replace Cc1 := keepC k13 (by omega) Cc1
        have tCc : w1.heap.size < w13.heap.size := by omega
        replace Cd0 := keepC k13 (by omega) Cd0
        replace Cd1 := keepC k13 (by omega) Cd1
        replace Cd2 := keepC k13 (by omega) Cd2
        have tCd : w11.heap.size < w13.heap.size := by omega
        cases hm : M.mk x a 0 4 7
        · rw [M.me_no hm hr0]
          go_wp2_with fail
          go_ret
          exact ⟨rfl, hb0r.trans (Below.mono (Below.trans h0w13 (Below.mono (by go_grown) h0w13.size)) hb0r.size)⟩
        · obtain ⟨f1, f2⟩ := M.fifth_zr hr0 hmk' hm
          rw [M.me_yes hm]
          go_wp2_with fail
          refine (Signs_any (M.ml x a 0 4 7) (M.ma x a 0 4 7) m _ ((ht.step h0w13).step (by go_grown)).fifs).mono ?_
          rintro e w14 ⟨rfl, hb14⟩
          have sz14 := hb14.size
          try simp at sz14
          have k14 : Below w13.heap.size w13 w14 := Below.trans (by go_grown) (hb14.mono (by (first | (simp; done) | (simp; omega))))
          have h0w14 : Below wr.heap.size wr w14 := h0w13.trans (k14.mono h0w13.size)
          replace Cp0 := keepC k14 (by omega) Cp0
          replace Cp1 := keepC k14 (by omega) Cp1
          replace Cp2 := keepC k14 (by omega) Cp2
          have tCp : w.heap.size < w14.heap.size := by omega
          replace Cc0 := keepC k14 (by omega) Cc0
          replace Cc1 := keepC k14 (by omega) Cc1
          have tCc : w1.heap.size < w14.heap.size := by omega
          replace Cd0 := keepC k14 (by omega) Cd0
          replace Cd1 := keepC k14 (by omega) Cd1
          replace Cd2 := keepC k14 (by omega) Cd2
          have tCd : w11.heap.size < w14.heap.size := by omega
          have Cf0 : w14.cell? ⟨w13.heap.size, 0, none⟩ = some (.int .i64 (M.ml x a 0 4 7)) := keepC hb14 (by (first | (simp; done) | (simp; omega))) (by simp [go_sem])
          have Cf1 : w14.cell? ⟨w13.heap.size, 1, none⟩ = some (.int .i64 (M.ma x a 0 4 7)) := keepC hb14 (by (first | (simp; done) | (simp; omega))) (by simp [go_sem])
          have Cf2 : w14.cell? ⟨w13.heap.size, 2, none⟩ = some (.int .i64 (M.mo x a 0 4 7)) := keepC hb14 (by (first | (simp; done) | (simp; omega))) (by simp [go_sem])
          have tCf : w13.heap.size < w14.heap.size := by omega
          cases hq : M.z7 (M.zr (M.ml x a 0 4 7) (M.ma x a 0 4 7) m)
          · obtain ⟨g1, g2⟩ := M.ze_range hmk' f2 hq
            have g3 := M.z7_no hq
            have g4 := M.zr_bd hk
            have g5 : M.zr x a m = 7 := by omega
            rw [g2, g5]
            go_wp2_with fail
            go_ret
            exact ⟨rfl, hb0r.trans (Below.mono (Below.trans h0w14 (Below.mono (by go_grown) h0w14.size)) hb0r.size)⟩
          · have g1 := M.zk_mk hmk' f2 hq
            have g4 := M.zr_bd hk
            rw [M.zs_yes g1, M.ze_yes g1, f1]
            generalize M.zr x a m = R at *
            go_wp2_with fail
            go_ret
            exact ⟨rfl, hb0r.trans (Below.mono (Below.trans h0w14 (Below.mono (by go_grown) h0w14.size)) hb0r.size)⟩
      · obtain ⟨j1, j2⟩ := M.dk_steps hd
        have j3 := M.wi_yes (M.dk_yes hd).2.2.1
        rw [M.de_yes hd]
        go_wp2_with fail
        refine (Between_any x a o (M.dl x a o m n) (M.da x a o m n) (M.dO x a o m n) _ ((ht.step h0w11).step (by go_grown)).tab).mono ?_
        rintro e w12 ⟨rfl, hb12⟩
        have sz12 := hb12.size
        try simp at sz12
        have k12 : Below w11.heap.size w11 w12 := Below.trans (by go_grown) (hb12.mono (by (first | (simp; done) | (simp; omega))))
        have h0w12 : Below wr.heap.size wr w12 := h0w11.trans (k12.mono h0w11.size)
        replace Cp0 := keepC k12 (by omega) Cp0
        replace Cp1 := keepC k12 (by omega) Cp1
        replace Cp2 := keepC k12 (by omega) Cp2
        have tCp : w.heap.size < w12.heap.size := by omega
        replace Cc0 := keepC k12 (by omega) Cc0
        replace Cc1 := keepC k12 (by omega) Cc1
        have tCc : w1.heap.size < w12.heap.size := by omega
        have Cd0 : w12.cell? ⟨w11.heap.size, 0, none⟩ = some (.int .i64 (M.dl x a o m n)) := keepC hb12 (by (first | (simp; done) | (simp; omega))) (by simp [go_sem])
        have Cd1 : w12.cell? ⟨w11.heap.size, 1, none⟩ = some (.int .i64 (M.da x a o m n)) := keepC hb12 (by (first | (simp; done) | (simp; omega))) (by simp [go_sem])
        have Cd2 : w12.cell? ⟨w11.heap.size, 2, none⟩ = some (.int .i64 (M.dO x a o m n)) := keepC hb12 (by (first | (simp; done) | (simp; omega))) (by simp [go_sem])
        have tCd : w11.heap.size < w12.heap.size := by omega
        rw [j1, j2]
        go_wp2_with fail
        refine (Degree_any x a o m (n + 7) _ ((ht.step h0w12).step (by go_grown)).fifs).mono ?_
        rintro e w13 ⟨rfl, hb13⟩
        have sz13 := hb13.size
        try simp at sz13
        have k13 : Below w12.heap.size w12 w13 := Below.trans (by go_grown) (hb13.mono (by (first | (simp; done) | (simp; omega))))
        have h0w13 : Below wr.heap.size wr w13 := h0w12.trans (k13.mono h0w12.size)
        replace Cp0 := keepC k13 (by omega) Cp0
        replace Cp1 := keepC k13 (by omega) Cp1
        replace Cp2 := keepC k13 (by omega) Cp2
        have tCp : w.heap.size < w13.heap.size := by omega
        replace Cc0 := keepC k13 (by omega) Cc0
        replace Cc1 := keepC k13 (by omega) Cc1
        have tCc : w1.heap.size < w13.heap.size := by omega
        replace Cd0 := keepC k13 (by omega) Cd0
        replace Cd1 := keepC k13 (by omega) Cd1
        replace Cd2 := keepC k13 (by omega) Cd2
        have tCd : w11.heap.size < w13.heap.size := by omega
        have Ci0 : w13.cell? ⟨w12.heap.size, 0, none⟩ = some (.int .i64 n) := keepC hb13 (by (first | (simp; done) | (simp; omega))) (by simp [go_sem])
        have Ci1 : w13.cell? ⟨w12.heap.size, 1, none⟩ = some (.int .i64 ((M.bh x a o (M.dl x a o m n) (M.da x a o m n) (M.dO x a o m n)))) := keepC hb13 (by (first | (simp; done) | (simp; omega))) (by simp [go_sem])
        have tCi : w12.heap.size < w13.heap.size := by omega
        cases hu : M.dk x a o m (n + 7)
        · have gu := M.de_ne hu
          generalize M.de x a o m (n + 7) = UE at *
          go_wp2_with fail
          refine (Signs_any x a m _ ((ht.step h0w13).step (by go_grown)).fifs).mono ?_
          rintro e w14 ⟨rfl, hb14⟩
          have sz14 := hb14.size
          try simp at sz14
          have k14 : Below w13.heap.size w13 w14 := Below.trans (by go_grown) (hb14.mono (by (first | (simp; done) | (simp; omega))))
          have h0w14 : Below wr.heap.size wr w14 := h0w13.trans (k14.mono h0w13.size)
          replace Cp0 := keepC k14 (by omega) Cp0
          replace Cp1 := keepC k14 (by omega) Cp1
          replace Cp2 := keepC k14 (by omega) Cp2
          have tCp : w.heap.size < w14.heap.size := by omega
          replace Cc0 := keepC k14 (by omega) Cc0
          replace Cc1 := keepC k14 (by omega) Cc1
          have tCc : w1.heap.size < w14.heap.size := by omega
          replace Cd0 := keepC k14 (by omega) Cd0
          replace Cd1 := keepC k14 (by omega) Cd1
          replace Cd2 := keepC k14 (by omega) Cd2
          have tCd : w11.heap.size < w14.heap.size := by omega
          replace Ci0 := keepC k14 (by omega) Ci0
          replace Ci1 := keepC k14 (by omega) Ci1
          have tCi : w12.heap.size < w14.heap.size := by omega
          have Cu0 : w14.cell? ⟨w13.heap.size, 0, none⟩ = some (.int .i64 ((M.dl x a o m (n + 7)))) := keepC hb14 (by (first | (simp; done) | (simp; omega))) (by simp [go_sem])
          have Cu1 : w14.cell? ⟨w13.heap.size, 1, none⟩ = some (.int .i64 ((M.da x a o m (n + 7)))) := keepC hb14 (by (first | (simp; done) | (simp; omega))) (by simp [go_sem])
          have Cu2 : w14.cell? ⟨w13.heap.size, 2, none⟩ = some (.int .i64 ((M.dO x a o m (n + 7)))) := keepC hb14 (by (first | (simp; done) | (simp; omega))) (by simp [go_sem])
          have tCu : w13.heap.size < w14.heap.size := by omega
          rw [M.zs_yes hk, M.ze_yes hk]
          go_wp2_with fail
          refine (Move_any x a 0 4 7 _ ((ht.step h0w14).step (by go_grown)).tab).mono ?_
          rintro e w15 ⟨rfl, hb15⟩
          have sz15 := hb15.size
          try simp at sz15
          have k15 : Below w14.heap.size w14 w15 := Below.trans (by go_grown) (hb15.mono (by (first | (simp; done) | (simp; omega))))
          have h0w15 : Below wr.heap.size wr w15 := h0w14.trans (k15.mono h0w14.size)
          replace Cp0 := keepC k15 (by omega) Cp0
          replace Cp1 := keepC k15 (by omega) Cp1
          replace Cp2 := keepC k15 (by omega) Cp2
          have tCp : w.heap.size < w15.heap.size := by omega
          replace Cc0 := keepC k15 (by omega) Cc0
          replace Cc1 := keepC k15 (by omega) Cc1
          have tCc : w1.heap.size < w15.heap.size := by omega
          replace Cd0 := keepC k15 (by omega) Cd0
          replace Cd1 := keepC k15 (by omega) Cd1
          replace Cd2 := keepC k15 (by omega) Cd2
          have tCd : w11.heap.size < w15.heap.size := by omega
          replace Ci0 := keepC k15 (by omega) Ci0
          replace Ci1 := keepC k15 (by omega) Ci1
          have tCi : w12.heap.size < w15.heap.size := by omega
          replace Cu0 := keepC k15 (by omega) Cu0
          replace Cu1 := keepC k15 (by omega) Cu1
          replace Cu2 := keepC k15 (by omega) Cu2
          have tCu : w13.heap.size < w15.heap.size := by omega
          cases hm : M.mk x a 0 4 7
          · rw [M.me_no hm hr0]
            go_wp2_with fail
            go_ret
            exact ⟨rfl, hb0r.trans (Below.mono (Below.trans h0w15 (Below.mono (by go_grown) h0w15.size)) hb0r.size)⟩
          · obtain ⟨f1, f2⟩ := M.fifth_zr hr0 hmk' hm
            rw [M.me_yes hm]
            go_wp2_with fail
            refine (Signs_any (M.ml x a 0 4 7) (M.ma x a 0 4 7) m _ ((ht.step h0w15).step (by go_grown)).fifs).mono ?_
            rintro e w16 ⟨rfl, hb16⟩
            have sz16 := hb16.size
            try simp at sz16
            have k16 : Below w15.heap.size w15 w16 := Below.trans (by go_grown) (hb16.mono (by (first | (simp; done) | (simp; omega))))
            have h0w16 : Below wr.heap.size wr w16 := h0w15.trans (k16.mono h0w15.size)
            replace Cp0 := keepC k16 (by omega) Cp0
            replace Cp1 := keepC k16 (by omega) Cp1
            replace Cp2 := keepC k16 (by omega) Cp2
            have tCp : w.heap.size < w16.heap.size := by omega
            replace Cc0 := keepC k16 (by omega) Cc0
            replace Cc1 := keepC k16 (by omega) Cc1
            have tCc : w1.heap.size < w16.heap.size := by omega
            replace Cd0 := keepC k16 (by omega) Cd0
            replace Cd1 := keepC k16 (by omega) Cd1
            replace Cd2 := keepC k16 (by omega) Cd2
            have tCd : w11.heap.size < w16.heap.size := by omega
            replace Ci0 := keepC k16 (by omega) Ci0
            replace Ci1 := keepC k16 (by omega) Ci1
            have tCi : w12.heap.size < w16.heap.size := by omega
            replace Cu0 := keepC k16 (by omega) Cu0
            replace Cu1 := keepC k16 (by omega) Cu1
            replace Cu2 := keepC k16 (by omega) Cu2
            have tCu : w13.heap.size < w16.heap.size := by omega
            have Cf0 : w16.cell? ⟨w15.heap.size, 0, none⟩ = some (.int .i64 (M.ml x a 0 4 7)) := keepC hb16 (by (first | (simp; done) | (simp; omega))) (by simp [go_sem])
            have Cf1 : w16.cell? ⟨w15.heap.size, 1, none⟩ = some (.int .i64 (M.ma x a 0 4 7)) := keepC hb16 (by (first | (simp; done) | (simp; omega))) (by simp [go_sem])
            have Cf2 : w16.cell? ⟨w15.heap.size, 2, none⟩ = some (.int .i64 (M.mo x a 0 4 7)) := keepC hb16 (by (first | (simp; done) | (simp; omega))) (by simp [go_sem])
            have tCf : w15.heap.size < w16.heap.size := by omega
            cases hq : M.z7 (M.zr (M.ml x a 0 4 7) (M.ma x a 0 4 7) m)
            · obtain ⟨g1, g2⟩ := M.ze_range hmk' f2 hq
              have g3 := M.z7_no hq
              have g4 := M.zr_bd hk
              have g5 : M.zr x a m = 7 := by omega
              rw [g2, g5]
              go_wp2_with fail
              go_ret
              exact ⟨rfl, hb0r.trans (Below.mono (Below.trans h0w16 (Below.mono (by go_grown) h0w16.size)) hb0r.size)⟩
            · have g1 := M.zk_mk hmk' f2 hq
              have g4 := M.zr_bd hk
              rw [M.zs_yes g1, M.ze_yes g1, f1]
              generalize M.zr x a m = R at *
              go_wp2_with fail
              go_ret
              exact ⟨rfl, hb0r.trans (Below.mono (Below.trans h0w16 (Below.mono (by go_grown) h0w16.size)) hb0r.size)⟩
        · obtain ⟨u1, u2, u3⟩ := M.zr_up hd hu
          have u4 := M.rt_yes (M.dk_rt hd)
          rw [M.de_yes hu, u1, u2, u3]
          go_wp2_with fail
          refine (Signs_any x a m _ ((ht.step h0w13).step (by go_grown)).fifs).mono ?_
          rintro e w14 ⟨rfl, hb14⟩
          have sz14 := hb14.size
          try simp at sz14
          have k14 : Below w13.heap.size w13 w14 := Below.trans (by go_grown) (hb14.mono (by (first | (simp; done) | (simp; omega))))
          have h0w14 : Below wr.heap.size wr w14 := h0w13.trans (k14.mono h0w13.size)
          replace Cp0 := keepC k14 (by omega) Cp0
          replace Cp1 := keepC k14 (by omega) Cp1
          replace Cp2 := keepC k14 (by omega) Cp2
          have tCp : w.heap.size < w14.heap.size := by omega
          replace Cc0 := keepC k14 (by omega) Cc0
          replace Cc1 := keepC k14 (by omega) Cc1
          have tCc : w1.heap.size < w14.heap.size := by omega
          replace Cd0 := keepC k14 (by omega) Cd0
          replace Cd1 := keepC k14 (by omega) Cd1
          replace Cd2 := keepC k14 (by omega) Cd2
          have tCd : w11.heap.size < w14.heap.size := by omega
          replace Ci0 := keepC k14 (by omega) Ci0
          replace Ci1 := keepC k14 (by omega) Ci1
          have tCi : w12.heap.size < w14.heap.size := by omega
          have Cu0 : w14.cell? ⟨w13.heap.size, 0, none⟩ = some (.int .i64 (M.dl x a o m n)) := keepC hb14 (by (first | (simp; done) | (simp; omega))) (by simp [go_sem])
          have Cu1 : w14.cell? ⟨w13.heap.size, 1, none⟩ = some (.int .i64 (M.da x a o m n)) := keepC hb14 (by (first | (simp; done) | (simp; omega))) (by simp [go_sem])
          have Cu2 : w14.cell? ⟨w13.heap.size, 2, none⟩ = some (.int .i64 (M.dO x a o m n + 1)) := keepC hb14 (by (first | (simp; done) | (simp; omega))) (by simp [go_sem])
          have tCu : w13.heap.size < w14.heap.size := by omega
          rw [M.zs_yes hk, M.ze_yes hk]
          go_wp2_with fail
          refine (Move_any x a 0 4 7 _ ((ht.step h0w14).step (by go_grown)).tab).mono ?_
          rintro e w15 ⟨rfl, hb15⟩
          have sz15 := hb15.size
          try simp at sz15
          have k15 : Below w14.heap.size w14 w15 := Below.trans (by go_grown) (hb15.mono (by (first | (simp; done) | (simp; omega))))
          have h0w15 : Below wr.heap.size wr w15 := h0w14.trans (k15.mono h0w14.size)
          replace Cp0 := keepC k15 (by omega) Cp0
          replace Cp1 := keepC k15 (by omega) Cp1
          replace Cp2 := keepC k15 (by omega) Cp2
          have tCp : w.heap.size < w15.heap.size := by omega
          replace Cc0 := keepC k15 (by omega) Cc0
          replace Cc1 := keepC k15 (by omega) Cc1
          have tCc : w1.heap.size < w15.heap.size := by omega
          replace Cd0 := keepC k15 (by omega) Cd0
          replace Cd1 := keepC k15 (by omega) Cd1
          replace Cd2 := keepC k15 (by omega) Cd2
          have tCd : w11.heap.size < w15.heap.size := by omega
          replace Ci0 := keepC k15 (by omega) Ci0
          replace Ci1 := keepC k15 (by omega) Ci1
          have tCi : w12.heap.size < w15.heap.size := by omega
          replace Cu0 := keepC k15 (by omega) Cu0
          replace Cu1 := keepC k15 (by omega) Cu1
          replace Cu2 := keepC k15 (by omega) Cu2
          have tCu : w13.heap.size < w15.heap.size := by omega
          cases hm : M.mk x a 0 4 7
          · rw [M.me_no hm hr0]
            go_wp2_with fail
            go_ret
            exact ⟨rfl, hb0r.trans (Below.mono (Below.trans h0w15 (Below.mono (by go_grown) h0w15.size)) hb0r.size)⟩
          · obtain ⟨f1, f2⟩ := M.fifth_zr hr0 hmk' hm
            rw [M.me_yes hm]
            go_wp2_with fail
            refine (Signs_any (M.ml x a 0 4 7) (M.ma x a 0 4 7) m _ ((ht.step h0w15).step (by go_grown)).fifs).mono ?_
            rintro e w16 ⟨rfl, hb16⟩
            have sz16 := hb16.size
            try simp at sz16
            have k16 : Below w15.heap.size w15 w16 := Below.trans (by go_grown) (hb16.mono (by (first | (simp; done) | (simp; omega))))
            have h0w16 : Below wr.heap.size wr w16 := h0w15.trans (k16.mono h0w15.size)
            replace Cp0 := keepC k16 (by omega) Cp0
            replace Cp1 := keepC k16 (by omega) Cp1
            replace Cp2 := keepC k16 (by omega) Cp2
            have tCp : w.heap.size < w16.heap.size := by omega
            replace Cc0 := keepC k16 (by omega) Cc0
            replace Cc1 := keepC k16 (by omega) Cc1
            have tCc : w1.heap.size < w16.heap.size := by omega
            replace Cd0 := keepC k16 (by omega) Cd0
            replace Cd1 := keepC k16 (by omega) Cd1
            replace Cd2 := keepC k16 (by omega) Cd2
            have tCd : w11.heap.size < w16.heap.size := by omega
            replace Ci0 := keepC k16 (by omega) Ci0
            replace Ci1 := keepC k16 (by omega) Ci1
            have tCi : w12.heap.size < w16.heap.size := by omega
            replace Cu0 := keepC k16 (by omega) Cu0
            replace Cu1 := keepC k16 (by omega) Cu1
            replace Cu2 := keepC k16 (by omega) Cu2
            have tCu : w13.heap.size < w16.heap.size := by omega
            have Cf0 : w16.cell? ⟨w15.heap.size, 0, none⟩ = some (.int .i64 (M.ml x a 0 4 7)) := keepC hb16 (by (first | (simp; done) | (simp; omega))) (by simp [go_sem])
            have Cf1 : w16.cell? ⟨w15.heap.size, 1, none⟩ = some (.int .i64 (M.ma x a 0 4 7)) := keepC hb16 (by (first | (simp; done) | (simp; omega))) (by simp [go_sem])
            have Cf2 : w16.cell? ⟨w15.heap.size, 2, none⟩ = some (.int .i64 (M.mo x a 0 4 7)) := keepC hb16 (by (first | (simp; done) | (simp; omega))) (by simp [go_sem])
            have tCf : w15.heap.size < w16.heap.size := by omega
            cases hq : M.z7 (M.zr (M.ml x a 0 4 7) (M.ma x a 0 4 7) m)
            · obtain ⟨g1, g2⟩ := M.ze_range hmk' f2 hq
              have g3 := M.z7_no hq
              have g4 := M.zr_bd hk
              have g5 : M.zr x a m = 7 := by omega
              rw [g2, g5]
              go_wp2_with fail
              go_ret
              exact ⟨rfl, hb0r.trans (Below.mono (Below.trans h0w16 (Below.mono (by go_grown) h0w16.size)) hb0r.size)⟩
            · have g1 := M.zk_mk hmk' f2 hq
              have g4 := M.zr_bd hk
              rw [M.zs_yes g1, M.ze_yes g1, f1]
              generalize M.zr x a m = R at *
              go_wp2_with fail
              go_ret
              exact ⟨rfl, hb0r.trans (Below.mono (Below.trans h0w16 (Below.mono (by go_grown) h0w16.size)) hb0r.size)⟩

theorem steps_walk (l a o m n m2 : Int) (w : World) (ht : SW w) :
    Calls Tryd.prog 8 #[.agg #[.int .i64 l, .int .i64 a, .int .i64 o], .int .i64 m, .int .i64 n, .int .i64 m2] w fun e w' => e = .returned (.bool true) ∧ Below w.heap.size w w' := by
  cases hk : M.zk l a m
  · exact steps_none l a o m n m2 w ht hk
  · cases hr : M.rt l a o
    · exact steps_form l a o m n m2 w ht hk hr
    · have := M.rt_yes hr
      obtain ⟨x, rfl⟩ : ∃ x : Nat, l = x := ⟨l.toNat, by omega⟩
      exact steps_yes x a o m n m2 w ht hk (by omega) hr

end Go.Proofs.YtffhegfapefnfabDoor
