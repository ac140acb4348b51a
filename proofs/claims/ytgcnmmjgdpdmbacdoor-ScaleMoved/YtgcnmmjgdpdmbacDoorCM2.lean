/- The statement ScaleMoved: the walk of its text. -/
import Derived.Test.YtgcnmmjgdpdmbacDoorCM2a
namespace Go.Proofs.YtgcnmmjgdpdmbacDoor
open Go.RowKit
attribute [local go_sem ↓] Go.wp_at_zero Go.wp_at_succ
set_option linter.unusedSimpArgs false
set_option linter.unusedVariables false

set_option maxRecDepth 20000 in
set_option maxHeartbeats 8000000 in
theorem moved_walk (ao : Option Addr) (n c : Nat) (L A O : Nat → Int) (s h x y z kd : Int) (ao' : Option Addr) (n' c' : Nat) (U : Nat → Int) (w : World) (ht : Tab w) (hO : Over w) (hF : Fifs w) (hp : PL w ao n L A O) (hc : n ≤ c) (hcm : c ≤ 9223372036854775807) (hA : ∀ j, j < n → -9223372036854775808 ≤ A j ∧ A j ≤ 9223372036854775807)
    (hby : n * 24 ≤ 140737488355328) (s1 : -9223372036854775808 ≤ s) (s2 : s ≤ 9223372036854775807) (hu : IL w ao' n' U) (hc' : n' ≤ c') (hcm' : c' ≤ 9223372036854775807) :
    Calls Tryd.prog 3 #[.slice ao n c, .agg #[.int .i64 s, .int .i64 h], .agg #[.int .i64 x, .int .i64 y, .int .i64 z], .int .i64 kd, .slice ao' n' c'] w fun e w' => e = .returned (.bool true) ∧ Below w.heap.size w w' := by
  go_enter Tryd.func3, Tryd.ntmps3
  go_wp2_with fail
  refine (alive3_any _ (hF.step (by go_grown))).mono ?_
  rintro e w1 ⟨rfl, hb1⟩
  have z1 := hb1.size
  simp at z1
  have h01 : Below w.heap.size w w1 := Below.trans (by go_grown) (hb1.mono (by simp; omega))
  have i0 : w1.cell? ⟨w.heap.size, 0, none⟩ = some (.int .i64 s) := keepC hb1 (by simp; omega) (by simp [go_sem])
  have i1 : w1.cell? ⟨w.heap.size, 1, none⟩ = some (.int .i64 h) := keepC hb1 (by simp; omega) (by simp [go_sem])
  have p0 : w1.cell? ⟨w.heap.size + 1, 0, none⟩ = some (.int .i64 x) := keepC hb1 (by simp) (by simp [go_sem])
  have p1 : w1.cell? ⟨w.heap.size + 1, 1, none⟩ = some (.int .i64 y) := keepC hb1 (by simp) (by simp [go_sem])
  have p2 : w1.cell? ⟨w.heap.size + 1, 2, none⟩ = some (.int .i64 z) := keepC hb1 (by simp) (by simp [go_sem])
  have q0 : w.heap.size < w1.heap.size := by omega
  have q1 : w.heap.size + 1 < w1.heap.size := by omega
  go_wp2_with fail
  refine (What_any ao n c L A O _ (ht.step h01) (hO.step h01) (hp.step h01) hc hcm).mono ?_
  rintro e w2 ⟨hr1, hb2⟩
  obtain ⟨x0, x1, x2, x3, x4, rfl⟩ := hr1.form'
  have HR1 : Hid (WhatRes L A O n (.returned (.tuple #[chV x0 x1 x2 x3, .int .i64 x4]))) := hr1
  clear hr1
  unfold chV
  have z2 := hb2.size
  have h02 := h01.trans (hb2.mono (by omega))
  replace i0 := keepC hb2 q0 i0
  replace i1 := keepC hb2 q0 i1
  have y0 : w.heap.size < w2.heap.size := by omega
  go_wp2_with fail
  refine (Moved_any ao n c L A O s h _ ((hp.step h02).step (by go_grown)) hc hcm hA hby s1 s2).mono ?_
  rintro e w3 ⟨hm, hb3⟩
  obtain ⟨aoM, nM, cM, B, rfl, HM⟩ := hm.form
  clear hm
  have z3 := hb3.size
  simp at z3
  have k3 : Below w2.heap.size w2 w3 := Below.trans (by go_grown) (hb3.mono (by simp))
  have h13 : Below w1.heap.size w1 w3 := hb2.trans (k3.mono (by omega))
  have h03 := h01.trans (h13.mono (by omega))
  replace i0 := keepC k3 y0 i0
  replace i1 := keepC k3 y0 i1
  have y3 : w.heap.size < w3.heap.size := by omega
  have a0 : w3.cell? ⟨w2.heap.size, 0, none⟩ = some (.int .i64 x0) := keepC hb3 (by simp) (by simp [go_sem])
  have a1 : w3.cell? ⟨w2.heap.size, 1, none⟩ = some (.int .i64 x1) := keepC hb3 (by simp) (by simp [go_sem])
  have a2 : w3.cell? ⟨w2.heap.size, 2, none⟩ = some (.int .i64 x2) := keepC hb3 (by simp) (by simp [go_sem])
  have a3 : w3.cell? ⟨w2.heap.size, 3, none⟩ = some (.int .i64 x3) := keepC hb3 (by simp) (by simp [go_sem])
  have sa3 : w2.heap.size < w3.heap.size := by omega
  go_upto_region 5 with fail
  go_cut [46] (fun g wx => g = .bool (B && (x4 == 0 || x4 == 6)) ∧ wx = w3)
  case first =>
    cases B
    · go_wp2_with fail
      go_meet
      case rel => exact ⟨rfl, rfl⟩
    · by_cases e0 : x4 = 0
      · subst e0
        go_wp2_with fail
        go_meet
        case rel => exact ⟨rfl, rfl⟩
      · have e0' : (x4 == 0) = false := by simpa using e0
        by_cases e6 : x4 = 6
        · subst e6
          go_wp2_with fail
          go_meet
          case rel => exact ⟨rfl, rfl⟩
        · have e6' : (x4 == 6) = false := by simpa using e6
          go_wp2_with fail
          go_meet
          case rel => exact ⟨by rw [e0', e6']; rfl, rfl⟩
  case rest =>
    obtain ⟨rfl, rfl⟩ := hcut
    go_upto_if 46 with fail
    go_cut [10] (fun r wx => r = .bool false ∧ Below w1.heap.size w1 wx)
    case first =>
      cases hG : (B && (x4 == 0 || x4 == 6))
      · go_wp2_with fail
        go_meet
        case rel => exact ⟨rfl, h13⟩
      · have hB : B = true := by cases B; simp at hG; rfl
        subst hB
        obtain ⟨hmk, rfl, m1, m2, hPL⟩ := HM.out rfl
        have hall : ∀ j, j < nM → M.rt (L j) (A j) (O j) = true := fun j hj => (M.mk_yes (hmk j hj)).1
        have hW := HR1.out.right hall
        have HW : Hid (WRt L A O nM _) := hW
        clear hW hG HR1 HM
        go_wp2_with fail
        refine (What_any aoM nM cM _ _ _ _ ((ht.step h03).step (by go_grown)) ((hO.step h03).step (by go_grown)) (hPL.step (by go_grown)) m1 m2).mono ?_
        rintro e w4 ⟨hr2, hb4⟩
        have hall' : ∀ j, j < nM → M.rt (M.tL (L j) s) (M.tA (L j) (A j) s h) (M.mo (L j) (A j) (O j) s h) = true := fun j hj => by
          have hm := hmk j hj
          obtain ⟨e1, e2, _⟩ := M.move_class hm
          have := M.mk_rt hm
          rw [e1, e2] at this
          exact this
        have hst' : ∀ j, j < nM → M.st (M.tL (L j) s) (M.mo (L j) (A j) (O j) s h) = M.st (L j) (O j) + s := fun j hj => by
          obtain ⟨e1, _, e3⟩ := M.move_class (hmk j hj)
          rw [e1] at e3
          exact e3
        have hW2 := hr2.right hall'
        have z4 := hb4.size
        have h14 : Below w1.heap.size w1 w4 := h13.trans (hb4.mono (by omega))
        replace i0 := keepC hb4 y3 i0
        replace i1 := keepC hb4 y3 i1
        replace a0 := keepC hb4 sa3 a0
        replace a1 := keepC hb4 sa3 a1
        replace a2 := keepC hb4 sa3 a2
        replace a3 := keepC hb4 sa3 a3
        have y4 : w.heap.size < w4.heap.size := by omega
        have sa4 : w2.heap.size < w4.heap.size := by omega
        rcases WRt.moved (s := s) (h := h) rfl rfl hall hst' HW.out hW2 with ⟨hE, rfl⟩ | ⟨r, a, k, tt, r1, r2, b1, b2, hn0, hE, rfl⟩
        · obtain ⟨rfl, rfl, rfl, rfl, rfl⟩ := chV_inj hE
          clear hE hr2 hW2 HW hall hall' hst' hmk
          unfold chV
          go_wp2_with fail
          go_meet
          case rel => exact ⟨rfl, h14.alloc (by omega) _⟩
        · obtain ⟨rfl, rfl, rfl, rfl, rfl⟩ := chV_inj hE
          have hin := M.inb_yes (M.mk_yes (hmk 0 hn0)).2.1
          have hcl := fun hm => M.move_class (l := x0) (a := x1) (o := 0) (s := s % 7) (h := h - 12 * (s / 7)) hm
          obtain ⟨g1, g2⟩ := M.root_moved (r := x0) (a := x1) (s := s) (h := h)
          have t1 := M.tmod7_bd s
          have t2 := M.letter7 s
          have t3 := M.octave7 s
          have HC : Hid (M.mk x0 x1 0 (s % 7) (h - 12 * (s / 7)) = true → M.ml x0 x1 0 (s % 7) (h - 12 * (s / 7)) = M.tL x0 s ∧ M.ma x0 x1 0 (s % 7) (h - 12 * (s / 7)) = M.tA x0 x1 s h) := fun hm => by
            obtain ⟨e1, e2, _⟩ := M.move_class hm
            rw [e1, e2]; exact ⟨g1, g2⟩
          clear hE hr2 hW2 HW hall hall' hst' hmk hcl g1 g2
          unfold chV
          go_wp2_with fail
          refine (Move_any x0 x1 0 (s % 7) (h - 12 * (s / 7)) _ (((ht.step h01).step h14).step (by go_grown))).mono ?_
          rintro e w6 ⟨rfl, hb6⟩
          have z6 := hb6.size
          simp at z6
          have k6 : Below w4.heap.size w4 w6 := Below.trans (by go_grown) (hb6.mono (by simp))
          have h16 : Below w1.heap.size w1 w6 := h14.trans (k6.mono (by omega))
          replace a0 := keepC k6 sa4 a0
          replace a1 := keepC k6 sa4 a1
          replace a2 := keepC k6 sa4 a2
          replace a3 := keepC k6 sa4 a3
          have sa6 : w2.heap.size < w6.heap.size := by omega
          have b0 : w6.cell? ⟨w4.heap.size, 0, none⟩ = some (.int .i64 (M.tL x0 s)) := keepC hb6 (by simp) (by simp [go_sem])
          have b1' : w6.cell? ⟨w4.heap.size, 1, none⟩ = some (.int .i64 (M.tA x0 x1 s h)) := keepC hb6 (by simp) (by simp [go_sem])
          have b2' : w6.cell? ⟨w4.heap.size, 2, none⟩ = some (.int .i64 x2) := keepC hb6 (by simp) (by simp [go_sem])
          have b3' : w6.cell? ⟨w4.heap.size, 3, none⟩ = some (.int .i64 x3) := keepC hb6 (by simp) (by simp [go_sem])
          have sb6 : w4.heap.size < w6.heap.size := by omega
          cases hm : M.mk x0 x1 0 (s % 7) (h - 12 * (s / 7))
          · have hne : (M.me x0 x1 0 (s % 7) (h - 12 * (s / 7)) == 0) = false := by
              unfold M.me; rw [hm]
              cases M.rt x0 x1 0 <;> decide
            generalize M.me x0 x1 0 (s % 7) (h - 12 * (s / 7)) = E at *
            go_wp2_with fail
            go_meet
            case rel => exact ⟨rfl, h16.alloc (by omega) _⟩
          · obtain ⟨e1, e2⟩ := HC.out hm
            have e3 : M.me x0 x1 0 (s % 7) (h - 12 * (s / 7)) = 0 := by unfold M.me; rw [hm]; rfl
            rw [e1, e2, e3]
            generalize M.tL x0 s = V0 at *
            generalize M.tA x0 x1 s h = V1 at *
            clear e1 e2 e3
            go_wp2_with fail
            go_meet
            case rel => exact ⟨rfl, h16.alloc (by omega) _⟩
    case rest =>
      obtain ⟨rfl, hbx⟩ := hcut
      rename World => w5
      have z5 := hbx.size
      have h05 := h01.trans (hbx.mono (by omega))
      have u0 := keepC hbx q1 p0
      have u1 := keepC hbx q1 p1
      have u2 := keepC hbx q1 p2
      have su : w.heap.size + 1 < w5.heap.size := by omega
      have htx := ht.step h05
      have hOx := hO.step h05
      have hux := hu.step h05
      clear i0 i1 p0 p1 p2 a0 a1 a2 a3 HR1 HM hp hA hby hc hcm
      cases hk : M.kok kd
      · go_wp2_with fail
        refine (Notes_kind x y z kd _ hk).mono ?_
        rintro e w6 ⟨rfl, hb6⟩
        go_wp2_with fail
        go_ret
        exact ⟨rfl, h05.trans (hb6.mono (by omega))⟩
      · have hkb := M.kok_yes hk
        obtain ⟨k, rfl⟩ : ∃ k : Nat, kd = k := ⟨kd.toNat, by omega⟩
        cases hr : M.rt x y z
        · go_wp2_with fail
          refine (Notes_form x y z k _ hk hr).mono ?_
          rintro e w6 ⟨rfl, hb6⟩
          go_wp2_with fail
          go_ret
          exact ⟨rfl, h05.trans (hb6.mono (by omega))⟩
        · go_wp2_with fail
          refine (NotesOwn_in x y z k _ htx hOx hk hr).mono ?_
          rintro e w6 ⟨hb6, ⟨hn, rfl⟩ | ⟨hn, v, rfl, hown⟩⟩
          · go_wp2_with fail
            go_ret
            exact ⟨rfl, h05.trans (hb6.mono (by omega))⟩
          · obtain ⟨OP, hOP⟩ : ∃ OP : Nat → Int, (fun j => M.no x y z k j + M.upo n' U j) = OP := ⟨_, rfl⟩
            obtain ⟨g, cap, rfl, g1, g3, hcap, hNB⟩ := own_NB (O' := OP) hr hn hown
            have hcn := M.cnt_bd k
            have hcnt : M.cnt k + 1 ≤ 4 := by omega
            have hN3 : 3 ≤ M.cnt k + 1 := by omega
            have hnrt : ∀ j, j < M.cnt k + 1 → -12 ≤ M.no x y z k j ∧ M.no x y z k j ≤ 12 := fun j hj => by
              have := M.rt_yes (M.n_rt hr hn (show j ≤ M.cnt k by omega)); omega
            have hx7 := M.rt_yes hr
            have z6 := hb6.size
            have HNR : Hid (∀ j, j < M.cnt k + 1 → -12 ≤ M.no x y z k j ∧ M.no x y z k j ≤ 12) := hnrt
            have HOP : Hid (∀ j, OP j = M.no x y z k j + M.upo n' U j) := fun j => by rw [← hOP]
            clear hnrt hown hOP
            generalize hOO : M.no x y z k = OO at *
            generalize hN : M.cnt k + 1 = N at *
            have HN : Hid (M.cnt k + 1 = N) := hN
            clear hOO hN
            go_wp2_with fail
            go_loopw [20, 129] (fun lo i wr => ∃ q lw : Nat, q ≤ N ∧ i = .int .i64 q ∧ lo = .int .i64 lw ∧ lw < N ∧ Hid (q = 0 → lw = 0) ∧ Hid (∀ j, j < q → M.rt (M.aL x j) (M.aA x y k j) (OP j) = true) ∧ Hid (0 < q → M.Low (M.aL x) OP q lw) ∧ Below w5.heap.size w5 wr ∧ NB wr g N q (M.aL x) (M.aA x y k) OO OP)
              (fun _ i _ => N - (intOf i).toNat)
            case atStart => exact ⟨0, 0, by omega, rfl, rfl, by omega, fun _ => rfl, fun j hj => by omega, fun h => by omega, hb6, hNB⟩
            case round =>
              obtain ⟨q, lw, hqN, rfl, rfl, hlw, hq0, hall, hlow, hbr, hnb⟩ := hrel
              have zr := hbr.size
              clear hNB hb6
              by_cases hq : q < N
              · have hgl := hnb.lt
                go_upto_if 135 with fail
                go_cut [20] (fun lo wx => lo = .int .i64 lw ∧ Below w5.heap.size w5 wx ∧ NB wx g N (q + 1) (M.aL x) (M.aA x y k) OO OP)
                case first =>
                  by_cases hup : q < n'
                  · obtain ⟨bu, ou, rfl, hbu, cu⟩ := hux.at' (by omega)
                    have cq := keepC hbr hbu (cu q hup)
                    have sbu : bu < wr.heap.size := by omega
                    have hOq := HNR.out q hq
                    have h3 := M.tmod3 (U q)
                    have c2 := hnb.c2 q hq
                    rw [if_neg (by omega)] at c2
                    have fz := hnb.fz q hq
                    have HP := hnb.put hq
                    rw [HOP.out q, M.upo_yes hup] at HP
                    have hup' : decide ((q : Int) < (n' : Int)) = true := by simp; omega
                    have hqI : (q : Int) < (N : Int) := by omega
                    clear cu
                    go_wp2_with fail
                    go_region
                    all_goals
                      go_wp2_with fail
                      go_meet
                      case rel =>
                        first
                          | exact ⟨rfl, (hbr.setCell (p := ⟨g, q * 3 + 2, none⟩) g1 _).drew, HP.drew⟩
                          | exact ⟨rfl, hbr.drew.setCell (p := ⟨g, q * 3 + 2, none⟩) g1 _, HP.drew⟩
                  · have hst := hnb.stay hq (by rw [HOP.out q, M.upo_no hup]; omega)
                    have hup' : decide ((q : Int) < (n' : Int)) = false := by simp; omega
                    go_wp2_with fail
                    go_meet
                    case rel => exact ⟨rfl, hbr, hst⟩
                case rest =>
                  obtain ⟨rfl, hb7, hnb7⟩ := hcut
                  rename World => w7
                  have z7 := hb7.size
                  have hg7 := hnb7.lt
                  have hlq : lw < q + 1 := by
                    by_cases e : q = 0
                    · have := hq0.out e; omega
                    · have := (hlow.out (by omega)).lt; omega
                  have c0 := hnb7.c0 q hq
                  have c1 := hnb7.c1 q hq
                  have c2 := hnb7.c2 q hq
                  rw [if_pos (by omega)] at c2
                  have d0 := hnb7.c0 lw hlw
                  have d1 := hnb7.c1 lw hlw
                  have d2 := hnb7.c2 lw hlw
                  rw [if_pos hlq] at d2
                  have hqI : (q : Int) < (N : Int) := by omega
                  have hlI : (lw : Int) < (N : Int) := by omega
                  clear hnb
                  go_wp2_with fail
                  refine (Right_any (M.aL x q) (M.aA x y k q) (OP q) _).mono ?_
                  rintro e w8 ⟨rfl, hb8⟩
                  have z8 := hb8.size
                  have h58 := hb7.trans (hb8.mono z7)
                  cases hrq : M.rt (M.aL x q) (M.aA x y k q) (OP q)
                  · go_wp2_with fail
                    go_ret
                    exact ⟨rfl, h05.trans (h58.mono (by omega))⟩
                  · have hall2 : Hid (∀ j, j < q + 1 → M.rt (M.aL x j) (M.aA x y k j) (OP j) = true) := fun j hj => by
                      by_cases e : j = q
                      · rw [e]; exact hrq
                      · exact hall.out j (by omega)
                    have hrl := hall2.out lw hlq
                    obtain ⟨be0, bs0, bh0⟩ := M.between_ok hrl hrq
                    have hnb8 := hnb7.step hb8 hg7 (Nat.le_refl _)
                    replace c0 := keepC hb8 hg7 c0
                    replace c1 := keepC hb8 hg7 c1
                    replace c2 := keepC hb8 hg7 c2
                    replace d0 := keepC hb8 hg7 d0
                    replace d1 := keepC hb8 hg7 d1
                    replace d2 := keepC hb8 hg7 d2
                    have hg8 : g < w8.heap.size := by omega
                    have HL : Hid (M.st (M.aL x q) (OP q) - M.st (M.aL x lw) (OP lw) < 0 → 0 < q → M.Low (M.aL x) OP (q + 1) q) := fun h0 h1 => ⟨by omega, fun j hj => by
                      by_cases e : j = q
                      · rw [e]; exact Int.le_refl _
                      · have := (hlow.out h1).le j (by omega); omega⟩
                    have HK : Hid (¬ M.st (M.aL x q) (OP q) - M.st (M.aL x lw) (OP lw) < 0 → M.Low (M.aL x) OP (q + 1) lw) := fun h0 => ⟨hlq, fun j hj => by
                      by_cases e : j = q
                      · rw [e]; omega
                      · have := (hlow.out (by omega)).le j (by omega); exact this⟩
                    have hB := fun W (hW : Tab W) => Between_any (M.aL x lw) (M.aA x y k lw) (OP lw) (M.aL x q) (M.aA x y k q) (OP q) W hW
                    simp only [be0, bs0, bh0] at hB
                    have hz0 : q = 0 → M.st (M.aL x q) (OP q) - M.st (M.aL x lw) (OP lw) = 0 := fun e => by rw [hq0.out e, e]; omega
                    clear be0 bs0 bh0
                    generalize M.st (M.aL x q) (OP q) - M.st (M.aL x lw) (OP lw) = DS at *
                    generalize M.hv (M.aL x q) (M.aA x y k q) (OP q) - M.hv (M.aL x lw) (M.aA x y k lw) (OP lw) = DH at *
                    go_wp2_with fail
                    go_cut [22, 23] (fun dp er wx => ∃ b, dp = .pointer (some ⟨b, 0, none⟩) ∧ er = .int .i64 0 ∧ wx.cell? ⟨b, 0, none⟩ = some (.int .i64 DS) ∧ b < wx.heap.size ∧ Below w8.heap.size w8 wx)
                    case first =>
                      go_region_with (go_at_call 12; refine (hB _ ((htx.step h58).step (by go_grown))).mono ?_; rintro e wa ⟨rfl, hba⟩; have hbn : Below w8.heap.size w8 wa := Below.trans (by go_grown) (hba.mono (by simp)); first | (have nn := new_kept2 hba; obtain ⟨n0, n1, gg0, gg1, hnz⟩ := nn; have hnl := Nat.le_refl w8.heap.size) | (have nn := new_kept2_drew hba; obtain ⟨n0, n1, gg0, gg1, hnz⟩ := nn; have hnl := Nat.le_refl w8.heap.size) | skip)
                      all_goals
                        go_wp2_with fail
                        go_meet
                        case rel =>
                          first
                            | exact ⟨wa.heap.size, rfl, rfl, by simp [go_sem], by simp, hbn.alloc hbn.size _⟩
                            | exact ⟨_, rfl, rfl, by simp [go_sem, n0], by simpa [World.setCell] using hnz, (hbn.setCell hnl _).setCell hnl _⟩
                    case rest =>
                      obtain ⟨b, rfl, rfl, dc, hbl, hb9⟩ := hcut
                      rename World => w9
                      have z9 := hb9.size
                      have h59 := h58.trans (hb9.mono (by omega))
                      have hnb9 := hnb8.step hb9 hg8 (Nat.le_refl _)
                      by_cases hD : DS < 0
                      · have hq1 : 0 < q := by
                          rcases Nat.eq_zero_or_pos q with e | e
                          · have := hz0 e; omega
                          · exact e
                        have hlow2 : Hid (0 < q + 1 → M.Low (M.aL x) OP (q + 1) q) := fun _ => HL.out hD hq1
                        clear hz0
                        go_wp2_with fail
                        go_roundw
                        case rel => first | exact ⟨q + 1, q, by omega, by go_num, rfl, by omega, fun h => by omega, hall2, hlow2, h59, hnb9⟩ | ((repeat apply Exists.intro); exact ⟨⟨q + 1, q, by omega, by go_num, rfl, by omega, fun h => by omega, hall2, hlow2, h59, hnb9⟩, rfl⟩)
                        case measure => simp [intOf]; omega
                      · have hlow2 : Hid (0 < q + 1 → M.Low (M.aL x) OP (q + 1) lw) := fun _ => HK.out (by omega)
                        have hD' : decide (DS < 0) = false := decide_eq_false hD
                        clear hz0
                        go_wp2_with fail
                        go_roundw
                        case rel => first | exact ⟨q + 1, lw, by omega, by go_num, rfl, by omega, fun h => by omega, hall2, hlow2, h59, hnb9⟩ | ((repeat apply Exists.intro); exact ⟨⟨q + 1, lw, by omega, by go_num, rfl, by omega, fun h => by omega, hall2, hlow2, h59, hnb9⟩, rfl⟩)
                        case measure => simp [intOf]; omega
              · have eq' : q = N := by omega
                subst eq'
                have hPLn : PL wr (some ⟨g, 0, none⟩) q (M.aL x) (M.aA x y k) OP := by
                  refine ⟨fun _ => ⟨g, 0, rfl, hnb.lt, fun j hj => ?_, fun j hj => ?_, fun j hj => ?_⟩⟩
                  · rw [Nat.zero_add]; exact hnb.c0 j hj
                  · rw [Nat.zero_add]; exact hnb.c1 j hj
                  · rw [Nat.zero_add]; have := hnb.c2 j hj; rw [if_pos hj] at this; exact this
                have hll := hlow.out (by omega)
                have hres : ∀ e, WhatRes (M.aL x) (M.aA x y k) OP q e → e = .returned (.tuple #[chV x y k lw, .int .i64 0]) := by
                  have hN := HN.out
                  intro e he
                  rw [← hN] at he hll
                  have hal : ∀ j, j < M.cnt k + 1 → M.rt (M.aL x j) (M.aA x y k j) (OP j) = true := fun j hj => hall.out j (by omega)
                  exact (he.right hal).own ⟨hx7.1, hx7.2.1⟩ hk hal hll
                have HRes : Hid (∀ e, WhatRes (M.aL x) (M.aA x y k) OP q e → e = .returned (.tuple #[chV x y k lw, .int .i64 0])) := hres
                clear hres hll
                go_wp2_with fail
                refine (What_any (some ⟨g, 0, none⟩) q cap _ _ _ _ (htx.step hbr) (hOx.step hbr) hPLn g3 hcap).mono ?_
                rintro e w8 ⟨hr8, hb8⟩
                obtain rfl := HRes.out _ hr8
                have z8 := hb8.size
                have h58 := hbr.trans (hb8.mono zr)
                have v0 := keepC h58 su u0
                have v1 := keepC h58 su u1
                have sv : w.heap.size + 1 < w8.heap.size := by omega
                have h08 := h05.trans (h58.mono (by omega))
                clear hr8
                unfold chV
                go_wp2_with fail
                go_ret
                exact ⟨rfl, h08.alloc h08.size _⟩
end Go.Proofs.YtgcnmmjgdpdmbacDoor
