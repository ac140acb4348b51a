/- What the ear's part comes to at every part, and so its parts. -/
import Derived.Test.YtaohahahhjkcdahX8
import Derived.Deep.DeepCutAuto
namespace Go.Proofs.Ytaohahahhjkcdah.X
open Go.RowKit Go.Maps Go.Sort
set_option linter.unusedVariables false
set_option linter.unusedSimpArgs false

set_option maxHeartbeats 4000000 in
theorem part_any (p : M.Pt) : PartC p := by
  induction p using M.Pt.ind with
  | h pt po ps pev pkids ih =>
    intro start w q base f t v out ea ka kc hPV hA ho hok hs0 hs1 hf0 hf1 ht1
    have pf := hok.fine
    have t1 : 1 ≤ pt := pf.t1
    have t2 : pt ≤ 65536 := pf.t2
    have o1 : 1 ≤ po := pf.o1
    have hinc : M.Inc 0 pev := pf.inc
    have hevl : pev.length ≤ 4096 := pf.evl
    have hrng : ∀ b, ∀ e ∈ M.pon ⟨pt, po, ps, pev, pkids⟩ b, b ≤ e.t ∧ e.t < b + po := pf.rng
    obtain ⟨T, hT⟩ : ∃ T : Nat, pt = T := ⟨pt.toNat, by omega⟩
    have hTn : pt.toNat = T := by omega
    have hs1' : start + pt * po ≤ 1125899906842624 := hs1
    have hpo : po ≤ 1125899906842624 := by
      have h1 : 1 * po ≤ pt * po := Int.mul_le_mul_of_nonneg_right t1 (by omega)
      omega
    have hst : start ≤ 1125899906842624 := by
      have : 0 ≤ pt * po := Int.mul_nonneg (by omega) (by omega)
      omega
    have hlq := hA.lt
    have hzq := hA.bz
    have qw : q < w.heap.size := by omega
    obtain ⟨n0, hn0, hn1, hn2⟩ := M.dur_is (x := f - start) o1
    have hn3 : (n0 : Int) ≤ 1125899906842624 := by
      by_cases c : 0 ≤ f - start
      · have := hn2 c; omega
      · rcases hn1 with h | h
        · have : 0 ≤ (n0 : Int) * po := Int.mul_nonneg (by omega) (by omega)
          omega
        · omega
    have hmul : ∀ n : Nat, n < T → start + (n : Int) * po + po ≤ 1125899906842624 ∧ 0 ≤ (n : Int) * po := fun n hn => by
      have h1 : ((n : Int) + 1) * po ≤ pt * po := Int.mul_le_mul_of_nonneg_right (by omega) (by omega)
      rw [Int.add_mul] at h1
      exact ⟨by omega, Int.mul_nonneg (by omega) (by omega)⟩
    have S0 : Hid (M.win f t (M.tm (M.pon ⟨pt, po, ps, pev, pkids⟩) po n0 start) = []) := M.win_tm_start (by omega) hrng n0 (by rcases hn1 with h | h; exact Or.inl (by omega); exact Or.inr h)
    have S1 : Hid (T < n0 → M.win f t (M.tm (M.pon ⟨pt, po, ps, pev, pkids⟩) po T start) = []) := fun h => M.win_tm_start (by omega) hrng T (by
      rcases hn1 with h1 | h1
      · left
        have : (T : Int) * po ≤ (n0 : Int) * po := Int.mul_le_mul_of_nonneg_right (by omega) (by omega)
        omega
      · omega)
    have S2 : Hid (∀ n : Nat, n ≤ T → t ≤ start + n * po → M.win f t (M.tm (M.pon ⟨pt, po, ps, pev, pkids⟩) po T start) = M.win f t (M.tm (M.pon ⟨pt, po, ps, pev, pkids⟩) po n start)) := fun n hn h => M.win_tm_end (by omega) hrng hn h
    have S3 : Hid (∀ n : Nat, M.win f t (M.tm (M.pon ⟨pt, po, ps, pev, pkids⟩) po (n + 1) start) = M.win f t (M.tm (M.pon ⟨pt, po, ps, pev, pkids⟩) po n start) ++ (M.win f t (M.sh (start + n * po) pev) ++ M.win f t (M.pes pkids (start + n * po)))) := fun n => by
      show _ = _
      rw [M.win_tm_last]
      congr 1
      exact M.win_append f t _ _
    have S4 : Hid (∀ n : Nat, n ≤ T → (M.win f t (M.tm (M.pon ⟨pt, po, ps, pev, pkids⟩) po n start)).length ≤ (M.win f t (M.tm (M.pon ⟨pt, po, ps, pev, pkids⟩) po T start)).length) := fun n hn => M.win_tm_le _ _ _ _ _ hn
    have HO : ∀ (n : Nat) (W : World) (vi : Value) (ot : List Z.M.Ev), n < T → Below q w W → Ea W q base f t vi ot → ot.length ≤ 4096 → Calls Try.prog 32 #[.pointer (some ⟨q, 0, none⟩), .slice ea pev.length pev.length, .int .i64 (start + n * po)] W fun e w' => e = .returned (.bool (decide (ot.length + (M.win f t (M.sh (start + n * po) pev)).length ≤ 4096))) ∧ EQ W q base f t vi ot (M.win f t (M.sh (start + n * po) pev)) w' := fun n W vi ot hn hb hAi hol =>
      own_any pev (start + n * po) ea W q base f t vi ot (hPV.e.keep (Kp.below hb)) hinc hevl hAi hol (by have := hmul n hn; omega) (by have := hmul n hn; omega) hf0 hf1 ht1 (fun e he => by have : e.t < po := pf.fit e he; omega)
    have HK : ∀ (n : Nat) (W : World) (vi : Value) (ot : List Z.M.Ev), n < T → Below q w W → Ea W q base f t vi ot → ot.length ≤ 4096 → Calls Try.prog 23 #[.pointer (some ⟨q, 0, none⟩), .slice ka pkids.length kc, .int .i64 (start + n * po)] W fun e w' => e = .returned (.bool (decide (ot.length + (M.win f t (M.pes pkids (start + n * po))).length ≤ 4096))) ∧ EQ W q base f t vi ot (M.win f t (M.pes pkids (start + n * po))) w' := fun n W vi ot hn hb hAi hol =>
      parts_list pkids ih (start + n * po) W q base f t vi ot ka kc ((PS.keep (Kp.below hb) (fun _ h => h) ⟨pt, po, ps, pev, pkids⟩ ka hPV.k).pl) hPV.n.1 hPV.n.2 hAi hol (fun k hk => by
        obtain ⟨k1, k2, k3⟩ := pf.kids k hk
        have k3' : k.s + k.t * k.o ≤ po := k3
        have := hmul n hn
        exact ⟨k1, by omega, by omega⟩) hf0 hf1 ht1
    show Calls Try.prog 29 _ w fun e w' => e = .returned (.bool (decide (out.length + (M.win f t (M.tm (M.pon ⟨pt, po, ps, pev, pkids⟩) po pt.toNat start)).length ≤ 4096))) ∧ EQ w q base f t v out (M.win f t (M.tm (M.pon ⟨pt, po, ps, pev, pkids⟩) po pt.toNat start)) w'
    rw [hTn]
    have HD1 := fun W => during_any pt po (f - start) W o1 (by omega)
    rw [hn0] at HD1
    have Hmul : Hid (∀ n : Nat, n < T → start + (n : Int) * po + po ≤ 1125899906842624 ∧ 0 ≤ (n : Int) * po) := hmul
    have HA : Hid (Ea w q base f t v out) := hA
    have hob := hA.ob
    have c0 := hA.c0
    have wf : IntKind.i64.wrap (f - start) = f - start := wid (by omega) (by omega)
    clear hn0 hn1 hn2 hmul hrng hinc pf hok hPV ih hs1 hA hTn
    generalize M.pon ⟨pt, po, ps, pev, pkids⟩ = F at *
    obtain ⟨D, hD⟩ : ∃ D, D = decide (out.length + (M.win f t (M.tm F po T start)).length ≤ 4096) := ⟨_, rfl⟩
    rw [← hD]
    have HD : Hid (D = decide (out.length + (M.win f t (M.tm F po T start)).length ≤ 4096)) := hD
    clear hD
    subst hT
    go_enter Try.func29, Try.ntmps29
    go_wp2_with fail
    have hbB : Below w.heap.size w (w.alloc (Obj.cells #[.int .i64 (T : Int), .int .i64 po, .int .i64 ps, .slice ea pev.length pev.length, .slice ka pkids.length kc] 79)) := (Below.refl _ _).alloc (Nat.le_refl _) _
    have y0 : (w.alloc (Obj.cells #[.int .i64 (T : Int), .int .i64 po, .int .i64 ps, .slice ea pev.length pev.length, .slice ka pkids.length kc] 79)).cell? ⟨w.heap.size, 0, none⟩ = some (.int .i64 (T : Int)) := by simp [go_sem]
    have y1 : (w.alloc (Obj.cells #[.int .i64 (T : Int), .int .i64 po, .int .i64 ps, .slice ea pev.length pev.length, .slice ka pkids.length kc] 79)).cell? ⟨w.heap.size, 1, none⟩ = some (.int .i64 po) := by simp [go_sem]
    have y3 : (w.alloc (Obj.cells #[.int .i64 (T : Int), .int .i64 po, .int .i64 ps, .slice ea pev.length pev.length, .slice ka pkids.length kc] 79)).cell? ⟨w.heap.size, 3, none⟩ = some (.slice ea pev.length pev.length) := by simp [go_sem]
    have y4 : (w.alloc (Obj.cells #[.int .i64 (T : Int), .int .i64 po, .int .i64 ps, .slice ea pev.length pev.length, .slice ka pkids.length kc] 79)).cell? ⟨w.heap.size, 4, none⟩ = some (.slice ka pkids.length kc) := by simp [go_sem]
    have zB : w.heap.size < (w.alloc (Obj.cells #[.int .i64 (T : Int), .int .i64 po, .int .i64 ps, .slice ea pev.length pev.length, .slice ka pkids.length kc] 79)).heap.size := by simp
    have c0' := keepC hbB qw c0
    generalize w.alloc (Obj.cells #[.int .i64 (T : Int), .int .i64 po, .int .i64 ps, .slice ea pev.length pev.length, .slice ka pkids.length kc] 79) = WB at *
    have qB : q < WB.heap.size := by omega
    go_cut [7] (fun n wx => n = .int .i64 (n0 : Int) ∧ Below WB.heap.size WB wx)
    case first =>
      go_region_law (go_simp; go_at_call 31; refine (HD1 _).mono ?_; rintro e w1 ⟨rfl, hb1⟩; have hb2 : Below WB.heap.size WB w1 := (by first | exact ((Below.refl _ _).drew).trans hb1 | exact Below.trans (by go_grown) (hb1.mono (by simp))))
      all_goals
        go_wp2_with fail
        go_meet
        case rel => exact ⟨rfl, hb2⟩
    case rest =>
      obtain ⟨rfl, hb1⟩ := hcut
      rename World => w1
      clear HD1
      have hb01 : Below w.heap.size w w1 := hbB.trans (hb1.mono hbB.size)
      have x0 := keepC hb1 zB y0
      have x1 := keepC hb1 zB y1
      have x3 := keepC hb1 zB y3
      have x4 := keepC hb1 zB y4
      have z1 : w.heap.size < w1.heap.size := by have := hb1.size; omega
      have q1 : q < w1.heap.size := by omega
      have hA1 := HA.out.bel hb01
      have hg1 : Eg w1 q v v w1 := Eg.below v q1 (Below.refl _ _)
      have hown1 : some w.heap.size ≠ v.ownBlock := fun hh => by have := (hob _ hh.symm).2; omega
      have Hst : Hid (Ea w1 q base f t v (out ++ M.win f t (M.tm F po n0 start))) := by
        show Ea _ _ _ _ _ _ _
        rw [S0.out, List.append_nil]; exact hA1
      have Hsl : Hid ((out ++ M.win f t (M.tm F po n0 start)).length ≤ 4096) := by
        show _ ≤ _
        rw [S0.out, List.append_nil]; exact ho
      have hbq : Below q w w1 := hb01.mono (by omega)
      have hG01 : Eg w q v v w1 := Eg.below v qw hb01
      clear y0 y1 y3 y4 hbB hb1 zB c0 c0' hA1 hob HA hb01
      go_wp2_with fail
      go_loopw [7] (fun x wr => ∃ (n : Nat) (vi : Value), x = .int .i64 n ∧ (n ≤ T ∨ n = n0) ∧ Hid (Ea wr q base f t vi (out ++ M.win f t (M.tm F po n start))) ∧ Eg w1 q v vi wr ∧ Hid ((out ++ M.win f t (M.tm F po n start)).length ≤ 4096)) (fun x _ => T - (intOf x).toNat)
      case atStart => exact ⟨n0, v, rfl, Or.inr rfl, Hst, hg1, Hsl⟩
      case round =>
        obtain ⟨n, vi, rfl, hn, hAi, hGi, hli⟩ := hrel
        clear Hst hg1 Hsl
        have zr := hGi.z
        have r0 := hGi.cell z1 (by omega) hown1 x0
        have r1 := hGi.cell z1 (by omega) hown1 x1
        have r3 := hGi.cell z1 (by omega) hown1 x3
        have r4 := hGi.cell z1 (by omega) hown1 x4
        have lz : w.heap.size < wr.heap.size := by omega
        have qz : q < wr.heap.size := by omega
        have d1 := hAi.out.c1
        have hbi : Below q w wr := hbq.trans hGi.b
        by_cases hlt : n < T
        · have hlt' : (n : Int) < (T : Int) := by omega
          obtain ⟨m1, m2⟩ := Hmul.out n hlt
          have wm : IntKind.i64.wrap ((n : Int) * po) = (n : Int) * po := wid (by omega) (by omega)
          have wa : IntKind.i64.wrap (start + (n : Int) * po) = start + (n : Int) * po := wid (by omega) (by omega)
          have wn : IntKind.i64.wrap ((n : Int) + 1) = (n : Int) + 1 := wid (by omega) (by omega)
          have e2 := S2.out n (by omega)
          have e3 := S3.out n
          have e4 := S4.out (n + 1) (by omega)
          have ho1 := HO n wr vi _ hlt hbi hAi.out hli.out
          have hk1 := fun W v' ot h1 h2 h3 => HK n W v' ot hlt h1 h2 h3
          by_cases c1 : t ≤ start + (n : Int) * po
          · have eL := e2 c1
            have hDt : D = true := by
              rw [HD.out, eL]
              have := hli.out
              rw [List.length_append] at this
              exact decide_eq_true this
            subst hDt
            have HR : Hid (EQ w q base f t v out (M.win f t (M.tm F po T start)) wr) := ⟨vi, hG01.trans hGi, fun _ => by rw [eL]; exact hAi.out⟩
            clear eL e2 e3 e4 ho1 hk1 HO HK S0 S1 S2 S3 S4 hAi
            go_wp2_with fail
            go_ret
            exact ⟨rfl, HR.out⟩
          · have E3 : Hid (M.win f t (M.tm F po (n + 1) start) = M.win f t (M.tm F po n start) ++ (M.win f t (M.sh (start + n * po) pev) ++ M.win f t (M.pes pkids (start + n * po)))) := e3
            have E4 : Hid ((M.win f t (M.tm F po (n + 1) start)).length ≤ (M.win f t (M.tm F po T start)).length) := e4
            clear e2 e3 e4 HO HK S0 S1 S2 S3 S4 hAi
            generalize M.win f t (M.sh (start + n * po) pev) = WS at *
            generalize M.win f t (M.pes pkids (start + n * po)) = WK at *
            generalize M.win f t (M.tm F po n start) = W0 at *
            by_cases cS : (out ++ W0).length + WS.length ≤ 4096
            · rw [decide_eq_true cS] at ho1
              have CS1 : Hid ((out ++ W0).length + WS.length ≤ 4096) := cS
              clear cS
              by_cases cK : ((out ++ W0) ++ WS).length + WK.length ≤ 4096
              · have hk2 := fun W v' h1 h2 h3 => hk1 W v' ((out ++ W0) ++ WS) h1 h2 h3
                rw [decide_eq_true cK] at hk2
                have CK : Hid (((out ++ W0) ++ WS).length + WK.length ≤ 4096) := cK
                have EQ1 : Hid (out ++ M.win f t (M.tm F po (n + 1) start) = ((out ++ W0) ++ WS) ++ WK) := by
                  show _ = _
                  rw [E3.out]; simp only [List.append_assoc]
                have HL1 : Hid ((out ++ M.win f t (M.tm F po (n + 1) start)).length ≤ 4096) := by
                  show _ ≤ _
                  rw [EQ1.out, List.length_append]; exact cK
                clear cK hk1
                go_wp2_with fail
                refine ho1.mono ?_
                rintro e w5 ⟨rfl, hEQ⟩
                obtain ⟨v5, g5, a5⟩ := hEQ.ex
                have G5 := hGi.trans g5
                have s4 := G5.cell z1 (by omega) hown1 x4
                have s0 := G5.cell z1 (by omega) hown1 x0
                have A5 := a5 CS1.out
                have z5 : w.heap.size < w5.heap.size := by have := G5.z; omega
                have hb5 : Below q w w5 := hbq.trans G5.b
                clear hEQ g5 a5 ho1
                go_wp2_with fail
                refine (hk2 w5 v5 hb5 A5 (by have := CS1.out; rw [List.length_append]; exact this)).mono ?_
                rintro e w6 ⟨rfl, hEQ⟩
                obtain ⟨v6, g6, a6⟩ := hEQ.ex
                have G6 := G5.trans g6
                have A6 : Hid (Ea w6 q base f t v6 (out ++ M.win f t (M.tm F po (n + 1) start))) := by
                  show Ea _ _ _ _ _ _ _
                  rw [EQ1.out]; exact a6 CK.out
                clear hEQ g6 a6 hk2 A5 r0 r1 r3 r4 s0 s4
                go_wp2_with fail
                go_roundw
                case rel => exact ⟨n + 1, v6, by go_num, Or.inl (by omega), A6, G6, HL1⟩
                case measure => simp [intOf]; omega
              · have hDf : D = false := by
                  rw [HD.out]
                  apply decide_eq_false
                  have h1 := E4.out
                  rw [E3.out] at h1
                  simp only [List.length_append] at h1 cK
                  omega
                subst hDf
                have hk2 := fun W v' h1 h2 h3 => hk1 W v' ((out ++ W0) ++ WS) h1 h2 h3
                rw [decide_eq_false cK] at hk2
                clear cK hk1
                go_wp2_with fail
                refine ho1.mono ?_
                rintro e w5 ⟨rfl, hEQ⟩
                obtain ⟨v5, g5, a5⟩ := hEQ.ex
                have G5 := hGi.trans g5
                have s4 := G5.cell z1 (by omega) hown1 x4
                have A5 := a5 CS1.out
                have z5 : w.heap.size < w5.heap.size := by have := G5.z; omega
                have hb5 : Below q w w5 := hbq.trans G5.b
                clear hEQ g5 a5 ho1
                go_wp2_with fail
                refine (hk2 w5 v5 hb5 A5 (by have := CS1.out; rw [List.length_append]; exact this)).mono ?_
                rintro e w6 ⟨rfl, hEQ⟩
                obtain ⟨v6, g6, a6⟩ := hEQ.ex
                have HR : Hid (EQ w q base f t v out (M.win f t (M.tm F po T start)) w6) := ⟨v6, (hG01.trans G5).trans g6, fun hh => by have h3 := HD.out; rw [decide_eq_true hh] at h3; cases h3⟩
                clear hEQ g6 a6 hk2 A5
                go_wp2_with fail
                go_ret
                exact ⟨rfl, HR.out⟩
            · have hDf : D = false := by
                rw [HD.out]
                apply decide_eq_false
                have h1 := E4.out
                rw [E3.out] at h1
                simp only [List.length_append] at h1 cS
                omega
              subst hDf
              rw [decide_eq_false cS] at ho1
              clear cS hk1
              go_wp2_with fail
              refine ho1.mono ?_
              rintro e w5 ⟨rfl, hEQ⟩
              obtain ⟨v5, g5, a5⟩ := hEQ.ex
              have HR : Hid (EQ w q base f t v out (M.win f t (M.tm F po T start)) w5) := ⟨v5, (hG01.trans hGi).trans g5, fun hh => by have h3 := HD.out; rw [decide_eq_true hh] at h3; cases h3⟩
              clear hEQ g5 a5 ho1
              go_wp2_with fail
              go_ret
              exact ⟨rfl, HR.out⟩
        · have hlt' : ¬ (n : Int) < (T : Int) := by omega
          have eL : M.win f t (M.tm F po T start) = M.win f t (M.tm F po n start) := by
            by_cases c : n ≤ T
            · rw [show n = T by omega]
            · have : n = n0 := by omega
              rw [this, S0.out]; exact S1.out (by omega)
          have hDt : D = true := by
            rw [HD.out, eL]
            have := hli.out
            rw [List.length_append] at this
            exact decide_eq_true this
          subst hDt
          have HR : Hid (EQ w q base f t v out (M.win f t (M.tm F po T start)) wr) := ⟨vi, hG01.trans hGi, fun _ => by rw [eL]; exact hAi.out⟩
          clear eL HO HK S0 S1 S2 S3 S4 hAi
          go_wp2_with fail
          go_ret
          exact ⟨rfl, HR.out⟩
end Go.Proofs.Ytaohahahhjkcdah.X
