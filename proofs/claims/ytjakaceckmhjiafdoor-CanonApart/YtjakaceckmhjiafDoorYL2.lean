/- The walk of CanonApart. -/
import Derived.Test.YtjakaceckmhjiafDoorYL1
import Derived.RegionTactic
namespace Go.Proofs.YtjakaceckmhjiafDoor.Y
open Go.RowKit Go.Sort
set_option linter.unusedVariables false
set_option linter.unusedSimpArgs false

set_option maxRecDepth 20000 in
set_option maxHeartbeats 8000000 in
theorem apart_walk (ao : Option Addr) (n cap : Nat) (T : Nat → Tn) (k s h xl xa xo : Int) (bk mi : Bool) (w : World) (ht : Tab w) (hp : TL w ao n T) (hc : n ≤ cap) (hcm : cap ≤ 9223372036854775807) :
    Calls Tryd.prog 5 #[.slice ao n cap, .int .i64 k, .agg #[.int .i64 s, .int .i64 h], .agg #[.int .i64 xl, .int .i64 xa, .int .i64 xo], .bool bk, .bool mi] w fun e w' => e = .returned (.bool true) ∧ Go.RowKit.Below w.heap.size w w' := by
  go_enter Tryd.func5, Tryd.ntmps5
  go_wp2_with fail
  refine (alive_any _ (ht.step (by go_grown))).mono ?_
  rintro e w1 ⟨rfl, hb1⟩
  have z1 := hb1.size
  simp at z1
  have h01 : Go.RowKit.Below w.heap.size w w1 := Below.trans (by go_grown) (hb1.mono (by simp; omega))
  have k1 : B2 w1 w.heap.size s h := ⟨by omega, keepC hb1 (by simp; omega) (by simp [go_sem]), keepC hb1 (by simp; omega) (by simp [go_sem])⟩
  have k3 : B3 w1 (w.heap.size + 1) xl xa xo := ⟨by omega, keepC hb1 (by simp) (by simp [go_sem]), keepC hb1 (by simp) (by simp [go_sem]), keepC hb1 (by simp) (by simp [go_sem])⟩
  clear hb1 z1
  go_upto_region 3 with fail
  go_cut [13, 14] (fun p q wx => ∃ b1 b2, p = .pointer (some ⟨b1, 0, none⟩) ∧ q = .pointer (some ⟨b2, 0, none⟩) ∧ CB wx b1 (timeC bk k) ∧ CB wx b2 (highC mi xl xa xo s h) ∧ Go.RowKit.Below w1.heap.size w1 wx)
  case first =>
    obtain ⟨i0, i1, i2⟩ := k1
    obtain ⟨j0, j1, j2, j3⟩ := k3
    go_region
    all_goals
      go_wp2_with fail
      go_meet
      case rel => exact ⟨_, _, rfl, rfl, ⟨by simp <;> omega, by simp [go_sem, timeC, highC], by simp [go_sem, timeC, highC], by simp [go_sem, timeC, highC], by simp [go_sem, timeC, highC], by simp [go_sem, timeC, highC], by simp [go_sem, timeC, highC], by simp [go_sem, timeC, highC], by simp [go_sem, timeC, highC], by simp [go_sem, timeC, highC]⟩, ⟨by simp <;> omega, by simp [go_sem, timeC, highC], by simp [go_sem, timeC, highC], by simp [go_sem, timeC, highC], by simp [go_sem, timeC, highC], by simp [go_sem, timeC, highC], by simp [go_sem, timeC, highC], by simp [go_sem, timeC, highC], by simp [go_sem, timeC, highC], by simp [go_sem, timeC, highC]⟩, by go_grown⟩
  case rest =>
    obtain ⟨b1, b2, rfl, rfl, q1, q2, hb2⟩ := hcut
    rename World => w2
    have h02 : Go.RowKit.Below w.heap.size w w2 := h01.trans (hb2.mono h01.size)
    replace k1 := k1.keep hb2
    replace k3 := k3.keep hb2
    clear hb2 h01
    have q1' := q1
    obtain ⟨lt, c0, c1, c2, c3, c4, c5, c6, c7, c8⟩ := q1'
    simp only [timeC] at c0 c1 c2 c3 c4 c5 c6 c7 c8
    go_wp2_with fail
    refine (Apply_q bk k false 0 0 0 0 0 0 ao n cap T _ (ht.step h02) (hp.keep h02) hc).mono ?_
    rintro e w3 ⟨hb3, hq⟩
    have h03 : Go.RowKit.Below w.heap.size w w3 := h02.trans (hb3.mono h02.size)
    clear lt c0 c1 c2 c3 c4 c5 c6 c7 c8
    rcases hq with ⟨hne, rfl⟩ | ⟨mX, X, rfl, hX, hA⟩
    · have hne2 : (ae ⟨bk, k, false, 0, 0, 0, 0, 0, 0⟩ T n != 0) = true := by simp; exact hne
      clear hne q1 q2
      generalize ae ⟨bk, k, false, 0, 0, 0, 0, 0, 0⟩ T n = AE at *
      go_wp2_with fail
      go_ret
      exact ⟨rfl, h03⟩
    · have hA' : App (timeC bk k) T n X := hA
      have hlen := (ae_zero hA.ok).1.len
      have HSame : Hid (ae (highC mi xl xa xo s h) X n = 0 ↔ ae (highC mi xl xa xo s h) T n = 0) := apart_same hA'
      have q3 := q2.keep hb3
      have q4 := q1.keep hb3
      replace k1 := k1.keep hb3
      replace k3 := k3.keep hb3
      have q3' := q3
      obtain ⟨lt, c0, c1, c2, c3, c4, c5, c6, c7, c8⟩ := q3'
      simp only [highC] at c0 c1 c2 c3 c4 c5 c6 c7 c8
      clear q1 q2 hA hb3 h02
      go_wp2_with fail
      refine (Apply_q false 1 mi xl xa xo s h 0 (some ⟨mX, 0, none⟩) n n X _ (ht.step h03) hX (Nat.le_refl _)).mono ?_
      rintro e w4 ⟨hb4, hq4⟩
      have h04 : Go.RowKit.Below w.heap.size w w4 := h03.trans (hb4.mono h03.size)
      clear lt c0 c1 c2 c3 c4 c5 c6 c7 c8
      replace q3 := q3.keep hb4
      replace q4 := q4.keep hb4
      replace k1 := k1.keep hb4
      replace k3 := k3.keep hb4
      have q3' := q3
      obtain ⟨lt, c0, c1, c2, c3, c4, c5, c6, c7, c8⟩ := q3'
      simp only [highC] at c0 c1 c2 c3 c4 c5 c6 c7 c8
      rcases hq4 with ⟨hne, rfl⟩ | ⟨mX2, X2, rfl, hX2, hA2⟩
      · have hne2 : (ae ⟨false, 1, mi, xl, xa, xo, s, h, 0⟩ X n != 0) = true := by simp; exact hne
        have hne3 : (ae ⟨false, 1, mi, xl, xa, xo, s, h, 0⟩ X n == 0) = false := by simp; exact hne
        have hneT : ae ⟨false, 1, mi, xl, xa, xo, s, h, 0⟩ T n ≠ 0 := fun e => hne (HSame.out.2 e)
        have HN : Hid _ := hneT
        clear hne HSame hneT hA'
        generalize ae ⟨false, 1, mi, xl, xa, xo, s, h, 0⟩ X n = AE at *
        go_wp2_with fail
        refine (Apply_q false 1 mi xl xa xo s h 0 ao n cap T _ (ht.step h04) (hp.keep h04) hc).mono ?_
        rintro e w5 ⟨hb5, hq5⟩
        have h05 : Go.RowKit.Below w.heap.size w w5 := h04.trans (hb5.mono h04.size)
        rcases hq5 with ⟨hne5, rfl⟩ | ⟨_, _, _, _, hA5⟩
        · have hne6 : (ae ⟨false, 1, mi, xl, xa, xo, s, h, 0⟩ T n == 0) = false := by simp; exact hne5
          clear hne5 HN
          generalize ae ⟨false, 1, mi, xl, xa, xo, s, h, 0⟩ T n = AE2 at *
          go_wp2_with fail
          go_ret
          exact ⟨rfl, h05⟩
        · exact absurd hA5.ok HN.out
      · have hA2' : App (highC mi xl xa xo s h) X n X2 := hA2
        have HT : Hid (ae ⟨false, 1, mi, xl, xa, xo, s, h, 0⟩ T n = 0) := HSame.out.1 hA2'.ok
        clear hA2 HSame
        go_wp2_with fail
        refine (Apply_q false 1 mi xl xa xo s h 0 ao n cap T _ (ht.step h04) (hp.keep h04) hc).mono ?_
        rintro e w5 ⟨hb5, hq5⟩
        have h05 : Go.RowKit.Below w.heap.size w w5 := h04.trans (hb5.mono h04.size)
        rcases hq5 with ⟨hne5, _⟩ | ⟨mY, Y, rfl, hY, hA5⟩
        · exact absurd HT.out hne5
        · have hA5' : App (highC mi xl xa xo s h) T n Y := hA5
          have HY : Hid (ae ⟨bk, k, false, 0, 0, 0, 0, 0, 0⟩ Y n = 0) := apart_time hA' hA5'
          have HZ : Hid (ae ⟨bk, k, mi, xl, xa, xo, s, h, 0⟩ T n = 0) := apart_both hA' hA5'
          clear lt c0 c1 c2 c3 c4 c5 c6 c7 c8
          replace q4 := q4.keep hb5
          replace k1 := k1.keep hb5
          replace k3 := k3.keep hb5
          have hX5 := hX2.keep hb5
          obtain ⟨lt, c0, c1, c2, c3, c4, c5, c6, c7, c8⟩ := q4
          simp only [timeC] at c0 c1 c2 c3 c4 c5 c6 c7 c8
          clear hA5 q3 hb5 hX2 HT
          go_wp2_with fail
          refine (Apply_q bk k false 0 0 0 0 0 0 (some ⟨mY, 0, none⟩) n n Y _ (ht.step h05) hY (Nat.le_refl _)).mono ?_
          rintro e w6 ⟨hb6, hq6⟩
          have h06 : Go.RowKit.Below w.heap.size w w6 := h05.trans (hb6.mono h05.size)
          rcases hq6 with ⟨hne6, _⟩ | ⟨mY2, Y2, rfl, hY2, hA6⟩
          · exact absurd HY.out hne6
          · have hA6' : App (timeC bk k) Y n Y2 := hA6
            clear lt c0 c1 c2 c3 c4 c5 c6 c7 c8 HY hA6
            replace k1 := k1.keep hb6
            replace k3 := k3.keep hb6
            have hX6 := hX5.keep hb6
            obtain ⟨i0, i1, i2⟩ := k1
            obtain ⟨j0, j1, j2, j3⟩ := k3
            clear hb6 hX5
            go_wp2_with fail
            refine (Apply_q bk k mi xl xa xo s h 0 ao n cap T _ (ht.step h06) (hp.keep h06) hc).mono ?_
            rintro e w7 ⟨hb7, hq7⟩
            have h07 : Go.RowKit.Below w.heap.size w w7 := h06.trans (hb7.mono h06.size)
            rcases hq7 with ⟨hne7, _⟩ | ⟨mZ, Z, rfl, hZ, hA7⟩
            · exact absurd HZ.out hne7
            · have hA7' : App (bothC bk k mi xl xa xo s h) T n Z := hA7
              have HE1 : Hid (tab X2 n = tab Z n) := apart_one hA' hA2' hA7'
              have HE2 : Hid (tab Y2 n = tab Z n) := apart_two hA' hA5' hA6' hA7'
              have hX7 := hX6.keep hb7
              have hY7 := hY2.keep hb7
              have hS1 := Same_any (some ⟨mX2, 0, none⟩) (some ⟨mY2, 0, none⟩) n n n n X2 Y2 w7 hX7 hY7 (Nat.le_refl _) (Nat.le_refl _) (by omega) (by omega)
              have hS2 := fun (W : World) (hg : Go.RowKit.Below w7.heap.size w7 W) => Same_any (some ⟨mX2, 0, none⟩) (some ⟨mZ, 0, none⟩) n n n n X2 Z W (hX7.keep hg) (hZ.keep hg) (Nat.le_refl _) (Nat.le_refl _) (by omega) (by omega)
              clear hA7 hA' hA2' hA5' hA6' hA7' i0 i1 i2 j0 j1 j2 j3 hX6 hY2 hb7 HZ
              go_wp2_with fail
              refine hS1.mono ?_
              rintro e w8 ⟨⟨B, rfl, hB⟩, hb8⟩
              have hBt : B = true := hB.2 (HE1.out.trans HE2.out.symm)
              subst hBt
              clear hB hS1
              go_wp2_with fail
              refine (hS2 _ hb8).mono ?_
              rintro e w9 ⟨⟨B, rfl, hB⟩, hb9⟩
              have hBt : B = true := hB.2 HE1.out
              subst hBt
              clear hB hS2
              go_wp2_with fail
              go_ret
              exact ⟨rfl, h07.trans ((hb8.trans (hb9.mono hb8.size)).mono h07.size)⟩
end Go.Proofs.YtjakaceckmhjiafDoor.Y
