/- What the document's Write comes to, where something is written. -/
import Derived.Test.YthhaakhjcagmnacR6
import Derived.Deep.Cut
namespace Go.Proofs.Ythhaakhjcagmnac.F
open Go.RowKit
set_option linter.unusedVariables false
set_option linter.unusedSimpArgs false

theorem cv_is {w : World} {b o : Nat} {v : Value} (h : w.cell? ⟨b, o, none⟩ = some v) : cv w b o = v := by unfold cv; rw [h]; rfl
theorem vF_whole (q r j : Nat) (h : j < q) : rows (vF q r) j ++ [.int .i64 0, .int .i64 0] = rows (vF q r) (j + 1) := by
  show _ = rows (vF q r) j ++ vF q r j
  unfold vF
  rw [M.eV_whole q r j h]
  rfl

set_option maxRecDepth 20000 in
set_option maxHeartbeats 8000000 in
theorem refWrite_gen (u d T P : Int) (q r : Nat) (w : World) (hk : M.ok u d = true) (h0 : 0 < u) (hu : u ≤ 65536 * d) (hdb : (1024 % d != 0) = false) (hP : 1024 / d = P) (hp1 : 0 ≤ P) (hp2 : P ≤ 1024) (hl : u * P = T) (HT : Hid (T = q * 1024 + r)) (hq : q ≤ 65536) (hr : r < 1024) :
    Calls Try.prog 18 #[.agg #[.int .i64 u, .int .i64 d]] w (WriteOk q r w) := by
  obtain ⟨k1, k2, k3, k4, _⟩ := M.ok_yes _ _ hk
  have hne : d ≠ 0 := by omega
  have hneb : (d == 0) = false := by simpa using hne
  have h1u : ¬ u < 1 := by omega
  have h2u : ¬ 65536 * d < u := by omega
  obtain ⟨i0, hi, hz0, hz1, hz2⟩ := info_parts infoV
  have hT1 : 0 ≤ T := by have := HT.out; omega
  have hT2 : T ≤ 67109888 := by have := HT.out; omega
  have hx1 : wrap64 P = P := w64 (by omega) (by omega)
  have hx2 : wrap64 T = T := w64 (by omega) (by omega)
  have HQ : Hid (∀ (X : Int) (j : Nat), j ≤ q → X = T - 1024 * j → (1024 ≤ X → j < q) ∧ (X < 1024 → 0 ≤ X → j = q ∧ X = r)) := fun X j hj e => by
    have := HT.out; omega
  go_enter Try.func18, Try.ntmps18
  go_wp2_with fail
  refine (refRight_any u d _ (by omega) (by omega) (by omega) (by omega)).mono ?_
  rintro e w1 ⟨rfl, hb1⟩
  rw [hk]
  have A0 : w1.cell? ⟨w.heap.size, 0, none⟩ = some (.int .i64 u) := keepC hb1 (by go_size) (by simp [go_sem])
  have A1 : w1.cell? ⟨w.heap.size, 1, none⟩ = some (.int .i64 d) := keepC hb1 (by go_size) (by simp [go_sem])
  have h01 : Below w.heap.size w w1 := Below.trans (by go_grown) (hb1.mono (by go_size))
  have z1 := hb1.size
  simp at z1
  clear hb1
  go_wp2_with fail
  go_region
  go_wp2_with fail
  have sz1 : w.heap.size < w1.heap.size := by omega
  rw [hP]
  clear hP
  go_loopw [4, 5] (fun x v wr => ∃ (X : Int) (j : Nat), x = .int .i64 X ∧ 0 ≤ X ∧ X ≤ 67109888 ∧ j ≤ q ∧ Hid (X = T - 1024 * j) ∧ wr.ownsRow w1.heap.size 44 2 v j (rows (vF q r) j) ∧ Below w1.heap.size w1 wr)
    (fun x _ _ => (intOf x).toNat)
  case atStart =>
    exact ⟨T, 0, rfl, by omega, by omega, by omega, by show T = T - 1024 * ((0 : Nat) : Int); omega, World.ownsRow_nil _ _ _ _, by go_grown⟩
  case round =>
    obtain ⟨X, j, rfl, x1, x2, hj, hX, hown, hbr⟩ := hrel
    have zr := hbr.size
    obtain ⟨g1, g2⟩ := HQ.out X j hj hX.out
    by_cases hge : 1024 ≤ X
    · have hjq := g1 hge
      have hX2 : Hid (X - 1024 = T - 1024 * ((j + 1 : Nat) : Int)) := by have := hX.out; show X - 1024 = _; omega
      have hrow : Hid (rows (vF q r) j ++ [.int .i64 0, .int .i64 0] = rows (vF q r) (j + 1)) := vF_whole q r j hjq
      clear g1 g2 hX
      go_wp2_with (at_builtin; refine wpList_append_own _ rfl (.tmp 34) (.tmp 36) 46 rfl w1.heap.size 44 i0 (.agg #[.int .i64 0, .int .i64 0]) 2 16 Try.underlying46 hi hz0 hz1 hz2 rfl (by decide) _ j (rows (vF q r) j) rfl (hown.alloc _) ⟨wr.heap.size, 0, none⟩ 1 1 [.int .i64 0, .int .i64 0] rfl rfl ?c1 ?c2 ?c3 ?c4 ?c5 ?_)
      case c1 =>
        intro i u hi
        match i, hi with
        | 0, hi => simp at hi; subst hi; simp [Addr.add, go_sem]
        | 1, hi => simp at hi; subst hi; simp [Addr.add, go_sem]
      case c2 => intro u hu; simp at hu; subst hu; rfl
      case c3 => unfold maxLen; omega
      case c4 => omega
      case c5 => simp; omega
      intro v' w3 hown' hgrow _
      rw [hrow.out] at hown'
      have hb13 : Below w1.heap.size w1 w3 := (hbr.alloc hbr.size _).grown hgrow (by simp; omega) (own_block hown)
      clear hgrow hown hrow
      go_wp2_with fail
      go_roundw
      case rel => first | exact ⟨X - 1024, j + 1, by first | rfl | go_num, by omega, by omega, by omega, hX2, hown', hb13⟩ | exact ⟨.int .i64 (X - 1024), v', _, _, _, _, _, _, _, _, ⟨X - 1024, j + 1, rfl, by omega, by omega, by omega, hX2, hown', hb13⟩, rfl⟩
      case measure => simp [intOf]; omega
    · obtain ⟨g3, g4⟩ := g2 (by omega) x1
      rw [g3] at hown
      have hO0 : Hid (M.OutI r 0 X 1) := by rw [g4]; exact M.out_start r hr
      have x3 : X ≤ 1023 := by omega
      clear g1 g2 g3 g4 hX HQ hj
      go_wp2_with fail
      go_loopw [4, 5] (fun x v wr => ∃ (X : Int) (j : Nat), x = .int .i64 X ∧ 0 ≤ X ∧ X ≤ 1023 ∧ j ≤ 5 ∧ Hid (M.OutI r j X 1) ∧ wr.ownsRow w1.heap.size 44 2 v (q + j) (rows (vF q r) (q + j)) ∧ Below w1.heap.size w1 wr)
        (fun x _ _ => (intOf x).toNat)
      case atStart => exact ⟨X, 0, rfl, x1, x3, by omega, hO0, hown, hbr⟩
      case round =>
        obtain ⟨X, j, rfl, x1, x2, hj, hO, hown, hbr⟩ := hrel
        have zr := hbr.size
        by_cases hX : 0 < X
        · go_wp2_with fail
          go_loopw [44] (fun _ w3 => ∃ H : Int, 1 ≤ H ∧ H ≤ 10 ∧ Hid (M.OutI r j X H) ∧ wr.heap.size < w3.heap.size ∧ w3.cell? ⟨wr.heap.size, 0, none⟩ = some (.int .i64 H) ∧ w3.cell? ⟨wr.heap.size, 1, none⟩ = some (.int .i64 0) ∧ w3.frozen? ⟨wr.heap.size, 0, none⟩ = false ∧ w3.frozen? ⟨wr.heap.size, 1, none⟩ = false ∧ Below wr.heap.size wr w3)
            (fun _ w3 => 11 - (intOf (cv w3 wr.heap.size 0)).toNat)
          case atStart => exact ⟨1, by omega, by omega, hO, by simp, by simp [go_sem], by simp [go_sem], by simp [go_sem], by simp [go_sem], by go_grown⟩
          case round =>
            rename World => w3
            obtain ⟨H, y1, y2, hO3, z3, V0, V1, F0, F1, hb3⟩ := hrel
            obtain ⟨g1, g2, g3, g4, g5⟩ := M.out_go r j X H hO3.out hX
            have hPw := fun w => power_any (10 - H) w (by omega) (by omega)
            rw [M.pw_pt H y1 y2] at hPw
            by_cases hlt : X < M.pt H
            · have hN : Hid (M.OutI r j X (H + 1)) := g4 hlt
              have hH := (M.out_go r j X (H + 1) hN.out hX).1
              have hcv := cv_is V0
              clear g4 g5
              generalize M.pt H = Pn at *
              go_wp2_with fail
              refine (hPw _).mono ?_
              rintro e wp ⟨rfl, hwp⟩
              rw [hwp]
              go_wp2_with fail
              go_roundw
              case rel => exact ⟨H + 1, by omega, by omega, hN, by simp; omega, by simp [go_sem, V0], by simp [go_sem, V1], by simp [go_sem, F0], by simp [go_sem, F1], hb3.setCell (p := ⟨wr.heap.size, 0, none⟩) (Nat.le_refl _) _⟩
              case measure =>
                have hcv2 : cv (w3.setCell ⟨wr.heap.size, 0, none⟩ (.int .i64 (H + 1))) wr.heap.size 0 = .int .i64 (H + 1) := cv_is (by simp [go_sem, V0])
                rw [hcv, hcv2]; simp [intOf]; omega
            · have hJ : Hid (M.InJ r j H (X - M.pt H) (M.pt H) 0) := M.inj_start r j X H hO3.out hX (by omega)
              clear g4 g5
              generalize M.pt H = Pn at *
              go_wp2_with fail
              refine (hPw _).mono ?_
              rintro e wp ⟨rfl, hwp⟩
              rw [hwp]
              go_wp2_with fail
              refine (hPw _).mono ?_
              rintro e wp ⟨rfl, hwp⟩
              rw [hwp]
              go_wp2_with fail
              go_loopw [4, 7] (fun x p w4 => ∃ Y part D : Int, x = .int .i64 Y ∧ p = .int .i64 part ∧ 0 ≤ Y ∧ Y < X ∧ 1 ≤ part ∧ part ≤ 512 ∧ 0 ≤ D ∧ D ≤ 3 ∧ Hid (M.InJ r j H Y part D) ∧ wr.heap.size < w4.heap.size ∧ w4.cell? ⟨wr.heap.size, 0, none⟩ = some (.int .i64 H) ∧ w4.cell? ⟨wr.heap.size, 1, none⟩ = some (.int .i64 D) ∧ w4.frozen? ⟨wr.heap.size, 0, none⟩ = false ∧ w4.frozen? ⟨wr.heap.size, 1, none⟩ = false ∧ Below wr.heap.size wr w4)
                (fun _ p _ => (intOf p).toNat)
              case atStart => exact ⟨X - Pn, Pn, 0, by first | rfl | go_num, rfl, by omega, by omega, by omega, by omega, by omega, by omega, hJ, z3, V0, V1, F0, F1, hb3⟩
              case round =>
                rename World => w4
                obtain ⟨Y, part, D, rfl, rfl, a1, a2, a3, a4, a5, a6, hJ4, z4, U0, U1, G0, G1, hb4⟩ := hrel
                by_cases hc : D < 3 ∧ 1 < part ∧ part / 2 ≤ Y
                · have hN : Hid (M.InJ r j H (Y - part / 2) (part / 2) (D + 1)) := M.inj_step r j H Y part D hJ4.out hc.1 hc.2.1 hc.2.2
                  obtain ⟨e1, e2, e3⟩ := hc
                  have e4 : 1 ≤ part / 2 := by omega
                  have e5 : part / 2 ≤ 512 := by omega
                  have e6 : part / 2 < part := by omega
                  clear hJ4 hJ hO3 hO
                  go_wp2_with fail
                  go_roundw
                  case rel => exact ⟨Y - part / 2, part / 2, D + 1, by first | rfl | go_num, by first | rfl | go_num, by omega, by omega, by omega, by omega, by omega, by omega, hN, by simp; omega, by simp [go_sem, U0], by simp [go_sem, U1], by simp [go_sem, G0], by simp [go_sem, G1], hb4.setCell (p := ⟨wr.heap.size, 1, none⟩) (Nat.le_refl _) _⟩
                  case measure => simp [intOf]; omega
                · obtain ⟨hO5, hnx⟩ := M.inj_end r j H Y part D hJ4.out hc
                  have hrow : Hid (rows (vF q r) (q + j) ++ [.int .i64 H, .int .i64 D] = rows (vF q r) (q + j + 1)) := vF_next q r j H D hnx
                  have hO6 : Hid (M.OutI r (j + 1) Y 1) := hO5
                  have hj5 := M.out_len r (j + 1) Y 1 hr hO5
                  have hown4 := own_step hown hb4
                  have h14 : Below w1.heap.size w1 w4 := hbr.trans (hb4.mono zr)
                  have z14 := h14.size
                  clear hO5 hnx hJ4 hJ hO3 hO V0 V1 F0 F1
                  rcases (show 3 ≤ D ∨ (D < 3 ∧ part ≤ 1) ∨ (D < 3 ∧ 1 < part ∧ Y < part / 2) by omega) with e | ⟨e1, e2⟩ | ⟨e1, e2, e3⟩
                  all_goals
                    clear hc
                    go_wp2_with (at_builtin; refine wpList_append_own _ rfl (.tmp 82) (.tmp 84) 46 rfl w1.heap.size 44 i0 (.agg #[.int .i64 0, .int .i64 0]) 2 16 Try.underlying46 hi hz0 hz1 hz2 rfl (by decide) _ (q + j) (rows (vF q r) (q + j)) rfl (hown4.alloc _) ⟨w4.heap.size, 0, none⟩ 1 1 [.int .i64 H, .int .i64 D] rfl rfl ?c1 ?c2 ?c3 ?c4 ?c5 ?_)
                    try (case c1 =>
                      intro i u hi
                      match i, hi with
                      | 0, hi => simp at hi; subst hi; simp [Addr.add, go_sem]
                      | 1, hi => simp at hi; subst hi; simp [Addr.add, go_sem])
                    case c2 => first | exact ⟨rfl, rfl⟩ | (intro u hu; simp at hu; rcases hu with rfl | rfl <;> rfl)
                    case c3 => unfold maxLen; omega
                    case c4 => omega
                    case c5 => first | omega | (simp; omega)
                    intro v' w6 hown' hgrow _
                    rw [hrow.out] at hown'
                    have hb16 : Below w1.heap.size w1 w6 := (h14.alloc h14.size _).grown hgrow (by simp; omega) (own_block hown4)
                    clear hgrow hown hrow hown4
                    go_wp2_with fail
                    go_roundw
                    case rel => first | exact ⟨Y, j + 1, rfl, by omega, by omega, hj5, hO6, hown', hb16⟩ | ((repeat apply Exists.intro); exact ⟨⟨Y, j + 1, rfl, by omega, by omega, hj5, hO6, hown', hb16⟩, rfl⟩)
                    case measure => simp [intOf]; omega
        · obtain rfl : X = 0 := by omega
          have hn := M.out_end q r j 1 hO.out
          rw [hn] at hown
          clear hn
          go_wp2_with fail
          go_returns
          exact ⟨_, rfl, h01.trans (hbr.mono (by omega)), own_base hown (by omega)⟩
end Go.Proofs.Ythhaakhjcagmnac.F
