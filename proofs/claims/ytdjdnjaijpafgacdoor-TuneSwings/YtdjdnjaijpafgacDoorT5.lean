/- What the document's Ratio comes to. -/
import Derived.Test.YtdjdnjaijpafgacDoorT2
import Derived.Test.YtdjdnjaijpafgacDoorTMath2
import Derived.Test.YtdjdnjaijpafgacDoorFW4
import Derived.Test.YtdjdnjaijpafgacDoorQR1
namespace Go.Proofs.YtdjdnjaijpafgacDoor.F
open Go.RowKit
attribute [local go_sem ↓] Go.wp_at_zero Go.wp_at_succ
set_option linter.unusedSimpArgs false
set_option linter.unusedVariables false

set_option maxHeartbeats 2000000 in
theorem refRatio_in (s h : Int) (w : World) (hi : YtdjdnjaijpafgacDoor.M.inb s h = true) :
    Calls Tryd.prog 14 #[.agg #[.int .i64 s, .int .i64 h]] w fun e w' => e = .returned (.tuple #[.agg #[.int .i64 (M.qu (M.x5 s h) (M.y2 s h)), .int .i64 (M.qd (M.x5 s h) (M.y2 s h))], .int .i64 (M.qe (M.x5 s h) (M.y2 s h))]) ∧ Below w.heap.size w w' := by
  have hb' := YtdjdnjaijpafgacDoor.M.inb_yes hi
  go_enter Tryd.func14, Tryd.ntmps14
  go_wp2_with fail
  refine (Within_any s h _).mono ?_
  rintro e w1 ⟨rfl, hb1⟩
  rw [hi]
  have z1 := hb1.size
  simp at z1
  have hb01 : Below w.heap.size w w1 := Below.trans (by go_grown) (hb1.mono (by simp; omega))
  have p0 : w1.cell? ⟨w.heap.size, 0, none⟩ = some (.int .i64 s) := keepC hb1 (by simp; omega) (by simp [go_sem])
  have p1 : w1.cell? ⟨w.heap.size, 1, none⟩ = some (.int .i64 h) := keepC hb1 (by simp; omega) (by simp [go_sem])
  have d0 : w1.cell? ⟨w.heap.size + 1, 0, none⟩ = some (.int .i64 0) := keepC hb1 (by simp) (by simp [go_sem])
  have d1 : w1.cell? ⟨w.heap.size + 1, 1, none⟩ = some (.int .i64 0) := keepC hb1 (by simp) (by simp [go_sem])
  have f0 : w1.frozen? ⟨w.heap.size + 1, 0, none⟩ = false := keepF hb1 (by simp) (by simp [go_sem])
  have f1 : w1.frozen? ⟨w.heap.size + 1, 1, none⟩ = false := keepF hb1 (by simp) (by simp [go_sem])
  have s1 : w.heap.size + 1 < w1.heap.size := by omega
  have s0 : w.heap.size < w1.heap.size := by omega
  have eX : M.x5 s h = 7 * h - 12 * s := rfl
  have eY : M.y2 s h = 7 * s - 4 * h - (7 * h - 12 * s) := rfl
  have HX : Hid (M.x5 s h = 7 * h - 12 * s ∧ M.y2 s h = 7 * s - 4 * h - (7 * h - 12 * s)) := ⟨eX, eY⟩
  clear eX eY
  go_wp2_with fail
  refine (abs_q _ _ (by omega) (by omega)).mono ?_
  rintro e w2 ⟨rfl, hw2⟩
  rw [hw2]
  by_cases c1 : (18 : Int) < ((7 * h - 12 * s).natAbs : Nat)
  · go_wp2_with fail
    refine bodyPost_ret (v := .tuple #[.agg #[.int .i64 0, .int .i64 0], .int .i64 4]) (by simp [results, Tryd.results14, go_sem, d0, d1, s1]) rfl ⟨?_, ?_⟩
    · have := M.q_far (M.x5 s h) (M.y2 s h) (.inl (by have := HX.out; omega))
      rw [this.1, this.2.1, this.2.2]
    · exact ((hb01.setCell (p := ⟨w.heap.size + 1, 0, none⟩) (show w.heap.size ≤ w.heap.size + 1 by omega) _).setCell (p := ⟨w.heap.size + 1, 1, none⟩) (show w.heap.size ≤ w.heap.size + 1 by omega) _)
  · go_wp2_with fail
    refine (abs_q _ _ (by omega) (by omega)).mono ?_
    rintro e w3 ⟨rfl, hw3⟩
    rw [hw3]
    by_cases c2 : (30 : Int) < ((7 * s - 4 * h - (7 * h - 12 * s)).natAbs : Nat)
    · go_wp2_with fail
      refine bodyPost_ret (v := .tuple #[.agg #[.int .i64 0, .int .i64 0], .int .i64 4]) (by simp [results, Tryd.results14, go_sem, d0, d1, s1]) rfl ⟨?_, ?_⟩
      · have := M.q_far (M.x5 s h) (M.y2 s h) (.inr (by have := HX.out; omega))
        rw [this.1, this.2.1, this.2.2]
      · exact ((hb01.setCell (p := ⟨w.heap.size + 1, 0, none⟩) (show w.heap.size ≤ w.heap.size + 1 by omega) _).setCell (p := ⟨w.heap.size + 1, 1, none⟩) (show w.heap.size ≤ w.heap.size + 1 by omega) _)
    · go_wp2_with fail
      have bX : -60000 ≤ 7 * h - 12 * s ∧ 7 * h - 12 * s ≤ 60000 := by omega
      have bY : -60000 ≤ 7 * s - 4 * h - (7 * h - 12 * s) ∧ 7 * s - 4 * h - (7 * h - 12 * s) ≤ 60000 := by omega
      generalize 7 * h - 12 * s = X at *
      generalize 7 * s - 4 * h - X = Y at *
      have bx : X.natAbs ≤ 18 := by omega
      have by' : Y.natAbs ≤ 30 := by omega
      go_loop [7, 8, 9] (fun u d i => ∃ k : Nat, k ≤ X.natAbs ∧ i = .int .i64 k ∧ u = .int .i64 (M.gU 3 X k) ∧ d = .int .i64 (M.gD 3 X k)) (fun _ _ i => X.natAbs - (intOf i).toNat)
      case atStart => exact ⟨0, Nat.zero_le _, rfl, by rw [(M.g_zero 3 X).1], by rw [(M.g_zero 3 X).2]⟩
      case round =>
        obtain ⟨k, hk, rfl, rfl, rfl⟩ := hrel
        have gb := M.g3_bd (x := X) (k := k) (by omega)
        by_cases hlt : k < X.natAbs
        · by_cases hp : 0 < X
          · have HG : Hid (M.gU 3 X (k + 1) = 3 * M.gU 3 X k ∧ M.gD 3 X (k + 1) = M.gD 3 X k) := M.g_pos hp k
            generalize M.gU 3 X k = U at *
            generalize M.gD 3 X k = D at *
            go_wp2_with (go_at_call 28; refine (abs_q _ _ (by omega) (by omega)).mono ?_; rintro e w' ⟨rfl, hw'⟩; rw [hw'])
            go_round
            case rel => exact ⟨k + 1, by omega, by go_num, by rw [HG.out.1], by rw [HG.out.2]⟩
            case measure => simp [intOf]; omega
          · have HG : Hid (M.gU 3 X (k + 1) = M.gU 3 X k ∧ M.gD 3 X (k + 1) = 3 * M.gD 3 X k) := M.g_neg hp k
            generalize M.gU 3 X k = U at *
            generalize M.gD 3 X k = D at *
            go_wp2_with (go_at_call 28; refine (abs_q _ _ (by omega) (by omega)).mono ?_; rintro e w' ⟨rfl, hw'⟩; rw [hw'])
            go_round
            case rel => exact ⟨k + 1, by omega, by go_num, by rw [HG.out.1], by rw [HG.out.2]⟩
            case measure => simp [intOf]; omega
        · have ek : k = X.natAbs := by omega
          have hge := M.g_end 3 X
          rw [← ek] at hge
          have HE : Hid (M.gU 3 X k = 3 ^ X.toNat ∧ M.gD 3 X k = 3 ^ (-X).toNat) := hge
          clear ek hge
          generalize M.gU 3 X k = U at *
          generalize M.gD 3 X k = D at *
          go_wp2_with (go_at_call 28; refine (abs_q _ _ (by omega) (by omega)).mono ?_; rintro e w' ⟨rfl, hw'⟩; rw [hw'])
          go_loop [7, 8, 10] (fun u d i => ∃ j : Nat, j ≤ Y.natAbs ∧ i = .int .i64 j ∧ u = .int .i64 (U * M.gU 2 Y j) ∧ d = .int .i64 (D * M.gD 2 Y j)) (fun _ _ i => Y.natAbs - (intOf i).toNat)
          case atStart => exact ⟨0, Nat.zero_le _, rfl, by rw [(M.g_zero 2 Y).1, Int.mul_one], by rw [(M.g_zero 2 Y).2, Int.mul_one]⟩
          case round =>
            obtain ⟨j, hj, rfl, rfl, rfl⟩ := hrel
            have hb2 := M.g2_bd (x := Y) (k := j) (by omega)
            have mu := M.m_bd gb.1 hb2.1
            have md := M.m_bd gb.2 hb2.2
            by_cases hlt2 : j < Y.natAbs
            · by_cases hp : 0 < Y
              · have HG : Hid (U * M.gU 2 Y (j + 1) = 2 * (U * M.gU 2 Y j) ∧ D * M.gD 2 Y (j + 1) = D * M.gD 2 Y j) := ⟨by rw [(M.g_pos hp j).1]; ac_rfl, by rw [(M.g_pos hp j).2]⟩
                generalize U * M.gU 2 Y j = U' at *
                generalize D * M.gD 2 Y j = D' at *
                go_wp2_with (go_at_call 28; refine (abs_q _ _ (by omega) (by omega)).mono ?_; rintro e w' ⟨rfl, hw'⟩; rw [hw'])
                go_round
                case rel => exact ⟨j + 1, by omega, by go_num, by rw [HG.out.1], by rw [HG.out.2]⟩
                case measure => simp [intOf]; omega
              · have HG : Hid (U * M.gU 2 Y (j + 1) = U * M.gU 2 Y j ∧ D * M.gD 2 Y (j + 1) = 2 * (D * M.gD 2 Y j)) := ⟨by rw [(M.g_neg hp j).1], by rw [(M.g_neg hp j).2]; ac_rfl⟩
                generalize U * M.gU 2 Y j = U' at *
                generalize D * M.gD 2 Y j = D' at *
                go_wp2_with (go_at_call 28; refine (abs_q _ _ (by omega) (by omega)).mono ?_; rintro e w' ⟨rfl, hw'⟩; rw [hw'])
                go_round
                case rel => exact ⟨j + 1, by omega, by go_num, by rw [HG.out.1], by rw [HG.out.2]⟩
                case measure => simp [intOf]; omega
            · have ej : j = Y.natAbs := by omega
              have hge := M.g_end 2 Y
              rw [← ej] at hge
              have HQ : Hid (U * M.gU 2 Y j = M.eU X Y ∧ D * M.gD 2 Y j = M.eU (-X) (-Y)) := by
                show _ ∧ _
                rw [hge.1, hge.2, HE.out.1, HE.out.2]
                exact ⟨rfl, rfl⟩
              clear ej hge
              generalize U * M.gU 2 Y j = U' at *
              generalize D * M.gD 2 Y j = D' at *
              go_wp2_with (go_at_call 28; refine (abs_q _ _ (by omega) (by omega)).mono ?_; rintro e w' ⟨rfl, hw'⟩; rw [hw'])
              refine (refMake_any U' D' _ (by omega) (by omega) (by omega)).mono ?_
              rintro e w6 ⟨rfl, hb6⟩
              rw [M.mu_yes _ _ md.1, M.md_yes _ _ md.1, M.me_yes _ _ md.1]
              have hr : M.up U' D' = M.qu X Y ∧ M.dn U' D' = M.qd X Y ∧ M.er U' D' = M.qe X Y := by
                rw [HQ.out.1, HQ.out.2]; exact ⟨rfl, rfl, rfl⟩
              rw [hr.1, hr.2.1, hr.2.2]
              clear hr
              have z6 := hb6.size
              have hb06 : Below w.heap.size w w6 := hb01.trans (hb6.mono (by omega))
              replace d0 := keepC hb6 (by omega) d0
              replace d1 := keepC hb6 (by omega) d1
              replace f0 := keepF hb6 (by omega) f0
              replace f1 := keepF hb6 (by omega) f1
              have s6 : w.heap.size + 1 < w6.heap.size := by omega
              go_wp2_with fail
              refine bodyPost_ret (v := .tuple #[.agg #[.int .i64 (M.qu X Y), .int .i64 (M.qd X Y)], .int .i64 (M.qe X Y)]) (by simp [results, Tryd.results14, go_sem, d0, d1, s6]) rfl ⟨by rw [HX.out.1, HX.out.2], ?_⟩
              exact ((hb06.setCell (p := ⟨w.heap.size + 1, 0, none⟩) (show w.heap.size ≤ w.heap.size + 1 by omega) _).setCell (p := ⟨w.heap.size + 1, 1, none⟩) (show w.heap.size ≤ w.heap.size + 1 by omega) _)

set_option maxHeartbeats 1000000 in
theorem refRatio_no (s h : Int) (w : World) (hi : YtdjdnjaijpafgacDoor.M.inb s h = false) :
    Calls Tryd.prog 14 #[.agg #[.int .i64 s, .int .i64 h]] w fun e w' => e = .returned (.tuple #[.agg #[.int .i64 0, .int .i64 0], .int .i64 3]) ∧ Below w.heap.size w w' := by
  go_enter Tryd.func14, Tryd.ntmps14
  go_wp2_with fail
  refine (Within_any s h _).mono ?_
  rintro e w1 ⟨rfl, hb1⟩
  rw [hi]
  have z1 := hb1.size
  simp at z1
  have hb01 : Below w.heap.size w w1 := Below.trans (by go_grown) (hb1.mono (by simp; omega))
  have d0 : w1.cell? ⟨w.heap.size + 1, 0, none⟩ = some (.int .i64 0) := keepC hb1 (by simp) (by simp [go_sem])
  have d1 : w1.cell? ⟨w.heap.size + 1, 1, none⟩ = some (.int .i64 0) := keepC hb1 (by simp) (by simp [go_sem])
  have f0 : w1.frozen? ⟨w.heap.size + 1, 0, none⟩ = false := keepF hb1 (by simp) (by simp [go_sem])
  have f1 : w1.frozen? ⟨w.heap.size + 1, 1, none⟩ = false := keepF hb1 (by simp) (by simp [go_sem])
  have s1 : w.heap.size + 1 < w1.heap.size := by omega
  go_wp2_with fail
  refine bodyPost_ret (v := .tuple #[.agg #[.int .i64 0, .int .i64 0], .int .i64 3]) (by simp [results, Tryd.results14, go_sem, d0, d1, s1]) rfl ⟨rfl, ?_⟩
  exact ((hb01.setCell (p := ⟨w.heap.size + 1, 0, none⟩) (show w.heap.size ≤ w.heap.size + 1 by omega) _).setCell (p := ⟨w.heap.size + 1, 1, none⟩) (show w.heap.size ≤ w.heap.size + 1 by omega) _)
end Go.Proofs.YtdjdnjaijpafgacDoor.F
