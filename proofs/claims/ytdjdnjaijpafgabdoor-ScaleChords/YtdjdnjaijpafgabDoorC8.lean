/- What the document's Notes comes to. -/
import Derived.Test.YtdjdnjaijpafgabDoorC7
import Derived.WalkSpells
namespace Go.Proofs.YtdjdnjaijpafgabDoor
open Go.RowKit
attribute [local go_sem ↓] Go.wp_at_zero Go.wp_at_succ
set_option linter.unusedSimpArgs false

theorem refNotes_kind (l a o k : Int) (w : World) (hk : M.kok k = false) :
    Calls Tryd.prog 29 #[.agg #[.int .i64 l, .int .i64 a, .int .i64 o], .int .i64 k] w fun e w' => e = .returned (.tuple #[.slice none 0 0, .int .i64 1]) ∧ Below w.heap.size w w' := by
  have hnil := @Lib.run_eql_slice_nil Tryd.prog
  go_enter Tryd.func29, Tryd.ntmps29
  go_wp2_with fail
  refine (Stack_no k _ hk).mono ?_
  rintro e w1 ⟨rfl, hb1⟩
  go_wp2_with fail
  go_returns
  exact ⟨rfl, Below.trans (by go_grown) (hb1.mono (by simp))⟩

theorem refNotes_form (l a o : Int) (k : Nat) (w : World) (a1 : -9223372036854775808 ≤ a) (a2 : a ≤ 9223372036854775807) (hk : M.kok k = true) (hr : M.rt l a o = false) :
    Calls Tryd.prog 29 #[.agg #[.int .i64 l, .int .i64 a, .int .i64 o], .int .i64 k] w fun e w' => e = .returned (.tuple #[.slice none 0 0, .int .i64 2]) ∧ Below w.heap.size w w' := by
  have hnil := @Lib.run_eql_slice_nil Tryd.prog
  go_enter Tryd.func29, Tryd.ntmps29
  go_wp2_with fail
  refine (Stack_yes k _ hk).mono ?_
  rintro e w1 ⟨rfl, hb1, hz1, hcl⟩
  have z1 := hb1.size
  simp at z1
  have h01 : Below w.heap.size w w1 := Below.trans (by go_grown) (hb1.mono (by simp))
  have p0 : w1.cell? ⟨w.heap.size, 0, none⟩ = some (.int .i64 l) := keepC hb1 (by simp) (by simp [go_sem])
  have p1 : w1.cell? ⟨w.heap.size, 1, none⟩ = some (.int .i64 a) := keepC hb1 (by simp) (by simp [go_sem])
  have p2 : w1.cell? ⟨w.heap.size, 2, none⟩ = some (.int .i64 o) := keepC hb1 (by simp) (by simp [go_sem])
  have sp : w.heap.size < w1.heap.size := by omega
  clear hcl
  go_wp2_with fail
  refine (refRight_any l a o _ a1 a2).mono ?_
  rintro e w2 ⟨rfl, hb2⟩
  rw [hr]
  go_wp2_with fail
  go_returns
  exact ⟨rfl, h01.trans (hb2.mono h01.size)⟩

theorem M.min_step {i c : Nat} (h : i < c) : min i c = i ∧ min (i + 1) c = i + 1 := by omega
theorem M.min_stay {i c : Nat} (h : c ≤ i) : min i c = c ∧ min (i + 1) c = c := by omega

set_option maxRecDepth 20000 in
set_option maxHeartbeats 8000000 in
theorem refNotes_in (l a o : Int) (k : Nat) (w : World) (hk : M.kok k = true) (hr : M.rt l a o = true) :
    Calls Tryd.prog 29 #[.agg #[.int .i64 l, .int .i64 a, .int .i64 o], .int .i64 k] w (NotesRes l a o k w) := by
  have hnil := @Lib.run_eql_slice_nil Tryd.prog
  have hk' := M.kok_yes hk
  have hc := M.cnt_bd k
  obtain ⟨x1, x2, x3, x4, x5, x6⟩ := M.rt_yes hr
  have hvb := M.hv_bd hr
  obtain ⟨i0, hi, hz0, hz1, hz2⟩ := info_parts info23
  go_enter Tryd.func29, Tryd.ntmps29
  go_wp2_with fail
  refine (Stack_yes k _ hk).mono ?_
  rintro e wS ⟨rfl, hbS, hzS, hcl⟩
  have zS := hbS.size
  simp at zS hzS hcl
  have h0S : Below w.heap.size w wS := Below.trans (by go_grown) (hbS.mono (by simp))
  have p0 : wS.cell? ⟨w.heap.size, 0, none⟩ = some (.int .i64 l) := keepC hbS (by simp) (by simp [go_sem])
  have p1 : wS.cell? ⟨w.heap.size, 1, none⟩ = some (.int .i64 a) := keepC hbS (by simp) (by simp [go_sem])
  have p2 : wS.cell? ⟨w.heap.size, 2, none⟩ = some (.int .i64 o) := keepC hbS (by simp) (by simp [go_sem])
  have sp : w.heap.size < wS.heap.size := by omega
  go_wp2_with fail
  refine (refRight_any l a o _ (by omega) (by omega)).mono ?_
  rintro e w1 ⟨rfl, hb1⟩
  have z1 := hb1.size
  rw [hr]
  have h01 := h0S.trans (hb1.mono h0S.size)
  replace p0 := keepC hb1 (by omega) p0
  replace p1 := keepC hb1 (by omega) p1
  replace p2 := keepC hb1 (by omega) p2
  have hst : ∀ i : Nat, i < 3 → w1.cell? ⟨w.heap.size + 1, i, none⟩ = some (.int .i64 (M.stk k i)) := fun i hi => keepC hb1 (by omega) (hcl i hi)
  clear hcl
  have hsp : w.heap.size < w1.heap.size := by omega
  go_wp2_with fail
  have fin : ∀ (v : Value) (q : Nat) (W : World), q = M.cnt k → W.ownsRow w1.heap.size 23 3 v (q + 1) (rows (ntF l a o k) (q + 1)) → Hid (∀ j, j < q → M.mk l a o (2 * ((j : Int) + 1)) (M.hs k (j + 1)) = true) → Below w1.heap.size w1 W → NotesRes l a o k w (.returned (.tuple #[v, .int .i64 0])) W := by
    intro v q W hq hown hmk hbW
    subst hq
    have hlen : ∀ j, (ntF l a o k j).length = 3 := fun j => rfl
    obtain ⟨g, cap, rfl, h1, h2, h3, h4⟩ := own_cells hown (by omega)
    have hcap : cap ≤ 9223372036854775807 := by
      rcases hown.2 with ⟨h, _⟩ | ⟨g', cap', cur, h, _, _, _, hm, _⟩
      · simp at h
      · simp at h; unfold maxLen at hm; omega
    refine ⟨h01.trans (hbW.mono (by omega)), .inr ⟨M.nko_mk hmk.out, g, cap, by omega, h3, hcap, rfl, h2, fun j i hj hi3 => ?_⟩⟩
    rw [h4 _ (by omega), rows_get hlen _ j i (by omega) hi3]
  have start := own_new w1 w1.heap.size (Nat.le_refl _) (.int .i64 l) (.int .i64 a) (.int .i64 o) 23
  have hstt : [Value.int .i64 l, .int .i64 a, .int .i64 o] = rows (ntF l a o k) (0 + 1) := by
    obtain ⟨e1, e2, e3⟩ := M.n_zero (k := k) hr
    simp only [rows, ntF, e1, e2, e3, List.nil_append]
  have start' : (w1.alloc (Obj.cells #[.int .i64 l, .int .i64 a, .int .i64 o] 23)).ownsRow w1.heap.size 23 3 (.slice (some ⟨w1.heap.size, 0, none⟩) 1 1) (0 + 1) (rows (ntF l a o k) (0 + 1)) := by rw [← hstt]; exact start
  clear hstt start
  go_loopw [7, 23] (fun v i wr => ∃ q j : Nat, j ≤ 3 ∧ i = .int .i64 j ∧ Hid (q = min j (M.cnt k)) ∧ wr.ownsRow w1.heap.size 23 3 v (q + 1) (rows (ntF l a o k) (q + 1)) ∧ Hid (∀ j, j < q → M.mk l a o (2 * ((j : Int) + 1)) (M.hs k (j + 1)) = true) ∧ Below w1.heap.size w1 wr)
    (fun _ i _ => 3 - (intOf i).toNat)
  case atStart => exact ⟨0, 0, by omega, rfl, (by omega : 0 = min 0 (M.cnt k)), start', fun j hj => by omega, (Below.refl _ _).alloc (Nat.le_refl _) _⟩
  case round =>
    obtain ⟨q, j, hj3, rfl, hqj, hown, hmk, hbr⟩ := hrel
    have zr := hbr.size
    have hp0 := keepC hbr (show w.heap.size < w1.heap.size by omega) p0
    have hp1 := keepC hbr (show w.heap.size < w1.heap.size by omega) p1
    have hp2 := keepC hbr (show w.heap.size < w1.heap.size by omega) p2
    clear p0 p1 p2
    have sp2 : w.heap.size < wr.heap.size := by omega
    by_cases hq3 : j < 3
    · have hcj := keepC hbr (show w.heap.size + 1 < w1.heap.size by omega) (hst j hq3)
      have hsl : w.heap.size + 1 < wr.heap.size := by omega
      have hsc := M.stk_cnt (k := k) hk' hq3
      have hsb := M.stk_bd k j
      have hhs : M.hs k (j + 1) = M.stk k j := rfl
      by_cases hH : M.stk k j = 0
      · have hqc : q = min (j + 1) (M.cnt k) := by have := hsc.1 hH; have := hqj.out; omega
        have HQ : Hid (q = min (j + 1) (M.cnt k)) := hqc
        rw [hH] at hcj
        clear hqc hsc hhs hst
        go_wp2_with fail
        go_roundw
        case rel => first | exact ⟨q, j + 1, by omega, by go_num, HQ, hown, hmk, hbr⟩ | ((repeat apply Exists.intro); exact ⟨⟨q, j + 1, by omega, by go_num, HQ, hown, hmk, hbr⟩, rfl⟩)
        case measure => simp [intOf]; omega
      · have hjc : j < M.cnt k := by have := mt hsc.2 hH; omega
        have hqe : q = j := by have := hqj.out; omega
        subst hqe
        have HQ : Hid (q + 1 = min (q + 1) (M.cnt k)) := (by omega : q + 1 = min (q + 1) (M.cnt k))
        have hHp : 0 < M.stk k q := by omega
        clear hsc hst hqj
        generalize M.stk k q = H at *
        have e2q : 2 * ((q : Int) + 1) = 2 * q + 2 := by omega
        have hinb : M.inb (2 * ((q : Int) + 1)) H = true := M.inb_mk (by omega)
        have hmon := M.mk_on hr hinb
        have hstb := M.rt_st (l := l) (a := a) (o := o) hr
        have v1 : IntKind.i64.wrap (2 * (q : Int)) = 2 * q := wid (by omega) (by omega)
        have v2 : IntKind.i64.wrap (M.st l o + 2 * (q : Int)) = M.st l o + 2 * q := wid (by omega) (by omega)
        have v3 : IntKind.i64.wrap (M.st l o + 2 * (q : Int) + 2) = M.st l o + 2 * q + 2 := wid (by omega) (by omega)
        have v4 : IntKind.i64.wrap (M.hv l a o + H) = M.hv l a o + H := wid (by omega) (by omega)
        have hSt := fun w => Steps_any l a o w x1 x2 (by omega) (by omega)
        have hHv := fun w => Halves_any l a o w x1 x2 (by omega) (by omega) (by omega) (by omega)
        have hAt := fun w => At_any (M.st l o + 2 * (q : Int) + 2) (M.hv l a o + H) w (by omega) (by omega) (by omega) (by omega)
        obtain ⟨T, hT⟩ : ∃ T, M.onB (M.st l o + 2 * (q : Int) + 2) (M.hv l a o + H) = T := ⟨_, rfl⟩
        obtain ⟨P, hP⟩ : ∃ P, (M.st l o + 2 * (q : Int) + 2) % 7 = P := ⟨_, rfl⟩
        obtain ⟨Q, hQ⟩ : ∃ Q, M.hv l a o + H - M.wh (M.st l o + 2 * (q : Int) + 2) = Q := ⟨_, rfl⟩
        obtain ⟨Z, hZ⟩ : ∃ Z, (M.st l o + 2 * (q : Int) + 2) / 7 = Z := ⟨_, rfl⟩
        simp only [hP, hQ, hZ, hT] at hAt
        have HM : Hid (M.mk l a o (2 * ((q : Int) + 1)) H = T ∧ (T = true → M.ml l a o (2 * ((q : Int) + 1)) H = P ∧ M.ma l a o (2 * ((q : Int) + 1)) H = Q ∧ M.mo l a o (2 * ((q : Int) + 1)) H = Z)) := by
          rw [show M.st l o + 2 * (q : Int) + 2 = M.st l o + 2 * ((q : Int) + 1) by omega] at hT hP hQ hZ
          refine ⟨by rw [hmon, hT], fun h => ?_⟩
          have hm : M.mk l a o (2 * ((q : Int) + 1)) H = true := by rw [hmon, hT, h]
          have hon := (M.mk_yes hm).2.2
          rw [M.ml_yes hm, M.ma_yes hm, M.mo_yes hm, M.pl_yes hon, M.pa_yes hon, M.po_yes hon]
          exact ⟨hP, hQ, hZ⟩
        clear hT hP hQ hZ hmon hinb e2q
        generalize M.st l o = ST at *
        generalize M.hv l a o = HV at *
        have mkS : ∀ W, Below wr.heap.size wr W → (Below wr.heap.size wr W ∧ W.cell? ⟨w.heap.size, 0, none⟩ = some (.int .i64 l) ∧ W.cell? ⟨w.heap.size, 1, none⟩ = some (.int .i64 a) ∧ W.cell? ⟨w.heap.size, 2, none⟩ = some (.int .i64 o)) := fun W h => ⟨h, keepC h (by omega) hp0, keepC h (by omega) hp1, keepC h (by omega) hp2⟩
        go_wp2_with fail
        go_cut [10, 11] (fun c t wx => ∃ b : Nat, c = .pointer (some ⟨b, 0, none⟩) ∧ t = .bool T ∧ wr.heap.size ≤ b ∧ b < wx.heap.size ∧ Below wr.heap.size wr wx ∧ wx.cell? ⟨b, 0, none⟩ = some (.int .i64 P) ∧ wx.cell? ⟨b, 1, none⟩ = some (.int .i64 Q) ∧ wx.cell? ⟨b, 2, none⟩ = some (.int .i64 Z))
        case first =>
          go_region_held3 (fun W => (Below wr.heap.size wr W ∧ W.cell? ⟨w.heap.size, 0, none⟩ = some (.int .i64 l) ∧ W.cell? ⟨w.heap.size, 1, none⟩ = some (.int .i64 a) ∧ W.cell? ⟨w.heap.size, 2, none⟩ = some (.int .i64 o)))
            (first | exact mkS _ hbn | exact mkS _ (hbn.alloc hbn.size _) | exact mkS _ (((hbn.setCell hnl _).setCell hnl _).setCell hnl _) | (refine mkS _ ?_; (solve | go_grown)))
            (first
              | (go_at_call 62; refine (hSt _).mono ?_; (all_goals first | omega | skip); rintro e wa ⟨rfl, hba⟩
                 first
                   | (have hbn : Below wr.heap.size wr wa := hbn.trans (hba.mono hbn.size); first | (have n0 := keepC hba hnz n0; have n1 := keepC hba hnz n1; have n2 := keepC hba hnz n2; have g0 := keepF hba hnz g0; have g1 := keepF hba hnz g1; have g2 := keepF hba hnz g2; have hnz := Nat.lt_of_lt_of_le hnz hba.size) | skip)
                   | (have hnl := hbn.size; have nn := snew_kept hba; obtain ⟨n0, n1, n2, g0, g1, g2, hnz⟩ := nn; have hbn : Below wr.heap.size wr wa := (hbn.alloc hbn.size _).trans (hba.mono (Nat.le_trans hbn.size (by simp))))
                   | (have hbn : Below wr.heap.size wr wa := Below.trans (by go_grown) (hba.mono (by simp)); first | (have nn := snew_kept_drew hba; obtain ⟨n0, n1, n2, g0, g1, g2, hnz⟩ := nn; have hnl := Nat.le_refl wr.heap.size) | skip))
              | (go_at_call 63; refine (hHv _).mono ?_; (all_goals first | omega | skip); rintro e wa ⟨rfl, hba⟩
                 first
                   | (have hbn : Below wr.heap.size wr wa := hbn.trans (hba.mono hbn.size); first | (have n0 := keepC hba hnz n0; have n1 := keepC hba hnz n1; have n2 := keepC hba hnz n2; have g0 := keepF hba hnz g0; have g1 := keepF hba hnz g1; have g2 := keepF hba hnz g2; have hnz := Nat.lt_of_lt_of_le hnz hba.size) | skip)
                   | (have hnl := hbn.size; have nn := snew_kept hba; obtain ⟨n0, n1, n2, g0, g1, g2, hnz⟩ := nn; have hbn : Below wr.heap.size wr wa := (hbn.alloc hbn.size _).trans (hba.mono (Nat.le_trans hbn.size (by simp))))
                   | (have hbn : Below wr.heap.size wr wa := Below.trans (by go_grown) (hba.mono (by simp)); first | (have nn := snew_kept_drew hba; obtain ⟨n0, n1, n2, g0, g1, g2, hnz⟩ := nn; have hnl := Nat.le_refl wr.heap.size) | skip))
              | (go_at_call 61; refine (hAt _).mono ?_; (all_goals first | omega | skip); rintro e wa ⟨rfl, hba⟩
                 first
                   | (have hbn : Below wr.heap.size wr wa := hbn.trans (hba.mono hbn.size); first | (have n0 := keepC hba hnz n0; have n1 := keepC hba hnz n1; have n2 := keepC hba hnz n2; have g0 := keepF hba hnz g0; have g1 := keepF hba hnz g1; have g2 := keepF hba hnz g2; have hnz := Nat.lt_of_lt_of_le hnz hba.size) | skip)
                   | (have hnl := hbn.size; have nn := snew_kept hba; obtain ⟨n0, n1, n2, g0, g1, g2, hnz⟩ := nn; have hbn : Below wr.heap.size wr wa := (hbn.alloc hbn.size _).trans (hba.mono (Nat.le_trans hbn.size (by simp))))
                   | (have hbn : Below wr.heap.size wr wa := Below.trans (by go_grown) (hba.mono (by simp)); first | (have nn := snew_kept_drew hba; obtain ⟨n0, n1, n2, g0, g1, g2, hnz⟩ := nn; have hnl := Nat.le_refl wr.heap.size) | skip)))
          all_goals
            go_wp2_with fail
            go_meet
            case rel =>
              first
                | exact ⟨wa.heap.size, rfl, rfl, hbn.size, by simp, hbn.alloc hbn.size _, by simp [go_sem], by simp [go_sem], by simp [go_sem]⟩
                | exact ⟨_, rfl, rfl, hnl, by simpa [World.setCell] using hnz, ((hbn.setCell hnl _).setCell hnl _).setCell hnl _, by simp [go_sem, n0], by simp [go_sem, n1], by simp [go_sem, n2]⟩
        case rest =>
          obtain ⟨b, rfl, rfl, hb5, hb6, hbx, n0, n1, n2⟩ := hcut
          have zx := hbx.size
          have hb12 := hbr.trans (hbx.mono hbr.size)
          cases T
          · go_wp2_with fail
            go_returns
            have hX := h01.trans (hb12.mono (show w.heap.size ≤ w1.heap.size by omega))
            exact ⟨hX, .inl ⟨M.nko_no hjc (by rw [hhs]; exact HM.out.1), rfl⟩⟩
          · have hown2 := own_step hown hbx
            obtain ⟨m1, m2, m3⟩ := HM.out.2 rfl
            have hmt := HM.out.1
            have hr2 : rows (ntF l a o k) (q + 1) ++ [.int .i64 P, .int .i64 Q, .int .i64 Z] = rows (ntF l a o k) (q + 1 + 1) := by
              have e : (2 * ((q + 1 : Nat) : Int)) = 2 * ((q : Int) + 1) := by omega
              show _ = rows (ntF l a o k) (q + 1) ++ ntF l a o k (q + 1)
              simp only [ntF, M.nl, M.na, M.no, hhs, e, m1, m2, m3]
            have hmk2 : Hid (∀ j, j < q + 1 → M.mk l a o (2 * ((j : Int) + 1)) (M.hs k (j + 1)) = true) := fun j hj => by
              by_cases e : j = q
              · rw [e, hhs]; exact hmt
              · exact hmk.out j (by omega)
            have HR3 : Hid (rows (ntF l a o k) (q + 1) ++ [.int .i64 P, .int .i64 Q, .int .i64 Z] = rows (ntF l a o k) (q + 1 + 1)) := hr2
            clear hr2 hhs hmk m1 m2 m3 hmt HM
            go_wp2_with (at_builtin; refine wpList_append_own _ rfl (.tmp 46) (.tmp 48) 57 rfl w1.heap.size 23 i0 (.agg #[.int .i64 0, .int .i64 0, .int .i64 0]) 3 24 Tryd.underlying57 hi hz0 hz1 hz2 rfl (by decide) _ (q + 1) (rows (ntF l a o k) (q + 1)) rfl (hown2.alloc _) ⟨wc.heap.size, 0, none⟩ 1 1 [.int .i64 P, .int .i64 Q, .int .i64 Z] rfl rfl ?c1 ?c2 ?c3 ?c4 ?c5 ?_)
            case c1 =>
              intro j u hj
              match j, hj with
              | 0, hj => simp at hj; subst hj; simp [Addr.add, go_sem]
              | 1, hj => simp at hj; subst hj; simp [Addr.add, go_sem]
              | 2, hj => simp at hj; subst hj; simp [Addr.add, go_sem]
            case c2 => intro u hu; simp at hu; rcases hu with rfl | rfl | rfl <;> rfl
            case c3 => unfold maxLen; omega
            case c4 => omega
            case c5 => simp; omega
            · intro v' w3 hown' hgrow _
              rw [HR3.out] at hown'
              have hb13 : Below w1.heap.size w1 w3 := (hb12.alloc hb12.size _).grown hgrow (by simp; omega) (own_block hown)
              clear hgrow hown2 hown HR3
              go_wp2_with fail
              go_roundw
              case rel => first | exact ⟨q + 1, q + 1, by omega, by go_num, HQ, hown', hmk2, hb13⟩ | ((repeat apply Exists.intro); exact ⟨⟨q + 1, q + 1, by omega, by go_num, HQ, hown', hmk2, hb13⟩, rfl⟩)
              case measure => simp [intOf]; omega
    · have hqc : q = M.cnt k := by have := hqj.out; omega
      have hfin := fun v => fin v q wr hqc
      clear fin hqc
      go_wp2_with fail
      go_returns
      exact hfin _ hown hmk hbr

end Go.Proofs.YtdjdnjaijpafgabDoor
