/- What level and sample come to. -/
import Derived.Test.YtjpcebnbkdekkaaGU8
import Derived.Deep.DeepCutAuto
namespace Go.Proofs.Ytjpcebnbkdekkaa.Vo
open Go.RowKit Go.Maps Go.Sort
set_option linter.unusedSimpArgs false
set_option linter.unusedVariables false

set_option maxHeartbeats 4000000 in
theorem level_held (p : Pt) (h : Ok p) (b T : Nat) (w : World) (hV : VL w b p T none) :
    Calls Try.prog 105 #[.pointer (some ⟨b, 0, none⟩)] w fun e w' => e = .returned (.int .i64 (held p T)) ∧ Below w.heap.size w w' := by
  have hbd := hV.bd
  have c0 := hV.c0
  have c1 := hV.c1
  have c2 := hV.c2
  have c3 := hV.c3
  have c4 := hV.c4
  have c5 := hV.c5
  have c6 := hV.c6
  have c8 : w.cell? ⟨b, 8, none⟩ = some (.bool false) := hV.c8
  have c9 : w.cell? ⟨b, 9, none⟩ = some (.int .i64 (T : Int)) := hV.c9
  have lt := hV.lt
  have hH : Hid (held p T = if (T : Int) < p.atk then 1048576 * (T : Int) / p.atk else if (T : Int) < p.atk + p.dec then 1048576 - (1048576 - p.sus) * ((T : Int) - p.atk) / p.dec else p.sus) := rfl
  obtain ⟨_, _, _, a0, a1, d0, d1, _, _, u0, u1⟩ := h
  obtain ⟨shape, step, gain, atk, dec, rel, sus⟩ := p
  simp only at *
  generalize held ⟨shape, step, gain, atk, dec, rel, sus⟩ T = HV at *
  clear hV
  obtain ⟨Ti, hTi⟩ : ∃ t : Int, t = (T : Int) := ⟨_, rfl⟩
  rw [← hTi] at c9 hH
  have t0 : 0 ≤ Ti := by omega
  have t1 : Ti ≤ 4611686018427387904 := by omega
  clear hTi hbd
  go_enter Try.func105, Try.ntmps105
  go_wp2_with fail
  go_cut [3, 4] (fun c u wx => c = .pointer (some ⟨w.heap.size, 0, none⟩) ∧ u = .int .i64 (Ti - atk) ∧ Below w.heap.size w wx ∧ w.heap.size < wx.heap.size ∧ wx.cell? ⟨w.heap.size, 3, none⟩ = some (.int .i64 atk) ∧ wx.cell? ⟨w.heap.size, 4, none⟩ = some (.int .i64 dec) ∧ wx.cell? ⟨w.heap.size, 6, none⟩ = some (.int .i64 sus))
  case first =>
    go_region
    all_goals
      go_wp2_with fail
      go_meet
      case rel => exact ⟨rfl, rfl, by go_grown, by simp, by simp [go_sem], by simp [go_sem], by simp [go_sem]⟩
  case rest =>
    obtain ⟨rfl, rfl, hb1, zz, y3, y4, y6⟩ := hcut
    rename World => w1
    have c9' := keepC hb1 lt c9
    have lt1 : b < w1.heap.size := by omega
    clear c0 c1 c2 c3 c4 c5 c6 c8 c9
    by_cases c : Ti < atk
    · have he : HV = 1048576 * Ti / atk := hH.out.trans (if_pos c)
      have hz : atk ≠ 0 := by omega
      have he2 : (1048576 * Ti).tdiv atk = 1048576 * Ti / atk := Int.tdiv_eq_ediv_of_nonneg (by omega)
      have p3 : 0 ≤ 1048576 * Ti / atk := Int.ediv_nonneg (by omega) (by omega)
      have p4 : 1048576 * Ti / atk ≤ 1048576 * 16777216 := Int.le_trans (Int.ediv_le_self _ (by omega)) (by omega)
      have cc : Ti - atk < 0 := by omega
      clear hH
      subst he
      go_wp2_with fail
      go_region
      go_wp2_with fail
      go_ret
      exact ⟨rfl, hb1.trans ((by go_grown : Below w1.heap.size w1 _).mono (by omega))⟩
    · have cc : ¬ Ti - atk < 0 := by omega
      by_cases d : Ti < atk + dec
      · have he : HV = 1048576 - (1048576 - sus) * (Ti - atk) / dec := hH.out.trans (by rw [if_neg c, if_pos d])
        have hz : dec ≠ 0 := by omega
        have p1 : 0 ≤ (1048576 - sus) * (Ti - atk) := Int.mul_nonneg (by omega) (by omega)
        have p2 : (1048576 - sus) * (Ti - atk) ≤ 1048576 * 16777216 := Int.mul_le_mul (by omega) (by omega) (by omega) (by omega)
        have he2 : ((1048576 - sus) * (Ti - atk)).tdiv dec = (1048576 - sus) * (Ti - atk) / dec := Int.tdiv_eq_ediv_of_nonneg p1
        have p3 : 0 ≤ (1048576 - sus) * (Ti - atk) / dec := Int.ediv_nonneg p1 (by omega)
        have p4 : (1048576 - sus) * (Ti - atk) / dec ≤ 1048576 * 16777216 := Int.le_trans (Int.ediv_le_self _ p1) p2
        have dd : Ti - atk < dec := by omega
        clear hH
        subst he
        go_wp2_with fail
        go_ret
        exact ⟨rfl, hb1⟩
      · have he : HV = sus := hH.out.trans (by rw [if_neg c, if_neg d])
        have dd : ¬ Ti - atk < dec := by omega
        clear hH
        subst he
        go_wp2_with fail
        go_ret
        exact ⟨rfl, hb1⟩
theorem level_any (p : Pt) (h : Ok p) (b T : Nat) (o : Option Nat) (w : World) (hV : VL w b p T o) :
    Calls Try.prog 105 #[.pointer (some ⟨b, 0, none⟩)] w fun e w' => e = .returned (.int .i64 (lev p T o)) ∧ Below w.heap.size w w' := by
  cases o with
  | none => exact level_held p h b T w hV
  | some k =>
    have c8 : w.cell? ⟨b, 8, none⟩ = some (.bool true) := hV.c8
    have q := fading_any p h b T k w hV
    have lt := hV.lt
    generalize lev p T (some k) = LV at *
    clear hV
    go_enter Try.func105, Try.ntmps105
    go_wp2_with fail
    refine q.mono ?_
    rintro e w1 ⟨rfl, hb1⟩
    go_wp2_with fail
    go_ret
    exact ⟨rfl, hb1⟩
end Go.Proofs.Ytjpcebnbkdekkaa.Vo

/- What sample comes to. -/
namespace Go.Proofs.Ytjpcebnbkdekkaa.Vo
open Go.RowKit Go.Maps Go.Sort
set_option linter.unusedSimpArgs false
set_option linter.unusedVariables false

set_option maxHeartbeats 4000000 in
theorem sample_any (hC : CirC) (p : Pt) (h : Ok p) (b T : Nat) (o : Option Nat) (w : World) (hV : VL w b p T o) :
    Calls Try.prog 104 #[.pointer (some ⟨b, 0, none⟩)] w fun e w' => e = .returned (.float .f64 (S p o T)) ∧ Below w.heap.size w w' := by
  have hl := lev_bd p h T o hV.off
  have hw := pha_lt p T
  obtain ⟨m1, m2, m3, _⟩ := samp_ok p h (shp p.shape (pha p T)) (shp_ok _ _ (by omega) (by omega)) (lev p T o) hl.1 hl.2
  have q1 := fun w => Shape_any hC p.shape (pha p T) w hw
  have q2 := fun (w' : World) (hb : Below w.heap.size w w') => level_any p h b T o w' (hV.bel hb)
  rw [show S p o T = sm2 p (shp p.shape (pha p T)) (lev p T o) from rfl]
  have c0 := hV.c0
  have c2 := hV.c2
  have c7 := hV.c7
  have lt := hV.lt
  generalize sm2 p (shp p.shape (pha p T)) (lev p T o) = SV at *
  generalize gw p (shp p.shape (pha p T)) = GV at *
  generalize shp p.shape (pha p T) = XV at *
  generalize qt (lev p T o) 20 = QV at *
  generalize lev p T o = LV at *
  generalize she p.shape = EV at *
  clear hV h hC
  generalize pha p T = PH at *
  obtain ⟨shape, step, gain, atk, dec, rel, sus⟩ := p
  simp only at *
  have n1 := fmul m1
  have n2 := fquo m2
  have n3 := fmul m3
  clear m1 m2 m3
  have g0 := cell_regrown c0
  have g7 := cell_regrown c7
  have cS : ∀ d os, Calls Try.prog 58 #[.int .i64 shape, .int .u32 PH] (grow (redrawn w d) os) fun e w'' => e = .returned (.tuple #[.float .f64 XV, .int .i64 EV]) ∧ ∃ p : Regrown, w'' = grow (redrawn w p.d) p.os := fun d os => Calls.regrown_of (q1 _)
  go_enter Try.func104, Try.ntmps104
  go_wp2_with fail
  refine wp_region_quiet_below (by kernel_rfl) (by kernel_rfl) ?_
  repeat (go_big_quiet_step (exact cS _ _))
  refine wpQuiet_nil ?_
  rintro w1 ⟨⟨dq, osq⟩, hw1⟩
  have hb1 : Below w.heap.size w w1 := by rw [hw1]; exact below_regrown w dq osq
  clear hw1 cS g0 g7
  have g2 := cell_regrown (keepC hb1 lt c2)
  have cL : ∀ d os, Calls Try.prog 105 #[.pointer (some ⟨b, 0, none⟩)] (grow (redrawn w1 d) os) fun e w'' => e = .returned (.int .i64 LV) ∧ ∃ p : Regrown, w'' = grow (redrawn w1 p.d) p.os := fun d os => Calls.regrown_of (q2 _ (hb1.trans ((below_regrown w1 d os).mono hb1.size)))
  clear q1 q2
  go_wp2_with fail
  refine wp_region_quiet_below (by kernel_rfl) (by kernel_rfl) ?_
  repeat (go_big_quiet_step (exact cL _ _))
  refine wpQuiet_nil ?_
  rintro w2 ⟨⟨dq, osq⟩, hw2⟩
  have hb2 : Below w1.heap.size w1 w2 := by rw [hw2]; exact below_regrown w1 dq osq
  clear hw2 cL g2
  go_wp2_with fail
  go_ret
  exact ⟨rfl, hb1.trans (hb2.mono hb1.size)⟩
end Go.Proofs.Ytjpcebnbkdekkaa.Vo
