/- What the document's Place and Back come to. -/
import Derived.Test.YtmccbokjigjpnaeK12
namespace Go.Proofs.Ytmccbokjigjpnae.F
open Go.RowKit
set_option linter.unusedVariables false
set_option linter.unusedSimpArgs false

set_option maxHeartbeats 2000000 in
theorem refPlace_any (ao : Option Addr) (n c : Nat) (A P : Nat → Int) (R : Nat → Bool) (t u d : Int) (w : World) (hp : ML w ao n A P R) (hc : n ≤ c) (hcm : c ≤ 9223372036854775807) (h1 : -9223372036854775808 ≤ u) (h2 : u ≤ 9223372036854775807) (h3 : -9223372036854775808 ≤ d) (h4 : d ≤ 9223372036854775807) :
    Calls Try.prog 12 #[.slice ao n c, .int .i64 t, .agg #[.int .i64 u, .int .i64 d]] w fun e w' => e = .returned (.tuple #[.int .i64 (K.M.pv A P R n t (M.ok u d) u d), .int .i64 (K.M.pe A P n t (M.ok u d) u d)]) ∧ Below w.heap.size w w' := by
  have HW := fun w hp => refWrong7_any ao n c A P R w hp hc hcm
  have HX := fun w => refRated_any u d w h1 h2 h3 h4
  by_cases c0 : K.M.wr A P n = 0
  · rw [c0] at HW
    by_cases c1 : t < 0 ∨ 1048576 < t
    · have x1 := (K.M.te_range (R := R) c0 c1).1
      obtain ⟨e1, e2⟩ := K.M.pe_te (R := R) (k := M.ok u d) (u := u) (d := d) (show K.M.te A P n t ≠ 0 by omega)
      rw [e1, e2, x1]
      rcases (show t < 0 ∨ (0 ≤ t ∧ 1048576 < t) by omega) with y | ⟨y, y'⟩
      all_goals
        clear e1 e2 x1 c1 HX
        go_enter Try.func12, Try.ntmps12
        go_wp2_with fail
        refine (HW _ (hp.step (by go_grown))).mono ?_
        rintro e w1 ⟨rfl, hb1⟩
        have h01 : Below w.heap.size w w1 := Below.trans (by go_grown) (hb1.mono (by go_size))
        go_wp2_with fail
        go_returns
        exact ⟨rfl, h01⟩
    · have x1 := (K.M.te_yes (R := R) c0 c1).1
      have t1 : 0 ≤ t := by omega
      have t2 : t ≤ 1048576 := by omega
      by_cases c2 : K.M.rte (M.ok u d) u d = 0
      · obtain ⟨e1, e2⟩ := K.M.pe_yes (R := R) x1 c2
        rw [e1, e2]
        rw [c2] at HX
        obtain ⟨k0, u1, u2, d2⟩ := K.M.rte_zero c2
        obtain ⟨k1, k2, k3, k4, _⟩ := M.ok_yes _ _ k0
        obtain ⟨s1, s2, s3, s4⟩ := K.M.sm_bd (R := R) (K.M.wr_rt c0) (t := t) (u := u) (d := d) t1 t2 u1 u2 (by omega)
        have HT : ∀ w', Below w.heap.size w w' → Calls Try.prog 10 #[.slice ao n c, .int .i64 t] w' fun e w'' => e = .returned (.int .i64 (K.M.tw A P R n n t)) ∧ Below w'.heap.size w' w'' := fun w' hb => refTwice_any ao n c A P R t w' (hp.step hb) hc hcm (K.M.wr_rt c0) t1 t2
        have m1 : IntKind.i64.wrap (K.M.tw A P R n n t * u) = K.M.tw A P R n n t * u := wid (by omega) (by omega)
        have m2 : (K.M.tw A P R n n t * u).tdiv d = K.M.sm A P R n u d t := by rw [Int.tdiv_eq_ediv_of_nonneg s1]; rfl
        have m3 : IntKind.i64.wrap (K.M.sm A P R n u d t) = K.M.sm A P R n u d t := wid (by omega) (by omega)
        have hz : (d == 0) = false := by simp; omega
        have hnz : d ≠ 0 := by omega
        clear e1 e2 x1 c1 c2 c0 k0
        generalize K.M.tw A P R n n t = X at *
        generalize K.M.sm A P R n u d t = Y at *
        go_enter Try.func12, Try.ntmps12
        go_wp2_with fail
        refine (HW _ (hp.step (by go_grown))).mono ?_
        rintro e w1 ⟨rfl, hb1⟩
        have A0 : w1.cell? ⟨w.heap.size, 0, none⟩ = some (.int .i64 u) := keepC hb1 (by go_size) (by simp [go_sem])
        have A1 : w1.cell? ⟨w.heap.size, 1, none⟩ = some (.int .i64 d) := keepC hb1 (by go_size) (by simp [go_sem])
        have z1 := hb1.size
        simp at z1
        have h01 : Below w.heap.size w w1 := Below.trans (by go_grown) (hb1.mono (by go_size))
        go_wp2_with fail
        refine (HX _).mono ?_
        rintro e w2 ⟨rfl, hb2⟩
        have B0 := keepC hb2 (by omega) A0
        have B1 := keepC hb2 (by omega) A1
        have z2 := hb2.size
        have sz : w.heap.size < w2.heap.size := by omega
        have h02 := h01.trans (hb2.mono h01.size)
        clear hb1 hb2 A0 A1
        go_wp2_with fail
        have hd : Below w2.heap.size w2 w2.drew := (Below.refl _ _).drew
        have mkS : ∀ w', Below w2.heap.size w2 w' → (Below w2.heap.size w2 w' ∧ w'.cell? ⟨w.heap.size, 0, none⟩ = some (.int .i64 u) ∧ w'.cell? ⟨w.heap.size, 1, none⟩ = some (.int .i64 d)) := fun w' hb => ⟨hb, keepC hb sz B0, keepC hb sz B1⟩
        go_region_held3 (fun w' => Below w2.heap.size w2 w' ∧ w'.cell? ⟨w.heap.size, 0, none⟩ = some (.int .i64 u) ∧ w'.cell? ⟨w.heap.size, 1, none⟩ = some (.int .i64 d))
          (first | exact mkS _ hbn | exact mkS _ hd)
          (first
            | (go_at_call 10; refine (HT _ ?_).mono ?_; (exact h02.trans (hd.mono h02.size)); rintro e wa ⟨rfl, hba⟩; have hbn : Below w2.heap.size w2 wa := hd.trans (hba.mono hd.size)))
        all_goals
          go_wp2_with fail
          go_returns
          exact ⟨rfl, h02.trans (hbn.mono h02.size)⟩
      · obtain ⟨e1, e2⟩ := K.M.pe_rte (R := R) x1 c2
        rw [e1, e2]
        have hne : (K.M.rte (M.ok u d) u d != 0) = true := by simp [c2]
        clear e1 e2
        generalize K.M.rte (M.ok u d) u d = V at *
        go_enter Try.func12, Try.ntmps12
        go_wp2_with fail
        refine (HW _ (hp.step (by go_grown))).mono ?_
        rintro e w1 ⟨rfl, hb1⟩
        have A0 : w1.cell? ⟨w.heap.size, 0, none⟩ = some (.int .i64 u) := keepC hb1 (by go_size) (by simp [go_sem])
        have A1 : w1.cell? ⟨w.heap.size, 1, none⟩ = some (.int .i64 d) := keepC hb1 (by go_size) (by simp [go_sem])
        have z1 := hb1.size
        simp at z1
        have h01 : Below w.heap.size w w1 := Below.trans (by go_grown) (hb1.mono (by go_size))
        go_wp2_with fail
        refine (HX _).mono ?_
        rintro e w2 ⟨rfl, hb2⟩
        go_wp2_with fail
        go_returns
        exact ⟨rfl, h01.trans (hb2.mono h01.size)⟩
  · have x1 := (K.M.te_wrong (R := R) (t := t) c0).1
    obtain ⟨e1, e2⟩ := K.M.pe_te (R := R) (k := M.ok u d) (u := u) (d := d) (show K.M.te A P n t ≠ 0 by rw [x1]; exact c0)
    rw [e1, e2, x1]
    have hne : (K.M.wr A P n != 0) = true := by simp [c0]
    clear e1 e2 x1
    generalize K.M.wr A P n = V at *
    go_enter Try.func12, Try.ntmps12
    go_wp2_with fail
    refine (HW _ (hp.step (by go_grown))).mono ?_
    rintro e w1 ⟨rfl, hb1⟩
    have h01 : Below w.heap.size w w1 := Below.trans (by go_grown) (hb1.mono (by go_size))
    go_wp2_with fail
    go_returns
    exact ⟨rfl, h01⟩

theorem refBack_no (ao : Option Addr) (n c : Nat) (A P : Nat → Int) (R : Nat → Bool) (p u d E : Int) (w : World) (hp : ML w ao n A P R) (hc : n ≤ c) (hcm : c ≤ 9223372036854775807) (h1 : -9223372036854775808 ≤ u) (h2 : u ≤ 9223372036854775807) (h3 : -9223372036854775808 ≤ d) (h4 : d ≤ 9223372036854775807)
    (hE : E ≠ 0) (hw : K.M.wr A P n = E ∨ (K.M.wr A P n = 0 ∧ K.M.rte (M.ok u d) u d = E)) :
    Calls Try.prog 14 #[.slice ao n c, .int .i64 p, .agg #[.int .i64 u, .int .i64 d]] w fun e w' => e = .returned (.tuple #[.int .i64 0, .int .i64 E]) ∧ Below w.heap.size w w' := by
  have HW := fun w hp => refWrong7_any ao n c A P R w hp hc hcm
  have HX := fun w => refRated_any u d w h1 h2 h3 h4
  have hne : (E != 0) = true := by simp [hE]
  rcases hw with e | ⟨e, e2⟩
  · rw [e] at HW
    go_enter Try.func14, Try.ntmps14
    go_wp2_with fail
    refine (HW _ (hp.step (by go_grown))).mono ?_
    rintro e w1 ⟨rfl, hb1⟩
    have h01 : Below w.heap.size w w1 := Below.trans (by go_grown) (hb1.mono (by go_size))
    go_wp2_with fail
    go_returns
    exact ⟨rfl, h01⟩
  · rw [e] at HW
    rw [e2] at HX
    go_enter Try.func14, Try.ntmps14
    go_wp2_with fail
    refine (HW _ (hp.step (by go_grown))).mono ?_
    rintro e w1 ⟨rfl, hb1⟩
    have h01 : Below w.heap.size w w1 := Below.trans (by go_grown) (hb1.mono (by go_size))
    have z := hb1.size
    simp at z
    have c1 : w1.cell? ⟨w.heap.size, 0, none⟩ = some (.int .i64 u) := keepC hb1 (by simp) (by simp [go_sem])
    have c2 : w1.cell? ⟨w.heap.size, 1, none⟩ = some (.int .i64 d) := keepC hb1 (by simp) (by simp [go_sem])
    go_wp2_with fail
    refine (HX _).mono ?_
    rintro e w2 ⟨rfl, hb2⟩
    go_wp2_with fail
    go_returns
    exact ⟨rfl, h01.trans (hb2.mono h01.size)⟩

set_option maxHeartbeats 4000000 in
theorem refBack_yes (ao : Option Addr) (n c : Nat) (A P : Nat → Int) (R : Nat → Bool) (p u d : Int) (w : World) (hp : ML w ao n A P R) (hc : n ≤ c) (hcm : c ≤ 9223372036854775807) (h1 : -9223372036854775808 ≤ u) (h2 : u ≤ 9223372036854775807) (h3 : -9223372036854775808 ≤ d) (h4 : d ≤ 9223372036854775807)
    (hw : K.M.wr A P n = 0) (hr : K.M.rte (M.ok u d) u d = 0) :
    Calls Try.prog 14 #[.slice ao n c, .int .i64 p, .agg #[.int .i64 u, .int .i64 d]] w fun e w' => BackOk A P R n u d p e ∧ Below w.heap.size w w' := by
  have HW := fun w hp => refWrong7_any ao n c A P R w hp hc hcm
  have HX := fun w => refRated_any u d w h1 h2 h3 h4
  obtain ⟨k0, u1, u2, d2⟩ := K.M.rte_zero hr
  obtain ⟨k1, k2, k3, k4, _⟩ := M.ok_yes _ _ k0
  rw [hw] at HW
  rw [hr] at HX
  have HR := K.M.wr_rt hw
  have HM : Hid (∀ s t, 0 ≤ s → s ≤ t → K.M.sm A P R n u d s ≤ K.M.sm A P R n u d t) := fun s t => HR.sm_mono u d s t u1 (by omega)
  have HT : ∀ (t : Int) w', 0 ≤ t → t ≤ 1048576 → Below w.heap.size w w' → Calls Try.prog 10 #[.slice ao n c, .int .i64 t] w' fun e w'' => e = .returned (.int .i64 (K.M.tw A P R n n t)) ∧ Below w'.heap.size w' w'' := fun t w' t1 t2 hb => refTwice_any ao n c A P R t w' (hp.step hb) hc hcm HR t1 t2
  have HN : ∀ t : Int, 0 ≤ t → t ≤ 1048576 → _ := fun t t1 t2 => K.M.sm_bd (R := R) HR (t := t) (u := u) (d := d) t1 t2 u1 u2 (by omega)
  have hz : (d == 0) = false := by simp; omega
  have hnz : d ≠ 0 := by omega
  clear hw hr k0
  go_enter Try.func14, Try.ntmps14
  go_wp2_with fail
  refine (HW _ (hp.step (by go_grown))).mono ?_
  rintro e w1 ⟨rfl, hb1⟩
  have A0 : w1.cell? ⟨w.heap.size, 0, none⟩ = some (.int .i64 u) := keepC hb1 (by go_size) (by simp [go_sem])
  have A1 : w1.cell? ⟨w.heap.size, 1, none⟩ = some (.int .i64 d) := keepC hb1 (by go_size) (by simp [go_sem])
  have z1 := hb1.size
  simp at z1
  have h01 : Below w.heap.size w w1 := Below.trans (by go_grown) (hb1.mono (by go_size))
  go_wp2_with fail
  refine (HX _).mono ?_
  rintro e w2 ⟨rfl, hb2⟩
  have B0 := keepC hb2 (by omega) A0
  have B1 := keepC hb2 (by omega) A1
  have z2 := hb2.size
  have sz : w.heap.size < w2.heap.size := by omega
  have h02 := h01.trans (hb2.mono h01.size)
  clear hb1 hb2 A0 A1 HW HX
  go_wp2_with fail
  go_loopw [10, 11] (fun i j wr => ∃ lo hi : Int, i = .int .i64 lo ∧ j = .int .i64 hi ∧ -1 ≤ lo ∧ lo < hi ∧ hi ≤ 1048577 ∧ Hid (∀ t, 0 ≤ t → t ≤ lo → K.M.sm A P R n u d t < p) ∧ Hid (hi < 1048577 → p ≤ K.M.sm A P R n u d hi) ∧ Below w2.heap.size w2 wr)
    (fun i j _ => (intOf j - intOf i).toNat)
  case atStart => exact ⟨-1, 1048577, rfl, rfl, by omega, by omega, by omega, fun t a b => by omega, fun a => by omega, by go_grown⟩
  case round =>
    obtain ⟨lo, hi, rfl, rfl, l0, l1, l2, I1, I2, hbr⟩ := hrel
    have zr := hbr.size
    replace B0 := keepC hbr sz B0
    replace B1 := keepC hbr sz B1
    have sr : w.heap.size < wr.heap.size := by omega
    have h0r := h02.trans (hbr.mono h02.size)
    by_cases hlt : 1 < hi - lo
    · obtain ⟨Z, hZ⟩ : ∃ Z, (lo + hi) / 2 = Z := ⟨_, rfl⟩
      have g1 : lo < Z := by omega
      have g2 : Z < hi := by omega
      have g0 : 0 ≤ lo + hi := by omega
      obtain ⟨s1, s2, s3, s4⟩ := HN Z (by omega) (by omega)
      have HTz := fun w' hb => HT Z w' (by omega) (by omega) hb
      have m1 : IntKind.i64.wrap (K.M.tw A P R n n Z * u) = K.M.tw A P R n n Z * u := wid (by omega) (by omega)
      have m2 : (K.M.tw A P R n n Z * u).tdiv d = K.M.sm A P R n u d Z := by rw [Int.tdiv_eq_ediv_of_nonneg s1]; rfl
      have m3 : IntKind.i64.wrap (K.M.sm A P R n u d Z) = K.M.sm A P R n u d Z := wid (by omega) (by omega)
      have J1 : Hid (K.M.sm A P R n u d Z < p → ∀ t, 0 ≤ t → t ≤ Z → K.M.sm A P R n u d t < p) := fun a t b e => by
        have := HM.out t Z b e
        omega
      have J2 : Hid (¬ K.M.sm A P R n u d Z < p → (Z < 1048577 → p ≤ K.M.sm A P R n u d Z)) := fun a _ => by omega
      have hd : Below wr.heap.size wr wr.drew := (Below.refl _ _).drew
      have mkS : ∀ w', Below wr.heap.size wr w' → (Below wr.heap.size wr w' ∧ w'.cell? ⟨w.heap.size, 0, none⟩ = some (.int .i64 u) ∧ w'.cell? ⟨w.heap.size, 1, none⟩ = some (.int .i64 d)) := fun w' hb => ⟨hb, keepC hb sr B0, keepC hb sr B1⟩
      by_cases hq : K.M.sm A P R n u d Z < p
      · have K1 : Hid (∀ t, 0 ≤ t → t ≤ Z → K.M.sm A P R n u d t < p) := J1.out hq
        have hqd : decide (K.M.sm A P R n u d Z < p) = true := decide_eq_true hq
        clear J1 J2 HN HT HM
        generalize K.M.tw A P R n n Z = X at *
        generalize hY : K.M.sm A P R n u d Z = Y at *
        go_wp2_with fail
        try rw [hZ]
        go_region_held3 (fun w' => Below wr.heap.size wr w' ∧ w'.cell? ⟨w.heap.size, 0, none⟩ = some (.int .i64 u) ∧ w'.cell? ⟨w.heap.size, 1, none⟩ = some (.int .i64 d))
          (first | exact mkS _ hbn | exact mkS _ hd)
          (first
            | (go_at_call 10; refine (HTz _ ?_).mono ?_; (exact h0r.trans (hd.mono h0r.size)); rintro e wa ⟨rfl, hba⟩; have hbn : Below wr.heap.size wr wa := hd.trans (hba.mono hd.size)))
        all_goals
          go_wp2_with fail
          go_roundw
          case rel => exact ⟨Z, hi, rfl, rfl, by omega, by omega, by omega, K1, I2, hbr.trans (hbn.mono hbr.size)⟩
          case measure => simp [intOf]; omega
      · have K2 : Hid (Z < 1048577 → p ≤ K.M.sm A P R n u d Z) := J2.out hq
        have hqd : decide (K.M.sm A P R n u d Z < p) = false := decide_eq_false hq
        clear J1 J2 HN HT HM
        generalize K.M.tw A P R n n Z = X at *
        generalize hY : K.M.sm A P R n u d Z = Y at *
        go_wp2_with fail
        try rw [hZ]
        go_region_held3 (fun w' => Below wr.heap.size wr w' ∧ w'.cell? ⟨w.heap.size, 0, none⟩ = some (.int .i64 u) ∧ w'.cell? ⟨w.heap.size, 1, none⟩ = some (.int .i64 d))
          (first | exact mkS _ hbn | exact mkS _ hd)
          (first
            | (go_at_call 10; refine (HTz _ ?_).mono ?_; (exact h0r.trans (hd.mono h0r.size)); rintro e wa ⟨rfl, hba⟩; have hbn : Below wr.heap.size wr wa := hd.trans (hba.mono hd.size)))
        all_goals
          go_wp2_with fail
          go_roundw
          case rel => exact ⟨lo, Z, rfl, rfl, by omega, by omega, by omega, I1, (by rw [hY]; exact K2), hbr.trans (hbn.mono hbr.size)⟩
          case measure => simp [intOf]; omega
    · have hh : lo = hi - 1 := by omega
      have hF : Hid (K.M.Fst A P R n u d p hi) := ⟨by omega, l2, fun t a b => I1.out t a (by omega), I2.out⟩
      clear I1 I2 HM HN HT
      by_cases hg : hi = 1048577
      · subst hg
        go_wp2_with fail
        go_returns
        exact ⟨⟨1048577, hF.out, .inl ⟨rfl, rfl⟩⟩, h0r⟩
      · have hgb : (hi == 1048577) = false := by simpa using hg
        have hg2 : Hid (hi ≠ 1048577) := hg
        clear hg
        go_wp2_with fail
        go_returns
        exact ⟨⟨hi, hF.out, .inr ⟨hg2.out, rfl⟩⟩, h0r⟩
end Go.Proofs.Ytmccbokjigjpnae.F
