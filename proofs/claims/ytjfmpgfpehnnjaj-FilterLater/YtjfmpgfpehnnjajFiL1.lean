/- FilterLater: the law's text, walked. -/
import Derived.Test.YtjfmpgfpehnnjajFi9
namespace Go.Proofs.Ytjfmpgfpehnnjaj.Fi
open Go.RowKit Go.Maps Go.Sort Fl
set_option linter.unusedSimpArgs false
set_option linter.unusedVariables false

theorem IL.zeros (w : World) (N : Nat) : IL (w.alloc (.cells (madeCells #[.float .f64 0] N) 22)) (fun k => k < (w.alloc (.cells (madeCells #[.float .f64 0] N) 22)).heap.size) (some ⟨w.heap.size, 0, none⟩) (List.replicate N 0) := ⟨fun hn => ⟨w.heap.size, 0, rfl, by simp, by simp, fun j x hj => by
  have hjl : j < N := by have := (List.getElem?_eq_some_iff.1 hj).1; simpa using this
  have e : x = 0 := by
    have := List.eq_of_mem_replicate (List.mem_of_getElem? hj)
    exact this
  subst e
  refine ⟨?_, by decide⟩
  rw [Nat.zero_add]
  exact World.rowIs.cell (World.rowIs_made w (.float .f64 0) N 22) hjl⟩⟩
theorem abs_zeros (N : Nat) : abs (List.replicate N 0) = List.replicate N (some 0) := by
  unfold abs; rw [List.map_replicate]; rfl
set_option maxRecDepth 4000 in
set_option maxHeartbeats 8000000 in
theorem later_walk (c : Cf) (hcw : WfC c) (l : List Nat) (ao : Option Addr) (m cp : Nat) (n : Int) (w : World) (hm : l.length = m) (hL : IL w (fun k => k < w.heap.size) ao l) (hle : m ≤ cp) (hcm : cp ≤ 9223372036854775807) (hnil : ao = none → cp = 0) (hlen : m ≤ 17592186044416) :
    Calls Try.prog 3 #[cv c, .slice ao m cp, .int .i64 n] w fun e w' => e = .returned (.bool true) ∧ Below w.heap.size w w' := by
  have HL : Hid (IL w (fun k => k < w.heap.size) ao l) := hL
  have Hm : Hid (l.length = m) := hm
  have HW : Hid (WfC c) := hcw
  have HNil : Hid (ao = none → cp = 0) := hnil
  have hbA : Below w.heap.size w (w.alloc (Obj.cells #[.float .f64 c.b0, .float .f64 c.b1, .float .f64 c.b2, .float .f64 c.a1, .float .f64 c.a2] 24)) := (Below.refl _ _).alloc (Nat.le_refl _) _
  clear hL hm hcw hnil
  go_enter Try.func3, Try.ntmps3
  go_wp2_with fail
  refine (alive_any _).mono ?_
  rintro e w1 ⟨rfl, hb1⟩
  have hb01 : Below w.heap.size w w1 := hbA.trans (hb1.mono (by simp))
  have z1 : w.heap.size < w1.heap.size := by have := hb1.size; simp at this; omega
  have c0 := keepC hb1 (a := ⟨w.heap.size, 0, none⟩) (v := .float .f64 c.b0) (by simp) (by simp [go_sem])
  have c1 := keepC hb1 (a := ⟨w.heap.size, 1, none⟩) (v := .float .f64 c.b1) (by simp) (by simp [go_sem])
  have c2 := keepC hb1 (a := ⟨w.heap.size, 2, none⟩) (v := .float .f64 c.b2) (by simp) (by simp [go_sem])
  have c3 := keepC hb1 (a := ⟨w.heap.size, 3, none⟩) (v := .float .f64 c.a1) (by simp) (by simp [go_sem])
  have c4 := keepC hb1 (a := ⟨w.heap.size, 4, none⟩) (v := .float .f64 c.a2) (by simp) (by simp [go_sem])
  clear hb1 hbA
  by_cases n1 : n < 0
  · go_wp2_with fail
    go_ret
    exact ⟨rfl, hb01⟩
  by_cases n2 : 500 < n
  · go_wp2_with fail
    go_ret
    exact ⟨rfl, hb01⟩
  obtain ⟨N, rfl⟩ : ∃ N : Nat, n = N := ⟨n.toNat, by omega⟩
  have hN : N ≤ 500 := by omega
  have HL1 : Hid (IL w1 (fun k => k < w1.heap.size) ao l) := HL.out.keep (fun b hk _ => hb01.block b hk) hb01.size (fun b hk _ => by omega)
  have HP1 : Hid (PL (w1.alloc (Obj.cells #[.slice ao m cp] 25)) (w1.alloc (Obj.cells #[.slice ao m cp] 25)).heap.size (some ⟨w1.heap.size, 0, none⟩) [l]) := by
    have := PL.one w1 l ao cp (by rw [Hm.out]; exact hle) hcm HNil.out HL1.out _ rfl
    rw [Hm.out] at this; exact this
  have hq1 := Strain_r c [l] (some ⟨w1.heap.size, 0, none⟩) 1 1 (-1) (w1.alloc (Obj.cells #[.slice ao m cp] 25)) rfl HP1.out (by omega) (by omega) (by omega) (fun p hp => by simp at hp; subst hp; rw [Hm.out]; exact hlen)
  rw [strn1] at hq1
  have hb1B : Below w1.heap.size w1 (w1.alloc (Obj.cells #[.slice ao m cp] 25)) := (Below.refl _ _).alloc (Nat.le_refl _) _
  clear HP1
  go_wp2_with fail
  refine hq1.mono ?_
  rintro e w3 ⟨v1, rfl, hV1, hb3⟩
  have hb13 : Below w1.heap.size w1 w3 := hb1B.trans (hb3.mono (by simp))
  have hb03 : Below w.heap.size w w3 := hb01.trans (hb13.mono hb01.size)
  have d0 := keepC hb13 z1 c0
  have d1 := keepC hb13 z1 c1
  have d2 := keepC hb13 z1 c2
  have d3 := keepC hb13 z1 c3
  have d4 := keepC hb13 z1 c4
  have z3 := hb13.size
  have zlt : w.heap.size < w3.heap.size := by omega
  have z13 : w1.heap.size < w3.heap.size := by have := hb3.size; simp at this; omega
  have HL3 : Hid (IL w3 (fun k => k < w3.heap.size) ao l) := HL1.out.keep (fun b hk _ => hb13.block b hk) hb13.size (fun b hk _ => by omega)
  clear hq1 hb1B c0 c1 c2 c3 c4 HL1 HL
  have HB1 : Hid (w1.heap.size < w3.heap.size ∧ Below w1.heap.size w1 w3) := ⟨z13, hb13⟩
  clear hb13 hb3
  have g0 := cell_regrown d0
  have g1 := cell_regrown d1
  have g2 := cell_regrown d2
  have g3 := cell_regrown d3
  have g4 := cell_regrown d4
  have mk : ∀ W : World, (Instr.makeSlice 25 (.int .i64 (N : Int)) (.int .i64 (N : Int))).run Try.prog W = .ok (.slice (some ⟨W.heap.size, 0, none⟩) N N) (W.alloc (.cells (madeCells #[.float .f64 0] N) 22)) := fun W => run_make_row' (P := Try.prog) 25 22 (.float .f64 0) 8 Try.underlying25 infoF rfl .i64 .i64 N (by omega) (by omega) W
  go_wp2_with fail
  refine RF.wp_region_float (fun k => k != 2 && k != 4 && k != 5) (by kernel_rfl) (by kernel_rfl) (by kernel_rfl) ?_
  repeat (refine RF.wpFl_read rfl (fun K hK => ?_); go_simp; refine hK _ ?_; clear hK K)
  refine RF.wpFl_do rfl rfl (fun K hK => ?_)
  go_wp2_with (simp only [mk])
  have hb34 : Below w3.heap.size w3 (w3.alloc (Obj.cells (madeCells #[.float .f64 0] N) 22)).drew := ((Below.refl _ w3).alloc (Nat.le_refl _) _).drew
  refine hK _ _ hb34 ?_
  clear hK K
  have HZ : Hid (IL (w3.alloc (Obj.cells (madeCells #[.float .f64 0] N) 22)).drew (fun k => k < (w3.alloc (Obj.cells (madeCells #[.float .f64 0] N) 22)).drew.heap.size) (some ⟨w3.heap.size, 0, none⟩) (List.replicate N 0)) := (IL.zeros w3 N).keep (fun _ _ _ => rfl) (Nat.le_refl _) (fun _ h _ => h)
  have HL4 : Hid (IL (w3.alloc (Obj.cells (madeCells #[.float .f64 0] N) 22)).drew (fun k => k < (w3.alloc (Obj.cells (madeCells #[.float .f64 0] N) 22)).drew.heap.size) ao l) := HL3.out.keep (fun b hk _ => hb34.block b hk) hb34.size (fun b hk _ => by simp; omega)
  have z4 : (w3.alloc (Obj.cells (madeCells #[.float .f64 0] N) 22)).drew.heap.size = w3.heap.size + 1 := by simp
  generalize (w3.alloc (Obj.cells (madeCells #[.float .f64 0] N) 22)).drew = W4 at *
  have hzl : (List.replicate N 0).length = N := by simp
  have HP2 : Hid (PL (W4.alloc (Obj.cells #[.slice (some ⟨w3.heap.size, 0, none⟩) N N, .slice ao m cp] 25)) (W4.alloc (Obj.cells #[.slice (some ⟨w3.heap.size, 0, none⟩) N N, .slice ao m cp] 25)).heap.size (some ⟨W4.heap.size, 0, none⟩) [List.replicate N 0, l]) := by
    have := PL.two W4 (List.replicate N 0) l (some ⟨w3.heap.size, 0, none⟩) ao N cp (by rw [hzl]; exact Nat.le_refl _) (by omega) (fun q => by cases q) HZ.out (by rw [Hm.out]; exact hle) hcm HNil.out HL4.out _ rfl
    rw [Hm.out, hzl] at this; exact this
  have hb45 : Below W4.heap.size W4 (W4.alloc (Obj.cells #[.slice (some ⟨w3.heap.size, 0, none⟩) N N, .slice ao m cp] 25)) := (Below.refl _ _).alloc (Nat.le_refl _) _
  have hb35 : Below w3.heap.size w3 (W4.alloc (Obj.cells #[.slice (some ⟨w3.heap.size, 0, none⟩) N N, .slice ao m cp] 25)) := hb34.trans (hb45.mono (by omega))
  have hq2 := Strain_r c [List.replicate N 0, l] (some ⟨W4.heap.size, 0, none⟩) 2 2 (-1) (W4.alloc (Obj.cells #[.slice (some ⟨w3.heap.size, 0, none⟩) N N, .slice ao m cp] 25)) rfl HP2.out (by omega) (by omega) (by omega) (fun p hp => by
    simp only [List.mem_cons, List.mem_nil_iff, or_false] at hp
    rcases hp with rfl | rfl
    · rw [hzl]; omega
    · rw [Hm.out]; exact hlen)
  rw [strn2, abs_zeros] at hq2
  have HZ4 : Hid (W4.heap.size = w3.heap.size + 1) := z4
  clear HZ HL4 HP2 mk hzl z4 hb45 hb34
  repeat (refine RF.wpFl_read rfl (fun K hK => ?_); go_simp; refine hK _ ?_; clear hK K)
  refine RF.wpFl_do rfl rfl (fun K hK => ?_)
  go_wp2_with fail
  refine hK _ _ hb35 ?_
  clear hK K
  refine RF.wpFl_do rfl rfl (fun K hK => ?_)
  go_wp2_with fail
  refine hq2.mono ?_
  rintro e w6 ⟨v2, rfl, hV2, hb6⟩
  have hb36 : Below w3.heap.size w3 w6 := hb35.trans (hb6.mono hb35.size)
  go_wp2_with fail
  refine hK _ _ hb36 ?_
  clear hK K hq2 g0 g1 g2 g3 g4 d0 d1 d2 d3 d4
  repeat (refine RF.wpFl_read rfl (fun K hK => ?_); go_simp; refine hK _ ?_; clear hK K)
  refine RF.wpFl_nil ?_
  have hb06 : Below w.heap.size w w6 := hb03.trans (hb36.mono (by omega))
  have z6 := hb36.size
  have HV2b : Hid (inC c = true → ∃ base, w3.heap.size < base ∧ TO w6 base v2 [outs c rest0 (List.replicate N (some 0)), outs c (sts c rest0 (List.replicate N (some 0))) (abs l)]) := fun h => by
    obtain ⟨base, q1, q2⟩ := hV2.out h
    simp at q1
    have := HZ4.out
    exact ⟨base, by omega, q2⟩
  have HB6 : Hid (Below w3.heap.size w3 w6) := hb36
  have HL6 : Hid (IL w6 (fun k => k < w3.heap.size) ao l) := HL3.out.keep (fun b hk _ => hb36.block b hk) hb36.size (fun _ h _ => h)
  clear hV2 hb6 hb35 hb36 HL3 HZ4
  cases hz : inC c
  · have e3 := er_no hz
    rw [e3]
    clear hV1 HV2b hz e3
    go_wp2_with fail
    go_ret
    exact ⟨rfl, hb06⟩
  · have e0 := er_yes hz
    have HFi : Hid (FiC c) := inC_fi HW.out hz
    obtain ⟨base1, hBs1, hTO1⟩ := hV1.out hz
    obtain ⟨base2, hBs2, hTO2⟩ := HV2b.out hz
    have hTO1' : TO w6 base1 v1 [outs c rest0 (abs l)] := hTO1.step (fun j _ hj => HB6.out.block j hj) z6
    obtain ⟨ga, va, xs, xa, xc, rfl, f1, f2, f3, f4, f5, f6, f7, f8, f9, f10⟩ := hTO1'.at' (j := 0) rfl
    obtain ⟨gb, vb, ys, ya, yc, hv2, f11, f12, f13, f14, f15, f16, f17, f18, f19, f20⟩ := hTO2.at' (j := 0) rfl
    obtain ⟨gb', vb', us, ua, uc, hv2', f21, f22, f23, f24, f25, f26, f27, f28, f29, f30⟩ := hTO2.at' (j := 1) rfl
    subst hv2
    cases hv2'
    have lxs : xs.length = m := by rw [← abs_len, f9, outs_len, abs_len, Hm.out]
    have lys : ys.length = N := by rw [← abs_len, f19, outs_len]; simp
    have lus : us.length = m := by rw [← abs_len, f29, outs_len, abs_len, Hm.out]
    rw [lxs] at f5 f6
    rw [lys] at f15 f16
    rw [lus] at f25 f26
    have HXs : Hid (xs.length = m ∧ abs xs = outs c rest0 (abs l) ∧ IL w6 (fun b => base1 ≤ b) xa xs) := ⟨lxs, f9, f10⟩
    have HYs : Hid (ys.length = N ∧ abs ys = outs c rest0 (List.replicate N (some 0)) ∧ IL w6 (fun b => base2 ≤ b) ya ys) := ⟨lys, f19, f20⟩
    have HUs : Hid (us.length = m ∧ abs us = outs c (sts c rest0 (List.replicate N (some 0))) (abs l) ∧ IL w6 (fun b => base2 ≤ b) ua us) := ⟨lus, f29, f30⟩
    have HSil := silence c HFi.out N (s := rest0) ⟨rfl, rfl, rfl, rfl⟩
    have HS1 : Hid (∀ x ∈ outs c rest0 (List.replicate N (some 0)), oz x = some 0) := HSil.2
    have HS2 : Hid ((outs c (sts c rest0 (List.replicate N (some 0))) (abs l)).map oz = (outs c rest0 (abs l)).map oz) := outs_z c (abs l) HSil.1
    rw [e0]
    simp only [List.length_cons, List.length_nil, Nat.zero_add, Nat.reduceAdd] at *
    clear hV1 HV2b hz e0 hTO1 hTO1' hTO2 lxs lys lus f8 f9 f10 f18 f19 f20 f28 f29 f30 HSil
    go_wp2_with fail
    go_loopw [86] (fun i ww => ∃ k : Nat, k ≤ N ∧ i = .int .i64 k ∧ ww = w6) (fun i _ => N - (intOf i).toNat)
    case atStart => exact ⟨0, by omega, rfl, rfl⟩
    case round =>
      obtain ⟨k, hk, rfl, rfl⟩ := hrel
      by_cases hlt : k < N
      · obtain ⟨y, hy⟩ : ∃ y, ys[k]? = some y := ⟨_, List.getElem?_eq_getElem (by rw [HYs.out.1]; exact hlt)⟩
        obtain ⟨nb, of, hya, hnb, _, q0⟩ := HYs.out.2.2.at' (by rw [HYs.out.1]; omega)
        obtain ⟨y0, y1⟩ := q0 k y hy
        have hoz : oz (ab y) = some 0 := HS1.out _ (by
          have := abs_get hy
          rw [HYs.out.2.1] at this
          exact List.mem_of_getElem? this)
        have hne : (FloatKind.f64.format.order y 0 != some .eq) = false := zero_eq hoz
        have hlt' : (k : Int) < (N : Int) := by omega
        have w3' : IntKind.i64.wrap ((k : Int) + 1) = (k : Int) + 1 := wid (by omega) (by omega)
        subst hya
        clear hy q0 hoz
        go_wp2_with fail
        go_roundw
        case rel => exact ⟨k + 1, by omega, by go_num, (by first | exact rfl | trivial)⟩
        case measure => simp [intOf]; omega
      · obtain rfl : k = N := by omega
        clear hlt
        obtain ⟨w7, hw7⟩ : ∃ x, x = wr := ⟨wr, rfl⟩
        subst hw7
        go_wp2_with fail
        go_loopw [95] (fun i ww => ∃ k : Nat, k ≤ m ∧ i = .int .i64 k ∧ Below w7.heap.size w7 ww) (fun i _ => m - (intOf i).toNat)
        case atStart => exact ⟨0, by omega, rfl, Below.refl _ _⟩
        case round =>
          obtain ⟨j, hj, rfl, hbr⟩ := hrel
          by_cases hlt : j < m
          · obtain ⟨x, hx⟩ : ∃ x, xs[j]? = some x := ⟨_, List.getElem?_eq_getElem (by rw [HXs.out.1]; exact hlt)⟩
            obtain ⟨u, hu⟩ : ∃ u, us[j]? = some u := ⟨_, List.getElem?_eq_getElem (by rw [HUs.out.1]; exact hlt)⟩
            obtain ⟨na, oa', hxa, hna, _, q0⟩ := HXs.out.2.2.at' (by rw [HXs.out.1]; omega)
            obtain ⟨nu, ou, hua, hnu, _, q1⟩ := HUs.out.2.2.at' (by rw [HUs.out.1]; omega)
            obtain ⟨x0, x1⟩ := q0 j x hx
            obtain ⟨u0, u1⟩ := q1 j u hu
            have hak : akin x u = true := by
              have h1 := abs_get hx
              have h2 := abs_get hu
              rw [HXs.out.2.1] at h1
              rw [HUs.out.2.1] at h2
              have := map_get HS2.out.symm h1 h2
              unfold akin; simp [this]
            have hq := fun W => equal_any x u W x1 u1
            rw [hak] at hq
            subst hxa
            subst hua
            have p5 := cell_regrown (keepC hbr f3 f5)
            have p25 := cell_regrown (keepC hbr f23 f25)
            have px := cell_regrown (keepC hbr hna x0)
            have pu := cell_regrown (keepC hbr hnu u0)
            have hlt' : (j : Int) < (m : Int) := by omega
            have w3' : IntKind.i64.wrap ((j : Int) + 1) = (j : Int) + 1 := wid (by omega) (by omega)
            clear hx hu q0 q1 hak x0 u0
            go_wp2_with fail
            refine RF.wp_region_float (fun k => k != 12) (by kernel_rfl) (by kernel_rfl) (by kernel_rfl) ?_
            repeat (refine RF.wpFl_read rfl (fun K hK => ?_); go_simp; refine hK _ ?_; clear hK K)
            refine RF.wpFl_do rfl rfl (fun K hK => ?_)
            go_wp2_with fail
            refine (hq _).mono ?_
            rintro e w8 ⟨rfl, hw8⟩
            rw [hw8]
            go_wp2_with fail
            refine hK _ _ ((Below.refl _ _).drew) ?_
            clear hK K hw8 w8
            repeat (refine RF.wpFl_read rfl (fun K hK => ?_); go_simp; refine hK _ ?_; clear hK K)
            refine RF.wpFl_nil ?_
            go_wp2_with fail
            go_roundw
            case rel => exact ⟨j + 1, by omega, by go_num, hbr.drew⟩
            case measure => simp [intOf]; omega
          · obtain rfl : j = m := by omega
            go_wp2_with fail
            go_ret
            exact ⟨rfl, hb06.trans (hbr.mono hb06.size)⟩
end Go.Proofs.Ytjfmpgfpehnnjaj.Fi
