/- MixBlocks: the law's text, walked. -/
import Derived.Test.YtancpboepekflaaMx13
namespace Go.Proofs.Ytancpboepekflaa.Mx
open Go.RowKit Go.Maps Go.Sort
set_option linter.unusedVariables false
set_option linter.unusedSimpArgs false

set_option maxRecDepth 8000 in
set_option maxHeartbeats 8000000 in
theorem mblocks_walk (z : Nat) (hz : z < 4294967296) (l : List Int) (ao : Option Addr) (m cp : Nat) (q : List Int) (qo : Option Addr) (qn qc : Nat) (w : World) (hm : l.length = m) (hL : IL w (fun k => k < w.heap.size) ao l) (hle : m ≤ cp) (hcm : cp ≤ 9223372036854775807) (hnil : ao = none → cp = 0) (hlen : m ≤ 1048576)
    (hqn : q.length = qn) (hQ : IL w (fun k => k < w.heap.size) qo q) (hqc : qn ≤ qc) (hqm : qc ≤ 9223372036854775807) (hql : qn ≤ 1048576) :
    Calls Try.prog 6 #[.int .u32 z, .slice ao m cp, .slice qo qn qc] w fun e w' => e = .returned (.bool true) ∧ Below w.heap.size w w' := by
  have HQn : Hid (q.length = qn) := hqn
  have HQ : Hid (IL w (fun k => k < w.heap.size) qo q) := hQ
  have Hz : Hid (z < 4294967296) := hz
  clear hqn hQ hz
  have HL : Hid (IL w (fun k => k < w.heap.size) ao l) := hL
  have Hm : Hid (l.length = m) := hm
  have HNil : Hid (ao = none → cp = 0) := hnil
  clear hL hm hnil
  go_enter Try.func6, Try.ntmps6
  go_wp2_with fail
  refine (alive_any _).mono ?_
  rintro e w1 ⟨rfl, hb1⟩
  have hb01 : Below w.heap.size w w1 := hb1
  have z1 : w.heap.size ≤ w1.heap.size := hb1.size
  clear hb1
  have HL1 : Hid (IL w1 (fun k => k < w.heap.size) ao l) := HL.out.keep (fun b hk _ => hb01.block b hk) hb01.size (fun _ h _ => h)
  have HQ1 : Hid (IL w1 (fun k => k < w.heap.size) qo q) := HQ.out.keep (fun b hk _ => hb01.block b hk) hb01.size (fun _ h _ => h)
  clear HL HQ
  go_wp2_with fail
  go_loopw [27, 7, 8] (fun i v lv ww => ∃ k : Nat, k ≤ qn ∧ i = .int .i64 k ∧ Hid (∃ (ps : List (List Int)) (L : List Int) (la : Option Addr) (lc : Nat), VO ww w1.heap.size w.heap.size v ps ∧ ps.length ≤ k ∧ CB l ps L ∧ lv = .slice la L.length lc ∧ L.length ≤ lc ∧ lc ≤ 9223372036854775807 ∧ (la = none → lc = 0) ∧ IL ww (fun k => k < w.heap.size) la L) ∧ Below w1.heap.size w1 ww) (fun i _ _ _ => qn - (intOf i).toNat)
  case atStart => exact ⟨0, by omega, rfl, ⟨[], l, ao, cp, VO.nil _ _ _, Nat.le_refl _, ⟨rfl⟩, by rw [Hm.out], by rw [Hm.out]; exact hle, hcm, HNil.out, HL1.out⟩, Below.refl _ _⟩
  case round =>
    obtain ⟨k, hk, rfl, hG, hbr⟩ := hrel
    obtain ⟨ps, L, la, lc, hV, hpk, hCB, hlv, hl1, hl2, hl3, hl4⟩ := hG.out
    by_cases hlt : k < qn
    ·
      --[
      obtain ⟨x, hx⟩ : ∃ x, q[k]? = some x := ⟨_, List.getElem?_eq_getElem (by rw [HQn.out]; exact hlt)⟩
      obtain ⟨nb, of, hqo, hnb, _, q0⟩ := (HQ1.out.bel hbr).at' (by rw [HQn.out]; omega)
      have x0 := q0 k x hx
      have hlt' : (k : Int) < (qn : Int) := by omega
      have w3 : IntKind.i64.wrap ((k : Int) + 1) = (k : Int) + 1 := wid (by omega) (by omega)
      subst hqo
      subst hlv
      obtain ⟨ln, hln⟩ : ∃ ln, ln = L.length := ⟨_, rfl⟩
      rw [← hln] at hl1 ⊢
      have HLn : Hid (ln = L.length) := hln
      have HG : Hid (VO wr w1.heap.size w.heap.size u7 ps ∧ ps.length ≤ k ∧ CB l ps L ∧ (la = none → lc = 0) ∧ IL wr (fun k => k < w.heap.size) la L) := ⟨hV, hpk, hCB, hl3, hl4⟩
      clear hG hV hpk hCB hl3 hl4 q0 hx hln
      by_cases n1 : x < 0
      · go_wp2_with fail
        go_roundw
        case rel => exact ⟨k + 1, by omega, by go_num, ⟨ps, L, la, lc, HG.out.1, by have := HG.out.2.1; omega, HG.out.2.2.1, by rw [HLn.out], by rw [← HLn.out]; exact hl1, hl2, HG.out.2.2.2.1, HG.out.2.2.2.2⟩, hbr⟩
        case measure => simp [intOf]; omega
      by_cases n2 : (ln : Int) < x
      · go_wp2_with fail
        go_roundw
        case rel => exact ⟨k + 1, by omega, by go_num, ⟨ps, L, la, lc, HG.out.1, by have := HG.out.2.1; omega, HG.out.2.2.1, by rw [HLn.out], by rw [← HLn.out]; exact hl1, hl2, HG.out.2.2.2.1, HG.out.2.2.2.2⟩, hbr⟩
        case measure => simp [intOf]; omega
      obtain ⟨X, rfl⟩ : ∃ X : Nat, x = X := ⟨x.toNat, by omega⟩
      have hX : X ≤ ln := by omega
      have s1 := run_to la ln lc X (by omega)
      have s2 := run_from la ln lc X hX
      obtain ⟨Vs, o1, o2, o3⟩ := HG.out.1.ex
      have hpk := HG.out.2.1
      obtain ⟨va, vc, rfl, hv1, hv2⟩ := own_form o1
      obtain ⟨pn, hpn⟩ : ∃ pn, pn = ps.length := ⟨_, rfl⟩
      rw [← hpn] at hpk o1 hv1 ⊢
      have HPn : Hid (pn = ps.length) := hpn
      have HO1 : Hid (wr.ownsRow w1.heap.size 23 1 (.slice va pn vc) pn Vs) := o1
      have HO3 : Hid (Vs.length = ps.length ∧ ∀ (j : Nat) p, ps[j]? = some p → ∃ a c, Vs[j]? = some (.slice a p.length c) ∧ p.length ≤ c ∧ c ≤ 9223372036854775807 ∧ (a = none → c = 0) ∧ IL wr (fun k => k < w.heap.size) a p) := ⟨o2, o3⟩
      have HLo : Hid (∀ q, (Value.slice va pn vc).ownBlock = some q → q < wr.heap.size) := own_lt o1
      have hbC : Below wr.heap.size wr (wr.alloc (Obj.cells #[.slice la X X] 23)) := (Below.refl _ _).alloc (Nat.le_refl _) _
      have zr := hbr.size
      clear o1 o2 o3 hpn
      go_wp2_with (first | simp only [s1] | (at_builtin; refine wpList_append_1 22 23 (.slice none 0 0) 24 Try.underlying22 infoIs rfl rfl (.tmp 39) (.tmp 44) rfl w1.heap.size _ pn Vs rfl (own_step HO1.out (fun j hj => hbC.block j (HLo.out j hj))) wr.heap.size (.slice la X X) rfl (by simp [go_sem]) rfl (by omega) (by omega) (by simp; omega) ?a3))
      case a3 =>
        intro v' w6 o6 g6
        have lt1 : (L.take X).length = X := by rw [List.length_take, ← HLn.out]; omega
        have ld1 : (L.drop X).length = ln - X := by rw [List.length_drop, ← HLn.out]
        have hb6 : Below w1.heap.size w1 w6 := hbr.trans (Below.trans (hbC.mono (by omega)) (g6.bel (by simp; omega) (fun q hq => own_block HO1.out q hq)))
        have hb26 : ∀ j, j < w1.heap.size → w6.heap[j]? = wr.heap[j]? := fun j hj => by
          rw [g6.gr.block j (by simp; omega) (fun q => by have := own_block HO1.out j q.symm; omega), hbC.block j (by omega)]
        have z6 := g6.gr.size
        simp at z6
        have HV6 : Hid (VO w6 w1.heap.size w.heap.size v' (ps ++ [L.take X])) := VO.put Vs HO3.out.1 HO3.out.2 (by omega) zr hbC g6 (fun q hq => own_block HO1.out q hq) (a := la) (c := X) (by rw [← HPn.out, lt1]; exact o6) (by omega) (by omega) (fun q => by have := HG.out.2.2.2.1 q; omega) (HG.out.2.2.2.2.take X)
        have HI6 : Hid (IL w6 (fun k => k < w.heap.size) (frm la X lc) (L.drop X)) := (HG.out.2.2.2.2.drop X lc (by rw [← HLn.out]; exact hl1)).keep (fun b hb _ => hb26 b (by omega)) (by omega) (fun _ h _ => h)
        have HL2 : Hid ((L.drop X).length = ln - X ∧ CB l (ps ++ [L.take X]) (L.drop X) ∧ (frm la X lc = none → lc - X = 0)) := ⟨ld1, HG.out.2.2.1.cut X, fun q => frm_none HG.out.2.2.2.1 q⟩
        have HK : Hid ((ps ++ [L.take X]).length ≤ k + 1) := by unfold Hid; rw [List.length_append, ← HPn.out]; simp; omega
        clear o6 g6 lt1 ld1 hb26
        go_wp2_with (simp only [s2])
        exact ⟨⟨k + 1, by omega, by go_num, ⟨ps ++ [L.take X], L.drop X, frm la X lc, lc - X, HV6.out, HK.out, HL2.out.2.1, by rw [HL2.out.1], by rw [HL2.out.1]; omega, by omega, HL2.out.2.2, HI6.out⟩, hb6⟩, by simp [intOf]; omega⟩
      --]
    · obtain rfl : k = qn := by omega
      obtain ⟨w2, hw2⟩ : ∃ x, x = wr := ⟨wr, rfl⟩
      subst hw2
      subst hlv
      obtain ⟨Vs, o1, o2, o3⟩ := hV.ex
      obtain ⟨va, vc, rfl, hv1, hv2⟩ := own_form o1
      obtain ⟨pn, hpn⟩ : ∃ pn, pn = ps.length := ⟨_, rfl⟩
      obtain ⟨ln, hln⟩ : ∃ ln, ln = L.length := ⟨_, rfl⟩
      rw [← hpn] at hpk o1 hv1 ⊢
      rw [← hln] at hl1 ⊢
      have HPn : Hid (pn = ps.length) := hpn
      have HLn : Hid (ln = L.length) := hln
      have HO1 : Hid (w2.ownsRow w1.heap.size 23 1 (.slice va pn vc) pn Vs) := o1
      have HO3 : Hid (Vs.length = ps.length ∧ ∀ (j : Nat) p, ps[j]? = some p → ∃ a c, Vs[j]? = some (.slice a p.length c) ∧ p.length ≤ c ∧ c ≤ 9223372036854775807 ∧ (a = none → c = 0) ∧ IL w2 (fun k => k < w.heap.size) a p) := ⟨o2, o3⟩
      have HLo : Hid (∀ q, (Value.slice va pn vc).ownBlock = some q → q < w2.heap.size) := own_lt o1
      have hbC : Below w2.heap.size w2 (w2.alloc (Obj.cells #[.slice la ln lc] 23)) := (Below.refl _ _).alloc (Nat.le_refl _) _
      have HG : Hid (CB l ps L ∧ (la = none → lc = 0) ∧ IL w2 (fun k => k < w.heap.size) la L) := ⟨hCB, hl3, hl4⟩
      have zr := hbr.size
      clear hG o1 o2 o3 hpn hln hV hCB hl3 hl4 hlt
      go_wp2_with (at_builtin; refine wpList_append_1 22 23 (.slice none 0 0) 24 Try.underlying22 infoIs rfl rfl (.tmp 50) (.tmp 52) rfl w1.heap.size _ pn Vs rfl (own_step HO1.out (fun j hj => hbC.block j (HLo.out j hj))) w2.heap.size (.slice la ln lc) rfl (by simp [go_sem]) rfl (by omega) (by omega) (by simp; omega) ?a4)
      case a4 =>
        intro v' w6 o6 g6
        have hb16 : Below w1.heap.size w1 w6 := hbr.trans (Below.trans (hbC.mono (by omega)) (g6.bel (by simp; omega) (fun q hq => own_block HO1.out q hq)))
        have z6 := hb16.size
        have hV6 : VO w6 w1.heap.size w.heap.size v' (ps ++ [L]) := VO.put Vs HO3.out.1 HO3.out.2 (by omega) zr hbC g6 (fun q hq => own_block HO1.out q hq) (a := la) (c := lc) (by rw [← HPn.out, ← HLn.out]; exact o6) (by rw [← HLn.out]; exact hl1) hl2 HG.out.2.1 HG.out.2.2
        obtain ⟨pa, pc, hv', p1, p2, p3⟩ := hV6.PL (by omega)
        have HPl : Hid ((ps ++ [L]).length = pn + 1) := by unfold Hid; rw [List.length_append, ← HPn.out]; rfl
        rw [HPl.out] at hv' p1
        subst hv'
        have HFl : Hid ((ps ++ [L]).flatten = l) := by
          unfold Hid
          rw [List.flatten_append]
          show ps.flatten ++ (L ++ []) = l
          rw [List.append_nil]; exact HG.out.1.all
        have htl : tlen (ps ++ [L]) = m := by rw [← tlen_flat, HFl.out, Hm.out]
        have hq1 := Dither_any z Hz.out (ps ++ [L]) pa pc w6 p3 (by rw [HPl.out]; exact p1) p2 (by rw [HPl.out]; omega) (by omega)
        rw [HPl.out] at hq1
        have hb06 : Below w.heap.size w w6 := hb01.trans (hb16.mono (by omega))
        have HL6 : Hid (IL w6 (fun k => k < w.heap.size) ao l) := HL1.out.keep (fun b hk _ => hb16.block b (by omega)) hb16.size (fun _ h _ => h)
        have zl6 : w.heap.size ≤ w6.heap.size := by omega
        have HLast : Hid ((dth (new z) (ps ++ [L]))[pn]? = some (prr (stn (new z) ps) L)) := by unfold Hid; rw [HPn.out]; exact last_get _ _ _
        clear o6 g6 hV6 p3 HO1 HO3 HLo hbC HG HL1 hbr hb16 hb01 HQ1 htl
        go_wp2_with fail
        refine hq1.mono ?_
        rintro e w3 ⟨⟨v1, bs1, rfl, hbs1, hDR1⟩, hb3⟩
        obtain ⟨ra, rc, hv1e, r1, r2, r3, hRd1⟩ := hDR1.rd
        rw [dth_len, HPl.out] at hv1e r1
        subst hv1e
        have hb03 : Below w.heap.size w w3 := hb06.trans (hb3.mono hb06.size)
        have z3 := hb3.size
        have HL3 : Hid (IL w3 (fun k => k < w3.heap.size) ao l) := HL6.out.keep (fun b hk _ => hb3.block b (by omega)) hb3.size (fun b hk _ => by omega)
        obtain ⟨W4, hW4⟩ : ∃ X, X = w3.alloc (Obj.cells #[.slice ao m cp] 23) := ⟨_, rfl⟩
        have hb34 : Below w3.heap.size w3 W4 := by rw [hW4]; exact (Below.refl _ _).alloc (Nat.le_refl _) _
        have c4 : W4.cell? ⟨w3.heap.size, 0, none⟩ = some (.slice ao m cp) := by rw [hW4]; simp [go_sem]
        have z4 : W4.heap.size = w3.heap.size + 1 := by rw [hW4]; simp
        have hPL4 : PL W4 W4.heap.size (some ⟨w3.heap.size, 0, none⟩) [l] := ⟨fun _ => ⟨w3.heap.size, 0, rfl, by omega, by omega, fun j p hj => by
          match j, hj with
          | 0, hj => simp at hj; subst hj; exact ⟨ao, cp, by rw [Hm.out]; exact c4, by rw [Hm.out]; exact hle, hcm, HNil.out, HL3.out.keep (fun b hb hl => hb34.block b hl) hb34.size (fun b hb _ => by omega)⟩⟩⟩
        have hq2 := Dither_any z Hz.out [l] _ 1 W4 hPL4 (Nat.le_refl _) (by decide) (by show 1 ≤ 1048577; decide) (by have := Hm.out; simp [tlen]; omega)
        have e1 : ([l] : List (List Int)).length = 1 := rfl
        rw [e1] at hq2
        have HR1 : Hid (DRd W4 (fun b => b < W4.heap.size) ra (dth (new z) (ps ++ [L]))) := hRd1.keep (fun b _ hl => hb34.block b hl) hb34.size (fun b _ hl => by omega)
        have HB4 : Hid (Below w.heap.size w W4) := hb03.trans (hb34.mono hb03.size)
        have HL4 : Hid (IL W4 (fun k => k < W4.heap.size) ao l) := HL3.out.keep (fun b _ hl => hb34.block b hl) hb34.size (fun b _ hl => by omega)
        clear hq1 hb3 hb06 HL6 hDR1 hRd1 hPL4 c4 hb34 hb03 e1 HL3 z4
        go_wp2_with fail
        rw [← hW4]
        clear hW4
        refine hq2.mono ?_
        rintro e w7 ⟨⟨v2, bs2, rfl, hbs2, hDR2⟩, hb7⟩
        obtain ⟨rb, rd, hv2e, r4, r5, r6, hRd2⟩ := hDR2.rd
        have e2 : (dth (new z) [l]).length = 1 := dth_len _ _
        rw [e2] at hv2e r4
        subst hv2e
        have HA : Hid (DRd w7 (fun b => b < w7.heap.size) ra (dth (new z) (ps ++ [L]))) := HR1.out.keep (fun b hb _ => hb7.block b hb) hb7.size (fun b hb _ => by have := hb7.size; omega)
        have HBr : Hid (DRd w7 (fun b => b < w7.heap.size) rb (dth (new z) [l])) := hRd2.keep (fun _ _ _ => rfl) (Nat.le_refl _) (fun b _ hl => hl)
        have HL7 : Hid (IL w7 (fun k => k < w7.heap.size) ao l) := HL4.out.keep (fun b hb _ => hb7.block b hb) hb7.size (fun b hb _ => by have := hb7.size; omega)
        have HB7 : Hid (Below w.heap.size w w7) := HB4.out.trans (hb7.mono HB4.out.size)
        obtain ⟨bb, hbb, lbb, _, hb0⟩ := HBr.out.at' (by rw [e2]; decide)
        subst hbb
        obtain ⟨⟨sa, sc, s0, s1, s2, s3, s4⟩, s5, s6, s7⟩ := hb0 0 (prr (new z) l) rfl
        have HS4 : Hid (IL w7 (fun k => k < w7.heap.size) sa (prr (new z) l).l) := s4
        clear hq2 hb7 hDR2 hRd2 HR1 HL4 HB4 hb0 s4 e2 HBr
        have t0 : w7.cell? ⟨bb, 0, none⟩ = some (.slice sa (prr (new z) l).l.length sc) := s0
        have t5 : w7.cell? ⟨bb, 1, none⟩ = some (.int .i64 (prr (new z) l).e) := s5
        have t6 : w7.cell? ⟨bb, 2, none⟩ = some (.int .i64 (prr (new z) l).loud) := s6
        have t7 : w7.cell? ⟨bb, 3, none⟩ = some (.int .i64 (prr (new z) l).clip) := s7
        clear s0 s5 s6 s7
        obtain ⟨PS, hPS⟩ : ∃ PS, PS = ps ++ [L] := ⟨_, rfl⟩
        rw [← hPS] at HPl HFl HA HLast
        have HPS : Hid (PS = ps ++ [L]) := hPS
        clear hPS
        obtain ⟨PR, hPR⟩ : ∃ PR, PR = prr (new z) l := ⟨_, rfl⟩
        rw [← hPR] at t0 t5 t6 t7 s1 HS4
        have HPR : Hid (PR = prr (new z) l) := hPR
        have l0 := lt_cell t0
        obtain ⟨sn, hsn⟩ : ∃ sn, sn = PR.l.length := ⟨_, rfl⟩
        rw [← hsn] at t0 s1
        have HSn : Hid (sn = PR.l.length) := hsn
        clear hPR hsn
        have hMl : ∀ k, (alls (new z) PS k).length ≤ 1048576 := fun k => by
          unfold alls
          rw [outs_len]
          have h1 : (PS.take k).flatten.length ≤ PS.flatten.length := by
            conv => rhs; rw [← List.take_append_drop k PS, List.flatten_append, List.length_append]
            omega
          rw [HFl.out, Hm.out] at h1
          omega
        have HMl : Hid (∀ k, (alls (new z) PS k).length ≤ 1048576) := hMl
        clear hMl
        go_wp2_with fail
        go_loopw [73, 13] (fun i v ww => ∃ j : Nat, j ≤ pn + 1 ∧ i = .int .i64 j ∧ Hid ((PS.take j).all (inR mS) = true) ∧ Hid (ww.ownsRow w7.heap.size 3 1 v (alls (new z) PS j).length (ints (alls (new z) PS j))) ∧ Hid (Below w7.heap.size w7 ww)) (fun i _ _ => pn + 1 - (intOf i).toNat)
        case atStart => exact ⟨0, by omega, rfl, rfl, World.ownsRow_nil _ _ _ _, Below.refl _ _⟩
        case round =>
          obtain ⟨j, hj, rfl, hOk, hOw, hbj⟩ := hrel
          have zj := hbj.out.size
          obtain ⟨oa, oc, rfl, oc1, oc2⟩ := own_form hOw.out
          have hML := HMl.out j
          by_cases hlt : j < pn + 1
          · obtain ⟨p, hx⟩ : ∃ p, PS[j]? = some p := ⟨_, List.getElem?_eq_getElem (by rw [HPl.out]; exact hlt)⟩
            obtain ⟨ab', haw, lab, _, hd0⟩ := (HA.out.keep (w' := wr) (S' := fun b => b < w7.heap.size) (fun b hb _ => hbj.out.block b hb) zj (fun _ h _ => h)).at' (by rw [dth_len, HPl.out]; omega)
            subst haw
            obtain ⟨⟨ya, yc, y0, y1, y2, y3, y4⟩, y5, y6, y7⟩ := hd0 j _ (dth_get (new z) hx)
            have hlt' : (j : Int) < (pn : Int) + 1 := by omega
            have w3 : IntKind.i64.wrap ((j : Int) + 1) = (j : Int) + 1 := wid (by omega) (by omega)
            have he := prr_e (stn (new z) (PS.take j)) p
            obtain ⟨wl, hwl⟩ : ∃ x, x = wr := ⟨wr, rfl⟩
            subst hwl
            have u0 : wl.cell? ⟨bb, 0, none⟩ = some (.slice sa sn sc) := keepC hbj.out l0 t0
            have u5 : wl.cell? ⟨bb, 1, none⟩ = some (.int .i64 PR.e) := keepC hbj.out l0 t5
            have lbw : bb < wl.heap.size := lt_cell u5
            have law : ab' < wl.heap.size := lab
            cases hin : inR mS p
            · rw [hin] at he
              have hno := flat_no hx hin
              rw [HFl.out] at hno
              have hPe : PR.e = 3 := by rw [HPR.out, prr_e, hno]; rfl
              rw [hPe] at u5
              generalize prr (stn (new z) (PS.take j)) p = PP at *
              rw [he] at y5
              have HBe : Hid (Below w.heap.size w wl) := HB7.out.trans (hbj.out.mono HB7.out.size)
              obtain ⟨ln2, hln2⟩ : ∃ ln2, ln2 = PP.l.length := ⟨_, rfl⟩
              rw [← hln2] at y0
              clear hd0 hx he hin y4 hOk hOw hln2
              go_wp2_with fail
              go_ret
              exact ⟨rfl, HBe.out.trans ((Below.refl _ _).alloc (by have := HBe.out.size; omega) _)⟩
            · rw [hin] at he
              have HOk : Hid ((PS.take (j + 1)).all (inR mS) = true) := ok_step hx hOk.out hin
              have HAl : Hid (alls (new z) PS (j + 1) = alls (new z) PS j ++ (prr (stn (new z) (PS.take j)) p).l) := alls_step (new z) hx hOk.out hin
              have HMl1 : Hid ((alls (new z) PS (j + 1)).length ≤ 1048576) := HMl.out (j + 1)
              generalize prr (stn (new z) (PS.take j)) p = PP at *
              rw [he] at y5
              generalize alls (new z) PS j = AA at *
              obtain ⟨an, han⟩ : ∃ an, an = AA.length := ⟨_, rfl⟩
              obtain ⟨ln2, hln2⟩ : ∃ ln2, ln2 = PP.l.length := ⟨_, rfl⟩
              rw [← hln2] at y0 y1
              rw [← han] at hML oc1 hOw ⊢
              have hle2 : an + ln2 ≤ 1048576 := by
                have h1 := HMl1.out
                rw [HAl.out, List.length_append, ← han, ← hln2] at h1
                exact h1
              have HLn2 : Hid (ln2 = PP.l.length ∧ an = AA.length) := ⟨hln2, han⟩
              have HY4 : Hid (IL wl (fun b => b < w7.heap.size) ya PP.l) := y4
              obtain ⟨W5, hW5⟩ : ∃ X, X = wl.alloc (Obj.cells #[.slice ya ln2 yc, .int .i64 0, .int .i64 PP.loud, .int .i64 PP.clip] 39) := ⟨_, rfl⟩
              have hb5 : Below wl.heap.size wl W5 := by rw [hW5]; exact (Below.refl _ _).alloc (Nat.le_refl _) _
              have hO5 : W5.ownsRow w7.heap.size 3 1 (.slice oa an oc) an (ints AA) := own_step hOw.out (fun q hq => hb5.block q (own_lt hOw.out q hq))
              have hI5 : IL W5 (fun b => b < w7.heap.size) ya PP.l := y4.keep (fun b hb hl => hb5.block b hl) hb5.size (fun _ h _ => h)
              have hz5 : w7.heap.size ≤ W5.heap.size := by have := hb5.size; omega
              rw [hW5] at hO5 hI5 hz5
              have HB5 : Hid (Below w7.heap.size w7 W5 ∧ W5.heap.size = wl.heap.size + 1) := ⟨hbj.out.trans (hb5.mono zj), by rw [hW5]; simp⟩
              have h63 : an + ln2 ≤ 17592186044416 := by omega
              have hPl2 : PP.l.length = ln2 := hln2.symm
              clear hd0 hx he hin y4 hOk hln2 han hb5 u0 u5
              go_wp2_with (at_builtin; refine wpList_append_il rfl (.tmp 85) (.tmp 87) rfl w7.heap.size _ an (ints AA) rfl hO5 _ PP.l ln2 hPl2 ya yc rfl y1 y3 hI5 h63 hz5 ?a5)
              case a5 =>
                intro v' w8 o8 g8
                rw [← hW5] at g8
                have hbg : Below w7.heap.size w7 w8 := HB5.out.1.trans (g8.bel (by have := HB5.out.2; omega) (fun q hq => by
                  have := own_block hOw.out q hq
                  exact this))
                have HO8 : Hid (w8.ownsRow w7.heap.size 3 1 v' (alls (new z) PS (j + 1)).length (ints (alls (new z) PS (j + 1)))) := by
                  unfold Hid
                  rw [HAl.out, List.length_append, ← HLn2.out.1, ← HLn2.out.2, show ints (AA ++ PP.l) = ints AA ++ ints PP.l by unfold ints; rw [List.map_append]]
                  exact o8
                have HB8 : Hid (Below w7.heap.size w7 w8) := hbg
                clear o8 g8 hbg hW5 hO5 hI5 hz5 HB5
                go_wp2_with fail
                exact ⟨⟨j + 1, by omega, by go_num, HOk, HO8, HB8⟩, by simp [intOf]; omega⟩
          · obtain rfl : j = pn + 1 := by omega
            have htk : PS.take (pn + 1) = PS := List.take_of_length_le (by rw [HPl.out]; exact Nat.le_refl _)
            have hin : inR mS l = true := by
              have h1 := hOk.out
              rw [htk] at h1
              rw [← HFl.out, inR_flat]; exact h1
            have hal : alls (new z) PS (pn + 1) = outs (new z) l := by unfold alls; rw [htk, HFl.out]
            have hpr : PR = ⟨outs (new z) l, 0, (sts (new z) l).loud, (sts (new z) l).clip⟩ := by rw [HPR.out]; unfold prr; rw [if_pos hin]
            have hlst : (prr (stn (new z) ps) L).loud = (sts (new z) l).loud ∧ (prr (stn (new z) ps) L).clip = (sts (new z) l).clip := by
              have h1 := last_pr (new z) (ps := ps) (L := L) (by rw [← HPS.out, HFl.out]; exact hin)
              rw [← HPS.out, HFl.out] at h1
              exact h1
            obtain ⟨wl, hwl⟩ : ∃ x, x = wr := ⟨wr, rfl⟩
            subst hwl
            rw [hal] at hOw oc1 ⊢
            rw [outs_len, Hm.out] at hOw oc1 ⊢
            have hsn : sn = m := by rw [HSn.out, hpr]; show (outs (new z) l).length = m; rw [outs_len, Hm.out]
            subst hsn
            have u0 : wl.cell? ⟨bb, 0, none⟩ = some (.slice sa sn sc) := keepC hbj.out l0 t0
            have u5 : wl.cell? ⟨bb, 1, none⟩ = some (.int .i64 PR.e) := keepC hbj.out l0 t5
            have u6 : wl.cell? ⟨bb, 2, none⟩ = some (.int .i64 PR.loud) := keepC hbj.out l0 t6
            have u7 : wl.cell? ⟨bb, 3, none⟩ = some (.int .i64 PR.clip) := keepC hbj.out l0 t7
            rw [hpr] at u5 u6 u7
            have u5' : wl.cell? ⟨bb, 1, none⟩ = some (.int .i64 0) := u5
            have u6' : wl.cell? ⟨bb, 2, none⟩ = some (.int .i64 (sts (new z) l).loud) := u6
            have u7' : wl.cell? ⟨bb, 3, none⟩ = some (.int .i64 (sts (new z) l).clip) := u7
            have lbw : bb < wl.heap.size := lt_cell u0
            have HSa : Hid (IL wl (fun b => b < w7.heap.size) sa (outs (new z) l)) := by
              have h1 := HS4.out.keep (w' := wl) (S' := fun b => b < w7.heap.size) (fun b hb _ => hbj.out.block b hb) zj (fun _ h _ => h)
              rw [hpr] at h1
              exact h1
            obtain ⟨ab', haw, lab, _, hd0⟩ := (HA.out.keep (w' := wl) (S' := fun b => b < w7.heap.size) (fun b hb _ => hbj.out.block b hb) zj (fun _ h _ => h)).at' (by rw [dth_len, HPl.out]; omega)
            subst haw
            obtain ⟨⟨ya, yc, y0, y1, y2, y3, y4⟩, y5, y6, y7⟩ := hd0 pn _ HLast.out
            rw [hlst.1] at y6
            rw [hlst.2] at y7
            have ye : (prr (stn (new z) ps) L).l.length = (prr (stn (new z) ps) L).l.length := rfl
            generalize (prr (stn (new z) ps) L).l.length = yl at *
            generalize (prr (stn (new z) ps) L).e = yE at *
            have HOw : Hid (wl.ownsRow w7.heap.size 3 1 (.slice oa sn oc) sn (ints (outs (new z) l))) := hOw
            have HHm : Hid (l.length = sn) := Hm.out
            have HL9 : Hid (IL wl (fun b => b < w7.heap.size) ao l) := HL7.out.keep (fun b hb _ => hbj.out.block b hb) zj (fun _ h _ => h)
            have HBw : Hid (Below w.heap.size w wl) := HB7.out.trans (hbj.out.mono HB7.out.size)
            have hst := fun hc => step_in Hz.out (l := l) hc (by rw [Hm.out]; exact hlen)
            have Hst : Hid ((sts (new z) l).clip = 0 → ∀ k, k ≤ l.length → -4503599627370496 ≤ sm (l.take k) ∧ sm (l.take k) ≤ 4503599627370496 ∧ -4503599627370496 ≤ 65536 * sm ((outs (new z) l).take k) ∧ 65536 * sm ((outs (new z) l).take k) ≤ 4503599627370496 ∧ -65536 < sm (l.take k) - 65536 * sm ((outs (new z) l).take k) ∧ sm (l.take k) - 65536 * sm ((outs (new z) l).take k) < 65536) := hst
            have HOl : Hid ((outs (new z) l).length = sn) := by unfold Hid; rw [outs_len, Hm.out]
            generalize (sts (new z) l).loud = LO at *
            generalize (sts (new z) l).clip = CL at *
            generalize outs (new z) l = OO at *
            have hpn1 : IntKind.i64.wrap ((pn : Int) + 1 - 1) = (pn : Int) := by rw [show (pn : Int) + 1 - 1 = (pn : Int) by omega]; exact wid (by omega) (by omega)
            have hpn2 : (pn : Int) + 1 - 1 = (pn : Int) := by omega
            obtain ⟨ja, jc, hje, j1, j2, j3, j4⟩ := IL.own HOw.out HOl.out
            have hjo : oa = ja ∧ oc = jc := by
              injection hje with h1 h2 h3
              exact ⟨h1, h3⟩
            obtain ⟨rfl, rfl⟩ := hjo
            obtain ⟨W9, hW9⟩ : ∃ X, X = wl.alloc (Obj.cells #[.slice ya yl yc, .int .i64 yE, .int .i64 LO, .int .i64 CL] 39) := ⟨_, rfl⟩
            have hb9 : Below wl.heap.size wl W9 := by rw [hW9]; exact (Below.refl _ _).alloc (Nat.le_refl _) _
            have g2 : W9.cell? ⟨wl.heap.size, 2, none⟩ = some (.int .i64 LO) := by rw [hW9]; simp [go_sem]
            have g3 : W9.cell? ⟨wl.heap.size, 3, none⟩ = some (.int .i64 CL) := by rw [hW9]; simp [go_sem]
            have v0 : W9.cell? ⟨bb, 0, none⟩ = some (.slice sa sn sc) := keepC hb9 lbw u0
            have v5 : W9.cell? ⟨bb, 1, none⟩ = some (.int .i64 0) := keepC hb9 lbw u5'
            have v6 : W9.cell? ⟨bb, 2, none⟩ = some (.int .i64 LO) := keepC hb9 lbw u6'
            have v7 : W9.cell? ⟨bb, 3, none⟩ = some (.int .i64 CL) := keepC hb9 lbw u7'
            have hS : ∀ q, Calls Try.prog 9 #[.slice oa sn oc, .slice sa sn sc] (W9.drewN q) fun e w'' => e = .returned (.bool true) ∧ ∃ m, w'' = W9.drewN m := fun q =>
              (Same_q (W9.drewN q) (fun _ => True) _ oa sa OO sn oc sc ((j4.keep (w' := W9) (S' := fun _ => True) (fun b _ hl => hb9.block b hl) hb9.size (fun _ _ _ => trivial)).keep (fun _ _ _ => rfl) (Nat.le_refl _) (fun _ h _ => h)) ((HSa.out.keep (w' := W9) (fun b _ hl => hb9.block b hl) hb9.size (fun _ h _ => h)).keep (fun _ _ _ => rfl) (Nat.le_refl _) (fun _ h _ => h)) HOl.out oc1 oc2 s1 s2).mono (fun e w'' h => ⟨h.1, by obtain ⟨m, hm⟩ := h.2; exact ⟨q + m, by rw [hm, World.drewN_drewN]⟩⟩)
            have HL10 : Hid (IL W9 (fun b => b < w7.heap.size) ao l) := HL9.out.keep (fun b _ hl => hb9.block b hl) hb9.size (fun _ h _ => h)
            have HJ : Hid (IL W9 (fun b => some b = (Value.slice oa sn oc).ownBlock) oa OO) := j4.keep (fun b _ hl => hb9.block b hl) hb9.size (fun _ h _ => h)
            have HB9 : Hid (Below w.heap.size w W9) := HBw.out.trans (hb9.mono HBw.out.size)
            have n1 : ((0 : Int) != (0 : Int)) = false := by decide
            have n2 : (LO != LO) = false := by simp
            have n3 : ((CL : Int) != (CL : Int)) = false := by simp
            have n4 : ((sn : Int) != (sn : Int)) = false := by simp
            obtain ⟨lb, hlb⟩ : ∃ lb, lb = wl.heap.size := ⟨_, rfl⟩
            rw [← hlb] at g2 g3
            have hlbz : lb < W9.heap.size := by rw [hW9, hlb]; simp
            have hbbz : bb < W9.heap.size := lt_cell v0
            clear hd0 y4 hOk hOw u5 u6 u7 t0 t5 t6 t7 hpr hal hin hst hlst HA HS4 HMl hML u0 u5' u6' u7' hb9 hje j4 HSa HL9 HOw HBw
            go_wp2_with fail
            rw [← hW9, ← hlb]
            clear hW9 hlb
            go_quiet (exact hS _)
            by_cases hCL : 0 < CL
            · have hCL' : (0 : Int) < (CL : Int) := by omega
              clear hS
              go_wp2_with fail
              go_ret
              exact ⟨rfl, HB9.out.trans belD⟩
            · have hCL' : ¬ (0 : Int) < (CL : Int) := by omega
              by_cases hbig : 100000 < sn
              · have hbig' : (100000 : Int) < (sn : Int) := by omega
                clear hS
                go_wp2_with fail
                go_ret
                exact ⟨rfl, HB9.out.trans belD⟩
              · have hbig' : ¬ (100000 : Int) < (sn : Int) := by omega
                have HSt := Hst.out (by omega)
                have HSt' : Hid (∀ k, k ≤ l.length → -4503599627370496 ≤ sm (l.take k) ∧ sm (l.take k) ≤ 4503599627370496 ∧ -4503599627370496 ≤ 65536 * sm (OO.take k) ∧ 65536 * sm (OO.take k) ≤ 4503599627370496 ∧ -65536 < sm (l.take k) - 65536 * sm (OO.take k) ∧ sm (l.take k) - 65536 * sm (OO.take k) < 65536) := HSt
                clear HSt Hst hS
                go_wp2_with fail
                go_loopw [145, 17, 18] (fun i a b ww => ∃ j q : Nat, j ≤ sn ∧ i = .int .i64 j ∧ a = .int .i64 (sm (l.take j)) ∧ b = .int .i64 (65536 * sm (OO.take j)) ∧ ww = W9.drewN q) (fun i _ _ _ => sn - (intOf i).toNat)
                case atStart => exact ⟨0, nq, by omega, rfl, rfl, rfl, rfl⟩
                case round =>
                  obtain ⟨j, q3, hj, rfl, rfl, rfl, rfl⟩ := hrel
                  by_cases hlt : j < sn
                  · obtain ⟨x, hx⟩ : ∃ x, l[j]? = some x := ⟨_, List.getElem?_eq_getElem (by rw [HHm.out]; exact hlt)⟩
                    obtain ⟨y, hy⟩ : ∃ y, OO[j]? = some y := ⟨_, List.getElem?_eq_getElem (by rw [HOl.out]; exact hlt)⟩
                    obtain ⟨xb, xo, rfl, lx, _, x0⟩ := HL10.out.at' (by rw [HHm.out]; omega)
                    obtain ⟨yb, yo, rfl, ly, _, y0⟩ := HJ.out.at' (by rw [HOl.out]; omega)
                    have cx := x0 j x hx
                    have cy := y0 j y hy
                    have hlt' : (j : Int) < (sn : Int) := by omega
                    have w3 : IntKind.i64.wrap ((j : Int) + 1) = (j : Int) + 1 := wid (by omega) (by omega)
                    have hA := HSt'.out j (by rw [HHm.out]; omega)
                    have hB := HSt'.out (j + 1) (by rw [HHm.out]; omega)
                    have eA : Hid (sm (l.take (j + 1)) = sm (l.take j) + x) := sm_step hx
                    have eB : Hid (sm (OO.take (j + 1)) = sm (OO.take j) + y) := sm_step hy
                    rw [eA.out, eB.out] at hB
                    generalize sm (l.take j) = SA at *
                    generalize sm (OO.take j) = SB at *
                    have wA : IntKind.i64.wrap (SA + x) = SA + x := wid (by omega) (by omega)
                    have wY : IntKind.i64.wrap (y * 65536) = y * 65536 := wid (by omega) (by omega)
                    have wB : IntKind.i64.wrap (65536 * SB + y * 65536) = 65536 * SB + y * 65536 := wid (by omega) (by omega)
                    have wD : IntKind.i64.wrap (SA + x - (65536 * SB + y * 65536)) = SA + x - (65536 * SB + y * 65536) := wid (by omega) (by omega)
                    have d1 : ¬ 65536 ≤ SA + x - (65536 * SB + y * 65536) := by omega
                    have d2 : ¬ SA + x - (65536 * SB + y * 65536) ≤ -65536 := by omega
                    have eB2 : Hid (65536 * SB + y * 65536 = 65536 * (SB + y)) := by show _ = _; omega
                    clear x0 y0 hx hy hA hB
                    go_wp2_with fail
                    go_quiet (fail)
                    go_wp2_with fail
                    exact ⟨⟨j + 1, _, by omega, by go_num, by rw [eA.out], by rw [eB.out, eB2.out], rfl⟩, by simp [intOf]; omega⟩
                  · go_wp2_with fail
                    go_ret
                    exact ⟨rfl, HB9.out.trans belD⟩
end Go.Proofs.Ytancpboepekflaa.Mx
