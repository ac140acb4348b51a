/- FilterBlocks: the law's text, walked. -/
import Derived.Test.YtjfmpgfpehnnjaiFi10
namespace Go.Proofs.Ytjfmpgfpehnnjai.Fi
open Go.RowKit Go.Maps Go.Sort Fl
set_option linter.unusedSimpArgs false
set_option linter.unusedVariables false

/-- Whole numbers in memory. -/
structure NL (w : World) (ao : Option Addr) (l : List Int) : Prop where
  at' : 0 < l.length → ∃ b off, ao = some ⟨b, off, none⟩ ∧ b < w.heap.size ∧ ∀ (j : Nat) x, l[j]? = some x → w.cell? ⟨b, off + j, none⟩ = some (.int .i64 x) ∧ -9223372036854775808 ≤ x ∧ x ≤ 9223372036854775807
theorem NL.bel {w w' : World} {ao : Option Addr} {l : List Int} (h : NL w ao l) (hb : Below w.heap.size w w') : NL w' ao l := ⟨fun hn => by
  obtain ⟨b, off, h1, h2, h3⟩ := h.at' hn
  exact ⟨b, off, h1, by have := hb.size; omega, fun j x hj => ⟨keepC hb h2 (h3 j x hj).1, (h3 j x hj).2⟩⟩⟩
/-- While pieces are cut. -/
structure CB (l : List Nat) (ps : List (List Nat)) (L : List Nat) : Prop where
  all : ps.flatten ++ L = l
theorem CB.cut {l : List Nat} {ps : List (List Nat)} {L : List Nat} (h : CB l ps L) (n : Nat) : CB l (ps ++ [L.take n]) (L.drop n) := ⟨by
  rw [List.flatten_append, List.append_assoc]
  show ps.flatten ++ ((L.take n ++ []) ++ L.drop n) = l
  rw [List.append_nil, List.take_append_drop]; exact h.all⟩
theorem CB.len {l : List Nat} {ps : List (List Nat)} {L : List Nat} (h : CB l ps L) : L.length ≤ l.length ∧ ∀ p ∈ ps, p.length ≤ l.length := by
  have h1 : l.length = ps.flatten.length + L.length := by rw [← h.all, List.length_append]
  refine ⟨by omega, fun p hp => ?_⟩
  have : p.length ≤ ps.flatten.length := List.Sublist.length_le (List.sublist_flatten_of_mem hp)
  omega
set_option maxRecDepth 4000 in
set_option maxHeartbeats 8000000 in
theorem blocks_walk (c : Cf) (hcw : WfC c) (l : List Nat) (ao : Option Addr) (m cp : Nat) (q : List Int) (qo : Option Addr) (qn qc : Nat) (w : World) (hm : l.length = m) (hL : IL w (fun k => k < w.heap.size) ao l) (hle : m ≤ cp) (hcm : cp ≤ 9223372036854775807) (hnil : ao = none → cp = 0) (hlen : m ≤ 1048576)
    (hqn : q.length = qn) (hQ : NL w qo q) (hqc : qn ≤ qc) (hqm : qc ≤ 9223372036854775807) (hql : qn ≤ 1048576) :
    Calls Try.prog 6 #[cv c, .slice ao m cp, .slice qo qn qc] w fun e w' => e = .returned (.bool true) ∧ Below w.heap.size w w' := by
  have HQn : Hid (q.length = qn) := hqn
  have HQ : Hid (NL w qo q) := hQ
  clear hqn hQ
  have HL : Hid (IL w (fun k => k < w.heap.size) ao l) := hL
  have Hm : Hid (l.length = m) := hm
  have HW : Hid (WfC c) := hcw
  have HNil : Hid (ao = none → cp = 0) := hnil
  have hbA : Below w.heap.size w (w.alloc (Obj.cells #[.float .f64 c.b0, .float .f64 c.b1, .float .f64 c.b2, .float .f64 c.a1, .float .f64 c.a2] 39)) := (Below.refl _ _).alloc (Nat.le_refl _) _
  clear hL hm hcw hnil
  go_enter Try.func6, Try.ntmps6
  go_wp2_with fail
  refine (alive_any _).mono ?_
  rintro e w1 ⟨rfl, hb1⟩
  have hb01 : Below w.heap.size w w1 := hbA.trans (hb1.mono (by simp))
  have z1 : w.heap.size < w1.heap.size := by have := hb1.size; simp at this; omega
  have c0 := keepC hb1 (a := ⟨w.heap.size, 0, none⟩) (v := .float .f64 c.b0) (by simp) (by simp [go_sem])
  have c1 := keepC hb1 (a := ⟨w.heap.size, 1, none⟩) (v := .float .f64 c.b1) (by simp) (by simp [go_sem])
  have c2 := keepC hb1 (a := ⟨w.heap.size, 2, none⟩) (v := .float .f64 c.b2) (by simp) (by simp [go_sem])
  have c3 := keepC hb1 (a := ⟨w.heap.size, 3, none⟩) (v := .float .f64 c.a1) (by simp) (by simp [go_sem])
  have c4 := keepC hb1 (a := ⟨w.heap.size, 4, none⟩) (v := .float .f64 c.a2) (by simp) (by simp [go_sem])
  clear hb1 hbA
  have HL1 : Hid (IL w1 (fun k => k < w.heap.size) ao l) := HL.out.keep (fun b hk _ => hb01.block b hk) hb01.size (fun _ h _ => h)
  have HQ1 : Hid (NL w1 qo q) := HQ.out.bel hb01
  clear HL HQ
  go_wp2_with fail
  go_loopw [23, 7, 8] (fun i v lv ww => ∃ k : Nat, k ≤ qn ∧ i = .int .i64 k ∧ Hid (∃ (ps : List (List Nat)) (L : List Nat) (la : Option Addr) (lc : Nat), VO ww w1.heap.size w.heap.size v ps ∧ ps.length ≤ k ∧ CB l ps L ∧ lv = .slice la L.length lc ∧ L.length ≤ lc ∧ lc ≤ 9223372036854775807 ∧ (la = none → lc = 0) ∧ IL ww (fun k => k < w.heap.size) la L) ∧ Below w1.heap.size w1 ww) (fun i _ _ _ => qn - (intOf i).toNat)
  case atStart => exact ⟨0, by omega, rfl, ⟨[], l, ao, cp, VO.nil _ _ _, Nat.le_refl _, ⟨rfl⟩, by rw [Hm.out], by rw [Hm.out]; exact hle, hcm, HNil.out, HL1.out⟩, Below.refl _ _⟩
  case round =>
    obtain ⟨k, hk, rfl, hG, hbr⟩ := hrel
    obtain ⟨ps, L, la, lc, hV, hpk, hCB, hlv, hl1, hl2, hl3, hl4⟩ := hG.out
    by_cases hlt : k < qn
    · obtain ⟨x, hx⟩ : ∃ x, q[k]? = some x := ⟨_, List.getElem?_eq_getElem (by rw [HQn.out]; exact hlt)⟩
      obtain ⟨nb, of, hqo, hnb, q0⟩ := (HQ1.out.bel hbr).at' (by rw [HQn.out]; omega)
      obtain ⟨x0, x1, x2⟩ := q0 k x hx
      have hlt' : (k : Int) < (qn : Int) := by omega
      have w3 : IntKind.i64.wrap ((k : Int) + 1) = (k : Int) + 1 := wid (by omega) (by omega)
      subst hqo
      subst hlv
      obtain ⟨ln, hln⟩ : ∃ ln, ln = L.length := ⟨_, rfl⟩
      rw [← hln] at hl1 ⊢
      have HLn : Hid (ln = L.length) := hln
      have HG : Hid (VO wr w1.heap.size w.heap.size u7 ps ∧ ps.length ≤ k ∧ CB l ps L ∧ (la = none → lc = 0) ∧ IL wr (fun k => k < w.heap.size) la L) := ⟨hV, hpk, hCB, hl3, hl4⟩
      clear hG hV hpk hCB hl3 hl4 q0 hx hln
      by_cases n1 : x < 0
      · go_wp2_with fail
        go_roundw
        case rel => exact ⟨k + 1, by omega, by go_num, ⟨ps, L, la, lc, HG.out.1, by have := HG.out.2.1; omega, HG.out.2.2.1, by rw [HLn.out], by rw [← HLn.out]; exact hl1, hl2, HG.out.2.2.2.1, HG.out.2.2.2.2⟩, hbr⟩
        case measure => simp [intOf]; omega
      by_cases n2 : (ln : Int) < x
      · go_wp2_with fail
        go_roundw
        case rel => exact ⟨k + 1, by omega, by go_num, ⟨ps, L, la, lc, HG.out.1, by have := HG.out.2.1; omega, HG.out.2.2.1, by rw [HLn.out], by rw [← HLn.out]; exact hl1, hl2, HG.out.2.2.2.1, HG.out.2.2.2.2⟩, hbr⟩
        case measure => simp [intOf]; omega
      obtain ⟨X, rfl⟩ : ∃ X : Nat, x = X := ⟨x.toNat, by omega⟩
      have hX : X ≤ ln := by omega
      have s1 := run_to la ln lc X (by omega)
      have s2 := run_from la ln lc X hX
      obtain ⟨Vs, o1, o2, o3⟩ := HG.out.1.ex
      have hpk := HG.out.2.1
      obtain ⟨va, vc, rfl, hv1, hv2⟩ := own_form o1
      obtain ⟨pn, hpn⟩ : ∃ pn, pn = ps.length := ⟨_, rfl⟩
      rw [← hpn] at hpk o1 hv1 ⊢
      have HPn : Hid (pn = ps.length) := hpn
      have HO1 : Hid (wr.ownsRow w1.heap.size 34 1 (.slice va pn vc) pn Vs) := o1
      have HO3 : Hid (Vs.length = ps.length ∧ ∀ (j : Nat) p, ps[j]? = some p → ∃ a c, Vs[j]? = some (.slice a p.length c) ∧ p.length ≤ c ∧ c ≤ 9223372036854775807 ∧ (a = none → c = 0) ∧ IL wr (fun k => k < w.heap.size) a p) := ⟨o2, o3⟩
      have HLo : Hid (∀ q, (Value.slice va pn vc).ownBlock = some q → q < wr.heap.size) := own_lt o1
      have hbC : Below wr.heap.size wr (wr.alloc (Obj.cells #[.slice la X X] 34)) := (Below.refl _ _).alloc (Nat.le_refl _) _
      have zr := hbr.size
      clear o1 o2 o3 hpn x1 x2
      go_wp2_with (first | simp only [s1] | (at_builtin; refine wpList_append_1 29 34 (.slice none 0 0) 24 Try.underlying29 infoFs rfl (by omega) rfl (.tmp 35) (.tmp 40) rfl w1.heap.size _ pn Vs rfl (own_step HO1.out (fun j hj => hbC.block j (HLo.out j hj))) wr.heap.size (.slice la X X) rfl (by simp [go_sem]) rfl (by omega) (by simp; omega) ?a3))
      case a3 =>
        intro v' w6 o6 g6
        have lt1 : (L.take X).length = X := by rw [List.length_take, ← HLn.out]; omega
        have ld1 : (L.drop X).length = ln - X := by rw [List.length_drop, ← HLn.out]
        have hb6 : Below w1.heap.size w1 w6 := hbr.trans (Below.trans (hbC.mono (by omega)) (g6.bel (by simp; omega) (fun q hq => own_block HO1.out q hq)))
        have hb26 : ∀ j, j < w1.heap.size → w6.heap[j]? = wr.heap[j]? := fun j hj => by
          rw [g6.gr.block j (by simp; omega) (fun q => by have := own_block HO1.out j q.symm; omega), hbC.block j (by omega)]
        have z6 := g6.gr.size
        simp at z6
        have HV6 : Hid (VO w6 w1.heap.size w.heap.size v' (ps ++ [L.take X])) := VO.put Vs HO3.out.1 HO3.out.2 (by omega) zr hbC g6 (fun q hq => own_block HO1.out q hq) (a := la) (c := X) (by rw [← HPn.out, lt1]; exact o6) (by omega) (by omega) (fun q => by have := HG.out.2.2.2.1 q; omega) (HG.out.2.2.2.2.take X)
        have HI6 : Hid (IL w6 (fun k => k < w.heap.size) (frm la X lc) (L.drop X)) := (HG.out.2.2.2.2.drop X lc (by rw [← HLn.out]; exact hl1)).keep (fun b hb _ => hb26 b (by omega)) (by omega) (fun _ h _ => h)
        have HL2 : Hid ((L.drop X).length = ln - X ∧ CB l (ps ++ [L.take X]) (L.drop X) ∧ (frm la X lc = none → lc - X = 0)) := ⟨ld1, HG.out.2.2.1.cut X, fun q => frm_none HG.out.2.2.2.1 q⟩
        have HK : Hid ((ps ++ [L.take X]).length ≤ k + 1) := by unfold Hid; rw [List.length_append, ← HPn.out]; simp; omega
        clear o6 g6 lt1 ld1 hb26
        go_wp2_with (simp only [s2])
        exact ⟨⟨k + 1, by omega, by go_num, ⟨ps ++ [L.take X], L.drop X, frm la X lc, lc - X, HV6.out, HK.out, HL2.out.2.1, by rw [HL2.out.1], by rw [HL2.out.1]; omega, by omega, HL2.out.2.2, HI6.out⟩, hb6⟩, by simp [intOf]; omega⟩
    · obtain rfl : k = qn := by omega
      obtain ⟨w2, hw2⟩ : ∃ x, x = wr := ⟨wr, rfl⟩
      subst hw2
      subst hlv
      obtain ⟨Vs, o1, o2, o3⟩ := hV.ex
      obtain ⟨va, vc, rfl, hv1, hv2⟩ := own_form o1
      obtain ⟨pn, hpn⟩ : ∃ pn, pn = ps.length := ⟨_, rfl⟩
      obtain ⟨ln, hln⟩ : ∃ ln, ln = L.length := ⟨_, rfl⟩
      rw [← hpn] at hpk o1 hv1 ⊢
      rw [← hln] at hl1 ⊢
      have HPn : Hid (pn = ps.length) := hpn
      have HLn : Hid (ln = L.length) := hln
      have HO1 : Hid (w2.ownsRow w1.heap.size 34 1 (.slice va pn vc) pn Vs) := o1
      have HO3 : Hid (Vs.length = ps.length ∧ ∀ (j : Nat) p, ps[j]? = some p → ∃ a c, Vs[j]? = some (.slice a p.length c) ∧ p.length ≤ c ∧ c ≤ 9223372036854775807 ∧ (a = none → c = 0) ∧ IL w2 (fun k => k < w.heap.size) a p) := ⟨o2, o3⟩
      have HLo : Hid (∀ q, (Value.slice va pn vc).ownBlock = some q → q < w2.heap.size) := own_lt o1
      have hbC : Below w2.heap.size w2 (w2.alloc (Obj.cells #[.slice la ln lc] 34)) := (Below.refl _ _).alloc (Nat.le_refl _) _
      have HG : Hid (CB l ps L ∧ (la = none → lc = 0) ∧ IL w2 (fun k => k < w.heap.size) la L) := ⟨hCB, hl3, hl4⟩
      have zr := hbr.size
      clear hG o1 o2 o3 hpn hln hV hCB hl3 hl4 hlt
      go_wp2_with (at_builtin; refine wpList_append_1 29 34 (.slice none 0 0) 24 Try.underlying29 infoFs rfl (by omega) rfl (.tmp 46) (.tmp 48) rfl w1.heap.size _ pn Vs rfl (own_step HO1.out (fun j hj => hbC.block j (HLo.out j hj))) w2.heap.size (.slice la ln lc) rfl (by simp [go_sem]) rfl (by omega) (by simp; omega) ?a4)
      case a4 =>
        intro v' w6 o6 g6
        have hb16 : Below w1.heap.size w1 w6 := hbr.trans (Below.trans (hbC.mono (by omega)) (g6.bel (by simp; omega) (fun q hq => own_block HO1.out q hq)))
        have z6 := hb16.size
        have hV6 : VO w6 w1.heap.size w.heap.size v' (ps ++ [L]) := VO.put Vs HO3.out.1 HO3.out.2 (by omega) zr hbC g6 (fun q hq => own_block HO1.out q hq) (a := la) (c := lc) (by rw [← HPn.out, ← HLn.out]; exact o6) (by rw [← HLn.out]; exact hl1) hl2 HG.out.2.1 HG.out.2.2
        obtain ⟨pa, pc, hv', p1, p2, p3⟩ := hV6.PL (by omega)
        have HPl : Hid ((ps ++ [L]).length = pn + 1) := by unfold Hid; rw [List.length_append, ← HPn.out]; rfl
        rw [HPl.out] at hv' p1
        subst hv'
        have HFl : Hid ((ps ++ [L]).flatten = l) := by
          unfold Hid
          rw [List.flatten_append]
          show ps.flatten ++ (L ++ []) = l
          rw [List.append_nil]; exact HG.out.1.all
        have hlens := HG.out.1.len
        have hq1 := Strain_r c (ps ++ [L]) pa (pn + 1) pc (-1) w6 HPl.out p3 p1 p2 (by omega) (fun p hp => by
          rcases List.mem_append.1 hp with q | q
          · have := hlens.2 p q; have := Hm.out; omega
          · simp only [List.mem_cons, List.mem_nil_iff, or_false] at q; subst q; have := hlens.1; have := Hm.out; omega)
        have c0 := keepC hb16 z1 c0
        have c1 := keepC hb16 z1 c1
        have c2 := keepC hb16 z1 c2
        have c3 := keepC hb16 z1 c3
        have c4 := keepC hb16 z1 c4
        have hb06 : Below w.heap.size w w6 := hb01.trans (hb16.mono (by omega))
        have HL6 : Hid (IL w6 (fun k => k < w.heap.size) ao l) := HL1.out.keep (fun b hk _ => hb16.block b (by omega)) hb16.size (fun _ h _ => h)
        have zl6 : w.heap.size < w6.heap.size := by omega
        have HRf : Hid ((strn c (-1) 0 rest0 (ps ++ [L])).flatten = outs c rest0 (abs l)) := by unfold Hid; rw [strn_flat, HFl.out]
        have HRl : Hid ((strn c (-1) 0 rest0 (ps ++ [L])).length = pn + 1) := by unfold Hid; rw [strn_len, HPl.out]
        generalize strn c (-1) 0 rest0 (ps ++ [L]) = R1 at *
        clear o6 g6 hV6 p3 HO1 HO3 HLo hbC HG hlens HL1 hbr hb16 HPl HFl hb01 HQ1
        go_wp2_with fail
        refine hq1.mono ?_
        rintro e w3 ⟨v1, rfl, hV1, hb3⟩
        have hb03 : Below w.heap.size w w3 := hb06.trans (hb3.mono hb06.size)
        have d0 := keepC hb3 zl6 c0
        have d1 := keepC hb3 zl6 c1
        have d2 := keepC hb3 zl6 c2
        have d3 := keepC hb3 zl6 c3
        have d4 := keepC hb3 zl6 c4
        have z3 := hb3.size
        have zlt : w.heap.size < w3.heap.size := by omega
        have HL3 : Hid (IL w3 (fun k => k < w3.heap.size) ao l) := HL6.out.keep (fun b hk _ => hb3.block b (by omega)) hb3.size (fun b hk _ => by omega)
        have HP2 : Hid (PL (w3.alloc (Obj.cells #[.slice ao m cp] 34)) (w3.alloc (Obj.cells #[.slice ao m cp] 34)).heap.size (some ⟨w3.heap.size, 0, none⟩) [l]) := by
          have := PL.one w3 l ao cp (by rw [Hm.out]; exact hle) hcm HNil.out HL3.out _ rfl
          rw [Hm.out] at this; exact this
        have hq2 := Strain_r c [l] (some ⟨w3.heap.size, 0, none⟩) 1 1 (-1) (w3.alloc (Obj.cells #[.slice ao m cp] 34)) rfl HP2.out (by omega) (by omega) (by omega) (fun p hp => by simp only [List.mem_cons, List.mem_nil_iff, or_false] at hp; subst hp; rw [Hm.out]; omega)
        rw [strn1] at hq2
        have hb3B : Below w3.heap.size w3 (w3.alloc (Obj.cells #[.slice ao m cp] 34)) := (Below.refl _ _).alloc (Nat.le_refl _) _
        clear hq1 c0 c1 c2 c3 c4 HP2 hb3 hb06 HL6
        go_wp2_with fail
        refine hq2.mono ?_
        rintro e w7 ⟨v2, rfl, hV2, hb7⟩
        have hb37 : Below w3.heap.size w3 w7 := hb3B.trans (hb7.mono (by simp))
        have hb07 : Below w.heap.size w w7 := hb03.trans (hb37.mono (by omega))
        have z7 := hb37.size
        have HB7 : Hid (Below w3.heap.size w3 w7) := hb37
        clear hq2 hb3B d0 d1 d2 d3 d4 hb7 hb37 hb03 HL3
        cases hz : inC c
        · have e3 := er_no hz
          rw [e3]
          clear hV1 hV2 hz e3 HRf HRl
          go_wp2_with fail
          go_ret
          exact ⟨rfl, hb07⟩
        · have e0 := er_yes hz
          obtain ⟨base1, hBs1, hTO1⟩ := hV1.out hz
          obtain ⟨base2, hBs2, hTO2⟩ := hV2.out hz
          have HTO1 : Hid (TO w7 base1 v1 R1) := hTO1.step (fun j _ hj => HB7.out.block j hj) z7
          obtain ⟨va1, vc1, hv1', g1, g2⟩ := HTO1.out.form
          rw [HRl.out] at hv1' g1
          subst hv1'
          obtain ⟨gb, vb, ys, ya, yc, hv2', f11, f12, f13, f14, f15, f16, f17, f18, f19, f20⟩ := hTO2.at' (j := 0) rfl
          subst hv2'
          have lys : ys.length = m := by rw [← abs_len, f19, outs_len, abs_len, Hm.out]
          rw [lys] at f15 f16
          have HYs : Hid (ys.length = m ∧ abs ys = outs c rest0 (abs l) ∧ IL w7 (fun b => base2 ≤ b) ya ys) := ⟨lys, f19, f20⟩
          have HSm : Hid ((outs c rest0 (abs l)).length = m) := by unfold Hid; rw [outs_len, abs_len, Hm.out]
          rw [e0]
          simp only [List.length_cons, List.length_nil, Nat.zero_add, Nat.reduceAdd] at *
          clear hV1 hV2 hz e0 hTO1 hTO2 lys f18 f19 f20
          go_wp2_with fail
          go_loopw [75, 15] (fun i v ww => ∃ j : Nat, j ≤ pn + 1 ∧ i = .int .i64 j ∧ Hid (∃ A : List Nat, ww.ownsRow w7.heap.size 23 1 v A.length (fls A) ∧ abs A = (R1.take j).flatten ∧ (∀ x ∈ A, x < 18446744073709551616)) ∧ Below w7.heap.size w7 ww) (fun i _ _ => pn + 1 - (intOf i).toNat)
          case atStart => exact ⟨0, by omega, rfl, ⟨[], World.ownsRow_nil _ _ _ _, rfl, fun x hx => absurd hx (by simp)⟩, Below.refl _ _⟩
          case round =>
            obtain ⟨j, hj, rfl, hA, hbr⟩ := hrel
            obtain ⟨A, a1, a2, a3⟩ := hA.out
            by_cases hlt : j < pn + 1
            · obtain ⟨r, hr⟩ : ∃ r, R1[j]? = some r := ⟨_, List.getElem?_eq_getElem (by rw [HRl.out]; exact hlt)⟩
              obtain ⟨ga, vcc, g, xa, xc, hvv, k1, k2, k3, k4, k5, k6, k7, k8, k9, k10⟩ := (HTO1.out.step (fun j _ hj => hbr.block j hj) hbr.size).at' hr
              rw [HRl.out] at hvv
              cases hvv
              have hlen2 : A.length + g.length ≤ m := by
                have e1 : R1.take (j + 1) = R1.take j ++ [r] := by rw [List.take_add_one, hr]; rfl
                have e2 : (abs A ++ abs g).length = (R1.take (j + 1)).flatten.length := by rw [e1, List.flatten_append, a2, k9]; simp
                have e3 : (R1.take (j + 1)).flatten.length ≤ R1.flatten.length := by
                  have : R1.flatten = (R1.take (j + 1)).flatten ++ (R1.drop (j + 1)).flatten := by rw [← List.flatten_append, List.take_append_drop]
                  rw [this, List.length_append]; omega
                rw [List.length_append, abs_len, abs_len] at e2
                rw [HRf.out, HSm.out] at e3
                omega
              have HN : Hid (abs (A ++ g) = (R1.take (j + 1)).flatten) := by
                unfold Hid
                rw [abs_app, a2, k9, List.take_add_one, hr]
                simp
              have HGw : Hid (∀ x ∈ g, x < 18446744073709551616) := fun x hx => by
                obtain ⟨i, hi, e⟩ := List.getElem_of_mem hx
                obtain ⟨b, off, _, _, _, h4⟩ := k10.at' (by omega)
                exact (h4 i x (by rw [List.getElem?_eq_getElem hi, e])).2
              have HGi : Hid (IL wr (fun b => base1 ≤ b) xa g) := k10
              have HGn : Hid (xa = none → xc = 0) := k8
              obtain ⟨oa1, oc1, rfl, o3, o4⟩ := own_form a1
              obtain ⟨an, han⟩ : ∃ an, an = A.length := ⟨_, rfl⟩
              obtain ⟨gn, hgn⟩ : ∃ gn, gn = g.length := ⟨_, rfl⟩
              rw [← han] at a1 o3 hlen2 ⊢
              rw [← hgn] at k5 k6 hlen2
              have HAn : Hid (an = A.length ∧ gn = g.length) := ⟨han, hgn⟩
              have HA1 : Hid (wr.ownsRow w7.heap.size 23 1 (.slice oa1 an oc1) an (fls A)) := a1
              have HA3 : Hid (∀ x ∈ A, x < 18446744073709551616) := a3
              have hltj : (j : Int) < (pn : Int) + 1 := by omega
              have w3' : IntKind.i64.wrap ((j : Int) + 1) = (j : Int) + 1 := wid (by omega) (by omega)
              have zr7 := hbr.size
              clear hA a1 a2 a3 k8 k9 k10 hr han hgn HTO1
              go_wp2_with (at_builtin; refine wpList_append_il rfl (.tmp 79) (.tmp 80) rfl w7.heap.size _ an (fls A) rfl HA1.out (fun b => base1 ≤ b) g gn HAn.out.2.symm xa xc rfl k6 HGn.out HGi.out (by omega) zr7 ?a8)
              case a8 =>
                intro v' w8 o6 g6
                have hb8 : Below w7.heap.size w7 w8 := hbr.trans (g6.bel zr7 (fun q hq => own_block HA1.out q hq))
                have HN2 : Hid (∃ A' : List Nat, w8.ownsRow w7.heap.size 23 1 v' A'.length (fls A') ∧ abs A' = (R1.take (j + 1)).flatten ∧ (∀ x ∈ A', x < 18446744073709551616)) := ⟨A ++ g, by rw [List.length_append, ← HAn.out.1, ← HAn.out.2]; unfold fls at o6 ⊢; rw [List.map_append]; exact o6, HN.out, fun x hx => by
                  rcases List.mem_append.1 hx with q | q
                  · exact HA3.out x q
                  · exact HGw.out x q⟩
                clear o6 g6
                go_wp2_with fail
                exact ⟨⟨j + 1, by omega, by go_num, HN2, hb8⟩, by simp [intOf]; omega⟩
            · obtain rfl : j = pn + 1 := by omega
              have hA2 : abs A = outs c rest0 (abs l) := by rw [a2, List.take_of_length_le (by rw [HRl.out]; exact Nat.le_refl _), HRf.out]
              have hAl : A.length = m := by rw [← abs_len, hA2, HSm.out]
              obtain ⟨oa1, oc1, hv, o3, o4, o5, o6⟩ := own_IL a1 a3
              rw [hAl] at hv o3
              subst hv
              have hLA := fun (W : World) (hW : Below wr.heap.size wr W) => LikeAll_eq W _ _ oa1 ya A ys m oc1 yc (o6.bel hW) ((HYs.out.2.2.bel hbr).bel hW) (hA2.trans HYs.out.2.1.symm) hAl (by omega) o3 o4 f16 f17
              have f15 := keepC hbr f13 f15
              have zr7 := hbr.size
              have f13 : gb < wr.heap.size := by omega
              clear hA a1 a2 a3 hA2 hAl o6 HTO1 hlt
              go_wp2_with fail
              refine (hLA _ (Below.refl _ _)).mono ?_
              rintro e w9 ⟨rfl, hb9⟩
              go_wp2_with fail
              go_ret
              exact ⟨rfl, hb07.trans ((hbr.mono hb07.size).trans (hb9.mono (by have := hb07.size; omega)))⟩
end Go.Proofs.Ytjfmpgfpehnnjai.Fi
