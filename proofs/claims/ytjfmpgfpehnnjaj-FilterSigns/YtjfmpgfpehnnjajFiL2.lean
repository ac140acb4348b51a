/- FilterSigns: the law's text, walked. -/
import Derived.Test.YtjfmpgfpehnnjajFi9
namespace Go.Proofs.Ytjfmpgfpehnnjaj.Fi
open Go.RowKit Go.Maps Go.Sort Fl
set_option linter.unusedSimpArgs false
set_option linter.unusedVariables false

/-- append(s, x) where s is one's own row of elements of one cell, as long as there is room. -/
theorem wpList_append_b (t e : TypeId) (z : Value) (by' : Nat) (hu : Try.prog.underlying t = some (.slice e)) (hinf : (Try.prog.info? e).map (fun i => (i.zero, i.size, i.bytes)) = some (some z, 1, by')) (hzc : z.cells.size = 1)
    {w : World} {ops : Array Oper} {rest : List Oper} {o : Oper} {a : Act} {Q : Exit → Act → World → Prop} (hgd : o.guard = none) (s y : Operand)
    (ho : o.op = .call { callee := .builtin .append, args := #[s, y], argTypes := #[t, t] })
    (base : Nat) (v : Value) (n : Nat) (xs : List Value) (hs : a.eval s = v) (hown : w.ownsRow base e 1 v n xs)
    (g : Nat) (x : Value) (hx : a.eval y = .slice (some ⟨g, 0, none⟩) 1 1) (hc : w.cell? ⟨g, 0, none⟩ = some x) (hx1 : x.oneCell' = true)
    (h63 : n ≤ 35184372088832) (hbb : (n + 1) * by' ≤ 140737488355328) (hbase : base ≤ w.heap.size)
    (h : ∀ v' w', w'.ownsRow base e 1 v' (n + 1) (xs ++ [x]) → Gw w w' v v' → wpList Try.prog ops Q rest (a.put o.dst v') w') :
    wpList Try.prog ops Q (o :: rest) a w := by
  obtain ⟨i, hi, hz, hz1, hz2⟩ := info_parts hinf
  refine wpList_append_own_at w hgd s y t ho base e i z 1 by' hu hi hz hz1 hz2 hzc (by omega) v n xs hs hown ⟨g, 0, none⟩ 1 1 [x] hx rfl ?_ ?_ (by unfold maxLen; omega) hbb hbase (fun v' w' k1 k2 _ k4 => h v' w' k1 ⟨k2, k4.imp id (fun e => ⟨_, e, Nat.le_refl _⟩)⟩)
  · intro j u hj
    match j, hj with
    | 0, hj => simp at hj; subst hj; simpa [Addr.add] using hc
  · intro u hu; simp at hu; subst hu; exact hx1
theorem fneg (x : Nat) (hx : x < 18446744073709551616) (w : World) : (Op.unary .neg (.float .f64 x)).run Try.prog w = .ok (.float .f64 (ng' x)) w := by
  rw [← ng_xor x hx]; rfl
set_option maxRecDepth 4000 in
set_option maxHeartbeats 8000000 in
theorem signs_walk (c : Cf) (hcw : WfC c) (l : List Nat) (ao : Option Addr) (m cp : Nat) (w : World) (hm : l.length = m) (hL : IL w (fun k => k < w.heap.size) ao l) (hle : m ≤ cp) (hcm : cp ≤ 9223372036854775807) (hnil : ao = none → cp = 0) (hlen : m ≤ 17592186044416) :
    Calls Try.prog 4 #[cv c, .slice ao m cp] w fun e w' => e = .returned (.bool true) ∧ Below w.heap.size w w' := by
  have HL : Hid (IL w (fun k => k < w.heap.size) ao l) := hL
  have Hm : Hid (l.length = m) := hm
  have HW : Hid (WfC c) := hcw
  have HNil : Hid (ao = none → cp = 0) := hnil
  have hbA : Below w.heap.size w (w.alloc (Obj.cells #[.float .f64 c.b0, .float .f64 c.b1, .float .f64 c.b2, .float .f64 c.a1, .float .f64 c.a2] 24)) := (Below.refl _ _).alloc (Nat.le_refl _) _
  clear hL hm hcw hnil
  go_enter Try.func4, Try.ntmps4
  go_wp2_with fail
  refine (alive_any _).mono ?_
  rintro e w1 ⟨rfl, hb1⟩
  have hb01 : Below w.heap.size w w1 := hbA.trans (hb1.mono (by simp))
  have z1 : w.heap.size < w1.heap.size := by have := hb1.size; simp at this; omega
  have c0 := keepC hb1 (a := ⟨w.heap.size, 0, none⟩) (v := .float .f64 c.b0) (by simp) (by simp [go_sem])
  have c1 := keepC hb1 (a := ⟨w.heap.size, 1, none⟩) (v := .float .f64 c.b1) (by simp) (by simp [go_sem])
  have c2 := keepC hb1 (a := ⟨w.heap.size, 2, none⟩) (v := .float .f64 c.b2) (by simp) (by simp [go_sem])
  have c3 := keepC hb1 (a := ⟨w.heap.size, 3, none⟩) (v := .float .f64 c.a1) (by simp) (by simp [go_sem])
  have c4 := keepC hb1 (a := ⟨w.heap.size, 4, none⟩) (v := .float .f64 c.a2) (by simp) (by simp [go_sem])
  clear hb1 hbA
  have HL1 : Hid (IL w1 (fun k => k < w.heap.size) ao l) := HL.out.keep (fun b hk _ => hb01.block b hk) hb01.size (fun _ h _ => h)
  have HLw : Hid (∀ x ∈ l, x < 18446744073709551616) := fun x hx => by
    obtain ⟨i, hi, e⟩ := List.getElem_of_mem hx
    obtain ⟨b, off, _, _, _, h4⟩ := HL.out.at' (by omega)
    exact (h4 i x (by rw [List.getElem?_eq_getElem hi, e])).2
  clear HL
  go_wp2_with fail
  go_loopw [17, 5] (fun i v ww => ∃ k : Nat, k ≤ m ∧ i = .int .i64 k ∧ Hid (ww.ownsRow w1.heap.size 22 1 v k (fls ((l.take k).map ng'))) ∧ Below w1.heap.size w1 ww) (fun i _ _ => m - (intOf i).toNat)
  case atStart => exact ⟨0, by omega, rfl, World.ownsRow_nil _ _ _ _, Below.refl _ _⟩
  case round =>
    obtain ⟨k, hk, rfl, hO, hbr⟩ := hrel
    by_cases hlt : k < m
    · obtain ⟨x, hx⟩ : ∃ x, l[k]? = some x := ⟨_, List.getElem?_eq_getElem (by rw [Hm.out]; exact hlt)⟩
      obtain ⟨nb, of, hao, hnb, hSb, q0⟩ := HL1.out.at' (by rw [Hm.out]; omega)
      obtain ⟨x0, x1⟩ := q0 k x hx
      have x0' := keepC hbr hnb x0
      have hng := fneg x x1
      have HT : Hid (fls ((l.take (k + 1)).map ng') = fls ((l.take k).map ng') ++ [.float .f64 (ng' x)]) := by
        unfold Hid fls; rw [take_snoc hx]; simp
      have hlt' : (k : Int) < (m : Int) := by omega
      have w3 : IntKind.i64.wrap ((k : Int) + 1) = (k : Int) + 1 := wid (by omega) (by omega)
      have hnb' : nb < wr.heap.size := by have := hbr.size; omega
      obtain ⟨va, vc, rfl, hv1, hv2⟩ := own_form hO.out
      have HLo : Hid (∀ q, (Value.slice va k vc).ownBlock = some q → q < wr.heap.size) := own_lt hO.out
      have hbC : Below wr.heap.size wr (wr.alloc (Obj.cells #[.float .f64 (ng' x)] 22)) := (Below.refl _ _).alloc (Nat.le_refl _) _
      have zr := hbr.size
      subst hao
      clear q0 hx x0
      go_wp2_with (first | simp only [hng] | (at_builtin; refine wpList_append_b 25 22 (.float .f64 0) 8 Try.underlying25 infoF rfl rfl (.tmp 21) (.tmp 24) rfl w1.heap.size _ k (fls ((l.take k).map ng')) rfl (own_step hO.out (fun q hq => hbC.block q (HLo.out q hq))) wr.heap.size (.float .f64 (ng' x)) rfl (by simp [go_sem]) rfl (by omega) (by omega) (by simp; omega) ?a7))
      case a7 =>
        intro v' w6 o6 g6
        have hb6 : Below w1.heap.size w1 w6 := hbr.trans (Below.trans (hbC.mono (by omega)) (g6.bel (by simp; omega) (fun q hq => own_block hO.out q hq)))
        have HN : Hid (w6.ownsRow w1.heap.size 22 1 v' (k + 1) (fls ((l.take (k + 1)).map ng'))) := by rw [HT.out]; exact o6
        clear o6 g6 hO
        go_wp2_with fail
        exact ⟨⟨k + 1, by omega, by go_num, HN, hb6⟩, by simp [intOf]; omega⟩
    · obtain rfl : k = m := by omega
      clear hlt
      obtain ⟨w2, hw2⟩ : ∃ x, x = wr := ⟨wr, rfl⟩
      subst hw2
      have HTk : Hid (l.take k = l) := List.take_of_length_le (by rw [Hm.out]; exact Nat.le_refl _)
      have hO2 : w2.ownsRow w1.heap.size 22 1 u5 (l.map ng').length (fls (l.map ng')) := by
        have h := hO.out
        rw [HTk.out] at h
        rw [List.length_map, Hm.out]; exact h
      obtain ⟨ta, tc, hu5, t1, t2, t3, t4⟩ := own_IL hO2 (fun x hx => by
        obtain ⟨y, hy, e⟩ := List.mem_map.1 hx
        rw [← e]; exact ng_lt y (HLw.out y hy))
      rw [List.length_map, Hm.out] at hu5 t1
      subst hu5
      have hb02 : Below w.heap.size w w2 := hb01.trans (hbr.mono (by omega))
      have z2 := hbr.size
      have c0 := keepC hbr z1 c0
      have c1 := keepC hbr z1 c1
      have c2 := keepC hbr z1 c2
      have c3 := keepC hbr z1 c3
      have c4 := keepC hbr z1 c4
      have zl2 : w.heap.size < w2.heap.size := by omega
      have HL2 : Hid (IL w2 (fun k => k < w2.heap.size) ao l) := HL1.out.keep (fun b hk _ => hbr.block b (by omega)) hbr.size (fun b hk _ => by omega)
      have HT2 : Hid (IL w2 (fun k => k < w2.heap.size) ta (l.map ng')) := ⟨fun hn => by
        obtain ⟨b, off, h1, h2, _, h4⟩ := t4.at' hn
        exact ⟨b, off, h1, h2, h2, h4⟩⟩
      have HT3 : Hid (ta = none → tc = 0) := t3
      have HP1 : Hid (PL (w2.alloc (Obj.cells #[.slice ao k cp, .slice ao k cp] 25)) (w2.alloc (Obj.cells #[.slice ao k cp, .slice ao k cp] 25)).heap.size (some ⟨w2.heap.size, 0, none⟩) [l, l]) := by
        have := PL.two w2 l l ao ao cp cp (by rw [Hm.out]; exact hle) hcm HNil.out HL2.out (by rw [Hm.out]; exact hle) hcm HNil.out HL2.out _ rfl
        rw [Hm.out] at this; exact this
      have hq1 := Strain_r c [l, l] (some ⟨w2.heap.size, 0, none⟩) 2 2 1 (w2.alloc (Obj.cells #[.slice ao k cp, .slice ao k cp] 25)) rfl HP1.out (by omega) (by omega) (by omega) (fun p hp => by
        simp only [List.mem_cons, List.mem_nil_iff, or_false] at hp
        rcases hp with rfl | rfl
        · rw [Hm.out]; exact hlen
        · rw [Hm.out]; exact hlen)
      rw [strn3] at hq1
      have hb2B : Below w2.heap.size w2 (w2.alloc (Obj.cells #[.slice ao k cp, .slice ao k cp] 25)) := (Below.refl _ _).alloc (Nat.le_refl _) _
      clear HP1 hO hO2 HL1 t4 t3 hb01
      go_wp2_with fail
      refine hq1.mono ?_
      rintro e w3 ⟨v1, rfl, hV1, hb3⟩
      have hb23 : Below w2.heap.size w2 w3 := hb2B.trans (hb3.mono (by simp))
      have hb03 : Below w.heap.size w w3 := hb02.trans (hb23.mono (by omega))
      have d0 := keepC hb23 zl2 c0
      have d1 := keepC hb23 zl2 c1
      have d2 := keepC hb23 zl2 c2
      have d3 := keepC hb23 zl2 c3
      have d4 := keepC hb23 zl2 c4
      have z3 := hb23.size
      have zlt : w.heap.size < w3.heap.size := by omega
      have HT3b : Hid (IL w3 (fun k => k < w3.heap.size) ta (l.map ng')) := HT2.out.keep (fun b hk _ => hb23.block b hk) hb23.size (fun b hk _ => by omega)
      have HMl : Hid ((l.map ng').length = k) := by unfold Hid; rw [List.length_map, Hm.out]
      have HP2 : Hid (PL (w3.alloc (Obj.cells #[.slice ta k tc] 25)) (w3.alloc (Obj.cells #[.slice ta k tc] 25)).heap.size (some ⟨w3.heap.size, 0, none⟩) [l.map ng']) := by
        have := PL.one w3 (l.map ng') ta tc (by rw [HMl.out]; exact t1) t2 HT3.out HT3b.out _ rfl
        rw [HMl.out] at this; exact this
      have hq2 := Strain_r c [l.map ng'] (some ⟨w3.heap.size, 0, none⟩) 1 1 (-1) (w3.alloc (Obj.cells #[.slice ta k tc] 25)) rfl HP2.out (by omega) (by omega) (by omega) (fun p hp => by simp only [List.mem_cons, List.mem_nil_iff, or_false] at hp; subst hp; rw [HMl.out]; exact hlen)
      rw [strn1, abs_ng l HLw.out] at hq2
      have hb3B : Below w3.heap.size w3 (w3.alloc (Obj.cells #[.slice ta k tc] 25)) := (Below.refl _ _).alloc (Nat.le_refl _) _
      have HB23 : Hid (Below w2.heap.size w2 w3) := hb23
      clear hq1 hb2B c0 c1 c2 c3 c4 HL2 HT2 HP2 hb3 hb23 hb02
      go_wp2_with fail
      refine hq2.mono ?_
      rintro e w6 ⟨v2, rfl, hV2, hb6⟩
      have hb36 : Below w3.heap.size w3 w6 := hb3B.trans (hb6.mono (by simp))
      have hb06 : Below w.heap.size w w6 := hb03.trans (hb36.mono (by omega))
      have z6 := hb36.size
      have HB6 : Hid (Below w3.heap.size w3 w6) := hb36
      clear hq2 hb3B d0 d1 d2 d3 d4 hb6 hb36
      cases hz : inC c
      · have e3 := er_no hz
        rw [e3]
        clear hV1 hV2 hz e3
        go_wp2_with fail
        go_ret
        exact ⟨rfl, hb06⟩
      · have e0 := er_yes hz
        obtain ⟨base1, hBs1, hTO1⟩ := hV1.out hz
        obtain ⟨base2, hBs2, hTO2⟩ := hV2.out hz
        have hTO1' := hTO1.step (w' := w6) (fun j _ hj => HB6.out.block j hj) z6
        obtain ⟨ga, va, xs, xa, xc, rfl, f1, f2, f3, f4, f5, f6, f7, f8, f9, f10⟩ := hTO1'.at' (j := 0) rfl
        obtain ⟨ga', va', us, ua, uc, hv1', f21, f22, f23, f24, f25, f26, f27, f28, f29, f30⟩ := hTO1'.at' (j := 1) rfl
        obtain ⟨gb, vb, ys, ya, yc, hv2, f11, f12, f13, f14, f15, f16, f17, f18, f19, f20⟩ := hTO2.at' (j := 0) rfl
        subst hv2
        cases hv1'
        have lxs : xs.length = k := by rw [← abs_len, f9, outs_len, abs_len, Hm.out]
        have lus : us.length = k := by rw [← abs_len, f29, outs_len, abs_len, Hm.out]
        have lys : ys.length = k := by rw [← abs_len, f19, outs_len, List.length_map, abs_len, Hm.out]
        rw [lxs] at f5 f6
        rw [lys] at f15 f16
        rw [lus] at f25 f26
        have HXs : Hid (xs.length = k ∧ abs xs = outs c rest0 (abs l) ∧ IL w6 (fun b => base1 ≤ b) xa xs) := ⟨lxs, f9, f10⟩
        have HUs : Hid (us.length = k ∧ abs us = outs c rest0 (abs l) ∧ IL w6 (fun b => base1 ≤ b) ua us) := ⟨lus, f29, f30⟩
        have HYs : Hid (ys.length = k ∧ abs ys = outs c rest0 ((abs l).map og) ∧ IL w6 (fun b => base2 ≤ b) ya ys) := ⟨lys, f19, f20⟩
        have HS2 : Hid ((outs c rest0 ((abs l).map og)).map oz = (outs c rest0 (abs l)).map fun x => oz (og x)) := outs_r c (abs l) (abs_w HLw.out) rest_r
        have hLA := fun (W : World) (hW : Below w6.heap.size w6 W) => LikeAll_eq W _ _ xa ua xs us k xc uc (HXs.out.2.2.bel hW) (HUs.out.2.2.bel hW) (HXs.out.2.1.trans HUs.out.2.1.symm) HXs.out.1 (by omega) f6 f7 f26 f27
        rw [e0]
        simp only [List.length_cons, List.length_nil, Nat.zero_add, Nat.reduceAdd] at *
        clear hV1 hV2 hz e0 hTO1 hTO1' hTO2 lxs lys lus f8 f9 f10 f18 f19 f20 f28 f29 f30
        have p5 := cell_regrown f5
        have p25 := cell_regrown f25
        have p15 := cell_regrown f15
        go_wp2_with fail
        refine RF.wp_region_float (fun k => k != 33) (by kernel_rfl) (by kernel_rfl) (by kernel_rfl) ?_
        repeat (refine RF.wpFl_read rfl (fun K hK => ?_); go_simp; refine hK _ ?_; clear hK K)
        refine RF.wpFl_dog rfl rfl (fun K hK => ?_)
        go_wp2_with fail
        refine (hLA _ ((Below.refl _ _).drew)).mono ?_
        rintro e w7 ⟨rfl, hb7⟩
        have hb67 : Below w6.heap.size w6 w7 := ((Below.refl _ w6).drew).trans (hb7.mono (by simp))
        go_wp2_with fail
        refine hK _ _ hb67 ?_
        clear hK K hb7 hLA p5 p25 p15
        repeat (refine RF.wpFl_read rfl (fun K hK => ?_); go_simp; refine hK _ ?_; clear hK K)
        refine RF.wpFl_nil ?_
        have hb07 : Below w.heap.size w w7 := hb06.trans (hb67.mono hb06.size)
        have f5 := keepC hb67 f3 f5
        have f15 := keepC hb67 f13 f15
        have z7 := hb67.size
        have f3 : ga < w7.heap.size := by omega
        have f13 : gb < w7.heap.size := by omega
        have HXs : Hid (xs.length = k ∧ abs xs = outs c rest0 (abs l) ∧ IL w7 (fun b => base1 ≤ b) xa xs) := ⟨HXs.out.1, HXs.out.2.1, HXs.out.2.2.bel hb67⟩
        have HYs : Hid (ys.length = k ∧ abs ys = outs c rest0 ((abs l).map og) ∧ IL w7 (fun b => base2 ≤ b) ya ys) := ⟨HYs.out.1, HYs.out.2.1, HYs.out.2.2.bel hb67⟩
        clear hb67 f23 f25 HUs
        go_wp2_with fail
        go_loopw [90] (fun i ww => ∃ j : Nat, j ≤ k ∧ i = .int .i64 j ∧ Below w7.heap.size w7 ww) (fun i _ => k - (intOf i).toNat)
        case atStart => exact ⟨0, by omega, rfl, Below.refl _ _⟩
        case round =>
          obtain ⟨j, hj, rfl, hbr⟩ := hrel
          by_cases hlt : j < k
          · obtain ⟨x, hx⟩ : ∃ x, xs[j]? = some x := ⟨_, List.getElem?_eq_getElem (by rw [HXs.out.1]; exact hlt)⟩
            obtain ⟨u, hu⟩ : ∃ u, ys[j]? = some u := ⟨_, List.getElem?_eq_getElem (by rw [HYs.out.1]; exact hlt)⟩
            obtain ⟨na, oa', hxa, hna, _, q0⟩ := HXs.out.2.2.at' (by rw [HXs.out.1]; omega)
            obtain ⟨nu, ou, hua, hnu, _, q1⟩ := HYs.out.2.2.at' (by rw [HYs.out.1]; omega)
            obtain ⟨x0, x1⟩ := q0 j x hx
            obtain ⟨u0, u1⟩ := q1 j u hu
            have hak : akin (ng' x) u = true := by
              have h1 := abs_get hx
              have h2 := abs_get hu
              rw [HXs.out.2.1] at h1
              rw [HYs.out.2.1] at h2
              have h3 : ((outs c rest0 ((abs l).map og)).map oz)[j]? = some (oz (ab u)) := by rw [List.getElem?_map, h2]; rfl
              rw [HS2.out, List.getElem?_map, h1] at h3
              have h4 : oz (og (ab x)) = oz (ab u) := Option.some.inj h3
              unfold akin
              rw [ab_ng x x1, h4]; simp
            have hq := fun W => equal_any (ng' x) u W (ng_lt x x1) u1
            rw [hak] at hq
            have hng := fneg x x1
            subst hxa
            subst hua
            have p5 := cell_regrown (keepC hbr f3 f5)
            have p25 := cell_regrown (keepC hbr f13 f15)
            have px := cell_regrown (keepC hbr hna x0)
            have pu := cell_regrown (keepC hbr hnu u0)
            have hlt' : (j : Int) < (k : Int) := by omega
            have w3' : IntKind.i64.wrap ((j : Int) + 1) = (j : Int) + 1 := wid (by omega) (by omega)
            clear hx hu q0 q1 hak x0 u0
            go_wp2_with fail
            refine RF.wp_region_float (fun k => k != 13) (by kernel_rfl) (by kernel_rfl) (by kernel_rfl) ?_
            repeat (refine RF.wpFl_read rfl (fun K hK => ?_); go_simp; refine hK _ ?_; clear hK K)
            refine RF.wpFl_do rfl rfl (fun K hK => ?_)
            go_wp2_with fail
            refine (hq _).mono ?_
            rintro e w8 ⟨rfl, hw8⟩
            rw [hw8]
            go_wp2_with fail
            refine hK _ _ ((Below.refl _ _).drew) ?_
            clear hK K hw8 w8
            repeat (refine RF.wpFl_read rfl (fun K hK => ?_); go_simp; refine hK _ ?_; clear hK K)
            refine RF.wpFl_nil ?_
            go_wp2_with fail
            go_roundw
            case rel => exact ⟨j + 1, by omega, by go_num, hbr.drew⟩
            case measure => simp [intOf]; omega
          · obtain rfl : j = k := by omega
            go_wp2_with fail
            go_ret
            exact ⟨rfl, hb07.trans (hbr.mono hb07.size)⟩
end Go.Proofs.Ytjfmpgfpehnnjaj.Fi
