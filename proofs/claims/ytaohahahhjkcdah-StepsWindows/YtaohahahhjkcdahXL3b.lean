/- The law StepsWindows: its walk. -/
import Derived.Test.YtaohahahhjkcdahXL3
namespace Go.Proofs.Ytaohahahhjkcdah.X
open Go.RowKit Go.Maps Go.Sort
set_option linter.unusedVariables false
set_option linter.unusedSimpArgs false

theorem rows_succ (F : Nat → List Value) (k : Nat) : rows F (k + 1) = rows F k ++ F k := rfl
set_option maxRecDepth 20000 in
set_option maxHeartbeats 4000000 in
theorem windows_walk (l : List M.Sc) (ao : Option Addr) (c : Nat) (cs : List Int) (co : Option Addr) (cc : Nat) (w : World) (hL : LL w (· < w.heap.size) ao l) (hc : l.length ≤ c) (hcm : c ≤ 9223372036854775807) (hC : NL w co cs) (hcc : cs.length ≤ cc) (hccm : cc ≤ 9223372036854775807) :
    Calls Try.prog 4 #[.slice ao l.length c, .slice co cs.length cc] w fun e w' => e = .returned (.bool true) ∧ Below w.heap.size w w' := by
  have HA := alive_any
  have HL : Hid (LL w (· < w.heap.size) ao l) := hL
  have HC : Hid (NL w co cs) := hC
  have HP := fun (W : World) (T : List (Int × Int)) (tao : Option Addr) (tc : Nat) (h1 : LL W (· < W.heap.size) ao l) (h2 : TL W (· < W.heap.size) tao T) (h3 : T.length ≤ tc) (h4 : tc ≤ 9223372036854775807) (h5 : T.length ≤ 1048576) => Play_at l T W ao c tao tc h1 hc hcm h2 h3 h4 h5
  clear hL hC
  go_enter Try.func4, Try.ntmps4
  go_wp2_with fail
  refine (HA _).mono ?_
  rintro e w1 ⟨rfl, hb1⟩
  clear HA
  have z1 := hb1.size
  have H0 : Hid (w1.ownsRow w1.heap.size 31 2 (.slice none 0 0) 0 (rows (ctc cs) 0)) := World.ownsRow_nil _ _ _ _
  go_wp2_with fail
  go_loopw [20, 5, 6] (fun i s v wr => ∃ (k : Nat), k ≤ cs.length ∧ i = .int .i64 k ∧ s = .int .i64 (M.sm (cs.take k)) ∧ Hid (wr.ownsRow w1.heap.size 31 2 v k (rows (ctc cs) k)) ∧ Hid ((∀ x ∈ cs.take k, 0 ≤ x ∧ x ≤ 1099511627776) ∧ (0 < k → cs.length ≤ 1000)) ∧ Below w1.heap.size w1 wr) (fun i _ _ _ => cs.length - (intOf i).toNat)
  case atStart => exact ⟨0, by omega, rfl, rfl, H0, (⟨fun x hx => by simp at hx, fun h => by omega⟩ : (∀ x ∈ cs.take 0, 0 ≤ x ∧ x ≤ 1099511627776) ∧ (0 < 0 → cs.length ≤ 1000)), Below.refl _ _⟩
  case round =>
    obtain ⟨k, hkn, rfl, rfl, hO, hR, hbr⟩ := hrel
    clear H0
    have zr := hbr.size
    have hb0r : Below w.heap.size w wr := hb1.trans (hbr.mono z1)
    by_cases hlt : k < cs.length
    · have hlt' : (k : Int) < (cs.length : Int) := by omega
      obtain ⟨x, hx⟩ : ∃ x, cs[k]? = some x := ⟨_, List.getElem?_eq_getElem hlt⟩
      obtain ⟨b, off, rfl, hbz, q0⟩ := (HC.out.step hb0r).at' (by omega)
      have r0 := q0 k x hx
      have w3 : IntKind.i64.wrap ((k : Int) + 1) = (k : Int) + 1 := wid (by omega) (by omega)
      by_cases cg : x < 0 ∨ 1099511627776 < x ∨ 1000 < cs.length
      · rcases (show x < 0 ∨ (¬ x < 0 ∧ 1099511627776 < x) ∨ (¬ x < 0 ∧ ¬ 1099511627776 < x ∧ 1000 < cs.length) by omega) with h | ⟨h, ha⟩ | ⟨h, ha, hb⟩
        · clear cg hO hR q0 hx
          go_wp2_with fail
          go_ret
          exact ⟨rfl, hb0r⟩
        · clear cg hO hR q0 hx
          go_wp2_with fail
          go_ret
          exact ⟨rfl, hb0r⟩
        · have hb' : (1000 : Int) < (cs.length : Int) := by omega
          clear cg hO hR q0 hx
          go_wp2_with fail
          go_ret
          exact ⟨rfl, hb0r⟩
      · have d1 : ¬ x < 0 := by omega
        have d2 : ¬ 1099511627776 < x := by omega
        have d3 : ¬ (1000 : Int) < (cs.length : Int) := by omega
        have d4 : cs.length ≤ 1000 := by omega
        have hs := M.sm_le (l := cs.take k) hR.out.1
        have hlk : (cs.take k).length ≤ k := List.length_take_le k cs
        have es := M.sm_take hx
        have ws : IntKind.i64.wrap (M.sm (cs.take k) + x) = M.sm (cs.take k) + x := wid (by omega) (by omega)
        have hR2 : Hid ((∀ y ∈ cs.take (k + 1), 0 ≤ y ∧ y ≤ 1099511627776) ∧ (0 < k + 1 → cs.length ≤ 1000)) := by
          refine (⟨fun y hy => ?_, fun _ => d4⟩ : (∀ y ∈ cs.take (k + 1), 0 ≤ y ∧ y ≤ 1099511627776) ∧ (0 < k + 1 → cs.length ≤ 1000))
          rw [M.take_one hx] at hy
          rcases List.mem_append.1 hy with hy | hy
          · exact hR.out.1 y hy
          · simp at hy; subst hy; omega
        have hbX : Below wr.heap.size wr (wr.alloc (Obj.cells #[.int .i64 (-1), .int .i64 x] 31)) := (Below.refl _ _).alloc (Nat.le_refl _) _
        have hOX : (wr.alloc (Obj.cells #[.int .i64 (-1), .int .i64 x] 31)).ownsRow w1.heap.size 31 2 u6 k (rows (ctc cs) k) := Z.own_step hO.out (fun j hj => hbX.block j (Z.own_lt hO.out j hj))
        have n0 : (wr.alloc (Obj.cells #[.int .i64 (-1), .int .i64 x] 31)).cell? ⟨wr.heap.size, 0, none⟩ = some (.int .i64 (-1)) := by simp [go_sem]
        have n1 : (wr.alloc (Obj.cells #[.int .i64 (-1), .int .i64 x] 31)).cell? ⟨wr.heap.size, 1, none⟩ = some (.int .i64 x) := by simp [go_sem]
        have hbb : w1.heap.size ≤ (wr.alloc (Obj.cells #[.int .i64 (-1), .int .i64 x] 31)).heap.size := by simp; omega
        have hob := fun j hj => Z.own_block hO.out j hj
        have hrow : rows (ctc cs) (k + 1) = rows (ctc cs) k ++ [.int .i64 (-1), .int .i64 x] := by rw [rows_succ]; unfold ctc; rw [hx]; rfl
        have HROW : Hid (rows (ctc cs) (k + 1) = rows (ctc cs) k ++ [.int .i64 (-1), .int .i64 x]) := hrow
        have ES : Hid (M.sm (cs.take (k + 1)) = M.sm (cs.take k) + x) := es
        clear hO hR q0 hx cg hs es hrow
        generalize M.sm (cs.take k) = SS at *
        go_wp2_with (at_builtin; refine wpList_append_turn rfl _ _ rfl w1.heap.size u6 k _ rfl hOX wr.heap.size _ _ rfl n0 n1 ⟨rfl, rfl⟩ (by omega) hbb ?_; intro v7 w7 hr7 hg7; have hb7 : Below w1.heap.size w1 w7 := (hbr.trans (hbX.mono zr)).trans (hg7.bel (B := w1.heap.size) hbb hob); have HR7 : Hid (w7.ownsRow w1.heap.size 31 2 v7 (k + 1) (rows (ctc cs) (k + 1))) := (by show World.ownsRow _ _ _ _ _ _ _; rw [HROW.out]; exact hr7))
        exact ⟨⟨k + 1, by omega, by go_num, by rw [ES.out], HR7, hR2, hb7⟩, by simp [intOf]; omega⟩
    · obtain rfl : k = cs.length := by omega
      have hlt' : ¬ ((cs.length : Nat) : Int) < cs.length := by omega
      have hRo := hR.out
      rw [List.take_length] at hRo ⊢
      have hlen : cs.length ≤ 1000 := by
        by_cases h0 : 0 < cs.length
        · exact hRo.2 h0
        · omega
      have hs := M.sm_le hRo.1
      obtain ⟨ta, tc, rfl, i1, i2, i3⟩ := row_tl hO.out (fun y hy => (hRo.1 y hy).2)
      have hcl : (M.cut cs).length = cs.length := by unfold M.cut; simp
      have HCL : Hid ((M.cut cs).length = cs.length) := hcl
      have HR0 : Hid (∀ y ∈ cs, 0 ≤ y) := fun y hy => (hRo.1 y hy).1
      have HP1 := HP wr (M.cut cs) ta tc (HL.out.to hb0r hb0r.size) i3 i1 i2 (by omega)
      obtain ⟨VE, hVE⟩ : ∃ V, V = (M.cks l 1 0 0).1 := ⟨_, rfl⟩
      have HVE : Hid (VE = (M.cks l 1 0 0).1) := hVE
      clear hO hR hRo HC hVE hcl
      generalize hSM : M.sm cs = SM at *
      have HSM : Hid (M.sm cs = SM) := hSM
      clear hSM
      go_wp2_with fail
      refine HP1.mono ?_
      rintro e w2 ⟨hb2, a2, n2, c2, rfl, j1, j2, j3, j4⟩
      have hb02 := hb0r.trans (hb2.mono hb0r.size)
      rw [← HVE.out] at j3 j4 ⊢
      have J4 : Hid (VE = 0 → n2 = (M.cut cs).length ∧ DL w2 (· < w2.heap.size) a2 (M.py (M.pls l 0) 0 (M.cut cs))) := j4
      clear j3 j4 HP1 hb2 i3
      go_wp2_with fail
      have hbB : Below w2.heap.size w2 (w2.alloc (Obj.cells #[.int .i64 (-1), .int .i64 SM] 31)) := (Below.refl _ _).alloc (Nat.le_refl _) _
      have hb0B := hb02.trans (hbB.mono hb02.size)
      refine (HP _ [(-1, SM)] (some ⟨w2.heap.size, 0, none⟩) 1 (HL.out.to hb0B hb0B.size) (TL.one (by simp [go_sem]) (by simp [go_sem]) (by simp) (by omega)) (by simp) (by omega) (by simp)).mono ?_
      rintro e w3 ⟨hb3, a3, n3, c3, rfl, k1, k2, k3, k4⟩
      have hb23 := hbB.trans (hb3.mono hbB.size)
      have hb03 := hb02.trans (hb23.mono hb02.size)
      rw [← HVE.out] at k3 k4 ⊢
      have K4 : Hid (VE = 0 → n3 = [((-1 : Int), SM)].length ∧ DL w3 (· < w3.heap.size) a3 (M.py (M.pls l 0) 0 [(-1, SM)])) := k4
      clear k3 k4 HP hb3 hbB hb0B HL
      have hself : (VE != VE) = false := by simp
      by_cases hz : VE = 0
      · obtain ⟨_, _, _, _, _, hoks⟩ := M.cks_right (l := l) (lev := 1) (m := 0) (a := 0) (by omega) (by omega) (by omega) (by rw [← HVE.out]; exact hz)
        have hinc : M.Inc 0 (M.pls l 0) := (M.pls_rng hoks 0).2.1
        obtain ⟨q1, q2⟩ := J4.out hz
        obtain ⟨q3, q4⟩ := K4.out hz
        subst hz
        have hB0 : M.py (M.pls l 0) 0 [(-1, SM)] = [M.pd1 (M.pls l 0) 0 (-1, SM)] := rfl
        rw [hB0] at q4
        have epd : M.pd1 (M.pls l 0) 0 (-1, SM) = ⟨0, (M.nx (M.pls l 0) 0 SM).1, (M.nx (M.pls l 0) 0 SM).2.1, (M.nx (M.pls l 0) 0 SM).2.2⟩ := rfl
        have q2' := q2.keep (w' := w3) (S' := (· < w3.heap.size)) (Kp.below hb23) (fun b hb => Nat.lt_of_lt_of_le hb hb23.size)
        obtain ⟨b2, o2, rfl, l2, f2⟩ := q4.at' (by simp)
        obtain ⟨ev2, y0, y1, y2, y3, y4⟩ := f2 0 _ rfl
        rw [Nat.zero_mul, Nat.add_zero] at y0 y1 y2 y3
        rw [epd] at y1 y4
        dsimp only at y1 y4
        have q3' : n3 = 1 := q3
        subst q3' q1
        have HN : Hid ((M.nx (M.pls l 0) 0 SM).1 = 0 → (∀ x ∈ M.py (M.pls l 0) 0 (M.cut cs), x.er = 0) ∧ (M.py (M.pls l 0) 0 (M.cut cs)).flatMap (·.ev) = (M.nx (M.pls l 0) 0 SM).2.1 ∧ (M.nx (M.pls l 0) 0 SM).2.1.length ≤ 4096) := fun h => by
          have e0 : (0 : Int) + SM = SM := by omega
          have h4 := M.nx_len (E := M.pls l 0) (a := 0) (x := SM) (by omega) (by omega) h
          have e1 := M.nx_ok (E := M.pls l 0) (a := 0) (x := SM) (by omega) (by omega) h4
          obtain ⟨g1, g2⟩ := M.pieces hinc cs 0 HR0.out (by omega) (by rw [HSM.out]; omega) (by rw [HSM.out]; exact h4)
          rw [e1]
          refine ⟨g1, ?_, h4⟩
          rw [g2, HSM.out]
        have hpl := M.py_len (M.pls l 0) 0 (M.cut cs)
        clear hinc hoks J4 K4 q2 q4 f2 y0 HVE hB0 epd HR0 q3
        generalize M.py (M.pls l 0) 0 (M.cut cs) = PY at *
        generalize M.nx (M.pls l 0) 0 SM = NX at *
        obtain ⟨NE, NL, NA⟩ := NX
        dsimp only at *
        by_cases hn : NE = 0
        · obtain ⟨g1, g2, g3⟩ := HN.out hn
          subst hn
          have HG1 : Hid (∀ x ∈ PY, x.er = 0) := g1
          have HG2 : Hid (PY.flatMap (·.ev) = NL) := g2
          have HQ : Hid (DL w3 (· < w3.heap.size) a2 PY) := q2'
          have HY4 : Hid (EVs w3 (· < w3.heap.size) ev2 NL) := y4
          have HLK : Hid (∀ k, ((PY.take k).flatMap (·.ev)).length ≤ 4096) := fun k => by
            have e : PY.flatMap (·.ev) = (PY.take k).flatMap (·.ev) ++ (PY.drop k).flatMap (·.ev) := by rw [← List.flatMap_append, List.take_append_drop]
            have : (PY.flatMap (·.ev)).length ≤ 4096 := by rw [g2]; exact g3
            rw [e, List.length_append] at this
            omega
          obtain ⟨ae, ce, rfl, _, _, _⟩ := y4
          have hpl' : PY.length = (M.cut cs).length := hpl
          rw [← hpl'] at i1 j1 ⊢
          have H0 : Hid (Z.OE w3 w3.heap.size (.slice none 0 0) ((PY.take 0).flatMap (·.ev))) := Z.OE.nil _ _
          clear HN g1 g2 q2' hpl hpl' HCL HSM
          go_wp2_with fail
          go_loopw [77, 13] (fun i v wr2 => ∃ (k : Nat), k ≤ PY.length ∧ i = .int .i64 k ∧ Hid (Z.OE wr2 w3.heap.size v ((PY.take k).flatMap (·.ev))) ∧ Below w3.heap.size w3 wr2) (fun i _ _ => PY.length - (intOf i).toNat)
          case atStart => exact ⟨0, by omega, rfl, H0, Below.refl _ _⟩
          case round =>
            obtain ⟨k, hkn, rfl, hO, hbr2⟩ := hrel
            clear H0
            have zr2 := hbr2.size
            by_cases hlt2 : k < PY.length
            · have hlt2' : (k : Int) < (PY.length : Int) := by omega
              obtain ⟨p, hp⟩ : ∃ p, PY[k]? = some p := ⟨_, List.getElem?_eq_getElem hlt2⟩
              obtain ⟨b1, o1, rfl, l1, f1⟩ := HQ.out.at' (by omega)
              obtain ⟨ev1, x0, x1, x2, x3, x4⟩ := f1 k p hp
              have hp0 := HG1.out p (List.mem_of_getElem? hp)
              rw [hp0] at x1
              replace x0 := keepC hbr2 l1 x0
              replace x1 := keepC hbr2 l1 x1
              replace x2 := keepC hbr2 l1 x2
              replace x3 := keepC hbr2 l1 x3
              have bz1 : b1 < wr.heap.size := Nat.lt_of_lt_of_le l1 zr2
              have w3' : IntKind.i64.wrap ((k : Int) + 1) = (k : Int) + 1 := wid (by omega) (by omega)
              have hfl : (PY.take (k + 1)).flatMap (·.ev) = (PY.take k).flatMap (·.ev) ++ p.ev := by rw [M.take_one hp, List.flatMap_append]; simp
              have HFL : Hid ((PY.take (k + 1)).flatMap (·.ev) = (PY.take k).flatMap (·.ev) ++ p.ev) := hfl
              have hlk1 := HLK.out (k + 1)
              rw [hfl, List.length_append] at hlk1
              have x4' : EVs wr (· < wr.heap.size) ev1 p.ev := x4.keep (Kp.below hbr2) (fun b hb => Nat.lt_of_lt_of_le hb zr2)
              obtain ⟨ae1, ce1, hev1, _⟩ := x4'
              subst hev1
              have hbX : Below wr.heap.size wr (wr.alloc (Obj.cells #[.int .i64 p.se, .int .i64 0, .slice ae1 p.ev.length ce1, .int .i64 p.p] 36)) := (Below.refl _ _).alloc (Nat.le_refl _) _
              have hOX := hO.out.bel hbX
              have hEX : EVs (wr.alloc (Obj.cells #[.int .i64 p.se, .int .i64 0, .slice ae1 p.ev.length ce1, .int .i64 p.p] 36)) (· < (wr.alloc (Obj.cells #[.int .i64 p.se, .int .i64 0, .slice ae1 p.ev.length ce1, .int .i64 p.p] 36)).heap.size) (.slice ae1 p.ev.length ce1) p.ev := x4.keep (Kp.below (hbr2.trans (hbX.mono zr2))) (fun b hb => by have := Nat.lt_of_lt_of_le hb zr2; simp; omega)
              have HOX : Hid (Z.OE (wr.alloc (Obj.cells #[.int .i64 p.se, .int .i64 0, .slice ae1 p.ev.length ce1, .int .i64 p.p] 36)) w3.heap.size u13 ((PY.take k).flatMap (·.ev))) := hOX
              have HEX : Hid (EVs (wr.alloc (Obj.cells #[.int .i64 p.se, .int .i64 0, .slice ae1 p.ev.length ce1, .int .i64 p.p] 36)) (· < (wr.alloc (Obj.cells #[.int .i64 p.se, .int .i64 0, .slice ae1 p.ev.length ce1, .int .i64 p.p] 36)).heap.size) (.slice ae1 p.ev.length ce1) p.ev) := hEX
              have hbb : w3.heap.size ≤ (wr.alloc (Obj.cells #[.int .i64 p.se, .int .i64 0, .slice ae1 p.ev.length ce1, .int .i64 p.p] 36)).heap.size := by simp; omega
              have hob := fun j hj => Z.own_block hO.out j hj
              clear hO hOX hEX x4 hfl hp hp0 f1 HQ HG1 HG2 HLK
              generalize (PY.take k).flatMap (·.ev) = FL at *
              go_wp2_with (at_builtin; refine wpList_append_evs rfl _ _ rfl w3.heap.size u13 FL rfl HOX.out _ p.ev rfl HEX.out (by omega) hbb ?_; intro v7 w7 hr7 hg7; have hb7 : Below w3.heap.size w3 w7 := (hbr2.trans (hbX.mono zr2)).trans (hg7.bel (B := w3.heap.size) hbb hob); have HR7 : Hid (Z.OE w7 w3.heap.size v7 ((PY.take (k + 1)).flatMap (·.ev))) := (by show Z.OE _ _ _ _; rw [HFL.out]; exact hr7))
              exact ⟨⟨k + 1, by omega, by go_num, HR7, hb7⟩, by simp [intOf]; omega⟩
            · obtain rfl : k = PY.length := by omega
              have hlt2' : ¬ ((PY.length : Nat) : Int) < PY.length := by omega
              have hO' := hO.out
              rw [List.take_length, HG2.out] at hO'
              obtain ⟨oa, oc, rfl, v1, v2, v3⟩ := hO'.le
              obtain ⟨ae', ce', hse, u1, u2, u3⟩ := HY4.out
              cases hse
              have hSm := Z.Same_yes NL oa ae oc ce wr v3 v1 v2 ((u3.keep (Kp.below hbr2)).le (fun b hb => Nat.lt_of_lt_of_le hb zr2)) u1 u2
              have y2' := keepC hbr2 l2 y2
              have bz2 : b2 < wr.heap.size := Nat.lt_of_lt_of_le l2 zr2
              have hb0w := hb03.trans (hbr2.mono hb03.size)
              have hqq : ((PY.length : Int) == (PY.length : Int)) = true := by simp
              clear hO hO' v3 u3 HY4 HG1 HG2 HLK HQ
              generalize PY.length = PN at *
              go_wp2_with fail
              refine hSm.mono ?_
              rintro e w9 ⟨rfl, hb9⟩
              go_wp2_with fail
              go_ret
              exact ⟨rfl, hb0w.trans (hb9.mono hb0w.size)⟩
        · have hq : (NE != 0) = true := by simp [hn]
          clear HN hn q2' y4 hpl
          go_wp2_with fail
          go_ret
          exact ⟨rfl, hb03⟩
      · have hz' : (VE != 0) = true := by simp [hz]
        clear J4 K4 HVE hz
        go_wp2_with fail
        go_ret
        exact ⟨rfl, hb03⟩
end Go.Proofs.Ytaohahahhjkcdah.X
