/- What the document's Walk comes to at every list of sections that is right. -/
import Derived.Test.YtaohahahhjkcdahX6
import Derived.Test.YtaohahahhjkcdahXMath5
namespace Go.Proofs.Ytaohahahhjkcdah.X
open Go.RowKit Go.Maps
set_option linter.unusedVariables false
set_option linter.unusedSimpArgs false

/-- What the document's Walk answers. -/
structure WkQ (w : World) (base : Nat) (f t a : Int) (v : Value) (out : List Z.M.Ev) (l : List M.Sc) (e : Ending) (w' : World) : Prop where
  ex : ∃ v' a', e = .returned (.tuple #[v', .int .i64 a']) ∧ Z.OE w' base v' (M.gc f t out (M.pls l a)) ∧ Z.Gw w w' v v' ∧ a ≤ a' ∧ a' ≤ a + M.tots l ∧ (a' = a + M.tots l ∨ t ≤ a' ∨ 4096 < (M.gc f t out (M.pls l a)).length)
def WkC (l : List M.Sc) : Prop := ∀ (a f t : Int) (w : World) (B base : Nat) (ao : Option Addr) (c : Nat) (v : Value) (out : List Z.M.Ev), LL w (· < B) ao l → B ≤ base → base ≤ w.heap.size → l.length ≤ c → c ≤ 9223372036854775807 → (∀ s ∈ l, M.Ok s) → 0 ≤ a → a + M.tots l ≤ 1125899906842624 → t ≤ 1125899906842624 → Z.OE w base v out → out.length ≤ 4097 →
  Calls Try.prog 19 #[.slice ao l.length c, .int .i64 a, .int .i64 f, .int .i64 t, v] w fun e w' => WkQ w base f t a v out l e w'
/-- What holds behind so many events of one time. -/
structure W3 (WB wr : World) (base : Nat) (vk v' : Value) (L : List Z.M.Ev) : Prop where
  o : Z.OE wr base v' L
  g : Z.Gw WB wr vk v'
theorem W3.bel {WB wr W : World} {base : Nat} {vk v' : Value} {L : List Z.M.Ev} (h : W3 WB wr base vk v' L) (hb : Below wr.heap.size wr W) : W3 WB W base vk v' L := ⟨h.o.bel hb, h.g.trans (Z.Gw.below _ hb)⟩

set_option maxRecDepth 20000 in
set_option maxHeartbeats 8000000 in
theorem walk_list (l : List M.Sc) (ih : ∀ s ∈ l, WkC s.kids) : WkC l := by
  intro a f t w B base ao c v out hL hB hbz hc hcm hok ha0 ha1 ht1 hOE hol
  have IH : Hid (∀ s ∈ l, WkC s.kids) := ih
  have HL : Hid (LL w (· < B) ao l) := hL
  have HO : Hid (∀ s ∈ l, M.Ok s) := hok
  have HT : Hid (∀ k, 0 ≤ M.tots (l.take k) ∧ M.tots (l.take k) ≤ M.tots l) := fun k => M.tots_take_le hok k
  have H0 : Hid (W3 w w base v v (M.gc f t out (M.pls (l.take 0) a))) := by
    show W3 _ _ _ _ _ (M.gc f t out [])
    rw [M.gc_nil hol]
    exact ⟨hOE, Z.Gw.below v (Below.refl _ _)⟩
  have E0 : Hid (a = a + M.tots (l.take 0)) := by show a = a + (0 : Int); omega
  have hBb : ∀ j, v.ownBlock = some j → base ≤ j := fun j hj => Z.own_block hOE j hj
  clear ih hL hok hOE
  go_enter Try.func19, Try.ntmps19
  go_wp2_with fail
  go_loopw [20, 1, 4] (fun i x y wr => ∃ (k : Nat) (a' : Int), k ≤ l.length ∧ i = .int .i64 k ∧ x = .int .i64 a' ∧ Hid (W3 w wr base v y (M.gc f t out (M.pls (l.take k) a))) ∧ a ≤ a' ∧ Hid (a' ≤ a + M.tots (l.take k) ∧ (a' = a + M.tots (l.take k) ∨ t ≤ a' ∨ 4096 < (M.gc f t out (M.pls (l.take k) a)).length))) (fun i _ _ _ => l.length - (intOf i).toNat)
  case atStart => exact ⟨0, a, by omega, rfl, rfl, H0, Int.le_refl _, (⟨by rw [← E0.out]; exact Int.le_refl _, Or.inl E0.out⟩ : a ≤ a + M.tots (l.take 0) ∧ (a = a + M.tots (l.take 0) ∨ t ≤ a ∨ 4096 < (M.gc f t out (M.pls (l.take 0) a)).length))⟩
  case round =>
    obtain ⟨k, a', hkn, rfl, rfl, hW, ha', hD⟩ := hrel
    clear H0 E0
    have hgs := hW.out.g.gr.size
    have hbB : Below B w wr := hW.out.g.bel (by omega) (fun j hj => by have := hBb j hj; omega)
    by_cases hlt : k < l.length
    · have hlt' : (k : Int) < l.length := by omega
      obtain ⟨s, hs⟩ : ∃ s, l[k]? = some s := ⟨_, List.getElem?_eq_getElem hlt⟩
      have hmem : s ∈ l := List.mem_of_getElem? hs
      have hsok := HO.out s hmem
      have fi := hsok.fine
      obtain ⟨b, off, rfl, hbB2, q0⟩ := (HL.out.keep (Kp.below hbB)).at' (by omega)
      obtain ⟨ea, ec, ka, kc, q, hSV⟩ := q0 k s hs
      have r0 := q.c0
      have r1 := q.c1
      have r2 := q.c2
      have r3 := q.c3
      have bz : b < wr.heap.size := by omega
      have w3 : IntKind.i64.wrap ((k : Int) + 1) = (k : Int) + 1 := wid (by omega) (by omega)
      have hT1 := HT.out k
      have hT2 := HT.out (k + 1)
      have eT := M.tots_take hs
      have ePl := M.pls_take hs a
      have t0 := fi.t0
      have t1 := fi.t1
      have l0 := fi.l0
      have l1 := fi.l1
      have k0 := fi.k0
      have k1 := fi.k1
      have av0 := fi.a0
      have av1 := fi.a1
      have hev := M.ev_len hsok
      have hevb : Hid (∀ e ∈ s.ev, 0 ≤ e.t ∧ e.t < s.l) := fun e he => ⟨M.inc_ge (M.inc_ev hsok) e he, fi.fit e he⟩
      have HEO : Hid (M.onc s = s.l + M.tots s.kids) := rfl
      have eX : M.tot s = s.t * M.onc s := M.tot_eq s
      obtain ⟨T, hT⟩ : ∃ T : Nat, s.t = T := ⟨s.t.toNat, by omega⟩
      have hTT : s.t.toNat = T := by omega
      have HN := hSV.n
      -- where this section begins
      obtain ⟨pk, hpk⟩ : ∃ p, p = a + M.tots (l.take k) := ⟨_, rfl⟩
      have hpk0 : 0 ≤ pk := by omega
      have hmul : ∀ j : Nat, j ≤ T → pk + (j : Int) * M.onc s ≤ 1125899906842624 ∧ 0 ≤ (j : Int) * M.onc s ∧ pk + (j : Int) * M.onc s ≤ pk + M.tot s := fun j hj => by
        have h1 : (j : Int) * M.onc s ≤ (T : Int) * M.onc s := Int.mul_le_mul_of_nonneg_right (by omega) (M.onc_bd hsok).1
        rw [hT] at eX
        refine ⟨by omega, Int.mul_nonneg (by omega) (M.onc_bd hsok).1, by omega⟩
      have Hmul : Hid (∀ j : Nat, j ≤ T → pk + (j : Int) * M.onc s ≤ 1125899906842624 ∧ 0 ≤ (j : Int) * M.onc s ∧ pk + (j : Int) * M.onc s ≤ pk + M.tot s) := hmul
      have Hlast : Hid (∀ j : Nat, M.tm (M.one s) (M.onc s) (j + 1) pk = (M.tm (M.one s) (M.onc s) j pk ++ M.sh (pk + (j : Int) * M.onc s) s.ev) ++ M.pls s.kids (pk + (j : Int) * M.onc s + s.l)) := fun j => by
        show _ = _
        rw [M.tm_last, List.append_assoc]; rfl
      have Hend : Hid (∀ (j : Nat) (x : Int), j ≤ T → x ≤ pk + (j : Int) * M.onc s → (j = T ∨ t ≤ x ∨ 4096 < (M.gc f t out (M.pls (l.take k) a ++ M.tm (M.one s) (M.onc s) j pk)).length) → M.gc f t out (M.pls (l.take (k + 1)) a) = M.gc f t out (M.pls (l.take k) a ++ M.tm (M.one s) (M.onc s) j pk)) := fun j x hj hx hd => by
        show _ = _
        rw [ePl, ← hpk]
        obtain ⟨K, hK, hK2⟩ := M.pl_split s hsok j (by omega) pk
        rcases hd with rfl | hd | hd
        · rw [M.pl_eq, hTT]
        · rw [hK, ← List.append_assoc]
          exact M.gc_late (fun e he => by have := hK2 e he; omega)
        · rw [hK, ← List.append_assoc]
          exact M.gc_full K hd
      have HKc := fun (W : World) (vv : Value) (oo : List Z.M.Ev) (x : Int) (hb : Below B wr W) (hz : base ≤ W.heap.size) (h0 : 0 ≤ x) (h1 : x + M.tots s.kids ≤ 1125899906842624) (h2 : Z.OE W base vv oo) (h3 : oo.length ≤ 4097) => IH.out s hmem x f t W B base ka kc vv oo ((LS.keep (Kp.below hb) s ka hSV.k).ll) hB hz HN.h3 HN.h4 fi.kids h0 h1 ht1 h2 h3
      have HEl : Hid (∀ W, Below B wr W → EL W (· < B) ea s.ev) := fun W hb => hSV.e.keep (Kp.below hb)
      have n1 := HN.h1
      have n2 := HN.h2
      have hob4 : ∀ j, u4.ownBlock = some j → base ≤ j ∧ j < wr.heap.size := fun j hj => ⟨Z.own_block hW.out.o j hj, Z.own_lt hW.out.o j hj⟩
      have HTO : Hid (M.tot s = (T : Int) * M.onc s) := by show _ = _; rw [eX, hT]
      have HpT : Hid (a + M.tots (l.take (k + 1)) = pk + M.tot s) := by show _ = _; rw [eT, hpk]; omega
      have HD : Hid (a' ≤ pk ∧ (a' = pk ∨ t ≤ a' ∨ 4096 < (M.gc f t out (M.pls (l.take k) a)).length)) := by rw [hpk]; exact hD
      clear IH HL HO HT hSV q q0 hs hmem hsok fi ePl eT hD hmul eX hTT hT1 hT2 HN
      obtain ⟨st, sl, sev, skids⟩ := s
      dsimp only at *
      subst hT
      generalize M.onc ⟨(T : Int), sl, sev, skids⟩ = O at *
      generalize M.one ⟨(T : Int), sl, sev, skids⟩ = F at *
      generalize M.tot ⟨(T : Int), sl, sev, skids⟩ = TOT at *
      obtain ⟨PRE, hPRE⟩ : ∃ p, p = M.pls (l.take k) a := ⟨_, rfl⟩
      rw [← hPRE] at hW HD Hend
      clear hPRE
      go_wp2_with fail
      have hbA : Below wr.heap.size wr (wr.alloc (Obj.cells #[.int .i64 (T : Int), .int .i64 sl, .slice ea sev.length ec, .slice ka skids.length kc] 44)) := (Below.refl _ _).alloc (Nat.le_refl _) _
      have x0 : (wr.alloc (Obj.cells #[.int .i64 (T : Int), .int .i64 sl, .slice ea sev.length ec, .slice ka skids.length kc] 44)).cell? ⟨wr.heap.size, 0, none⟩ = some (.int .i64 (T : Int)) := by simp [go_sem]
      have x1 : (wr.alloc (Obj.cells #[.int .i64 (T : Int), .int .i64 sl, .slice ea sev.length ec, .slice ka skids.length kc] 44)).cell? ⟨wr.heap.size, 1, none⟩ = some (.int .i64 sl) := by simp [go_sem]
      have x2 : (wr.alloc (Obj.cells #[.int .i64 (T : Int), .int .i64 sl, .slice ea sev.length ec, .slice ka skids.length kc] 44)).cell? ⟨wr.heap.size, 2, none⟩ = some (.slice ea sev.length ec) := by simp [go_sem]
      have x3 : (wr.alloc (Obj.cells #[.int .i64 (T : Int), .int .i64 sl, .slice ea sev.length ec, .slice ka skids.length kc] 44)).cell? ⟨wr.heap.size, 3, none⟩ = some (.slice ka skids.length kc) := by simp [go_sem]
      have zA : (wr.alloc (Obj.cells #[.int .i64 (T : Int), .int .i64 sl, .slice ea sev.length ec, .slice ka skids.length kc] 44)).heap.size = wr.heap.size + 1 := by simp
      generalize wr.alloc (Obj.cells #[.int .i64 (T : Int), .int .i64 sl, .slice ea sev.length ec, .slice ka skids.length kc] 44) = WB at *
      obtain ⟨w0, hw0⟩ : ∃ x, x = wr := ⟨wr, rfl⟩
      subst hw0
      have hWB : W3 WB WB base u4 u4 (M.gc f t out PRE) := ⟨hW.out.o.bel hbA, Z.Gw.below _ (Below.refl _ _)⟩
      have hG0 : Z.Gw w WB v u4 := hW.out.g.trans (Z.Gw.below _ hbA)
      have hne4 : some w0.heap.size ≠ u4.ownBlock := fun q => by have := (hob4 _ q.symm).2; omega
      have H2 : Hid (W3 WB WB base u4 u4 (M.gc f t out (PRE ++ M.tm F O 0 pk))) := by show W3 _ _ _ _ _ (M.gc f t out (PRE ++ [])); rw [List.append_nil]; exact hWB
      have HD2 : Hid (a' ≤ pk + ((0 : Nat) : Int) * O ∧ (a' = pk + ((0 : Nat) : Int) * O ∨ t ≤ a' ∨ 4096 < (M.gc f t out (PRE ++ M.tm F O 0 pk)).length)) := by
        show a' ≤ pk + ((0 : Nat) : Int) * O ∧ (a' = pk + ((0 : Nat) : Int) * O ∨ t ≤ a' ∨ 4096 < (M.gc f t out (PRE ++ [])).length)
        rw [Int.natCast_zero, Int.zero_mul, Int.add_zero, List.append_nil]; exact HD.out
      have hbBA : Below B w0 WB := hbA.mono (by omega)
      have r4 : ∀ j, u4.ownBlock = some j → base ≤ j := fun j hj => (hob4 j hj).1
      clear hW HD hWB r0 r1 r2 r3
      obtain ⟨vk, hvk⟩ : ∃ x, x = u4 := ⟨u4, rfl⟩
      subst hvk
      go_loopw [14, 1, 4] (fun i x y wx => ∃ (j : Nat) (a2 : Int), j ≤ T ∧ i = .int .i64 j ∧ x = .int .i64 a2 ∧ Hid (W3 WB wx base vk y (M.gc f t out (PRE ++ M.tm F O j pk))) ∧ a ≤ a2 ∧ Hid (a2 ≤ pk + (j : Int) * O ∧ (a2 = pk + (j : Int) * O ∨ t ≤ a2 ∨ 4096 < (M.gc f t out (PRE ++ M.tm F O j pk)).length))) (fun i _ _ _ => T - (intOf i).toNat)
      case atStart => exact ⟨0, a', by omega, rfl, rfl, H2, ha', HD2⟩
      case round =>
        obtain ⟨j, a2, hjT, rfl, rfl, hW2, ha2, hDj⟩ := hrel
        clear H2 HD2
        have hgs2 := hW2.out.g.gr.size
        have y0 := hW2.out.g.cell (by omega) hne4 x0
        have y1 := hW2.out.g.cell (by omega) hne4 x1
        have y2 := hW2.out.g.cell (by omega) hne4 x2
        have y3 := hW2.out.g.cell (by omega) hne4 x3
        have sz : w0.heap.size < wr.heap.size := by omega
        have hbB2' : Below B w0 wr := hbBA.trans (hW2.out.g.bel (by omega) (fun i hi => by have := r4 i hi; omega))
        have hgl := M.gc_len f t out (PRE ++ M.tm F O j pk)
        have hout : (j = T ∨ t ≤ a2 ∨ 4096 < (M.gc f t out (PRE ++ M.tm F O j pk)).length) → Hid (W3 w wr base v u4 (M.gc f t out (M.pls (l.take (k + 1)) a))) ∧ Hid (a2 ≤ a + M.tots (l.take (k + 1)) ∧ (a2 = a + M.tots (l.take (k + 1)) ∨ t ≤ a2 ∨ 4096 < (M.gc f t out (M.pls (l.take (k + 1)) a)).length)) := fun hd => by
          have he := Hend.out j a2 hjT hDj.out.1 hd
          have hm := Hmul.out j hjT
          refine ⟨?_, ?_⟩
          · show W3 _ _ _ _ _ _
            rw [he]; exact ⟨hW2.out.o, hG0.trans hW2.out.g⟩
          · show a2 ≤ _ ∧ _
            rw [he, HpT.out]
            refine ⟨by have := hDj.out.1; omega, ?_⟩
            rcases hd with rfl | hd | hd
            · rw [HTO.out]; exact hDj.out.2
            · exact Or.inr (Or.inl hd)
            · exact Or.inr (Or.inr hd)
        obtain ⟨va, vc, hv4, hv1, hv2⟩ := own_form hW2.out.o
        obtain ⟨N, hN⟩ : ∃ N, N = (M.gc f t out (PRE ++ M.tm F O j pk)).length := ⟨_, rfl⟩
        rw [← hN] at hv4 hv1 hgl
        by_cases cT : j < T
        · have cT' : (j : Int) < (T : Int) := by omega
          by_cases ct : a2 < t
          · by_cases cN : N ≤ 4096
            · have cN' : (N : Int) ≤ 4096 := by omega
              have eP : a2 = pk + (j : Int) * O := by
                rcases hDj.out.2 with h | h | h
                · exact h
                · omega
                · omega
              obtain ⟨m1, m2, _⟩ := Hmul.out j hjT
              obtain ⟨m3, _, _⟩ := Hmul.out (j + 1) (by omega)
              have m4 : ((j + 1 : Nat) : Int) * O = (j : Int) * O + O := by rw [Int.natCast_add, Int.add_mul]; simp
              have hl3 := Hlast.out j
              rw [← eP] at hl3
              have HL3 : Hid (M.tm F O (j + 1) pk = (M.tm F O j pk ++ M.sh a2 sev) ++ M.pls skids (a2 + sl)) := hl3
              have HP1 : Hid (pk + ((j + 1 : Nat) : Int) * O = a2 + O) := by show _ = _; rw [m4, eP]; omega
              have hP0 : 0 ≤ a2 := by omega
              have hP1 : a2 + O ≤ 1125899906842624 := by have := HP1.out; omega
              obtain ⟨LC, hLC⟩ : ∃ x, x = PRE ++ M.tm F O j pk := ⟨_, rfl⟩
              have HLC : Hid (LC = PRE ++ M.tm F O j pk) := hLC
              rw [← hLC] at hW2
              have H3 : Hid (W3 WB wr base vk u4 (M.gc f t out (LC ++ M.sh a2 (sev.take 0)))) := by show W3 _ _ _ _ _ (M.gc f t out (LC ++ [])); rw [List.append_nil]; exact hW2.out
              clear hout hDj hW2 eP m1 m2 m3 m4 hl3 Hlast Hend hLC hN
              subst hv4
              go_wp2_with fail
              obtain ⟨w5, hw5⟩ : ∃ x, x = wr := ⟨wr, rfl⟩
              subst hw5
              clear y0 hgl hv1 hv2 cN cN'
              go_loopw [43, 4] (fun i y wx => ∃ (q : Nat), q ≤ sev.length ∧ i = .int .i64 q ∧ Hid (W3 WB wx base vk y (M.gc f t out (LC ++ M.sh a2 (sev.take q))))) (fun i _ _ => sev.length - (intOf i).toNat)
              case atStart => exact ⟨0, by omega, rfl, H3⟩
              case round =>
                obtain ⟨q, hqn, rfl, hW3⟩ := hrel
                clear H3
                have hgs3 := hW3.out.g.gr.size
                have hbB3 : Below B w0 wr := hbBA.trans (hW3.out.g.bel (by omega) (fun i hi => by have := r4 i hi; omega))
                have z0 := hW3.out.g.cell (by omega) hne4 x0
                have z1 := hW3.out.g.cell (by omega) hne4 x1
                have z2 := hW3.out.g.cell (by omega) hne4 x2
                have z3 := hW3.out.g.cell (by omega) hne4 x3
                have sz3 : w0.heap.size < wr.heap.size := by omega
                have hgl3 := M.gc_len f t out (LC ++ M.sh a2 (sev.take q))
                by_cases hlq : q < sev.length
                · have hlq' : (q : Int) < sev.length := by omega
                  obtain ⟨e, he⟩ : ∃ e, sev[q]? = some e := ⟨_, List.getElem?_eq_getElem hlq⟩
                  obtain ⟨eb, eo, rfl, heB, g0⟩ := (HEl.out wr hbB3).at' (by omega)
                  have g5 := g0 q e he
                  have f0 := g5.c0
                  have f1 := g5.c1
                  have f2 := g5.c2
                  have f3 := g5.c3
                  have f4 := g5.c4
                  have ebz : eb < wr.heap.size := by omega
                  have hebd := hevb.out e (List.mem_of_getElem? he)
                  have wq : IntKind.i64.wrap ((q : Int) + 1) = (q : Int) + 1 := wid (by omega) (by omega)
                  have we : IntKind.i64.wrap (a2 + e.t) = a2 + e.t := wid (by omega) (by omega)
                  have esh : LC ++ M.sh a2 (sev.take (q + 1)) = (LC ++ M.sh a2 (sev.take q)) ++ [M.lat a2 e] := by rw [M.sh_take he, List.append_assoc]
                  have ESH : Hid (LC ++ M.sh a2 (sev.take (q + 1)) = (LC ++ M.sh a2 (sev.take q)) ++ [M.lat a2 e]) := esh
                  have hskip : (¬ (f ≤ a2 + e.t ∧ a2 + e.t < t) ∨ 4096 < (M.gc f t out (LC ++ M.sh a2 (sev.take q))).length) → ∀ W, Below wr.heap.size wr W → Hid (W3 WB W base vk u4 (M.gc f t out (LC ++ M.sh a2 (sev.take (q + 1))))) := fun hd W hb => by
                    show W3 _ _ _ _ _ _
                    rw [ESH.out]
                    rcases hd with hd | hd
                    · rw [M.gc_out (e := M.lat a2 e) hd]; exact hW3.out.bel hb
                    · rw [M.gc_full _ hd]; exact hW3.out.bel hb
                  obtain ⟨va, vc2, hv4, hv1, hv2⟩ := own_form hW3.out.o
                  obtain ⟨N2, hN2⟩ : ∃ N, N = (M.gc f t out (LC ++ M.sh a2 (sev.take q))).length := ⟨_, rfl⟩
                  rw [← hN2] at hv4 hv1 hgl3
                  have hA1 : ∀ W, Below wr.heap.size wr (wr.alloc W) := fun W => (Below.refl _ _).alloc (Nat.le_refl _) _
                  by_cases d1 : f ≤ a2 + e.t
                  · by_cases d2 : a2 + e.t < t
                    · by_cases d3 : N2 ≤ 4096
                      · have d3' : (N2 : Int) ≤ 4096 := by omega
                        have hin := M.gc_in (f := f) (t := t) (out := out) (L := LC ++ M.sh a2 (sev.take q)) (e := M.lat a2 e) (by omega) d1 d2
                        rw [← esh] at hin
                        have HIN : Hid (M.gc f t out (LC ++ M.sh a2 (sev.take (q + 1))) = M.gc f t out (LC ++ M.sh a2 (sev.take q)) ++ [M.lat a2 e]) := hin
                        have HO3 : Hid (W3 WB wr base vk u4 (M.gc f t out (LC ++ M.sh a2 (sev.take q)))) := hW3
                        have HN2 : Hid (N2 = (M.gc f t out (LC ++ M.sh a2 (sev.take q))).length) := hN2
                        clear hskip hW3 esh ESH he g0 g5 hin hN2
                        generalize M.gc f t out (LC ++ M.sh a2 (sev.take q)) = GL at *
                        obtain ⟨et, ek, ec', ea', eb'⟩ := e
                        dsimp only at *
                        have hbX : ∀ o1, Below wr.heap.size wr (((wr.alloc o1).alloc (Obj.cells #[.int .i64 (a2 + et), .int .i64 ek, .int .i64 ec', .int .i64 ea', .int .i64 eb'] 61)).alloc (Obj.cells #[.int .i64 (a2 + et), .int .i64 ek, .int .i64 ec', .int .i64 ea', .int .i64 eb'] 61)) := fun o1 => (((Below.refl _ wr).alloc (Nat.le_refl _) _).alloc (by simp) _).alloc (by simp; omega) _
                        have hE5 : ∀ o1, Z.E5 (((wr.alloc o1).alloc (Obj.cells #[.int .i64 (a2 + et), .int .i64 ek, .int .i64 ec', .int .i64 ea', .int .i64 eb'] 61)).alloc (Obj.cells #[.int .i64 (a2 + et), .int .i64 ek, .int .i64 ec', .int .i64 ea', .int .i64 eb'] 61)) (wr.heap.size + 1 + 1) 0 (M.lat a2 ⟨et, ek, ec', ea', eb'⟩) := fun o1 => ⟨by simp [go_sem, M.lat], by simp [go_sem, M.lat], by simp [go_sem, M.lat], by simp [go_sem, M.lat], by simp [go_sem, M.lat]⟩
                        have hbase3 : ∀ o1, base ≤ (((wr.alloc o1).alloc (Obj.cells #[.int .i64 (a2 + et), .int .i64 ek, .int .i64 ec', .int .i64 ea', .int .i64 eb'] 61)).alloc (Obj.cells #[.int .i64 (a2 + et), .int .i64 ek, .int .i64 ec', .int .i64 ea', .int .i64 eb'] 61)).heap.size := fun o1 => by simp; omega
                        have hlGL : GL.length ≤ 1000000 := by have := HN2.out; omega
                        subst hv4
                        go_wp2_with (at_builtin; refine Z.wpList_append_ev rfl _ _ rfl base _ GL rfl (HO3.out.o.bel (hbX _)) (wr.heap.size + 1 + 1) (M.lat a2 ⟨et, ek, ec', ea', eb'⟩) rfl (hE5 _) hlGL (hbase3 _) ?_; intro v7 w7 hr7 hg7; have HR7 : Hid (W3 WB w7 base vk v7 (M.gc f t out (LC ++ M.sh a2 (sev.take (q + 1))))) := (by show W3 _ _ _ _ _ _; rw [HIN.out]; exact ⟨hr7, (HO3.out.g.trans (Z.Gw.below _ (hbX _))).trans hg7⟩))
                        exact ⟨⟨q + 1, by omega, by go_num, HR7⟩, by simp [intOf]; omega⟩
                      · have d3' : ¬ (N2 : Int) ≤ 4096 := by omega
                        have hk' := hskip (Or.inr (by omega)) _ (hA1 (Obj.cells #[.int .i64 e.t, .int .i64 e.k, .int .i64 e.c, .int .i64 e.a, .int .i64 e.b] 61))
                        clear hskip hW3 esh ESH he g0 g5 hN2
                        obtain ⟨et, ek, ec', ea', eb'⟩ := e
                        dsimp only at *
                        subst hv4
                        go_wp2_with fail
                        go_roundw
                        case rel => exact ⟨q + 1, by omega, by go_num, hk'⟩
                        case measure => simp [intOf]; omega
                    · have hk' := hskip (Or.inl (fun h => d2 h.2)) _ (hA1 (Obj.cells #[.int .i64 e.t, .int .i64 e.k, .int .i64 e.c, .int .i64 e.a, .int .i64 e.b] 61))
                      clear hskip hW3 esh ESH he g0 g5 hN2
                      obtain ⟨et, ek, ec', ea', eb'⟩ := e
                      dsimp only at *
                      subst hv4
                      go_wp2_with fail
                      go_roundw
                      case rel => exact ⟨q + 1, by omega, by go_num, hk'⟩
                      case measure => simp [intOf]; omega
                  · have hk' := hskip (Or.inl (fun h => d1 h.1)) _ (hA1 (Obj.cells #[.int .i64 e.t, .int .i64 e.k, .int .i64 e.c, .int .i64 e.a, .int .i64 e.b] 61))
                    clear hskip hW3 esh ESH he g0 g5 hN2
                    obtain ⟨et, ek, ec', ea', eb'⟩ := e
                    dsimp only at *
                    subst hv4
                    go_wp2_with fail
                    go_roundw
                    case rel => exact ⟨q + 1, by omega, by go_num, hk'⟩
                    case measure => simp [intOf]; omega
                · obtain rfl : q = sev.length := by omega
                  have hlq' : ¬ ((sev.length : Nat) : Int) < sev.length := by omega
                  have hWo := hW3.out
                  rw [List.take_length] at hWo hgl3
                  have wl2 : IntKind.i64.wrap (a2 + sl) = a2 + sl := wid (by omega) (by omega)
                  have HKK := HKc wr u4 _ (a2 + sl) hbB3 (by omega) (by omega) (by have := HEO.out; omega) hWo.o hgl3
                  have HWO : Hid (W3 WB wr base vk u4 (M.gc f t out (LC ++ M.sh a2 sev))) := hWo
                  clear hW3 hWo HKc HEl
                  go_wp2_with fail
                  refine HKK.mono ?_
                  rintro e w6 ⟨v6, a6, rfl, o6, g6, p1, p2, p3⟩
                  have eAll : M.gc f t (M.gc f t out (LC ++ M.sh a2 sev)) (M.pls skids (a2 + sl)) = M.gc f t out (PRE ++ M.tm F O (j + 1) pk) := by
                    rw [M.gc_rec, HL3.out, HLC.out]; simp only [List.append_assoc]
                  rw [eAll] at o6 p3
                  have HR6 : Hid (W3 WB w6 base vk v6 (M.gc f t out (PRE ++ M.tm F O (j + 1) pk))) := ⟨o6, HWO.out.g.trans g6⟩
                  have HD6 : Hid (a6 ≤ pk + ((j + 1 : Nat) : Int) * O ∧ (a6 = pk + ((j + 1 : Nat) : Int) * O ∨ t ≤ a6 ∨ 4096 < (M.gc f t out (PRE ++ M.tm F O (j + 1) pk)).length)) := by
                    show a6 ≤ pk + ((j + 1 : Nat) : Int) * O ∧ _
                    rw [HP1.out]
                    have := HEO.out
                    refine ⟨by omega, ?_⟩
                    rcases p3 with h | h | h
                    · exact Or.inl (by omega)
                    · exact Or.inr (Or.inl h)
                    · exact Or.inr (Or.inr h)
                  have ha6 : a ≤ a6 := by omega
                  have wj : IntKind.i64.wrap ((j : Int) + 1) = (j : Int) + 1 := wid (by omega) (by omega)
                  clear eAll o6 p3 HKK HWO g6
                  go_wp2_with fail
                  go_roundw
                  case rel => exact ⟨j + 1, a6, by omega, by go_num, rfl, HR6, ha6, HD6⟩
                  case measure => simp [intOf]; omega
            · have cN' : ¬ (N : Int) ≤ 4096 := by omega
              have cN2 : decide ((N : Int) ≤ 4096) = false := decide_eq_false cN'
              have cN3 : decide (N ≤ 4096) = false := decide_eq_false cN
              obtain ⟨h1', h2'⟩ := hout (Or.inr (Or.inr (by omega)))
              clear hout hDj hW2 Hend Hmul Hlast hN
              subst hv4
              go_wp2_with fail
              go_roundw
              case rel => exact ⟨k + 1, a2, by omega, by go_num, rfl, h1', ha2, h2'⟩
              case measure => simp [intOf]; omega
          · obtain ⟨h1', h2'⟩ := hout (Or.inr (Or.inl (by omega)))
            clear hout hDj hW2 Hend Hmul Hlast hN
            subst hv4
            go_wp2_with fail
            go_roundw
            case rel => exact ⟨k + 1, a2, by omega, by go_num, rfl, h1', ha2, h2'⟩
            case measure => simp [intOf]; omega
        · have cT' : ¬ (j : Int) < (T : Int) := by omega
          obtain ⟨h1', h2'⟩ := hout (Or.inl (by omega))
          clear hout hDj hW2 Hend Hmul Hlast hN
          subst hv4
          go_wp2_with fail
          go_roundw
          case rel => exact ⟨k + 1, a2, by omega, by go_num, rfl, h1', ha2, h2'⟩
          case measure => simp [intOf]; omega
    · obtain rfl : k = l.length := by omega
      have hlt' : ¬ ((l.length : Nat) : Int) < l.length := by omega
      have hWo := hW.out
      have hDo := hD.out
      rw [List.take_length] at hWo hDo
      have HWQ : Hid (∀ e, e = .returned (.tuple #[u4, .int .i64 a']) → WkQ w base f t a v out l e wr) := fun e he => ⟨u4, a', he, hWo.o, hWo.g, ha', hDo.1, hDo.2⟩
      clear hW hD hWo hDo IH HL HO HT
      go_wp2_with fail
      go_returns
      exact HWQ.out _ rfl
theorem walk_any (l : List M.Sc) : WkC l := by
  suffices H : ∀ s : M.Sc, WkC s.kids from walk_list l (fun s _ => H s)
  intro s
  induction s using M.Sc.ind with
  | h t L ev kids ih => exact walk_list kids ih
end Go.Proofs.Ytaohahahhjkcdah.X
