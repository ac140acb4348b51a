/- FilterRuns: the law's text, walked. -/
import Derived.Test.YtjfmpgfpehnnjaiFi10
import Derived.Test.YtjfmpgfpehnnjaiFiMath7
namespace Go.Proofs.Ytjfmpgfpehnnjai.Fi
open Go.RowKit Go.Maps Go.Sort Fl
set_option linter.unusedSimpArgs false
set_option linter.unusedVariables false

theorem PL.up {w : World} {N M : Nat} {ao : Option Addr} {ps : List (List Nat)} (h : PL w N ao ps) (hM : N ≤ M) : PL w M ao ps := ⟨fun hn => by
  obtain ⟨b, off, h1, h2, h3⟩ := h.at' hn
  refine ⟨b, off, h1, by omega, fun j p hj => ?_⟩
  obtain ⟨a, c, g1, g2, g3, g4, g5⟩ := h3 j p hj
  exact ⟨a, c, g1, g2, g3, g4, g5.keep (fun _ _ _ => rfl) (Nat.le_refl _) (fun b hb _ => by omega)⟩⟩
theorem strn_get (c : Cf) (r : Int) {ps : List (List Nat)} {k : Nat} {p : List Nat} (h : ps[k]? = some p) : (strn c r 0 rest0 ps)[k]? = some (outs c (at' r k (stn c r 0 rest0 (ps.take k))) (abs p)) := by
  have e : ps = ps.take (k + 1) ++ ps.drop (k + 1) := (List.take_append_drop _ _).symm
  have hk : k < ps.length := (List.getElem?_eq_some_iff.1 h).1
  have hl : (strn c r 0 rest0 (ps.take k)).length = k := by rw [strn_len, take_len' h]
  rw [e, strn_app, ← e, strn_step c r h, List.append_assoc, List.getElem?_append_right (by omega), hl]
  simp
theorem sum_le {ps : List (List Nat)} {k : Nat} {p : List Nat} (h : ps[k]? = some p) : ((ps.take k).map List.length).sum + p.length ≤ (ps.map List.length).sum := by
  have e : ps = ps.take (k + 1) ++ ps.drop (k + 1) := (List.take_append_drop _ _).symm
  rw [take_snoc' h] at e
  have e2 : (ps.map List.length).sum = ((ps.take k ++ [p] ++ ps.drop (k + 1)).map List.length).sum := by rw [← e]
  rw [e2]
  simp
theorem sum_step {ps : List (List Nat)} {k : Nat} {p : List Nat} (h : ps[k]? = some p) : ((ps.take (k + 1)).map List.length).sum = ((ps.take k).map List.length).sum + p.length := by
  rw [take_snoc' h]; simp
/-- What came in since the last rest and all that came out, in two rows of one's own. -/
structure RO (w : World) (B : Nat) (v u : Value) (I A : List Nat) : Prop where
  o1 : w.ownsRow B 23 1 v I.length (fls I)
  o2 : w.ownsRow B 23 1 u A.length (fls A)
  ap : ∀ k, v.ownBlock = some k → u.ownBlock ≠ some k
  w1 : ∀ x ∈ I, x < 18446744073709551616
  w2 : ∀ x ∈ A, x < 18446744073709551616
theorem RO.rest {w : World} {B : Nat} {v u : Value} {I A : List Nat} (h : RO w B v u I A) : RO w B (.slice none 0 0) u [] A := ⟨World.ownsRow_nil _ _ _ _, h.o2, fun k hk => by simp [Value.ownBlock] at hk, fun x hx => absurd hx (by simp), h.w2⟩
theorem own_len {w : World} {B : Nat} {v : Value} {I : List Nat} {n : Nat} (h : w.ownsRow B 23 1 v I.length (fls I)) (hn : n = I.length) : w.ownsRow B 23 1 v I.length (fls I) := h
theorem own_l {w : World} {B : Nat} {v : Value} {I : List Nat} {n : Nat} (h : w.ownsRow B 23 1 v I.length (fls I)) (hn : n = I.length) : w.ownsRow B 23 1 v n (fls I) := by rw [hn]; exact h
theorem il_w {w : World} {S : Nat → Prop} {ao : Option Addr} {l : List Nat} (h : IL w S ao l) : ∀ x ∈ l, x < 18446744073709551616 := fun x hx => by
  obtain ⟨i, hi, e⟩ := List.getElem_of_mem hx
  obtain ⟨b, off, _, _, _, h4⟩ := h.at' (by omega)
  exact (h4 i x (by rw [List.getElem?_eq_getElem hi, e])).2
/-- Behind both appends. -/
theorem RO.put {w w5 w6 : World} {B : Nat} {v v5 u u6 : Value} {I A p g : List Nat} {ni na pl : Nat} (h : RO w B v u I A) (hni : ni = I.length) (hna : na = A.length) (hpl : p.length = pl) (hgl : g.length = pl) (hp : ∀ x ∈ p, x < 18446744073709551616) (hg : ∀ x ∈ g, x < 18446744073709551616)
    (o5 : w5.ownsRow B 23 1 v5 (ni + pl) (fls I ++ fls p)) (g5 : Gw w w5 v v5) (o6 : w6.ownsRow B 23 1 u6 (na + pl) (fls A ++ fls g)) (g6 : Gw w5 w6 u u6) : RO w6 B v5 u6 (I ++ p) (A ++ g) := by
  have lu := own_lt h.o2
  have lv5 := own_lt o5
  have z5 := g5.gr.size
  have ap5 : ∀ k, v5.ownBlock = some k → u.ownBlock ≠ some k := fun k hk q => by
    rcases g5.ob with e | ⟨j, e, hj⟩
    · rw [e] at hk; exact h.ap k hk q
    · rw [e] at hk; have := lu k q; simp at hk; omega
  refine ⟨?_, ?_, fun k hk q => ?_, fun x hx => ?_, fun x hx => ?_⟩
  · have e : (I ++ p).length = ni + pl := by rw [List.length_append, hni, hpl]
    rw [e]
    have e2 : fls (I ++ p) = fls I ++ fls p := by unfold fls; rw [List.map_append]
    rw [e2]
    exact own_step o5 (fun k hk => g6.gr.block k (lv5 k hk) (fun q => ap5 k hk q.symm))
  · have e : (A ++ g).length = na + pl := by rw [List.length_append, hna, hgl]
    rw [e]
    have e2 : fls (A ++ g) = fls A ++ fls g := by unfold fls; rw [List.map_append]
    rw [e2]; exact o6
  · rcases g6.ob with e | ⟨j, e, hj⟩
    · rw [e] at q; exact ap5 k hk q
    · rw [e] at q; have := lv5 k hk; simp at q; omega
  · rcases List.mem_append.1 hx with q | q
    · exact h.w1 x q
    · exact hp x q
  · rcases List.mem_append.1 hx with q | q
    · exact h.w2 x q
    · exact hg x q
/-- s[n:] at a step of a region that draws. -/
theorem wpFl_slice {ops : Array Oper} {fl : Nat → Bool} {Q : Act → World → Prop} {k : Nat} {a : Act} {w w0 : World} {o : Oper} {rest : List Oper} (hf : fl k = true) (hw : Region.wanted o (yielded ops a.tmps) = true) (i j : Operand) (ho : o.op = .slice 34 i (some j) none none) (la : Option Addr) (m c n : Nat) (hi : a.eval i = .slice la m c) (hj : a.eval j = .int .i64 (n : Int)) (h1 : n ≤ m)
    (h : RF.wpFl Try.prog ops (fun w' => Below w0.heap.size w0 w') fl Q rest (k + 1) (a.put o.dst (.slice (frm la n c) (m - n) (c - n))) w) : RF.wpFl Try.prog ops (fun w' => Below w0.heap.size w0 w') fl Q (o :: rest) k a w := by
  refine RF.wpFl_read hf (fun K hK => ?_)
  rw [if_pos hw]
  refine ⟨_, fun d os => ?_, hK _ h⟩
  unfold RM.valAt
  have e : (execOp a.eval o).run Try.prog (grow (redrawn w0 d) os) = .ok (.value (.slice (frm la n c) (m - n) (c - n))) (grow (redrawn w0 d) os) := by
    unfold execOp
    rw [ho]
    have := run_from la m c n h1 (grow (redrawn w0 d) os)
    simp [hi, hj, run_sliceAt_slice (P := Try.prog) _ 34 _ _ _ _ Try.underlying34, this]
  rw [e]
  exact ⟨rfl, rfl⟩
set_option maxRecDepth 4000 in
set_option maxHeartbeats 16000000 in
theorem runs_walk (c : Cf) (ps : List (List Nat)) (ao : Option Addr) (n cp : Nat) (r : Int) (w : World) (hn : ps.length = n) (hP : PL w w.heap.size ao ps) (hc : n ≤ cp) (hcm : cp ≤ 9223372036854775807) (hl : n ≤ 1048576) (hsum : (ps.map List.length).sum ≤ 1048576) :
    Calls Try.prog 5 #[cv c, .slice ao n cp, .int .i64 r] w fun e w' => e = .returned (.bool true) ∧ Below w.heap.size w w' := by
  have HP : Hid (PL w w.heap.size ao ps) := hP
  have Hn : Hid (ps.length = n) := hn
  have HSum : Hid ((ps.map List.length).sum ≤ 1048576) := hsum
  have hlen : ∀ p ∈ ps, p.length ≤ 17592186044416 := fun p hp => by
    obtain ⟨i, hi, e⟩ := List.getElem_of_mem hp
    have := sum_le (ps := ps) (k := i) (p := p) (by rw [List.getElem?_eq_getElem hi, e])
    omega
  have hbA : Below w.heap.size w (w.alloc (Obj.cells #[.float .f64 c.b0, .float .f64 c.b1, .float .f64 c.b2, .float .f64 c.a1, .float .f64 c.a2] 39)) := (Below.refl _ _).alloc (Nat.le_refl _) _
  have hPA : PL (w.alloc (Obj.cells #[.float .f64 c.b0, .float .f64 c.b1, .float .f64 c.b2, .float .f64 c.a1, .float .f64 c.a2] 39)) (w.alloc (Obj.cells #[.float .f64 c.b0, .float .f64 c.b1, .float .f64 c.b2, .float .f64 c.a1, .float .f64 c.a2] 39)).heap.size ao ps := (hP.keep (Nat.le_refl _) (fun b hb => hbA.block b hb) hbA.size).up hbA.size
  have hq1 := Strain_any c ps ao cp r (w.alloc (Obj.cells #[.float .f64 c.b0, .float .f64 c.b1, .float .f64 c.b2, .float .f64 c.a1, .float .f64 c.a2] 39)) hPA (by omega) hcm (by omega) hlen
  rw [hn] at hq1
  have hW := fun w => refWrong_any c w
  cases hz : inC c
  · have hq1' := hq1.mono (fun e w' h => (⟨h.bad hz, h.b⟩ : e = .returned (.tuple #[.slice none 0 0, .int .i64 3]) ∧ Below (w.alloc (Obj.cells #[.float .f64 c.b0, .float .f64 c.b1, .float .f64 c.b2, .float .f64 c.a1, .float .f64 c.a2] 39)).heap.size (w.alloc (Obj.cells #[.float .f64 c.b0, .float .f64 c.b1, .float .f64 c.b2, .float .f64 c.a1, .float .f64 c.a2] 39)) w'))
    rw [hz] at hW
    clear hq1 hz hPA HP hsum HSum hlen hP Hn hn
    go_enter Try.func5, Try.ntmps5
    go_wp2_with fail
    refine hq1'.mono ?_
    rintro e w1 ⟨rfl, hb1⟩
    have hb01 : Below w.heap.size w w1 := hbA.trans (hb1.mono (by simp))
    have z1 : w.heap.size < w1.heap.size := by have := hb1.size; simp at this; omega
    have c0 := keepC hb1 (a := ⟨w.heap.size, 0, none⟩) (v := .float .f64 c.b0) (by simp) (by simp [go_sem])
    have c1 := keepC hb1 (a := ⟨w.heap.size, 1, none⟩) (v := .float .f64 c.b1) (by simp) (by simp [go_sem])
    have c2 := keepC hb1 (a := ⟨w.heap.size, 2, none⟩) (v := .float .f64 c.b2) (by simp) (by simp [go_sem])
    have c3 := keepC hb1 (a := ⟨w.heap.size, 3, none⟩) (v := .float .f64 c.a1) (by simp) (by simp [go_sem])
    have c4 := keepC hb1 (a := ⟨w.heap.size, 4, none⟩) (v := .float .f64 c.a2) (by simp) (by simp [go_sem])
    clear hb1 hbA hq1'
    go_wp2_with fail
    refine (hW _).mono ?_
    rintro e w2 ⟨rfl, hb2⟩
    clear hW c0 c1 c2 c3 c4
    go_wp2_with fail
    go_ret
    exact ⟨rfl, hb01.trans (hb2.mono hb01.size)⟩
  · have hq1' := hq1.mono (fun e w' h => (by obtain ⟨v, base, h1, h2, h3⟩ := h.ok hz; exact ⟨v, base, h1, h2, h3, h.b⟩ : ∃ v base, e = .returned (.tuple #[v, .int .i64 0]) ∧ (w.alloc (Obj.cells #[.float .f64 c.b0, .float .f64 c.b1, .float .f64 c.b2, .float .f64 c.a1, .float .f64 c.a2] 39)).heap.size ≤ base ∧ TO w' base v (strn c r 0 rest0 ps) ∧ Below (w.alloc (Obj.cells #[.float .f64 c.b0, .float .f64 c.b1, .float .f64 c.b2, .float .f64 c.a1, .float .f64 c.a2] 39)).heap.size (w.alloc (Obj.cells #[.float .f64 c.b0, .float .f64 c.b1, .float .f64 c.b2, .float .f64 c.a1, .float .f64 c.a2] 39)) w'))
    rw [hz] at hW
    clear hq1 hz hPA hsum hlen hP hn
    go_enter Try.func5, Try.ntmps5
    go_wp2_with fail
    refine hq1'.mono ?_
    rintro e w1 ⟨v1, base, rfl, hbs, hTO, hb1⟩
    have hb01 : Below w.heap.size w w1 := hbA.trans (hb1.mono (by simp))
    have z1 : w.heap.size < w1.heap.size := by have := hb1.size; simp at this; omega
    have c0 := keepC hb1 (a := ⟨w.heap.size, 0, none⟩) (v := .float .f64 c.b0) (by simp) (by simp [go_sem])
    have c1 := keepC hb1 (a := ⟨w.heap.size, 1, none⟩) (v := .float .f64 c.b1) (by simp) (by simp [go_sem])
    have c2 := keepC hb1 (a := ⟨w.heap.size, 2, none⟩) (v := .float .f64 c.b2) (by simp) (by simp [go_sem])
    have c3 := keepC hb1 (a := ⟨w.heap.size, 3, none⟩) (v := .float .f64 c.a1) (by simp) (by simp [go_sem])
    have c4 := keepC hb1 (a := ⟨w.heap.size, 4, none⟩) (v := .float .f64 c.a2) (by simp) (by simp [go_sem])
    have HTO1 : Hid (TO w1 base v1 (strn c r 0 rest0 ps)) := hTO
    clear hb1 hbA hq1' hTO
    go_wp2_with fail
    refine (hW _).mono ?_
    rintro e w4 ⟨rfl, hb4⟩
    have hb04 : Below w.heap.size w w4 := hb01.trans (hb4.mono hb01.size)
    have z4 := hb4.size
    have c0 := keepC hb4 z1 c0
    have c1 := keepC hb4 z1 c1
    have c2 := keepC hb4 z1 c2
    have c3 := keepC hb4 z1 c3
    have c4 := keepC hb4 z1 c4
    have HTO : Hid (TO w4 base v1 (strn c r 0 rest0 ps)) := HTO1.out.step (fun j _ hj => hb4.block j hj) hb4.size
    have HRl : Hid ((strn c r 0 rest0 ps).length = n) := by unfold Hid; rw [strn_len, Hn.out]
    obtain ⟨ga0, vc0, hv1, g1, g2⟩ := HTO.out.form
    rw [HRl.out] at hv1 g1
    subst hv1
    have zw : w.heap.size < w4.heap.size := by omega
    have HP4 : Hid (PL w4 w.heap.size ao ps) := HP.out.keep (Nat.le_refl _) (fun b hb => hb04.block b hb) hb04.size
    clear hW HTO1 hb4 hb01 HP
    go_wp2_with fail
    go_loopw [41, 9, 10, 11] (fun i v u f ww => ∃ k : Nat, k ≤ n ∧ i = .int .i64 k ∧ Hid (∃ (I A : List Nat) (F : Nat), f = .int .i64 F ∧ RO ww w4.heap.size v u I A ∧ RI c (stn c r 0 rest0 (ps.take k)) I A F ∧ I.length ≤ ((ps.take k).map List.length).sum ∧ A.length ≤ ((ps.take k).map List.length).sum) ∧ Below w4.heap.size w4 ww) (fun i _ _ _ _ => n - (intOf i).toNat)
    case atStart => exact ⟨0, by omega, rfl, ⟨[], [], 0, rfl, ⟨World.ownsRow_nil _ _ _ _, World.ownsRow_nil _ _ _ _, fun k hk => by simp [Value.ownBlock] at hk, fun x hx => absurd hx (by simp), fun x hx => absurd hx (by simp)⟩, RI.start c, Nat.zero_le _, Nat.zero_le _⟩, Below.refl _ _⟩
    case round =>
      obtain ⟨k, hk, rfl, hG, hbr⟩ := hrel
      obtain ⟨I, A, F, hf, hRO, hRI, hI, hA⟩ := hG.out
      by_cases hlt : k < n
      · obtain ⟨p, hx⟩ : ∃ p, ps[k]? = some p := ⟨_, List.getElem?_eq_getElem (by rw [Hn.out]; exact hlt)⟩
        obtain ⟨nb, of, hao, hnb, q0⟩ := HP4.out.at' (by rw [Hn.out]; omega)
        obtain ⟨xa, xc, r0, x1, x2, x3, x4⟩ := q0 k p hx
        obtain ⟨ga, vcc, g, ya, yc, hvv, k1, k2, k3, k4, k5, k6, k7, k8, k9, k10⟩ := HTO.out.at' (strn_get c r hx)
        rw [HRl.out] at hvv
        cases hvv
        have hgp : g.length = p.length := by rw [← abs_len g, k9, outs_len, abs_len]
        obtain ⟨pl, hpl⟩ : ∃ pl, p.length = pl := ⟨_, rfl⟩
        have hgl : g.length = pl := hgp.trans hpl
        rw [hpl] at r0 x1
        rw [hgl] at k5 k6
        have HSm : Hid (((ps.take (k + 1)).map List.length).sum = ((ps.take k).map List.length).sum + p.length ∧ ((ps.take k).map List.length).sum + p.length ≤ 1048576) := ⟨sum_step hx, by have := sum_le hx; have := HSum.out; omega⟩
        have HSt : Hid (stn c r 0 rest0 (ps.take (k + 1)) = sts c (at' r k (stn c r 0 rest0 (ps.take k))) (abs p)) := stn_step c r hx
        generalize stn c r 0 rest0 (ps.take k) = SS at *
        generalize ((ps.take k).map List.length).sum = SU at *
        have HAg0 : Hid (abs g = outs c (at' r k SS) (abs p)) := k9
        have HXi : Hid (IL w4 (fun k => k < w.heap.size) xa p) := x4
        have HGi : Hid (IL w4 (fun b => base ≤ b) ya g) := k10
        have hnb4 : nb < w4.heap.size := by omega
        have r0' := keepC hbr hnb4 r0
        have zr := hbr.size
        have HXr : Hid (IL wr (fun k => k < w.heap.size) xa p) := HXi.out.bel hbr
        obtain ⟨vi, ci, hvi, i1, i2⟩ := own_form hRO.o1
        obtain ⟨va, ca, hva, a1, a2⟩ := own_form hRO.o2
        obtain ⟨ni, hni⟩ : ∃ ni, ni = I.length := ⟨_, rfl⟩
        obtain ⟨na, hna⟩ : ∃ na, na = A.length := ⟨_, rfl⟩
        rw [← hni] at hvi i1
        rw [← hna] at hva a1
        subst hvi
        subst hva
        subst hf
        subst hao
        have HNs : Hid (ni = I.length ∧ na = A.length) := ⟨hni, hna⟩
        have HRO0 : Hid (RO wr w4.heap.size (.slice vi ni ci) (.slice va na ca) I A) := hRO
        have HRI0 : Hid (RI c SS I A F) := hRI
        have hlt' : (k : Int) < (n : Int) := by omega
        have w3 : IntKind.i64.wrap ((k : Int) + 1) = (k : Int) + 1 := wid (by omega) (by omega)
        clear hG q0 hx x4 k9 k10 r0 hRO hRI hni hna hgp
        rcases (show ((k : Int) = r ∨ ¬ (k : Int) = r) by omega) with hr | hr
        · have HA : Hid (at' r k SS = rest0) := if_pos hr
          have hrB : ((k : Int) == r) = true := by simpa using hr
          have HRO : Hid (RO wr w4.heap.size (.slice none 0 0) (.slice va na ca) [] A) := HRO0.out.rest
          have HRI : Hid (RI c rest0 [] A na) := by unfold Hid; rw [HNs.out.2]; exact HRI0.out.rest
          have HAg : Hid (abs g = outs c rest0 (abs p)) := by unfold Hid; rw [← HA.out]; exact HAg0.out
          clear hr HAg0 HRO0 HRI0
          have hl1 : ([] : List Nat).length + p.length ≤ 1048576 ∧ A.length + p.length ≤ 1048576 := ⟨by have := HSm.out.2; have := hI; simp only [List.length_nil] at *; omega, by have := HSm.out.2; have := hA; omega⟩
          rw [hpl, ← HNs.out.2] at hl1

          go_wp2_with (at_builtin; refine wpList_append_il rfl (.tmp 51) (.tmp 52) rfl w4.heap.size _ 0 (fls ([] : List Nat)) rfl (own_l HRO.out.o1 rfl) (fun k => k < w.heap.size) p pl hpl xa xc rfl x1 x3 HXr.out (by omega) zr ?a1)
          case a1 =>
            intro v5 w5 o5 g5
            have hb5 : Below w4.heap.size w4 w5 := hbr.trans (g5.bel zr (fun q hq => own_block HRO.out.o1 q hq))
            have z5 := hb5.size
            have k5' := keepC hb5 k3 k5
            have HO2 : Hid (w5.ownsRow w4.heap.size 23 1 (.slice va na ca) na (fls A)) := own_step (own_l HRO.out.o2 HNs.out.2) (fun q hq => g5.gr.block q (own_lt HRO.out.o2 q hq) (fun e => by simp [Value.ownBlock] at e))
            have HG5 : Hid (Gw wr w5 (.slice none 0 0) v5 ∧ w5.ownsRow w4.heap.size 23 1 v5 pl (fls ([] : List Nat) ++ fls p)) := ⟨g5, o5⟩
            have HGi5 : Hid (IL w5 (fun b => base ≤ b) ya g) := HGi.out.bel hb5
            clear o5 g5
            go_wp2_with (at_builtin; refine wpList_append_il rfl (.tmp 54) (.tmp 58) rfl w4.heap.size _ na (fls A) rfl HO2.out (fun b => base ≤ b) g pl hgl ya yc rfl k6 k8 HGi5.out (by omega) z5 ?a2)
            case a2 =>
              intro v6 w6 o6 g6
              have hb6 : Below w4.heap.size w4 w6 := hb5.trans (g6.bel z5 (fun q hq => own_block HO2.out q hq))
              have z6 := hb6.size
              have hRO6 : RO w6 w4.heap.size v5 v6 (([] : List Nat) ++ p) (A ++ g) := HRO.out.put (ni := 0) rfl HNs.out.2 hpl hgl (il_w HXr.out) (il_w HGi5.out) (by rw [Nat.zero_add]; exact HG5.out.2) HG5.out.1 o6 g6
              have hRI6 := HRI.out.step p g HAg.out
              obtain ⟨ei, eci, hv5, i1, i2, i3, i4⟩ := own_IL hRO6.o1 hRO6.w1
              obtain ⟨ea, eca, hv6, j1, j2, j3, j4⟩ := own_IL hRO6.o2 hRO6.w2
              have eI : (([] : List Nat) ++ p).length = pl := by rw [List.nil_append, hpl]
              have eA : (A ++ g).length = na + pl := by rw [List.length_append, hgl, ← HNs.out.2]
              rw [eI] at hv5 i1
              rw [eA] at hv6 j1
              subst hv5
              subst hv6
              have hFle : na ≤ na + pl := by have := hRI6.f; rw [eA] at this; exact this
              have hFle' : (na : Int) ≤ ((na + pl : Nat) : Int) := by omega
              have k5b := cell_regrown (keepC hb6 k3 k5)
              have q0 := cell_regrown (keepC hb6 zw c0)
              have q1 := cell_regrown (keepC hb6 zw c1)
              have q2 := cell_regrown (keepC hb6 zw c2)
              have q3 := cell_regrown (keepC hb6 zw c3)
              have q4 := cell_regrown (keepC hb6 zw c4)
              have hqR := refRun_any c (fun b => w4.heap.size ≤ b) (([] : List Nat) ++ p) ei pl eci w6.drew (i4.bel ((Below.refl _ w6).drew)) eI i1 i2 (by omega)
              have HJ : Hid (IL w6 (fun b => w4.heap.size ≤ b) ea (A ++ g)) := j4
              have HEA : Hid ((A ++ g).length = na + pl ∧ (abs (A ++ g)).drop na = outs c rest0 (abs (([] : List Nat) ++ p))) := ⟨eA, hRI6.o⟩
              have HRO6 : Hid (RO w6 w4.heap.size (.slice ei pl eci) (.slice ea (na + pl) eca) (([] : List Nat) ++ p) (A ++ g)) := hRO6
              have HRI6 : Hid (RI c (sts c (at' r k SS) (abs p)) (([] : List Nat) ++ p) (A ++ g) na) := by have := hRI6; rw [← HA.out] at this; exact this
              have HLs : Hid ((([] : List Nat) ++ p).length ≤ ((ps.take (k + 1)).map List.length).sum ∧ (A ++ g).length ≤ ((ps.take (k + 1)).map List.length).sum) := by
                unfold Hid
                rw [HSm.out.1, List.length_append, List.length_append, hgl, hpl]
                have := hI
                simp only [List.length_nil, ← HNs.out.2]; have := hl1.2; have := hA; have := HNs.out.2
                omega
              clear o6 g6 HG5 HGi5 HO2 hRO6 hRI6 i3 i4 j3 j4 eI eA k5'
              go_wp2_with fail
              refine RF.wp_region_float (fun k => k != 14 && k != 15) (by kernel_rfl) (by kernel_rfl) (by kernel_rfl) ?_
              repeat (refine RF.wpFl_read rfl (fun K hK => ?_); go_simp; refine hK _ ?_; clear hK K)
              refine wpFl_slice rfl rfl _ _ rfl ea (na + pl) eca na rfl rfl hFle ?_
              repeat (refine RF.wpFl_read rfl (fun K hK => ?_); go_simp; refine hK _ ?_; clear hK K)
              refine RF.wpFl_dog rfl rfl (fun K hK => ?_)
              go_wp2_with fail
              refine hqR.mono ?_
              rintro e w7 ⟨v7, rfl, hS7, hb7⟩
              have hb67 : Below w6.heap.size w6 w7 := ((Below.refl _ w6).drew).trans (hb7.mono (by simp))
              obtain ⟨h7, ho7, hc7, rfl, s1, s2, s3, s4, s5⟩ := hS7.ex
              have el1 : ((A ++ g).drop na).length = pl := by rw [List.length_drop, HEA.out.1]; omega
              have ee : abs ((A ++ g).drop na) = abs h7 := by
                rw [s4, ← HEA.out.2]
                unfold abs
                rw [List.map_drop]
              have el2 : h7.length = pl := by rw [← abs_len h7, ← ee, abs_len, el1]
              have hLA := fun (W : World) (hW : Below w7.heap.size w7 W) => LikeAll_eq W _ _ (frm ea na eca) ho7 ((A ++ g).drop na) h7 pl (eca - na) hc7 (((HJ.out.drop na eca (by rw [HEA.out.1]; exact j1)).bel hb67).bel hW) (s5.bel hW) ee el1 (by omega) (by omega) (by omega) (by rw [← el2]; exact s1) s2
              rw [el2]
              go_wp2_with fail
              refine hK _ _ hb67 ?_
              clear hK K hqR q0 q1 q2 q3 q4 k5b s1 s2 s3 s4 s5 ee el1 el2 hS7
              repeat (refine RF.wpFl_read rfl (fun K hK => ?_); go_simp; refine hK _ ?_; clear hK K)
              refine RF.wpFl_dog rfl rfl (fun K hK => ?_)
              go_wp2_with fail
              refine (hLA _ (Below.refl _ _)).mono ?_
              rintro e w8 ⟨rfl, hb8⟩
              have hb68 : Below w6.heap.size w6 w8 := hb67.trans (hb8.mono hb67.size)
              go_wp2_with fail
              refine hK _ _ hb68 ?_
              clear hK K hLA hb8 hb7 hb67
              repeat (refine RF.wpFl_read rfl (fun K hK => ?_); go_simp; refine hK _ ?_; clear hK K)
              refine RF.wpFl_nil ?_
              have hb48 : Below w4.heap.size w4 w8 := hb6.trans (hb68.mono z6)
              have HRO8 : Hid (RO w8 w4.heap.size (.slice ei pl eci) (.slice ea (na + pl) eca) (([] : List Nat) ++ p) (A ++ g)) := ⟨own_step HRO6.out.o1 (fun q hq => hb68.block q (own_lt HRO6.out.o1 q hq)), own_step HRO6.out.o2 (fun q hq => hb68.block q (own_lt HRO6.out.o2 q hq)), HRO6.out.ap, HRO6.out.w1, HRO6.out.w2⟩
              clear hb68 HRO6 HJ HEA
              go_wp2_with fail
              exact ⟨⟨k + 1, by omega, by go_num, ⟨([] : List Nat) ++ p, A ++ g, na, rfl, HRO8.out, by rw [HSt.out]; exact HRI6.out, HLs.out.1, HLs.out.2⟩, hb48⟩, by simp [intOf]; omega⟩
        · have HA : Hid (at' r k SS = SS) := if_neg hr
          have hrB : ((k : Int) == r) = false := by simpa using hr
          have HRO := HRO0
          have HRI := HRI0
          have HAg : Hid (abs g = outs c SS (abs p)) := by unfold Hid; rw [← HA.out]; exact HAg0.out
          clear hr HAg0 HRO0 HRI0
          have hl1 : I.length + p.length ≤ 1048576 ∧ A.length + p.length ≤ 1048576 := ⟨by have := HSm.out.2; have := hI;  omega, by have := HSm.out.2; have := hA; omega⟩
          rw [hpl, ← HNs.out.2] at hl1
          rw [← HNs.out.1] at hl1
          go_wp2_with (at_builtin; refine wpList_append_il rfl (.tmp 51) (.tmp 52) rfl w4.heap.size _ ni (fls I) rfl (own_l HRO.out.o1 HNs.out.1) (fun k => k < w.heap.size) p pl hpl xa xc rfl x1 x3 HXr.out (by omega) zr ?a1)
          case a1 =>
            intro v5 w5 o5 g5
            have hb5 : Below w4.heap.size w4 w5 := hbr.trans (g5.bel zr (fun q hq => own_block HRO.out.o1 q hq))
            have z5 := hb5.size
            have k5' := keepC hb5 k3 k5
            have HO2 : Hid (w5.ownsRow w4.heap.size 23 1 (.slice va na ca) na (fls A)) := own_step (own_l HRO.out.o2 HNs.out.2) (fun q hq => g5.gr.block q (own_lt HRO.out.o2 q hq) (fun e => HRO.out.ap q e.symm hq))
            have HG5 : Hid (Gw wr w5 (.slice vi ni ci) v5 ∧ w5.ownsRow w4.heap.size 23 1 v5 (ni + pl) (fls I ++ fls p)) := ⟨g5, o5⟩
            have HGi5 : Hid (IL w5 (fun b => base ≤ b) ya g) := HGi.out.bel hb5
            clear o5 g5
            go_wp2_with (at_builtin; refine wpList_append_il rfl (.tmp 54) (.tmp 58) rfl w4.heap.size _ na (fls A) rfl HO2.out (fun b => base ≤ b) g pl hgl ya yc rfl k6 k8 HGi5.out (by omega) z5 ?a2)
            case a2 =>
              intro v6 w6 o6 g6
              have hb6 : Below w4.heap.size w4 w6 := hb5.trans (g6.bel z5 (fun q hq => own_block HO2.out q hq))
              have z6 := hb6.size
              have hRO6 : RO w6 w4.heap.size v5 v6 (I ++ p) (A ++ g) := HRO.out.put HNs.out.1 HNs.out.2 hpl hgl (il_w HXr.out) (il_w HGi5.out) HG5.out.2 HG5.out.1 o6 g6
              have hRI6 := HRI.out.step p g HAg.out
              obtain ⟨ei, eci, hv5, i1, i2, i3, i4⟩ := own_IL hRO6.o1 hRO6.w1
              obtain ⟨ea, eca, hv6, j1, j2, j3, j4⟩ := own_IL hRO6.o2 hRO6.w2
              have eI : (I ++ p).length = ni + pl := by rw [List.length_append, hpl, ← HNs.out.1]
              have eA : (A ++ g).length = na + pl := by rw [List.length_append, hgl, ← HNs.out.2]
              rw [eI] at hv5 i1
              rw [eA] at hv6 j1
              subst hv5
              subst hv6
              have hFle : F ≤ na + pl := by have := hRI6.f; rw [eA] at this; exact this
              have hFle' : (F : Int) ≤ ((na + pl : Nat) : Int) := by omega
              have k5b := cell_regrown (keepC hb6 k3 k5)
              have q0 := cell_regrown (keepC hb6 zw c0)
              have q1 := cell_regrown (keepC hb6 zw c1)
              have q2 := cell_regrown (keepC hb6 zw c2)
              have q3 := cell_regrown (keepC hb6 zw c3)
              have q4 := cell_regrown (keepC hb6 zw c4)
              have hqR := refRun_any c (fun b => w4.heap.size ≤ b) (I ++ p) ei (ni + pl) eci w6.drew (i4.bel ((Below.refl _ w6).drew)) eI i1 i2 (by omega)
              have HJ : Hid (IL w6 (fun b => w4.heap.size ≤ b) ea (A ++ g)) := j4
              have HEA : Hid ((A ++ g).length = na + pl ∧ (abs (A ++ g)).drop F = outs c rest0 (abs (I ++ p))) := ⟨eA, hRI6.o⟩
              have HRO6 : Hid (RO w6 w4.heap.size (.slice ei (ni + pl) eci) (.slice ea (na + pl) eca) (I ++ p) (A ++ g)) := hRO6
              have HRI6 : Hid (RI c (sts c (at' r k SS) (abs p)) (I ++ p) (A ++ g) F) := by have := hRI6; rw [← HA.out] at this; exact this
              have HLs : Hid ((I ++ p).length ≤ ((ps.take (k + 1)).map List.length).sum ∧ (A ++ g).length ≤ ((ps.take (k + 1)).map List.length).sum) := by
                unfold Hid
                rw [HSm.out.1, List.length_append, List.length_append, hgl, hpl]
                have := hI
                have := hA
                omega
              clear o6 g6 HG5 HGi5 HO2 hRO6 hRI6 i3 i4 j3 j4 eI eA k5'
              go_wp2_with fail
              refine RF.wp_region_float (fun k => k != 14 && k != 15) (by kernel_rfl) (by kernel_rfl) (by kernel_rfl) ?_
              repeat (refine RF.wpFl_read rfl (fun K hK => ?_); go_simp; refine hK _ ?_; clear hK K)
              refine wpFl_slice rfl rfl _ _ rfl ea (na + pl) eca F rfl rfl hFle ?_
              repeat (refine RF.wpFl_read rfl (fun K hK => ?_); go_simp; refine hK _ ?_; clear hK K)
              refine RF.wpFl_dog rfl rfl (fun K hK => ?_)
              go_wp2_with fail
              refine hqR.mono ?_
              rintro e w7 ⟨v7, rfl, hS7, hb7⟩
              have hb67 : Below w6.heap.size w6 w7 := ((Below.refl _ w6).drew).trans (hb7.mono (by simp))
              obtain ⟨h7, ho7, hc7, rfl, s1, s2, s3, s4, s5⟩ := hS7.ex
              have el1 : ((A ++ g).drop F).length = na + pl - F := by rw [List.length_drop, HEA.out.1]
              have ee : abs ((A ++ g).drop F) = abs h7 := by
                rw [s4, ← HEA.out.2]
                unfold abs
                rw [List.map_drop]
              have el2 : h7.length = na + pl - F := by rw [← abs_len h7, ← ee, abs_len, el1]
              have hLA := fun (W : World) (hW : Below w7.heap.size w7 W) => LikeAll_eq W _ _ (frm ea F eca) ho7 ((A ++ g).drop F) h7 (na + pl - F) (eca - F) hc7 (((HJ.out.drop F eca (by rw [HEA.out.1]; exact j1)).bel hb67).bel hW) (s5.bel hW) ee el1 (by omega) (by omega) (by omega) (by rw [← el2]; exact s1) s2
              rw [el2]
              go_wp2_with fail
              refine hK _ _ hb67 ?_
              clear hK K hqR q0 q1 q2 q3 q4 k5b s1 s2 s3 s4 s5 ee el1 el2 hS7
              repeat (refine RF.wpFl_read rfl (fun K hK => ?_); go_simp; refine hK _ ?_; clear hK K)
              refine RF.wpFl_dog rfl rfl (fun K hK => ?_)
              go_wp2_with fail
              refine (hLA _ (Below.refl _ _)).mono ?_
              rintro e w8 ⟨rfl, hb8⟩
              have hb68 : Below w6.heap.size w6 w8 := hb67.trans (hb8.mono hb67.size)
              go_wp2_with fail
              refine hK _ _ hb68 ?_
              clear hK K hLA hb8 hb7 hb67
              repeat (refine RF.wpFl_read rfl (fun K hK => ?_); go_simp; refine hK _ ?_; clear hK K)
              refine RF.wpFl_nil ?_
              have hb48 : Below w4.heap.size w4 w8 := hb6.trans (hb68.mono z6)
              have HRO8 : Hid (RO w8 w4.heap.size (.slice ei (ni + pl) eci) (.slice ea (na + pl) eca) (I ++ p) (A ++ g)) := ⟨own_step HRO6.out.o1 (fun q hq => hb68.block q (own_lt HRO6.out.o1 q hq)), own_step HRO6.out.o2 (fun q hq => hb68.block q (own_lt HRO6.out.o2 q hq)), HRO6.out.ap, HRO6.out.w1, HRO6.out.w2⟩
              clear hb68 HRO6 HJ HEA
              go_wp2_with fail
              exact ⟨⟨k + 1, by omega, by go_num, ⟨I ++ p, A ++ g, F, rfl, HRO8.out, by rw [HSt.out]; exact HRI6.out, HLs.out.1, HLs.out.2⟩, hb48⟩, by simp [intOf]; omega⟩
      · go_wp2_with fail
        go_ret
        exact ⟨rfl, hb04.trans (hbr.mono hb04.size)⟩
end Go.Proofs.Ytjfmpgfpehnnjai.Fi
