/- At rest it is as new: the plain part. -/
import Derived.Test.YtcnhcofhkahajajGR18
namespace Go.Proofs.Ytcnhcofhkahajaj.Gh
open Go.RowKit Go.Maps Go.Sort Fl
set_option linter.unusedVariables false
set_option linter.unusedSimpArgs false

/-- The three pieces. -/
def p3 (P : List (List Nat)) (nn mm m : Nat) : List Pc := [⟨P, nn, false⟩, ⟨List.replicate m (List.replicate mm 0), mm, false⟩, ⟨P, nn, true⟩]
/-- What comes in. -/
def i3 (g : Gr) (P : List (List Nat)) (nn : Nat) : Hist := fun q t => if er g P nn = 0 ∧ t < nn then ab ((P.getD q []).getD t 0) else some 0
theorem ab_zero : ab 0 = some 0 := by decide
theorem i3_in {g : Gr} {P : List (List Nat)} {nn q i : Nat} {l : List Nat} (he : er g P nn = 0) (hl : P[q]? = some l) (hi : i < nn) : i3 g P nn q i = ab (l.getD i 0) := by
  unfold i3
  rw [if_pos ⟨he, hi⟩]
  rw [show P.getD q [] = l by rw [List.getD_eq_getElem?_getD, hl]; rfl]
theorem rep_get {m mm q i : Nat} {l : List Nat} (hl : (List.replicate m (List.replicate mm 0))[q]? = some l) : l.getD i 0 = 0 := by
  rw [List.getElem?_replicate] at hl
  split at hl
  · cases hl
    rw [List.getD_eq_getElem?_getD, List.getElem?_replicate]
    split <;> rfl
  · cases hl
theorem p3_J (g : Gr) (P : List (List Nat)) (nn mm m : Nat) : ∀ k p, (p3 P nn mm m)[k]? = some p → er g p.ins p.n = 0 → ∀ (q : Nat) l, p.ins[q]? = some l → ∀ i, i < p.n.toNat → i3 g P nn q (t0 (tst g 0 ((p3 P nn mm m).take k)) p + i) = ab (l.getD i 0) := by
  intro k p hp he q l hl i hi
  match k, hp with
  | 0, hp =>
    cases hp
    have e : t0 (tst g 0 ((p3 P nn mm m).take 0)) ⟨P, nn, false⟩ + i = i := by show 0 + i = i; omega
    rw [e]
    exact i3_in he hl (by simpa using hi)
  | 1, hp =>
    cases hp
    rw [rep_get hl, ab_zero]
    unfold i3
    rw [if_neg]
    rintro ⟨e1, e2⟩
    have e3 : t0 (tst g 0 ((p3 P nn mm m).take 1)) ⟨List.replicate m (List.replicate mm 0), mm, false⟩ = nn := by
      show tnx g 0 ⟨P, nn, false⟩ = nn
      unfold tnx
      rw [if_pos e1]
      show 0 + (nn : Int).toNat = nn
      omega
    rw [e3] at e2
    omega
  | 2, hp =>
    cases hp
    have e : t0 (tst g 0 ((p3 P nn mm m).take 2)) ⟨P, nn, true⟩ + i = i := by show 0 + i = i; omega
    rw [e]
    exact i3_in he hl (by simpa using hi)
  | k + 3, hp => cases hp
/-- What is heard first, and last. -/
def h3 (g : Gr) (P : List (List Nat)) (nn : Nat) : List (List (Option Nat)) := if er g P nn = 0 then outR g (vl g (i3 g P nn)) 0 nn else []
theorem p3_r (g : Gr) (P : List (List Nat)) (nn mm m : Nat) : ∃ x, rsl g (fun _ => i3 g P nn) 0 0 (p3 P nn mm m) = [(h3 g P nn, er g P nn), x, (h3 g P nn, er g P nn)] := by
  refine ⟨(hrs g (vl g (i3 g P nn)) (tnx g 0 ⟨P, nn, false⟩) ⟨List.replicate m (List.replicate mm 0), mm, false⟩, er g (List.replicate m (List.replicate mm 0)) mm), ?_⟩
  rfl
theorem h3_len (g : Gr) (P : List (List Nat)) (nn : Nat) : ∀ (k : Nat) r, (h3 g P nn)[k]? = some r → r.length = nn := by
  intro k r hr
  unfold h3 at hr
  split at hr
  · unfold outR at hr
    rw [List.getElem?_map] at hr
    cases h : g.outs[k]? with
    | none => rw [h] at hr; cases hr
    | some o => rw [h] at hr; cases hr; simp
  · cases hr
end Go.Proofs.Ytcnhcofhkahajaj.Gh

/- GraphRests, walked. -/
namespace Go.Proofs.Ytcnhcofhkahajaj.Gh
open Go.RowKit Go.Maps Go.Sort Fl
set_option linter.unusedVariables false
set_option linter.unusedSimpArgs false

theorem RW.pl {w1 ww : World} {ob U nn : Nat} (h : RW w1 ob U nn U ww) (hn : nn ≤ 9223372036854775807) : Fi.PL ww ww.heap.size (some ⟨ob, 0, none⟩) (List.replicate U (List.replicate nn 0)) := ⟨fun _ => ⟨ob, 0, rfl, by have := h.z; omega, fun j p hj => by
  rw [List.getElem?_replicate] at hj
  split at hj
  · rename_i hjl
    cases hj
    refine ⟨some ⟨ob + 1 + j, 0, none⟩, nn, ?_, by simp, hn, fun h => (by cases h), ⟨fun _ => ⟨ob + 1 + j, 0, rfl, by have := h.z; omega, by have := h.z; omega, fun i x hi => ?_⟩⟩⟩
    · have := World.rowIs.cell h.r hjl
      rw [if_pos hjl] at this
      rw [Nat.zero_add, List.length_replicate]
      exact this
    · rw [List.getElem?_replicate] at hi
      split at hi
      · rename_i hin
        cases hi
        have := World.rowIs.cell (h.h j hjl) hin
        rw [Nat.zero_add]
        exact ⟨this, by decide⟩
      · cases hi
  · cases hj⟩⟩
theorem GH.bel {w w' : World} {g : Gr} {go uo : Option Addr} {gc uc : Nat} (h : GH w (fun b => b < w.heap.size) g go uo gc uc) (hb : Below w.heap.size w w') : GH w' (fun b => b < w'.heap.size) g go uo gc uc :=
  ⟨⟨fun i d hd => by
    obtain ⟨b, off, fo, fc, h1, h2, h3, h4, h5⟩ := h.n.at' i d hd
    have hz := hb.size
    exact ⟨b, off, fo, fc, h1, by omega, by omega, fun j v hv => (World.cell?_of_block (w := w) (w' := w') (a := ⟨b, _, none⟩) (hb.block b h3)).trans (h4 j v hv), h5.keep (fun b _ hl => hb.block b hl) hb.size (fun b hb _ => by omega)⟩⟩, h.gl, h.u.keep (fun b _ hl => hb.block b hl) hb.size (fun b hl _ => by have := hb.size; omega), h.ul, h.um, h.un⟩
set_option maxRecDepth 8000 in
set_option maxHeartbeats 8000000 in
theorem rests_walk (g : Gr) (go uo : Option Addr) (gc uc : Nat) (P : List (List Nat)) (io : Option Addr) (m ic nn mm : Nat) (w : World) (hG : GH w (fun b => b < w.heap.size) g go uo gc uc) (hP : Fi.PL w w.heap.size io P) (hm : P.length = m) (hc : m ≤ ic) (hcm : ic ≤ 9223372036854775807) (hml : m ≤ 5864062014805) (hn : nn ≤ 5000) (hmm : mm ≤ 5000) :
    Calls Try.prog 8 #[gvg g go uo gc uc, .slice io m ic, .int .i64 nn, .int .i64 mm] w fun e w' => e = .returned (.bool true) ∧ Below w.heap.size w w' := by
  obtain ⟨N, hN⟩ : ∃ N, N = g.nodes.length := ⟨_, rfl⟩
  obtain ⟨U, hU⟩ : ∃ U, U = g.outs.length := ⟨_, rfl⟩
  obtain ⟨ins, hins⟩ : ∃ ins, ins = g.ins := ⟨_, rfl⟩
  obtain ⟨W1, hW1⟩ : ∃ X, X = w.alloc (Obj.cells #[.int .i64 ins, .slice go N gc, .slice uo U uc] 38) := ⟨_, rfl⟩
  have HB1 : Hid (Below w.heap.size w W1) := by rw [hW1]; exact (Below.refl _ _).alloc (Nat.le_refl _) _
  have x0 : W1.cell? ⟨w.heap.size, 0, none⟩ = some (.int .i64 ins) := by rw [hW1]; simp [go_sem]
  have x1 : W1.cell? ⟨w.heap.size, 1, none⟩ = some (.slice go N gc) := by rw [hW1]; simp [go_sem]
  have x2 : W1.cell? ⟨w.heap.size, 2, none⟩ = some (.slice uo U uc) := by rw [hW1]; simp [go_sem]
  have hargs : gvg g go uo gc uc = .agg #[.int .i64 ins, .slice go N gc, .slice uo U uc] := by rw [hN, hU, hins]
  have HA : Hid (gvg g go uo gc uc = .agg #[.int .i64 ins, .slice go N gc, .slice uo U uc]) := hargs
  rw [hargs]
  have HG : Hid (GH w (fun b => b < w.heap.size) g go uo gc uc) := hG
  have HP : Hid (Fi.PL w w.heap.size io P) := hP
  have Hm : Hid (P.length = m) := hm
  have qa := alive_any W1
  have n1 : ¬ ((nn : Int) < 0) := by omega
  have n2 : ¬ ((5000 : Int) < (nn : Int)) := by omega
  have n3 : ¬ ((mm : Int) < 0) := by omega
  have n4 : ¬ ((5000 : Int) < (mm : Int)) := by omega
  obtain ⟨xb, hxb⟩ : ∃ xb, xb = w.heap.size := ⟨_, rfl⟩
  rw [← hxb] at x0 x1 x2
  have Hxb : Hid (xb = w.heap.size) := hxb
  clear hG hP hm hargs hN hU hins
  go_enter Try.func8, Try.ntmps8
  go_wp2_with fail
  rw [← hW1, ← hxb]
  clear hW1 hxb
  refine qa.mono ?_
  rintro e w2 ⟨rfl, hb2⟩
  have y0 := Fi.keepC hb2 (lt_cell x0) x0
  have y1 := Fi.keepC hb2 (lt_cell x1) x1
  have y2 := Fi.keepC hb2 (lt_cell x2) x2
  have HB2 : Hid (Below w.heap.size w w2) := HB1.out.trans (hb2.mono HB1.out.size)
  have ly := lt_cell y0
  obtain ⟨ob, hob⟩ : ∃ ob, ob = w2.heap.size := ⟨_, rfl⟩
  have mk : (Instr.makeSlice 27 (.int .i64 (m : Int)) (.int .i64 (m : Int))).run Try.prog w2 = .ok (.slice (some ⟨w2.heap.size, 0, none⟩) m m) (w2.alloc (.cells (madeCells #[.slice none 0 0] m) 25)) := run_make_row' (P := Try.prog) 27 25 (.slice none 0 0) 24 Try.underlying27 Fi.infoFs rfl .i64 .i64 m (by omega) (by omega) _
  have HRW : Hid (RW w2 w2.heap.size m mm 0 (w2.alloc (.cells (madeCells #[.slice none 0 0] m) 25))) := ⟨World.rowIs.congr (World.rowIs_made w2 (.slice none 0 0) m 25) (fun u _ => (if_neg (by omega)).symm), fun u hu => absurd hu (by omega), by simp, (Below.refl _ _).alloc (Nat.le_refl _) _⟩
  rw [← hob] at mk HRW
  have Hob : Hid (ob = w2.heap.size) := hob
  clear x0 x1 x2 qa hb2 HB1 hob ly
  go_wp2_with (simp only [mk])
  generalize w2.alloc (.cells (madeCells #[.slice none 0 0] m) 25) = W3 at *
  clear mk
  go_loopw [35] (fun i ww => ∃ k : Nat, k ≤ m ∧ i = .int .i64 k ∧ Hid (RW w2 ob m mm k ww)) (fun i _ => m - (intOf i).toNat)
  case atStart => exact ⟨0, by omega, rfl, HRW⟩
  case round =>
    obtain ⟨k, hk, rfl, hR⟩ := hrel
    by_cases hlt : k < m
    · have mk2 : (Instr.makeSlice 25 (.int .i64 (mm : Int)) (.int .i64 (mm : Int))).run Try.prog wr = .ok (.slice (some ⟨wr.heap.size, 0, none⟩) mm mm) (wr.alloc (.cells (madeCells #[.float .f64 0] mm) 22)) := run_make_row' (P := Try.prog) 25 22 (.float .f64 0) 8 Try.underlying25 Fi.infoF rfl .i64 .i64 mm (by omega) (by omega) _
      have hz := hR.out.z
      rw [hz] at mk2
      have HR2 : Hid (RW w2 ob m mm (k + 1) ((wr.alloc (.cells (madeCells #[.float .f64 0] mm) 22)).setCell ⟨ob, k, none⟩ (.slice (some ⟨ob + 1 + k, 0, none⟩) mm mm))) := hR.out.step hlt
      have y1 := World.rowIs.cell (World.rowIs.alloc hR.out.r (.cells (madeCells #[.float .f64 0] mm) 22)) hlt
      have y2 := World.rowIs.frozen (World.rowIs.alloc hR.out.r (.cells (madeCells #[.float .f64 0] mm) 22)) k
      have y3 := World.rowIs.lt (World.rowIs.alloc hR.out.r (.cells (madeCells #[.float .f64 0] mm) 22))
      rw [if_neg (by omega)] at y1
      have hlt' : (k : Int) < (m : Int) := by omega
      have w3 : IntKind.i64.wrap ((k : Int) + 1) = (k : Int) + 1 := wid (by omega) (by omega)
      generalize hwa : wr.alloc (.cells (madeCells #[.float .f64 0] mm) 22) = WA at *
      clear hR hz hwa
      go_wp2_with (simp only [mk2])
      exact ⟨⟨k + 1, by omega, by go_num, HR2⟩, by simp [intOf]; omega⟩
    · obtain rfl : k = m := by omega
      have hbr := hR.out.b
      have c0 := Fi.keepC hbr (by rw [Hob.out]; exact lt_cell y0) y0
      have c1 := Fi.keepC hbr (by rw [Hob.out]; exact lt_cell y1) y1
      have c2 := Fi.keepC hbr (by rw [Hob.out]; exact lt_cell y2) y2
      have lc := lt_cell c0
      have hbw : Below w.heap.size w wr := HB2.out.trans (hbr.mono (by rw [Hob.out]; exact HB2.out.size))
      obtain ⟨W4, hW4⟩ : ∃ X, X = wr.alloc (Obj.cells #[.slice io k ic, .int .i64 nn, .bool false, .slice (some ⟨ob, 0, none⟩) k k, .int .i64 mm, .bool false, .slice io k ic, .int .i64 nn, .bool true] 45) := ⟨_, rfl⟩
      have hb4 : Below wr.heap.size wr W4 := by rw [hW4]; exact (Below.refl _ _).alloc (Nat.le_refl _) _
      have z4 : W4.heap.size = wr.heap.size + 1 := by rw [hW4]; simp
      have hbw4 : Below w.heap.size w W4 := hbw.trans (hb4.mono hbw.size)
      have hPL : Fi.PL W4 W4.heap.size io P := PLmono (HP.out.keep (Nat.le_refl _) (fun b hb => hbw4.block b hb) hbw4.size) hbw4.size
      have hPS : Fi.PL W4 W4.heap.size (some ⟨ob, 0, none⟩) (List.replicate k (List.replicate mm 0)) := PLmono ((hR.out.pl (by omega)).keep (Nat.le_refl _) (fun b hb => hb4.block b hb) hb4.size) hb4.size
      have hPc : PcL W4 W4.heap.size (some ⟨wr.heap.size, 0, none⟩) (p3 P nn mm k) := ⟨fun i p hp => by
        match i, hp with
        | 0, hp =>
          cases hp
          refine ⟨wr.heap.size, 0, io, ic, rfl, by omega, ?_, ?_, ?_, by show P.length ≤ ic; rw [Hm.out]; exact hc, hcm, hPL⟩
          · rw [hW4]; simp [go_sem]; rw [Hm.out]
          · rw [hW4]; simp [go_sem]
          · rw [hW4]; simp [go_sem]
        | 1, hp =>
          cases hp
          refine ⟨wr.heap.size, 0, some ⟨ob, 0, none⟩, k, rfl, by omega, ?_, ?_, ?_, by simp, by omega, hPS⟩
          · rw [hW4]; simp [go_sem]
          · rw [hW4]; simp [go_sem]
          · rw [hW4]; simp [go_sem]
        | 2, hp =>
          cases hp
          refine ⟨wr.heap.size, 0, io, ic, rfl, by omega, ?_, ?_, ?_, by show P.length ≤ ic; rw [Hm.out]; exact hc, hcm, hPL⟩
          · rw [hW4]; simp [go_sem]; rw [Hm.out]
          · rw [hW4]; simp [go_sem]
          · rw [hW4]; simp [go_sem]
        | i + 3, hp => cases hp⟩
      have q := Sound_any cirC g go uo gc uc (p3 P nn mm k) (some ⟨wr.heap.size, 0, none⟩) 3 3 (fun _ => i3 g P nn) W4 (HG.out.bel hbw4) hPc rfl (by omega) (by omega) (by omega) (fun _ _ _ _ => rfl) (p3_J g P nn mm k)
      rw [HA.out] at q
      have HB4 : Hid (Below w.heap.size w W4) := hbw4
      clear hR hbr hPc hPL hPS hbw hbw4 hb4 z4 HRW hlt y0 y1 y2
      go_wp2_with fail
      rw [← hW4]
      clear hW4
      refine q.mono ?_
      intro e w5 hS
      have HB5 : Hid (Below w.heap.size w w5) := HB4.out.trans (hS.b.mono HB4.out.size)
      by_cases hne : ne0 g = 0
      · by_cases hcy : Cyc g
        · have hex := hS.cyc hne hcy
          subst hex
          clear hS q
          go_wp2_with fail
          go_returns
          exact ⟨rfl, HB5.out⟩
        · obtain ⟨v, base, rfl, hb1, hb2, hH⟩ := hS.ok hne hcy
          clear hS q
          obtain ⟨x3, hx3⟩ := p3_r g P nn mm k
          rw [hx3] at hH
          obtain ⟨q, cap, ao, c, hv, k1, k2, k3, k4, d1, d2, o1, k8, k9⟩ := hH.at (j := 0) (r := (h3 g P nn, er g P nn)) rfl
          obtain ⟨q', cap', ao', c', hv', k1', k2', k3', k4', d3, d4, o2, k8', k9'⟩ := hH.at (j := 2) (r := (h3 g P nn, er g P nn)) rfl
          rw [hv] at hv'
          cases hv'
          obtain ⟨U3, hU3⟩ : ∃ X, X = (h3 g P nn).length := ⟨_, rfl⟩
          obtain ⟨E3, hE3⟩ : ∃ X, X = er g P nn := ⟨_, rfl⟩
          have hv3 : v = .slice (some ⟨q, 0, none⟩) 3 cap := hv
          have kc : 3 ≤ cap := k1
          subst hv3
          have f1 : w5.cell? ⟨q, 0, none⟩ = some (.slice ao U3 c) := by rw [hU3]; exact d1
          have f2 : w5.cell? ⟨q, 1, none⟩ = some (.int .i64 E3) := by rw [hE3]; exact d2
          have f3 : w5.cell? ⟨q, 4, none⟩ = some (.slice ao' U3 c') := by rw [hU3]; exact d3
          have f4 : w5.cell? ⟨q, 5, none⟩ = some (.int .i64 E3) := by rw [hE3]; exact d4
          rw [← hU3] at o1 o2 k8 k8'
          have HO1 : Hid (OL w5 (Sz (fun b => base ≤ b) w5 (.slice (some ⟨q, 0, none⟩) 3 cap)) (.slice ao U3 c) (h3 g P nn)) := o1
          have HO2 : Hid (OL w5 (Sz (fun b => base ≤ b) w5 (.slice (some ⟨q, 0, none⟩) 3 cap)) (.slice ao' U3 c') (h3 g P nn)) := o2
          have HU3 : Hid (U3 = (h3 g P nn).length) := hU3
          clear hH hv d1 d2 d3 d4 o1 o2 hU3 hE3 k1 k1' k2' k3' k4 k4' hx3 x3 HB4 hb1 hb2 c0 c1 c2 lc hne hcy
          go_wp2_with fail
          go_region
          have HBd : Hid (Below w5.heap.size w5 w5.drew) := belD' (n := 1)
          have g1 : w5.drew.cell? ⟨q, 0, none⟩ = some (.slice ao U3 c) := f1
          have g3 : w5.drew.cell? ⟨q, 4, none⟩ = some (.slice ao' U3 c') := f3
          clear f2 f4
          generalize w5.drew = w6 at *
          go_wp2_with fail
          go_loopw [93] (fun i ww => ∃ j : Nat, j ≤ U3 ∧ i = .int .i64 j ∧ Hid (Below w5.heap.size w5 ww)) (fun i _ => U3 - (intOf i).toNat)
          case atStart => exact ⟨0, by omega, rfl, HBd⟩
          case round =>
            obtain ⟨j, hj, rfl, hbj⟩ := hrel
            have e1 := Fi.keepC hbj.out k3 f1
            have e3 := Fi.keepC hbj.out k3 f3
            have le1 := lt_cell e1
            by_cases hlt : j < U3
            · obtain ⟨r, hr⟩ : ∃ r, (h3 g P nn)[j]? = some r := ⟨_, List.getElem?_eq_getElem (by rw [← HU3.out]; exact hlt)⟩
              have hrl := h3_len g P nn j r hr
              have hO1 := HO1.out.keep (w' := wr) (S' := fun _ => True) (fun b _ hl => hbj.out.block b hl) hbj.out.size (fun _ _ _ => trivial)
              have hO2 := HO2.out.keep (w' := wr) (S' := fun _ => True) (fun b _ hl => hbj.out.block b hl) hbj.out.size (fun _ _ _ => trivial)
              obtain ⟨_, _, m1, m2, m3, m4⟩ := hO1.ex
              injection m1 with i1 i2 i3
              subst i1
              subst i3
              obtain ⟨b1, of1, rfl, _, n3, n4⟩ := m4 (by rw [← HU3.out]; omega)
              obtain ⟨xa, xa1, xa2⟩ := n4 j r hr
              obtain ⟨ga, aa, ca, rfl, y2, y3, y4, y5, y6⟩ := xa2.ex
              obtain ⟨_, _, m1', m2', m3', m4'⟩ := hO2.ex
              injection m1' with i1' i2' i3'
              subst i1'
              subst i3'
              obtain ⟨b2, of2, rfl, _, n3', n4'⟩ := m4' (by rw [← HU3.out]; omega)
              obtain ⟨xb', xb1, xb2⟩ := n4' j r hr
              obtain ⟨gb, ab', cb, rfl, z2, z3, z4, z5, z6⟩ := xb2.ex
              have hla : ga.length = nn := by rw [← Fi.abs_len, y5, hrl]
              have hlb : gb.length = nn := by rw [← Fi.abs_len, z5, hrl]
              rw [hla] at xa1 y2
              rw [hlb] at xb1 z2
              have hq : ∀ nq, Calls Try.prog 12 #[.slice aa nn ca, .slice ab' nn cb] (wr.drewN nq) fun e w' => e = .returned (.bool true) ∧ Below (wr.drewN nq).heap.size (wr.drewN nq) w' := fun nq => Fi.LikeAll_eq (wr.drewN nq) _ _ aa ab' ga gb nn ca cb (y6.keep (fun _ _ _ => rfl) (Nat.le_refl _) (fun _ h _ => h)) (z6.keep (fun _ _ _ => rfl) (Nat.le_refl _) (fun _ h _ => h)) (y5.trans z5.symm) hla (by omega) y2 y3 z2 z3
              have hlt' : (j : Int) < (U3 : Int) := by omega
              have w3 : IntKind.i64.wrap ((j : Int) + 1) = (j : Int) + 1 := wid (by omega) (by omega)
              have lx1 := lt_cell xa1
              have lx2 := lt_cell xb1
              clear hO1 hO2 i2 i2' m4 n4 m4' n4' xa2 xb2 y6 z6 y5 z5 hla hlb hr hrl m2 m3 m2' m3' y4 z4 n3 n3'
              go_wp2_with fail
              refine U2.wp_region_tail_read 14 (by decide) (by kernel_rfl) (by kernel_rfl) (by kernel_rfl) (by kernel_rfl) ?_
              dsimp only [List.take, List.drop]
              repeat (quiet_step (fail))
              refine wpQuiet_nil ?_
              rintro w7 ⟨nq, rfl⟩
              go_wp2_with fail
              refine (hq nq).mono ?_
              rintro e w8 ⟨rfl, hb8⟩
              have HB8 : Hid (Below w5.heap.size w5 w8) := Below.trans hbj.out (Below.mono (show Below wr.heap.size wr w8 from Below.trans belD' hb8) hbj.out.size)
              clear hq hb8
              go_wp2_with fail
              exact ⟨⟨j + 1, by omega, by go_num, HB8⟩, by simp [intOf]; omega⟩
            · obtain rfl : j = U3 := by omega
              go_wp2_with fail
              go_returns
              exact ⟨rfl, HB5.out.trans (hbj.out.mono HB5.out.size)⟩
      · have hex := hS.bad hne
        subst hex
        clear hS q
        go_wp2_with fail
        go_returns
        exact ⟨rfl, HB5.out⟩
set_option maxRecDepth 8000 in
set_option maxHeartbeats 8000000 in
theorem rests_out (ins : Int) (go uo io : Option Addr) (N gc U uc m ic : Nat) (n mo : Int) (w : World) (h : n < 0 ∨ 5000 < n ∨ mo < 0 ∨ 5000 < mo) :
    Calls Try.prog 8 #[.agg #[.int .i64 ins, .slice go N gc, .slice uo U uc], .slice io m ic, .int .i64 n, .int .i64 mo] w fun e w' => e = .returned (.bool true) ∧ Below w.heap.size w w' := by
  obtain ⟨W1, hW1⟩ : ∃ X, X = w.alloc (Obj.cells #[.int .i64 ins, .slice go N gc, .slice uo U uc] 38) := ⟨_, rfl⟩
  have HB1 : Hid (Below w.heap.size w W1) := by rw [hW1]; exact (Below.refl _ _).alloc (Nat.le_refl _) _
  have qa := alive_any W1
  have H : Hid (¬ (((0 ≤ n ∧ n ≤ 5000) ∧ 0 ≤ mo) ∧ mo ≤ 5000)) := by show ¬ _; omega
  clear h
  go_enter Try.func8, Try.ntmps8
  go_wp2_with fail
  rw [← hW1]
  clear hW1
  refine qa.mono ?_
  rintro e w2 ⟨rfl, hb2⟩
  have HB2 : Hid (Below w.heap.size w w2) := HB1.out.trans (hb2.mono HB1.out.size)
  clear qa hb2 HB1
  go_wp2_with fail
  all_goals first
    | (exfalso; apply H.out; assumption)
    | (go_returns; exact ⟨rfl, HB2.out⟩)
theorem rests_any (g : Gr) (go uo : Option Addr) (gc uc : Nat) (P : List (List Nat)) (io : Option Addr) (m ic : Nat) (n mo : Int) (w : World) (hG : GH w (fun b => b < w.heap.size) g go uo gc uc) (hP : Fi.PL w w.heap.size io P) (hm : P.length = m) (hc : m ≤ ic) (hcm : ic ≤ 9223372036854775807) (hml : m ≤ 5864062014805) :
    Calls Try.prog 8 #[gvg g go uo gc uc, .slice io m ic, .int .i64 n, .int .i64 mo] w fun e w' => e = .returned (.bool true) ∧ Below w.heap.size w w' := by
  by_cases c : n < 0 ∨ 5000 < n ∨ mo < 0 ∨ 5000 < mo
  · exact rests_out g.ins go uo io g.nodes.length gc g.outs.length uc m ic n mo w c
  · obtain ⟨nn, rfl⟩ := Int.eq_ofNat_of_zero_le (show 0 ≤ n by omega)
    obtain ⟨mm, rfl⟩ := Int.eq_ofNat_of_zero_le (show 0 ≤ mo by omega)
    exact rests_walk g go uo gc uc P io m ic nn mm w hG hP hm hc hcm hml (by omega) (by omega)
end Go.Proofs.Ytcnhcofhkahajaj.Gh
