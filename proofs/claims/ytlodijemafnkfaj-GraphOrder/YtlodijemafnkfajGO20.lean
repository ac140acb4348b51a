/- GraphOrder, walked. -/
import Derived.Test.YtlodijemafnkfajGO19
namespace Go.Proofs.Ytlodijemafnkfaj.Gh
open Go.RowKit Go.Maps Go.Sort Fl
set_option linter.unusedVariables false
set_option linter.unusedSimpArgs false

set_option maxRecDepth 8000 in
set_option maxHeartbeats 8000000 in
theorem order_walk (g : Gr) (go uo : Option Addr) (gc uc : Nat) (P : List (List Nat)) (io : Option Addr) (m ic nn : Nat) (ord : List Int) (oo : Option Addr) (oc N : Nat) (w : World) (hG : GH w (fun b => b < w.heap.size) g go uo gc uc) (hP : Fi.PL w w.heap.size io P) (hm : P.length = m) (hc : m ≤ ic) (hcm : ic ≤ 9223372036854775807) (hn : nn ≤ 5000) (hO : ZL w (fun b => b < w.heap.size) oo ord) (hol : ord.length = N) (hoc : N ≤ oc) (hocm : oc ≤ 9223372036854775807) (hNg : g.nodes.length = N) (hN : N ≤ 977343669134) (hUl : g.outs.length ≤ 17592186044416) :
    Calls Try.prog 7 #[gvg g go uo gc uc, .slice io m ic, .int .i64 nn, .slice oo N oc] w fun e w' => e = .returned (.bool true) ∧ Below w.heap.size w w' := by
  obtain ⟨U, hU⟩ : ∃ U, U = g.outs.length := ⟨_, rfl⟩
  obtain ⟨ins, hins⟩ : ∃ ins, ins = g.ins := ⟨_, rfl⟩
  obtain ⟨W1, hW1⟩ : ∃ X, X = w.alloc (Obj.cells #[.int .i64 ins, .slice go N gc, .slice uo U uc] 38) := ⟨_, rfl⟩
  have HB1 : Hid (Below w.heap.size w W1) := by rw [hW1]; exact (Below.refl _ _).alloc (Nat.le_refl _) _
  have x0 : W1.cell? ⟨w.heap.size, 0, none⟩ = some (.int .i64 ins) := by rw [hW1]; simp [go_sem]
  have x1 : W1.cell? ⟨w.heap.size, 1, none⟩ = some (.slice go N gc) := by rw [hW1]; simp [go_sem]
  have x2 : W1.cell? ⟨w.heap.size, 2, none⟩ = some (.slice uo U uc) := by rw [hW1]; simp [go_sem]
  have hargs : gvg g go uo gc uc = .agg #[.int .i64 ins, .slice go N gc, .slice uo U uc] := by rw [hU, hins, ← hNg]
  have HA : Hid (gvg g go uo gc uc = .agg #[.int .i64 ins, .slice go N gc, .slice uo U uc]) := hargs
  rw [hargs]
  have HG : Hid (GH w (fun b => b < w.heap.size) g go uo gc uc) := hG
  have HP : Hid (Fi.PL w w.heap.size io P) := hP
  have HOr : Hid (ZL w (fun b => b < w.heap.size) oo ord) := hO
  have Hm : Hid (P.length = m) := hm
  have Hol : Hid (ord.length = N) := hol
  have HNg : Hid (g.nodes.length = N ∧ U = g.outs.length ∧ ins = g.ins) := ⟨hNg, hU, hins⟩
  have hgl : N ≤ gc := by rw [← hNg]; exact hG.gl
  have hul : U ≤ uc := by rw [hU]; exact hG.ul
  have hum := hG.um
  have hUl' : U ≤ 17592186044416 := by rw [hU]; exact hUl
  have qa := alive_any W1
  have n1 : ¬ ((nn : Int) < 0) := by omega
  have n2 : ¬ ((5000 : Int) < (nn : Int)) := by omega
  obtain ⟨xb, hxb⟩ : ∃ xb, xb = w.heap.size := ⟨_, rfl⟩
  rw [← hxb] at x0 x1 x2
  have Hxb : Hid (xb = w.heap.size) := hxb
  clear hG hP hO hm hargs hU hins hNg hUl hol
  go_enter Try.func7, Try.ntmps7
  go_wp2_with fail
  rw [← hW1, ← hxb]
  clear hW1 hxb
  refine qa.mono ?_
  rintro e w2 ⟨rfl, hb2⟩
  have y0 := Fi.keepC hb2 (lt_cell x0) x0
  have y1 := Fi.keepC hb2 (lt_cell x1) x1
  have y2 := Fi.keepC hb2 (lt_cell x2) x2
  have HB2 : Hid (Below w.heap.size w w2) := HB1.out.trans (hb2.mono HB1.out.size)
  have ly := lt_cell y0
  obtain ⟨tb, htb⟩ : ∃ tb, tb = w2.heap.size := ⟨_, rfl⟩
  have mk : (Instr.makeSlice 36 (.int .i64 (N : Int)) (.int .i64 (N : Int))).run Try.prog w2 = .ok (.slice (some ⟨w2.heap.size, 0, none⟩) N N) (w2.alloc (.cells (madeCells #[.int .i64 0] N) 3)) := run_make_row' (P := Try.prog) 36 3 (.int .i64 0) 8 Try.underlying36 infoZ rfl .i64 .i64 N (by omega) (by omega) _
  have mk2 : (Instr.makeSlice 53 (.int .i64 (N : Int)) (.int .i64 (N : Int))).run Try.prog (w2.alloc (.cells (madeCells #[.int .i64 0] N) 3)) = .ok (.slice (some ⟨w2.heap.size + 1, 0, none⟩) N N) ((w2.alloc (.cells (madeCells #[.int .i64 0] N) 3)).alloc (.cells (madeCells #[.bool false] N) 4)) := by
    have := run_make_row' (P := Try.prog) 53 4 (.bool false) 1 Try.underlying53 infoBo rfl .i64 .i64 N (by omega) (by omega) (w2.alloc (.cells (madeCells #[.int .i64 0] N) 3))
    rw [World.size_alloc] at this
    exact this
  have HT : Hid (T1 w2 w2.heap.size N (fun _ => 0) (fun _ => false) ((w2.alloc (.cells (madeCells #[.int .i64 0] N) 3)).alloc (.cells (madeCells #[.bool false] N) 4))) := by
    refine ⟨World.rowIs.alloc (World.rowIs_made w2 (.int .i64 0) N 3) _, ?_, by simp, ((Below.refl _ _).alloc (Nat.le_refl _) _).alloc (by simp) _⟩
    have := World.rowIs_made (w2.alloc (.cells (madeCells #[.int .i64 0] N) 3)) (.bool false) N 4
    rw [World.size_alloc] at this
    exact this
  rw [← htb] at mk mk2 HT
  have Htb : Hid (tb = w2.heap.size) := htb
  clear x0 x1 x2 qa hb2 HB1 htb ly
  go_wp2_with (first | simp only [mk] | simp only [mk2])
  generalize (w2.alloc (.cells (madeCells #[.int .i64 0] N) 3)).alloc (.cells (madeCells #[.bool false] N) 4) = W3 at *
  clear mk mk2
  go_loopw [50] (fun i ww => ∃ k : Nat, k ≤ N ∧ i = .int .i64 k ∧ Hid (∃ τ sn, Od N ord k τ sn ∧ T1 w2 tb N τ sn ww)) (fun i _ => N - (intOf i).toNat)
  case atStart => exact ⟨0, by omega, rfl, _, _, Od.nil N ord, HT.out⟩
  case round =>
    obtain ⟨k, hk, rfl, hR⟩ := hrel
    obtain ⟨τ, sn, hOd, hT⟩ := hR.out
    have hbw : Below w.heap.size w wr := HB2.out.trans (hT.b.mono (by rw [Htb.out]; exact HB2.out.size))
    by_cases hlt : k < N
    ·
      --[
      obtain ⟨y, hy⟩ : ∃ y, ord[k]? = some y := ⟨_, List.getElem?_eq_getElem (by rw [Hol.out]; exact hlt)⟩
      obtain ⟨ob, off, rfl, o1, _, o3⟩ := (HOr.out.keep (w' := wr) (S' := fun _ => True) (fun b _ hl => hbw.block b hl) hbw.size (fun _ _ _ => trivial)).at' (by rw [Hol.out]; omega)
      have v0 := o3 k y hy
      have lv0 := lt_cell v0
      have hlt' : (k : Int) < (N : Int) := by omega
      have w3 : IntKind.i64.wrap ((k : Int) + 1) = (k : Int) + 1 := wid (by omega) (by omega)
      have HBw : Hid (Below w.heap.size w wr) := hbw
      by_cases c1 : y < 0
      · clear hR hOd hT hbw o3 hy HT
        go_wp2_with fail
        go_returns
        exact ⟨rfl, HBw.out⟩
      by_cases c2 : (N : Int) ≤ y
      · have c1' : ¬ (y < 0) := c1
        clear hR hOd hT hbw o3 hy HT
        go_wp2_with fail
        go_returns
        exact ⟨rfl, HBw.out⟩
      obtain ⟨i, rfl⟩ : ∃ i : Nat, y = i := ⟨y.toNat, by omega⟩
      have hi : i < N := by omega
      have hi' : (i : Int) < (N : Int) := by omega
      have vs := World.rowIs.cell hT.s hi
      have vsf := World.rowIs.frozen hT.s i
      have lvs := lt_cell vs
      cases hsn : sn i with
      | true =>
        have vs' : wr.cell? ⟨tb + 1, i, none⟩ = some (.bool true) := by rw [← hsn]; exact vs
        clear hR hOd hT hbw o3 hy c1 c2 vs HT
        go_wp2_with fail
        go_returns
        exact ⟨rfl, HBw.out⟩
      | false =>
        have vs' : wr.cell? ⟨tb + 1, i, none⟩ = some (.bool false) := by rw [← hsn]; exact vs
        have vt := World.rowIs.cell (World.rowIs.setOther (a := ⟨tb + 1, i, none⟩) hT.t (by show tb ≠ tb + 1; omega) (.bool true)) hi
        have vtf := World.rowIs.frozen (World.rowIs.setOther (a := ⟨tb + 1, i, none⟩) hT.t (by show tb ≠ tb + 1; omega) (.bool true)) i
        have HN2 : Hid (∃ τ sn, Od N ord (k + 1) τ sn ∧ T1 w2 tb N τ sn ((wr.setCell ⟨tb + 1, i, none⟩ (.bool true)).setCell ⟨tb, i, none⟩ (.int .i64 (k : Nat)))) := ⟨_, _, hOd.step hi hy hsn, hT.step i k⟩
        clear hR hOd hT hbw o3 hy c1 c2 vs HT
        go_wp2_with fail
        exact ⟨⟨k + 1, by omega, by go_num, HN2⟩, by simp [intOf]; omega⟩
      --]
    · obtain rfl : N = k := by omega
      obtain ⟨hPm, hinv⟩ := hOd.pm Hol.out
      have hob : ∀ (j : Nat) (x : Int), ord[j]? = some x → ∃ i : Nat, x = i ∧ i < N := fun j x hx => by
        obtain ⟨i, e1, e2, _⟩ := hOd.r j x (by have := (List.getElem?_eq_some_iff.1 hx).1; rw [Hol.out] at this; exact this) hx
        exact ⟨i, e1, e2⟩
      obtain ⟨w3, hw3⟩ : ∃ x, x = wr := ⟨wr, rfl⟩
      subst hw3
      have e0 := Fi.keepC hT.b (by rw [Htb.out]; exact lt_cell y0) y0
      have e1 := Fi.keepC hT.b (by rw [Htb.out]; exact lt_cell y1) y1
      have e2 := Fi.keepC hT.b (by rw [Htb.out]; exact lt_cell y2) y2
      have le := lt_cell e0
      obtain ⟨s, hs⟩ : ∃ s, s = ord.map Int.toNat := ⟨_, rfl⟩
      rw [← hs] at hPm hinv
      have HPm : Hid (Pm N s τ ∧ (∀ k i, s[k]? = some i → τ i = k) ∧ s = ord.map Int.toNat) := ⟨hPm, hinv, hs⟩
      have Hob : Hid (∀ (j : Nat) (x : Int), ord[j]? = some x → ∃ i : Nat, x = i ∧ i < N) := hob
      have HT3 : Hid (T1 w2 tb N τ sn w3) := hT
      have HB3 : Hid (Below w.heap.size w w3) := hbw
      obtain ⟨hb, hhb⟩ : ∃ hb, hb = w3.heap.size := ⟨_, rfl⟩
      obtain ⟨W4, hW4⟩ : ∃ X, X = w3.alloc (Obj.cells #[.int .i64 ins, .slice none 0 0, .slice none 0 0] 38) := ⟨_, rfl⟩
      have HL2 : Hid (L2 w3 hb ins (dsk g s τ 0) 0 W4) := by
        rw [hW4, hhb]
        refine ⟨⟨none, 0, ?_, ?_⟩, (Below.refl _ _).alloc (Nat.le_refl _) _, by simp⟩
        · exact World.rowIs_alloc w3 #[.int .i64 ins, .slice none 0 0, .slice none 0 0] 38 _ (fun i hi => by
            match i, hi with
            | 0, _ => rfl
            | 1, _ => rfl
            | 2, _ => rfl)
        · exact NO.nil _ _
      have hxh : xb < hb := by omega
      have Hhb : Hid (hb = w3.heap.size) := hhb
      clear hR hT hOd hPm hinv hob hs hbw y0 y1 y2 HT hlt hk le
      go_wp2_with fail
      rw [← hW4, ← hhb]
      clear hW4 hhb
      go_loopw [82] (fun i ww => ∃ k : Nat, k ≤ N ∧ i = .int .i64 k ∧ Hid (L2 w3 hb ins (dsk g s τ k) k ww) ∧ Hid (∀ (j i : Nat), j < k → s[j]? = some i → ∀ x ∈ (nd g i).frm, 0 ≤ x ∧ x < (N : Int))) (fun i _ => N - (intOf i).toNat)
      case atStart => exact ⟨0, by omega, rfl, HL2, fun j i h => absurd h (by omega)⟩
      case round =>
        obtain ⟨k, hk, rfl, hL, hF⟩ := hrel
        obtain ⟨ho, hc', hrow, hNO⟩ := hL.out.v
        have hbw := hL.out.b
        have hzw := hL.out.z
        have f0 := Fi.keepC hbw (by rw [Hhb.out]; exact lt_cell e0) e0
        have f1 := Fi.keepC hbw (by rw [Hhb.out]; exact lt_cell e1) e1
        have f2 := Fi.keepC hbw (by rw [Hhb.out]; exact lt_cell e2) e2
        have lf := lt_cell f0
        have hbW : Below w.heap.size w wr := HB3.out.trans (hbw.mono (by rw [Hhb.out]; exact HB3.out.size))
        by_cases hlt : k < N
        ·
          --[
          obtain ⟨y, hy⟩ : ∃ y, ord[k]? = some y := ⟨_, List.getElem?_eq_getElem (by rw [Hol.out]; exact hlt)⟩
          obtain ⟨i, rfl, hi⟩ := Hob.out k y hy
          have hsi : s[k]? = some i := by rw [HPm.out.2.2, List.getElem?_map, hy]; rfl
          obtain ⟨ob, off, rfl, o1, _, o3⟩ := (HOr.out.keep (w' := wr) (S' := fun _ => True) (fun b _ hl => hbW.block b hl) hbW.size (fun _ _ _ => trivial)).at' (by rw [Hol.out]; omega)
          have v0 := o3 k _ hy
          have lv0 := lt_cell v0
          have hgi : g.nodes[i]? = some (nd g i) := by unfold nd; rw [List.getD_eq_getElem?_getD, List.getElem?_eq_getElem (by rw [HNg.out.1]; exact hi)]; rfl
          obtain ⟨d, hd⟩ : ∃ d, d = nd g i := ⟨_, rfl⟩
          rw [← hd] at hgi
          obtain ⟨b, ofn, fo, fc, rfl, _, hlb, hcl, hNA⟩ := (HG.out.n.keep (fun b _ hl => hbW.block b hl) hbW.size).at' i d hgi
          have n0 : wr.cell? ⟨b, ofn + i * 16, none⟩ = some (.int .i64 d.kind) := hcl 0 _ rfl
          have n1 : wr.cell? ⟨b, ofn + i * 16 + 1, none⟩ = some (.slice fo d.frm.length fc) := hcl 1 _ rfl
          have n2 : wr.cell? ⟨b, ofn + i * 16 + 2, none⟩ = some (.int .i64 d.n) := hcl 2 _ rfl
          have n3 : wr.cell? ⟨b, ofn + i * 16 + 3, none⟩ = some (.float .f64 d.x) := hcl 3 _ rfl
          have n4 : wr.cell? ⟨b, ofn + i * 16 + 4, none⟩ = some (.float .f64 d.c.b0) := hcl 4 _ rfl
          have n5 : wr.cell? ⟨b, ofn + i * 16 + 5, none⟩ = some (.float .f64 d.c.b1) := hcl 5 _ rfl
          have n6 : wr.cell? ⟨b, ofn + i * 16 + 6, none⟩ = some (.float .f64 d.c.b2) := hcl 6 _ rfl
          have n7 : wr.cell? ⟨b, ofn + i * 16 + 7, none⟩ = some (.float .f64 d.c.a1) := hcl 7 _ rfl
          have n8 : wr.cell? ⟨b, ofn + i * 16 + 8, none⟩ = some (.float .f64 d.c.a2) := hcl 8 _ rfl
          have n9 : wr.cell? ⟨b, ofn + i * 16 + 9, none⟩ = some (.int .i64 d.p.shape) := hcl 9 _ rfl
          have n10 : wr.cell? ⟨b, ofn + i * 16 + 10, none⟩ = some (.int .u32 d.p.step) := hcl 10 _ rfl
          have n11 : wr.cell? ⟨b, ofn + i * 16 + 11, none⟩ = some (.float .f64 d.p.gain) := hcl 11 _ rfl
          have n12 : wr.cell? ⟨b, ofn + i * 16 + 12, none⟩ = some (.int .i64 d.p.atk) := hcl 12 _ rfl
          have n13 : wr.cell? ⟨b, ofn + i * 16 + 13, none⟩ = some (.int .i64 d.p.dec) := hcl 13 _ rfl
          have n14 : wr.cell? ⟨b, ofn + i * 16 + 14, none⟩ = some (.int .i64 d.p.rel) := hcl 14 _ rfl
          have n15 : wr.cell? ⟨b, ofn + i * 16 + 15, none⟩ = some (.int .i64 d.p.sus) := hcl 15 _ rfl
          obtain ⟨FL, hFL⟩ : ∃ FL, FL = d.frm.length := ⟨_, rfl⟩
          rw [← hFL] at n1
          have hi' : (i : Int) < (N : Int) := by omega
          have hlt' : (k : Int) < (N : Int) := by omega
          have w9 : IntKind.i64.wrap ((k : Int) + 1) = (k : Int) + 1 := wid (by omega) (by omega)
          have HNA : Hid (NA wr (fun b => b < w.heap.size) d fo fc ∧ FL = d.frm.length ∧ d = nd g i ∧ s[k]? = some i) := ⟨hNA, hFL, hd, hsi⟩
          have HR : Hid (wr.rowIs hb 38 3 (hf ins (.slice ho k hc') (.slice none 0 0)) ∧ NO wr (hb + 1) (.slice ho k hc') (dsk g s τ k) ∧ Below hb w3 wr ∧ hb + 1 ≤ wr.heap.size) := ⟨hrow, hNO, hbw, hzw⟩
          have HBw : Hid (Below w.heap.size w wr) := hbW
          have hfc := hNA.c
          have hfcm := hNA.cm
          have hfl := hNA.len
          rw [← hFL] at hfc hfl
          obtain ⟨wl, hwl⟩ : ∃ x, x = wr := ⟨wr, rfl⟩
          subst hwl
          obtain ⟨xk, hxk⟩ : ∃ xk, xk = wl.heap.size := ⟨_, rfl⟩
          have Hxk : Hid (xk = wl.heap.size) := hxk
          clear hL hrow hNO hbw hzw hbW o3 hy hgi hcl hNA hFL hd hsi HL2
          obtain ⟨WX, hWX⟩ : ∃ X, X = wl.alloc (Obj.cells #[.int .i64 d.kind, .slice none 0 0, .int .i64 d.n, .float .f64 d.x, .float .f64 d.c.b0, .float .f64 d.c.b1, .float .f64 d.c.b2, .float .f64 d.c.a1, .float .f64 d.c.a2, .int .i64 d.p.shape, .int .u32 d.p.step, .float .f64 d.p.gain, .int .i64 d.p.atk, .int .i64 d.p.dec, .int .i64 d.p.rel, .int .i64 d.p.sus] 58) := ⟨_, rfl⟩
          have HL3 : Hid (L3 wl xk d τ 0 WX) := by
            rw [hWX, hxk]
            refine ⟨⟨none, 0, ?_, World.ownsRow_nil _ _ _ _⟩, (Below.refl _ _).alloc (Nat.le_refl _) _, by simp⟩
            exact World.rowIs_alloc wl #[.int .i64 d.kind, .slice none 0 0, .int .i64 d.n, .float .f64 d.x, .float .f64 d.c.b0, .float .f64 d.c.b1, .float .f64 d.c.b2, .float .f64 d.c.a1, .float .f64 d.c.a2, .int .i64 d.p.shape, .int .u32 d.p.step, .float .f64 d.p.gain, .int .i64 d.p.atk, .int .i64 d.p.dec, .int .i64 d.p.rel, .int .i64 d.p.sus] 58 (xf d (.slice none 0 0)) (fun i hi => by
              match i, hi with
              | 0, _ => rfl
              | 1, _ => rfl
              | 2, _ => rfl
              | 3, _ => rfl
              | 4, _ => rfl
              | 5, _ => rfl
              | 6, _ => rfl
              | 7, _ => rfl
              | 8, _ => rfl
              | 9, _ => rfl
              | 10, _ => rfl
              | 11, _ => rfl
              | 12, _ => rfl
              | 13, _ => rfl
              | 14, _ => rfl
              | 15, _ => rfl
              | i + 16, hi => exact absurd hi (by show ¬ (i + 16 < 16); omega))
          go_wp2_with fail
          rw [← hWX, ← hxk]
          clear hWX hxk n0 n1 n2 n3 n4 n5 n6 n7 n8 n9 n10 n11 n12 n13 n14 n15 v0 lv0 o1 hlb
          go_loopw [99] (fun q ww => ∃ j : Nat, j ≤ FL ∧ q = .int .i64 j ∧ Hid (L3 wl xk d τ j ww) ∧ Hid (∀ (q : Nat) x, q < j → d.frm[q]? = some x → 0 ≤ x ∧ x < (N : Int))) (fun q _ => FL - (intOf q).toNat)
          case atStart => exact ⟨0, by omega, rfl, HL3, fun q x h => absurd h (by omega)⟩
          case round =>
            obtain ⟨j, hj, rfl, hL3, hF3⟩ := hrel
            obtain ⟨xo, xc, hxr, hxo⟩ := hL3.out.v
            have hb3 := hL3.out.b
            have hz3 := hL3.out.z
            have hbX : Below w.heap.size w wr := HBw.out.trans (hb3.mono (by rw [Hxk.out]; exact HBw.out.size))
            have HBx : Hid (Below w.heap.size w wr) := hbX
            by_cases hlt3 : j < FL
            · obtain ⟨y, hy⟩ : ∃ y, d.frm[j]? = some y := ⟨_, List.getElem?_eq_getElem (by rw [← HNA.out.2.1]; exact hlt3)⟩
              obtain ⟨fb, fof, rfl, p1, _, p3⟩ := (HNA.out.1.z.keep (w' := wr) (S' := fun _ => True) (fun b _ hl => hb3.block b (by rw [Hxk.out]; exact hl)) (by have := hb3.size; omega) (fun _ _ _ => trivial)).at' (by rw [← HNA.out.2.1]; omega)
              have v0 := p3 j _ hy
              have lv0 := lt_cell v0
              have hlt3' : (j : Int) < (FL : Int) := by omega
              have w8 : IntKind.i64.wrap ((j : Int) + 1) = (j : Int) + 1 := wid (by omega) (by omega)
              by_cases c1 : y < 0
              · clear hL3 hxr hxo hb3 hz3 hbX hy HL3 p3
                go_wp2_with fail
                go_returns
                exact ⟨rfl, HBx.out⟩
              by_cases c2 : (N : Int) ≤ y
              · have c1' : ¬ (y < 0) := c1
                clear hL3 hxr hxo hb3 hz3 hbX hy HL3 p3
                go_wp2_with fail
                go_returns
                exact ⟨rfl, HBx.out⟩
              obtain ⟨yi, rfl⟩ : ∃ i : Nat, y = i := ⟨y.toNat, by omega⟩
              have hyi : yi < N := by omega
              have hyi' : (yi : Int) < (N : Int) := by omega
              have htx : tb < w3.heap.size ∧ w3.heap.size ≤ xk := by
                have h1 := HT3.out.z
                have h2 := HR.out.2.2.2
                have h3 := Hhb.out
                have h4 := Hxk.out
                omega
              have hb3' : Below w3.heap.size w3 wr := by
                have h1 := HR.out.2.2.1
                rw [Hhb.out] at h1
                exact h1.trans (hb3.mono htx.2)
              have vt := Fi.keepC hb3' htx.1 (World.rowIs.cell HT3.out.t hyi)
              have lvt := lt_cell vt
              have vx : wr.cell? ⟨xk, 1, none⟩ = some (.slice xo j xc) := World.rowIs.cell hxr (by decide)
              have vxf := World.rowIs.frozen hxr 1
              have lvx := lt_cell vx
              have HX : Hid (wr.rowIs xk 58 16 (xf d (.slice xo j xc)) ∧ wr.ownsRow (xk + 1) 3 1 (.slice xo j xc) j (ils ((d.frm.take j).map (fun k => (τ k.toNat : Int)))) ∧ Below xk wl wr ∧ xk + 1 ≤ wr.heap.size ∧ d.frm[j]? = some (yi : Int)) := ⟨hxr, hxo, hb3, hz3, hy⟩
              have hbA : Below wr.heap.size wr ((wr.alloc (Obj.cells #[.int .i64 (τ yi : Nat)] 3)).drew) := ((Below.refl _ _).alloc (Nat.le_refl _) _).drew
              have HOw : Hid (((wr.alloc (Obj.cells #[.int .i64 (τ yi : Nat)] 3)).drew).ownsRow (xk + 1) 3 1 (.slice xo j xc) j (ils ((d.frm.take j).map (fun k => (τ k.toNat : Int))))) := Fi.own_step hxo (fun q hq => hbA.block q (Fi.own_lt hxo q hq))
              have hbz : xk + 1 ≤ ((wr.alloc (Obj.cells #[.int .i64 (τ yi : Nat)] 3)).drew).heap.size := by have := hbA.size; omega
              have hcA : ((wr.alloc (Obj.cells #[.int .i64 (τ yi : Nat)] 3)).drew).cell? ⟨wr.heap.size, 0, none⟩ = some (.int .i64 (τ yi : Nat)) := by simp [go_sem]
              have HF4 : Hid (∀ (q : Nat) x, q < j + 1 → d.frm[q]? = some x → 0 ≤ x ∧ x < (N : Int)) := fun q x hq hx => by
                by_cases e : q = j
                · subst e
                  rw [hy] at hx
                  cases hx
                  omega
                · exact hF3.out q x (by omega) hx
              have HPu : Hid (∀ v' w7, w7.ownsRow (xk + 1) 3 1 v' (j + 1) (ils ((d.frm.take j).map (fun k => (τ k.toNat : Int))) ++ [.int .i64 (τ yi : Nat)]) → Fi.Gw ((wr.alloc (Obj.cells #[.int .i64 (τ yi : Nat)] 3)).drew) w7 (.slice xo j xc) v' → L3 wl xk d τ (j + 1) (w7.setCell ⟨xk, 1, none⟩ v') ∧ w7.cell? ⟨xk, 1, none⟩ = some (.slice xo j xc) ∧ w7.frozen? ⟨xk, 1, none⟩ = false) := fun v' w7 h7 g7 =>
                ⟨L3.push (y := (yi : Int)) hxr hxo hb3 hz3 hbA g7 h7 hy, g7.cell (by have := hbA.size; omega) (fun q => by have := Fi.own_block hxo xk q.symm; omega) (Fi.keepC hbA lvx vx), g7.froz (by have := hbA.size; omega) (fun q => by have := Fi.own_block hxo xk q.symm; omega) ((World.frozen?_of_block (w := wr) (a := ⟨xk, 1, none⟩) (hbA.block xk lvx)).trans vxf)⟩
              have hj44 : j < 17592186044416 := by omega
              clear hL3 hxr hxo hb3 hz3 hbX hy HL3 p3 c1 c2 hb3' hbA htx HX
              go_wp2_with fail
              go_region_law (first
                | (refine step_append_i (w := (wr.alloc (Obj.cells #[.int .i64 (τ yi : Nat)] 3)).drew) (by rfl) _ _ (by rfl) (xk + 1) (.slice xo j xc) j _ (by rfl) HOw.out wr.heap.size (τ yi : Nat) (by rfl) hcA hj44 hbz ?_; intro v' w7 h7 g7; obtain ⟨q1, q2, q3⟩ := HPu.out v' w7 h7 g7; obtain ⟨va, vc, rfl, vc1, vc2⟩ := Fi.own_form h7; have Q1 : Hid _ := q1; clear h7 g7 q1))
              all_goals
                generalize w7.setCell ⟨xk, 1, none⟩ (.slice va (j + 1) vc) = W8 at *
                clear HPu HOw q2 q3 vt vx vxf v0 lv0 lvt lvx hcA hbz
                go_wp2_with fail
                exact ⟨⟨j + 1, by omega, by go_num, Q1, HF4⟩, by simp [intOf]; omega⟩
            · obtain rfl : FL = j := by omega
              have hxh2 : hb < xk := by have := HR.out.2.2.2; rw [← Hxk.out] at this; omega
              have c0 : wr.cell? ⟨xk, 0, none⟩ = some (.int .i64 d.kind) := World.rowIs.cell hxr (by decide)
              have c1 : wr.cell? ⟨xk, 1, none⟩ = some (.slice xo FL xc) := World.rowIs.cell hxr (by decide)
              have c2 : wr.cell? ⟨xk, 2, none⟩ = some (.int .i64 d.n) := World.rowIs.cell hxr (by decide)
              have c3 : wr.cell? ⟨xk, 3, none⟩ = some (.float .f64 d.x) := World.rowIs.cell hxr (by decide)
              have c4 : wr.cell? ⟨xk, 4, none⟩ = some (.float .f64 d.c.b0) := World.rowIs.cell hxr (by decide)
              have c5 : wr.cell? ⟨xk, 5, none⟩ = some (.float .f64 d.c.b1) := World.rowIs.cell hxr (by decide)
              have c6 : wr.cell? ⟨xk, 6, none⟩ = some (.float .f64 d.c.b2) := World.rowIs.cell hxr (by decide)
              have c7 : wr.cell? ⟨xk, 7, none⟩ = some (.float .f64 d.c.a1) := World.rowIs.cell hxr (by decide)
              have c8 : wr.cell? ⟨xk, 8, none⟩ = some (.float .f64 d.c.a2) := World.rowIs.cell hxr (by decide)
              have c9 : wr.cell? ⟨xk, 9, none⟩ = some (.int .i64 d.p.shape) := World.rowIs.cell hxr (by decide)
              have c10 : wr.cell? ⟨xk, 10, none⟩ = some (.int .u32 d.p.step) := World.rowIs.cell hxr (by decide)
              have c11 : wr.cell? ⟨xk, 11, none⟩ = some (.float .f64 d.p.gain) := World.rowIs.cell hxr (by decide)
              have c12 : wr.cell? ⟨xk, 12, none⟩ = some (.int .i64 d.p.atk) := World.rowIs.cell hxr (by decide)
              have c13 : wr.cell? ⟨xk, 13, none⟩ = some (.int .i64 d.p.dec) := World.rowIs.cell hxr (by decide)
              have c14 : wr.cell? ⟨xk, 14, none⟩ = some (.int .i64 d.p.rel) := World.rowIs.cell hxr (by decide)
              have c15 : wr.cell? ⟨xk, 15, none⟩ = some (.int .i64 d.p.sus) := World.rowIs.cell hxr (by decide)
              have lc := lt_cell c0
              have vh0 : wl.cell? ⟨hb, 1, none⟩ = some (.slice ho k hc') := World.rowIs.cell HR.out.1 (by decide)
              have vh := Fi.keepC hb3 hxh2 vh0
              have lvh := lt_cell vh
              obtain ⟨W, hW⟩ : ∃ X, X = wr.alloc (Obj.cells #[.int .i64 d.kind, .slice xo FL xc, .int .i64 d.n, .float .f64 d.x, .float .f64 d.c.b0, .float .f64 d.c.b1, .float .f64 d.c.b2, .float .f64 d.c.a1, .float .f64 d.c.a2, .int .i64 d.p.shape, .int .u32 d.p.step, .float .f64 d.p.gain, .int .i64 d.p.atk, .int .i64 d.p.dec, .int .i64 d.p.rel, .int .i64 d.p.sus] 58) := ⟨_, rfl⟩
              have hbA : Below wr.heap.size wr W := by rw [hW]; exact (Below.refl _ _).alloc (Nat.le_refl _) _
              have hpl : (pm τ d).frm.length = FL := by rw [HNA.out.2.1]; exact List.length_map _
              have hcW : ∀ (q : Nat) u, (nc (pm τ d) xo xc)[q]? = some u → W.cell? ⟨wr.heap.size, q, none⟩ = some u := fun q u hu => by
                rw [hW]
                simp only [nc, hpl] at hu
                simpa [go_sem, pm] using hu
              have hall : (d.frm.take FL).map (fun k => (τ k.toNat : Int)) = (pm τ d).frm := by rw [HNA.out.2.1, List.take_of_length_le (Nat.le_refl _)]; rfl
              have hZx : xo = none → xc = 0 := by
                rw [hall] at hxo
                obtain ⟨ao, c, a1, a2, a3, a4, a5⟩ := L3.ils_z (l := (pm τ d).frm) (by rw [hpl]; exact hxo)
                injection a1 with j1 j2 j3
                rw [j1, j3]; exact a4
              have hNAx : NA W (fun q => xk + 1 ≤ q ∧ q < wr.heap.size) (pm τ d) xo xc := by
                rw [hall] at hxo
                obtain ⟨ao, c, a1, a2, a3, a4, a5⟩ := L3.ils_z (l := (pm τ d).frm) (by rw [hpl]; exact hxo)
                injection a1 with j1 j2 j3
                rw [j1, j3]
                exact ⟨a5.keep (fun b _ hl => hbA.block b hl) hbA.size (fun b h hl => h), a2, a3, a4, HNA.out.1.x, HNA.out.1.g, HNA.out.1.st, by rw [hpl]; exact hfl⟩
              have hsN : s.length = N := HPm.out.1.len
              obtain ⟨Vs, hV1, hV2, hV3⟩ := HR.out.2.1.ex
              rw [dsk_len (by omega)] at hV1 hV2
              have hbWl : Below wl.heap.size wl W := by
                have h1 := hb3
                rw [Hxk.out] at h1
                exact h1.trans (hbA.mono h1.size)
              have HOw : Hid (W.ownsRow (hb + 1) 58 16 (.slice ho k hc') k Vs) := Fi.own_step hV1 (fun q hq => hbWl.block q (Fi.own_lt hV1 q hq))
              have hbase : hb + 1 ≤ W.heap.size := by have := hbA.size; omega
              have HF5 : Hid (∀ (j i : Nat), j < k + 1 → s[j]? = some i → ∀ x ∈ (nd g i).frm, 0 ≤ x ∧ x < (N : Int)) := fun q i2 hq hi2 x hx => by
                by_cases e : q = k
                · subst e
                  rw [HNA.out.2.2.2] at hi2
                  cases hi2
                  rw [← HNA.out.2.2.1] at hx
                  obtain ⟨z, hz⟩ := List.getElem?_of_mem hx
                  exact hF3.out z x (by rw [HNA.out.2.1]; exact (List.getElem?_eq_some_iff.1 hz).1) hz
                · exact hF.out q i2 (by omega) hi2 x hx
              have HPu : Hid (∀ v' w7, w7.ownsRow (hb + 1) 58 16 v' (k + 1) (Vs ++ (nc (pm τ d) xo xc).toList) → Fi.Gw W w7 (.slice ho k hc') v' → L2 w3 hb ins (dsk g s τ (k + 1)) (k + 1) (w7.setCell ⟨hb, 1, none⟩ v') ∧ w7.cell? ⟨hb, 1, none⟩ = some (.slice ho k hc') ∧ w7.frozen? ⟨hb, 1, none⟩ = false) := fun v' w7 h7 g7 => by
                have hne : some hb ≠ (Value.slice ho k hc').ownBlock := fun q => by have := Fi.own_block hV1 hb q.symm; omega
                refine ⟨?_, g7.cell (by omega) hne (Fi.keepC hbA lvh vh), g7.froz (by omega) hne ((World.frozen?_of_block (w := wl) (a := ⟨hb, 1, none⟩) (hbWl.block hb (by rw [← Hxk.out]; exact hxh2))).trans (World.rowIs.frozen HR.out.1 1))⟩
                have hdn := HNA.out.2.2.1
                rw [hdn] at h7 hNAx
                exact L2.push (by omega) HNA.out.2.2.2 HR.out.1 HR.out.2.1 HR.out.2.2.1 HR.out.2.2.2 Hxk.out hb3 hbA hNAx Vs hV1 hV2 hV3 g7 h7
              have hkN : k < 977343669134 := by omega
              clear hL3 hxr hxo hb3 hz3 hbX HL3 hNAx hV1 hV2 hV3 hbWl hbA hall hpl
              go_wp2_with (at_builtin; rw [← hW]; refine wpList_append_nd rfl (.tmp 122) (.tmp 124) rfl (hb + 1) _ k Vs rfl HOw.out wr.heap.size (pm τ d) xo xc rfl hcW hkN hbase ?a1)
              case a1 =>
                intro v' w7 h7 g7
                rw [← hW] at g7
                obtain ⟨q1, q2, q3⟩ := HPu.out v' w7 h7 g7
                obtain ⟨va, vc, rfl, vc1, vc2⟩ := Fi.own_form h7
                have Q1 : Hid (L2 w3 hb ins (dsk g s τ (k + 1)) (k + 1) (w7.setCell ⟨hb, 1, none⟩ (.slice va (k + 1) vc))) := q1
                clear h7 g7 q1 HPu HOw hcW c0 c1 c2 c3 c4 c5 c6 c7 c8 c9 c10 c11 c12 c13 c14 c15 lc vh lvh vh0 hW
                have lq2 := lt_cell q2
                go_wp2_with fail
                exact ⟨⟨k + 1, by omega, by go_num, Q1, HF5⟩, by simp [intOf]; omega⟩
          --]
        · obtain rfl : N = k := by omega
          have hsN : s.length = N := HPm.out.1.len
          have hNg : (dsk g s τ N) = (gp g s τ).nodes := by rw [← hsN]; exact dsk_all
          rw [hNg] at hNO
          have hfr : ∀ i, i < g.nodes.length → ∀ x ∈ (nd g i).frm, 0 ≤ x ∧ x < (g.nodes.length : Int) := fun i hi => by
            rw [HNg.out.1] at hi ⊢
            have h1 := HPm.out.1.at' i hi
            exact hF.out (τ i) i h1.1 h1.2
          obtain ⟨w5, hw5⟩ : ∃ x, x = wr := ⟨wr, rfl⟩
          subst hw5
          have HNO : Hid (NO w5 (hb + 1) (.slice ho N hc') (gp g s τ).nodes) := hNO
          have HB5 : Hid (Below w.heap.size w w5 ∧ Below hb w3 w5 ∧ hb < w5.heap.size) := ⟨hbW, hbw, by omega⟩
          have Hfr : Hid (∀ i, i < g.nodes.length → ∀ x ∈ (nd g i).frm, 0 ≤ x ∧ x < (g.nodes.length : Int)) := hfr
          have HL4 : Hid (L4 w5 hb ins N ho hc' ((g.outs.take 0).map (fun o => (τ o.toNat : Int))) 0 w5) := ⟨⟨none, 0, hrow, World.ownsRow_nil _ _ _ _⟩, Kx.refl _ _⟩
          have hxb5 : xb < w5.heap.size := lt_cell f0
          have hxbh : xb ≠ hb := by omega
          clear hL hF hNO hbw hbW hzw hrow hfr hlt hk lf e0 e1 e2 hsN hNg
          go_wp2_with fail
          go_loopw [131] (fun q ww => ∃ j : Nat, j ≤ U ∧ q = .int .i64 j ∧ Hid (L4 w5 hb ins N ho hc' ((g.outs.take j).map (fun o => (τ o.toNat : Int))) j ww) ∧ Hid (∀ (q : Nat) x, q < j → g.outs[q]? = some x → 0 ≤ x ∧ x < (N : Int))) (fun q _ => U - (intOf q).toNat)
          case atStart => exact ⟨0, by omega, rfl, HL4, fun q x h => absurd h (by omega)⟩
          case round =>
            obtain ⟨j, hj, rfl, hL, hF⟩ := hrel
            obtain ⟨zo, zc, hrow, hown⟩ := hL.out.v
            have hkx := hL.out.k
            have hBw : Below w.heap.size w wr := HB5.out.1.trans (hkx.below HB5.out.1.size (fun k hk => by have h1 := Hxb.out; have h2 := Hhb.out; omega))
            have HBw : Hid (Below w.heap.size w wr) := hBw
            by_cases hlt : j < U
            ·
              --[
              obtain ⟨y, hy⟩ : ∃ y, g.outs[j]? = some y := ⟨_, List.getElem?_eq_getElem (by rw [← HNg.out.2.1]; exact hlt)⟩
              obtain ⟨ub, uof, rfl, p1, _, p3⟩ := (HG.out.u.keep (w' := wr) (S' := fun _ => True) (fun b _ hl => hBw.block b hl) hBw.size (fun _ _ _ => trivial)).at' (by rw [← HNg.out.2.1]; omega)
              have v0 := p3 j _ hy
              have lv0 := lt_cell v0
              have hlt' : (j : Int) < (U : Int) := by omega
              have w8 : IntKind.i64.wrap ((j : Int) + 1) = (j : Int) + 1 := wid (by omega) (by omega)
              by_cases c1 : y < 0
              · clear hL hrow hown hkx hBw hy HL4 p3
                go_wp2_with fail
                go_returns
                exact ⟨rfl, HBw.out⟩
              by_cases c2 : (N : Int) ≤ y
              · have c1' : ¬ (y < 0) := c1
                clear hL hrow hown hkx hBw hy HL4 p3
                go_wp2_with fail
                go_returns
                exact ⟨rfl, HBw.out⟩
              obtain ⟨yi, rfl⟩ : ∃ i : Nat, y = i := ⟨y.toNat, by omega⟩
              have hyi : yi < N := by omega
              have hyi' : (yi : Int) < (N : Int) := by omega
              have htb : tb < w3.heap.size := World.rowIs.lt HT3.out.t
              have hb3' : Below hb w3 wr := HB5.out.2.1.trans (hkx.below (by have := HB5.out.2.2; omega) (fun k hk => by omega))
              have vt := Fi.keepC hb3' (by rw [Hhb.out]; exact htb) (World.rowIs.cell HT3.out.t hyi)
              have lvt := lt_cell vt
              have vx : wr.cell? ⟨hb, 2, none⟩ = some (.slice zo j zc) := World.rowIs.cell hrow (by decide)
              have vxf := World.rowIs.frozen hrow 2
              have lvx := lt_cell vx
              have hbA : Below wr.heap.size wr ((wr.alloc (Obj.cells #[.int .i64 (τ yi : Nat)] 3)).drew) := ((Below.refl _ _).alloc (Nat.le_refl _) _).drew
              have HOw : Hid (((wr.alloc (Obj.cells #[.int .i64 (τ yi : Nat)] 3)).drew).ownsRow w5.heap.size 3 1 (.slice zo j zc) j (ils ((g.outs.take j).map (fun o => (τ o.toNat : Int))))) := Fi.own_step hown (fun q hq => hbA.block q (Fi.own_lt hown q hq))
              have hbz : w5.heap.size ≤ ((wr.alloc (Obj.cells #[.int .i64 (τ yi : Nat)] 3)).drew).heap.size := by have := hbA.size; have := hkx.size; omega
              have hcA : ((wr.alloc (Obj.cells #[.int .i64 (τ yi : Nat)] 3)).drew).cell? ⟨wr.heap.size, 0, none⟩ = some (.int .i64 (τ yi : Nat)) := by simp [go_sem]
              have HF4 : Hid (∀ (q : Nat) x, q < j + 1 → g.outs[q]? = some x → 0 ≤ x ∧ x < (N : Int)) := fun q x hq hx => by
                by_cases e : q = j
                · subst e
                  rw [hy] at hx
                  cases hx
                  omega
                · exact hF.out q x (by omega) hx
              have HPu : Hid (∀ v' w7, w7.ownsRow w5.heap.size 3 1 v' (j + 1) (ils ((g.outs.take j).map (fun o => (τ o.toNat : Int))) ++ [.int .i64 (τ yi : Nat)]) → Fi.Gw ((wr.alloc (Obj.cells #[.int .i64 (τ yi : Nat)] 3)).drew) w7 (.slice zo j zc) v' → L4 w5 hb ins N ho hc' ((g.outs.take (j + 1)).map (fun o => (τ o.toNat : Int))) (j + 1) (w7.setCell ⟨hb, 2, none⟩ v') ∧ w7.cell? ⟨hb, 2, none⟩ = some (.slice zo j zc) ∧ w7.frozen? ⟨hb, 2, none⟩ = false) := fun v' w7 h7 g7 => by
                have hne : some hb ≠ (Value.slice zo j zc).ownBlock := fun q => by have := Fi.own_block hown hb q.symm; have := HB5.out.2.2; omega
                refine ⟨?_, g7.cell (by have := hbA.size; omega) hne (Fi.keepC hbA lvx vx), g7.froz (by have := hbA.size; omega) hne ((World.frozen?_of_block (w := wr) (a := ⟨hb, 2, none⟩) (hbA.block hb lvx)).trans vxf)⟩
                have e : (g.outs.take (j + 1)).map (fun o => (τ o.toNat : Int)) = (g.outs.take j).map (fun o => (τ o.toNat : Int)) ++ [(τ yi : Int)] := by rw [List.take_add_one, hy, List.map_append]; rfl
                rw [e]
                exact L4.push hrow hown hkx HB5.out.2.2 hbA g7 h7
              have hj44 : j < 17592186044416 := by omega
              clear hL hrow hown hkx hBw hy HL4 p3 c1 c2 hb3' hbA htb
              go_wp2_with fail
              go_region_law (first
                | (refine step_append_i (w := (wr.alloc (Obj.cells #[.int .i64 (τ yi : Nat)] 3)).drew) (by rfl) _ _ (by rfl) w5.heap.size (.slice zo j zc) j _ (by rfl) HOw.out wr.heap.size (τ yi : Nat) (by rfl) hcA hj44 hbz ?_; intro v' w7 h7 g7; obtain ⟨q1, q2, q3⟩ := HPu.out v' w7 h7 g7; obtain ⟨va, vc, rfl, vc1, vc2⟩ := Fi.own_form h7; have Q1 : Hid _ := q1; clear h7 g7 q1))
              all_goals
                generalize w7.setCell ⟨hb, 2, none⟩ (.slice va (j + 1) vc) = W8 at *
                clear HPu HOw q2 q3 vt vx vxf v0 lv0 lvt lvx hcA hbz
                go_wp2_with fail
                exact ⟨⟨j + 1, by omega, by go_num, Q1, HF4⟩, by simp [intOf]; omega⟩
              --]
            · obtain rfl : U = j := by omega
              have hou : ∀ o ∈ g.outs, 0 ≤ o ∧ o < (g.nodes.length : Int) := fun o ho => by
                obtain ⟨q, hq⟩ := List.getElem?_of_mem ho
                rw [HNg.out.1]
                exact hF.out q o (by rw [HNg.out.2.1]; exact (List.getElem?_eq_some_iff.1 hq).1) hq
              have hall : (g.outs.take U).map (fun o => (τ o.toNat : Int)) = (gp g s τ).outs := by rw [HNg.out.2.1, List.take_of_length_le (Nat.le_refl _)]; rfl
              have hul2 : (gp g s τ).outs.length = U := by rw [HNg.out.2.1]; exact List.length_map _
              rw [hall] at hown
              have hGH2 : GH wr (fun b => b < wr.heap.size) (gp g s τ) ho zo hc' zc := L4.gh (ins := ins) HNO.out (by rw [hul2]; exact hown) hkx
              have d0 : wr.cell? ⟨hb, 0, none⟩ = some (.int .i64 ins) := World.rowIs.cell hrow (by decide)
              have d1 : wr.cell? ⟨hb, 1, none⟩ = some (.slice ho N hc') := World.rowIs.cell hrow (by decide)
              have d2 : wr.cell? ⟨hb, 2, none⟩ = some (.slice zo U zc) := World.rowIs.cell hrow (by decide)
              have ld := lt_cell d0
              have g0 := hkx.cell hxb5 hxbh f0
              have g1 := hkx.cell hxb5 hxbh f1
              have g2 := hkx.cell hxb5 hxbh f2
              have lg := lt_cell g0
              have hPm2 : Pm g.nodes.length s τ := by rw [HNg.out.1]; exact HPm.out.1
              have Hne : Hid ((ne0 (gp g s τ) = 0 ↔ ne0 g = 0) ∧ (Cyc (gp g s τ) ↔ Cyc g)) := ⟨ne0_perm hPm2 Hfr.out hou, cyc_iff hPm2 HPm.out.2.1 (fun i hi k hk => by have := Hfr.out i hi k hk; omega)⟩
              have Hpm : Hid (Pm g.nodes.length s τ) := hPm2
              have HA2 : Hid (gvg (gp g s τ) ho zo hc' zc = .agg #[.int .i64 ins, .slice ho N hc', .slice zo U zc]) := by
                show Value.agg #[.int .i64 g.ins, .slice ho (gp g s τ).nodes.length hc', .slice zo (gp g s τ).outs.length zc] = _
                rw [hul2, gp_len hPm2, HNg.out.1, ← HNg.out.2.2]
              obtain ⟨W6, hW6⟩ : ∃ X, X = wr.alloc (Obj.cells #[.slice io m ic, .int .i64 nn, .bool false] 45) := ⟨_, rfl⟩
              have hb6 : Below wr.heap.size wr W6 := by rw [hW6]; exact (Below.refl _ _).alloc (Nat.le_refl _) _
              have hbw6 : Below w.heap.size w W6 := hBw.trans (hb6.mono hBw.size)
              have hPc : PcL W6 W6.heap.size (some ⟨wr.heap.size, 0, none⟩) (p1 P nn) := by rw [hW6]; exact p1_L HP.out Hm.out hc hcm hBw
              have q := Sound_any cirC g go uo gc uc (p1 P nn) (some ⟨wr.heap.size, 0, none⟩) 1 1 (fun _ => iB P) W6 (HG.out.bel hbw6) hPc rfl (by omega) (by omega) (by omega) (fun _ _ _ _ => rfl) (p1_J g P nn)
              rw [HA.out] at q
              have HG2 : Hid (GH wr (fun b => b < wr.heap.size) (gp g s τ) ho zo hc' zc) := hGH2
              have HB6 : Hid (Below w.heap.size w W6 ∧ Below wr.heap.size wr W6) := ⟨hbw6, hb6⟩
              clear hL hF hrow hown hkx hBw hou hall hul2 hGH2 hPm2 hPc hbw6 hb6 HL4 hlt hj
              go_wp2_with fail
              rw [← hW6]
              clear hW6
              refine q.mono ?_
              intro e w7 hS
              have HB7 : Hid (Below wr.heap.size wr w7) := HB6.out.2.trans (hS.b.mono HB6.out.2.size)
              have k0 := Fi.keepC HB7.out ld d0
              have k1 := Fi.keepC HB7.out ld d1
              have k2 := Fi.keepC HB7.out ld d2
              have lk := lt_cell k0
              obtain ⟨W8, hW8⟩ : ∃ X, X = w7.alloc (Obj.cells #[.slice io m ic, .int .i64 nn, .bool false] 45) := ⟨_, rfl⟩
              have hb8 : Below w7.heap.size w7 W8 := by rw [hW8]; exact (Below.refl _ _).alloc (Nat.le_refl _) _
              have hbw7 : Below w.heap.size w w7 := HBw.out.trans (HB7.out.mono HBw.out.size)
              have hPc : PcL W8 W8.heap.size (some ⟨w7.heap.size, 0, none⟩) (p1 P nn) := by rw [hW8]; exact p1_L HP.out Hm.out hc hcm hbw7
              have q2 := Sound_any cirC (gp g s τ) ho zo hc' zc (p1 P nn) (some ⟨w7.heap.size, 0, none⟩) 1 1 (fun _ => iB P) W8 (HG2.out.bel (HB7.out.trans (hb8.mono HB7.out.size))) hPc rfl (by omega) (by omega) (by omega) (fun _ _ _ _ => rfl) (p1_J (gp g s τ) P nn)
              rw [HA2.out] at q2
              have HB8 : Hid (Below w.heap.size w W8 ∧ Below w7.heap.size w7 W8) := ⟨hbw7.trans (hb8.mono hbw7.size), hb8⟩
              clear d0 d1 d2 ld g0 g1 g2 lg hPc hb8 hbw7 q f0 f1 f2
              by_cases hne : ne0 g = 0
              · have hne2 := Hne.out.1.2 hne
                by_cases hcy : Cyc g
                · have hex := hS.cyc hne hcy
                  subst hex
                  clear hS
                  go_wp2_with fail
                  rw [← hW8]
                  clear hW8
                  refine q2.mono ?_
                  intro e w9 hS2
                  have hex := hS2.cyc hne2 (Hne.out.2.2 hcy)
                  subst hex
                  have HB9 : Hid (Below w.heap.size w w9) := HB8.out.1.trans (hS2.b.mono HB8.out.1.size)
                  clear hS2 q2
                  go_wp2_with fail
                  go_returns
                  exact ⟨rfl, HB9.out⟩
                · obtain ⟨va, base, rfl, ba1, ba2, hH⟩ := hS.ok hne hcy
                  rw [p1_r] at hH
                  have HH : Hid (HO w7 base (fun b => base ≤ b) va [(h1 g P nn, er g P nn)]) := hH
                  obtain ⟨qa1, capa, aoa, ca, hva, _⟩ := hH.at (j := 0) (r := (h1 g P nn, er g P nn)) rfl
                  have hva' : va = .slice (some ⟨qa1, 0, none⟩) 1 capa := hva
                  clear hS hH hva
                  subst hva'
                  go_wp2_with fail
                  rw [← hW8]
                  clear hW8
                  refine q2.mono ?_
                  intro e w9 hS2
                  have HB9 : Hid (Below w.heap.size w w9) := HB8.out.1.trans (hS2.b.mono HB8.out.1.size)
                  have hb79 : Below w7.heap.size w7 w9 := HB8.out.2.trans (hS2.b.mono HB8.out.2.size)
                  obtain ⟨vb, base2, rfl, ba3, ba4, hH2⟩ := hS2.ok hne2 (fun h => hcy (Hne.out.2.1 h))
                  rw [p1_r, (h1_perm Hpm.out hne P nn).1, (h1_perm Hpm.out hne P nn).2] at hH2
                  have hH := HH.out.keep (w' := w9) (Z' := fun b => base ≤ b) (fun j _ hl => hb79.block j hl) hb79.size (fun j h _ => h)
                  clear hS2 HH q2
                  obtain ⟨qx, capx, ao, c, hv, k1', k2', k3, k4, d1, d2, o1, k8, k9⟩ := hH.at (j := 0) (r := (h1 g P nn, er g P nn)) rfl
                  obtain ⟨qy, capy, ao', c', hv', l1, l2, l3, l4, d3, d4, o2, l8, l9⟩ := hH2.at (j := 0) (r := (h1 g P nn, er g P nn)) rfl
                  have hv1 : Value.slice (some ⟨qa1, 0, none⟩) 1 capa = .slice (some ⟨qx, 0, none⟩) 1 capx := hv
                  have hv2 : vb = .slice (some ⟨qy, 0, none⟩) 1 capy := hv'
                  cases hv1
                  subst hv2
                  have kc : 1 ≤ capa := k1'
                  have kc2 : 1 ≤ capy := l1
                  obtain ⟨U3, hU3⟩ : ∃ X, X = (h1 g P nn).length := ⟨_, rfl⟩
                  obtain ⟨E3, hE3⟩ : ∃ X, X = er g P nn := ⟨_, rfl⟩
                  have m1 : w9.cell? ⟨qa1, 0, none⟩ = some (.slice ao U3 c) := by rw [hU3]; exact d1
                  have m2 : w9.cell? ⟨qa1, 1, none⟩ = some (.int .i64 E3) := by rw [hE3]; exact d2
                  have m3 : w9.cell? ⟨qy, 0, none⟩ = some (.slice ao' U3 c') := by rw [hU3]; exact d3
                  have m4 : w9.cell? ⟨qy, 1, none⟩ = some (.int .i64 E3) := by rw [hE3]; exact d4
                  rw [← hU3] at o1 o2 k8 l8
                  have HO1 : Hid (OL w9 (Sz (fun b => base ≤ b) w9 (.slice (some ⟨qa1, 0, none⟩) 1 capa)) (.slice ao U3 c) (h1 g P nn)) := o1
                  have HO2 : Hid (OL w9 (Sz (fun b => base2 ≤ b) w9 (.slice (some ⟨qy, 0, none⟩) 1 capy)) (.slice ao' U3 c') (h1 g P nn)) := o2
                  have HU3 : Hid (U3 = (h1 g P nn).length) := hU3
                  clear hH hH2 hv hv' d1 d2 d3 d4 o1 o2 hU3 hE3 k1' l1 k4 l4 hb79 ba1 ba2 ba3 ba4 hne hne2 hcy k0 k1 k2 lk HB8 HB7 HB6
                  go_wp2_with fail
                  go_region
                  have HBd : Hid (Below w9.heap.size w9 w9.drew) := belD' (n := 1)
                  have g1 : w9.drew.cell? ⟨qa1, 0, none⟩ = some (.slice ao U3 c) := m1
                  have g3 : w9.drew.cell? ⟨qy, 0, none⟩ = some (.slice ao' U3 c') := m3
                  clear m2 m4
                  generalize w9.drew = w6 at *
                  go_wp2_with fail
                  go_loopw [223] (fun i ww => ∃ j : Nat, j ≤ U3 ∧ i = .int .i64 j ∧ Hid (Below w9.heap.size w9 ww)) (fun i _ => U3 - (intOf i).toNat)
                  case atStart => exact ⟨0, by omega, rfl, HBd⟩
                  case round =>
                    obtain ⟨j, hj, rfl, hbj⟩ := hrel
                    have e1 := Fi.keepC hbj.out k3 m1
                    have e3 := Fi.keepC hbj.out l3 m3
                    have le1 := lt_cell e1
                    have le3 := lt_cell e3
                    by_cases hlt : j < U3
                    · obtain ⟨r, hr⟩ : ∃ r, (h1 g P nn)[j]? = some r := ⟨_, List.getElem?_eq_getElem (by rw [← HU3.out]; exact hlt)⟩
                      have hrl := h1_len g P nn j r hr
                      have hO1 := HO1.out.keep (w' := wr) (S' := fun _ => True) (fun b _ hl => hbj.out.block b hl) hbj.out.size (fun _ _ _ => trivial)
                      have hO2 := HO2.out.keep (w' := wr) (S' := fun _ => True) (fun b _ hl => hbj.out.block b hl) hbj.out.size (fun _ _ _ => trivial)
                      obtain ⟨_, _, m1, m2, m3, m4⟩ := hO1.ex
                      injection m1 with i1 i2 i3
                      subst i1
                      subst i3
                      obtain ⟨b1, of1, rfl, _, n3, n4⟩ := m4 (by rw [← HU3.out]; omega)
                      obtain ⟨xa, xa1, xa2⟩ := n4 j r hr
                      obtain ⟨ga, aa, ca, rfl, y2, y3, y4, y5, y6⟩ := xa2.ex
                      obtain ⟨_, _, m1', m2', m3', m4'⟩ := hO2.ex
                      injection m1' with i1' i2' i3'
                      subst i1'
                      subst i3'
                      obtain ⟨b2, of2, rfl, _, n3', n4'⟩ := m4' (by rw [← HU3.out]; omega)
                      obtain ⟨xb', xb1, xb2⟩ := n4' j r hr
                      obtain ⟨gb, ab', cb, rfl, z2, z3, z4, z5, z6⟩ := xb2.ex
                      have hla : ga.length = nn := by rw [← Fi.abs_len, y5, hrl]
                      have hlb : gb.length = nn := by rw [← Fi.abs_len, z5, hrl]
                      rw [hla] at xa1 y2
                      rw [hlb] at xb1 z2
                      have hq : ∀ nq, Calls Try.prog 12 #[.slice aa nn ca, .slice ab' nn cb] (wr.drewN nq) fun e w' => e = .returned (.bool true) ∧ Below (wr.drewN nq).heap.size (wr.drewN nq) w' := fun nq => Fi.LikeAll_eq (wr.drewN nq) _ _ aa ab' ga gb nn ca cb (y6.keep (fun _ _ _ => rfl) (Nat.le_refl _) (fun _ h _ => h)) (z6.keep (fun _ _ _ => rfl) (Nat.le_refl _) (fun _ h _ => h)) (y5.trans z5.symm) hla (by omega) y2 y3 z2 z3
                      have hlt' : (j : Int) < (U3 : Int) := by omega
                      have w3' : IntKind.i64.wrap ((j : Int) + 1) = (j : Int) + 1 := wid (by omega) (by omega)
                      have lx1 := lt_cell xa1
                      have lx2 := lt_cell xb1
                      clear hO1 hO2 i2 i2' m4 n4 m4' n4' xa2 xb2 y6 z6 y5 z5 hla hlb hr hrl m2 m3 m2' m3' y4 z4 n3 n3'
                      go_wp2_with fail
                      refine U2.wp_region_tail_read 14 (by decide) (by kernel_rfl) (by kernel_rfl) (by kernel_rfl) (by kernel_rfl) ?_
                      dsimp only [List.take, List.drop]
                      repeat (quiet_step (fail))
                      refine wpQuiet_nil ?_
                      rintro w7' ⟨nq, rfl⟩
                      go_wp2_with fail
                      refine (hq nq).mono ?_
                      rintro e w8' ⟨rfl, hb8⟩
                      have HBl : Hid (Below w9.heap.size w9 w8') := Below.trans hbj.out (Below.mono (show Below wr.heap.size wr w8' from Below.trans belD' hb8) hbj.out.size)
                      clear hq hb8
                      go_wp2_with fail
                      exact ⟨⟨j + 1, by omega, by go_num, HBl⟩, by simp [intOf]; omega⟩
                    · obtain rfl : j = U3 := by omega
                      go_wp2_with fail
                      go_returns
                      exact ⟨rfl, HB9.out.trans (hbj.out.mono HB9.out.size)⟩
              · have hne2 : ne0 (gp g s τ) ≠ 0 := fun h => hne (Hne.out.1.1 h)
                have hex := hS.bad hne
                subst hex
                obtain ⟨r, hr⟩ : ∃ r, r = ne0 g := ⟨_, rfl⟩
                rw [← hr] at hne ⊢
                clear hS hr
                go_wp2_with fail
                rw [← hW8]
                clear hW8
                refine q2.mono ?_
                intro e w9 hS2
                have hex := hS2.bad hne2
                subst hex
                have HB9 : Hid (Below w.heap.size w w9) := HB8.out.1.trans (hS2.b.mono HB8.out.1.size)
                obtain ⟨r2, hr2⟩ : ∃ r, r = ne0 (gp g s τ) := ⟨_, rfl⟩
                rw [← hr2] at hne2 ⊢
                have hr3 : Hid ((r2 != 0) = true) := by show (r2 != 0) = true; simp [hne2]
                have hz1 : (r == 0) = false := by simp [hne]
                have hz2 : (r2 == 0) = false := by simp [hne2]
                clear hS2 q2 hr2
                go_wp2_with fail
                go_returns
                refine ⟨?_, HB9.out⟩
                show Ending.returned (.bool (r2 != 0)) = _
                rw [hr3.out]
end Go.Proofs.Ytlodijemafnkfaj.Gh

/- GraphOrder: all ways. -/
namespace Go.Proofs.Ytlodijemafnkfaj.Gh
open Go.RowKit Go.Maps Go.Sort Fl
set_option linter.unusedVariables false
set_option linter.unusedSimpArgs false

set_option maxRecDepth 8000 in
set_option maxHeartbeats 8000000 in
theorem order_out (ins : Int) (go uo io oo : Option Addr) (N gc U uc m ic M oc : Nat) (n : Int) (w : World) (h : n < 0 ∨ 5000 < n ∨ M ≠ N) :
    Calls Try.prog 7 #[.agg #[.int .i64 ins, .slice go N gc, .slice uo U uc], .slice io m ic, .int .i64 n, .slice oo M oc] w fun e w' => e = .returned (.bool true) ∧ Below w.heap.size w w' := by
  obtain ⟨W1, hW1⟩ : ∃ X, X = w.alloc (Obj.cells #[.int .i64 ins, .slice go N gc, .slice uo U uc] 38) := ⟨_, rfl⟩
  have HB1 : Hid (Below w.heap.size w W1) := by rw [hW1]; exact (Below.refl _ _).alloc (Nat.le_refl _) _
  have x1 : W1.cell? ⟨w.heap.size, 1, none⟩ = some (.slice go N gc) := by rw [hW1]; simp [go_sem]
  have qa := alive_any W1
  obtain ⟨xb, hxb⟩ : ∃ xb, xb = w.heap.size := ⟨_, rfl⟩
  rw [← hxb] at x1
  by_cases c1 : n < 0
  · clear h
    go_enter Try.func7, Try.ntmps7
    go_wp2_with fail
    rw [← hW1, ← hxb]
    clear hW1
    refine qa.mono ?_
    rintro e w2 ⟨rfl, hb2⟩
    have y1 := Fi.keepC hb2 (lt_cell x1) x1
    have ly := lt_cell y1
    have HB2 : Hid (Below w.heap.size w w2) := HB1.out.trans (hb2.mono HB1.out.size)
    clear qa hb2 HB1 x1 hxb
    go_wp2_with fail
    go_returns
    exact ⟨rfl, HB2.out⟩
  by_cases c2 : 5000 < n
  · clear h
    have c1' : ¬ (n < 0) := c1
    go_enter Try.func7, Try.ntmps7
    go_wp2_with fail
    rw [← hW1, ← hxb]
    clear hW1
    refine qa.mono ?_
    rintro e w2 ⟨rfl, hb2⟩
    have y1 := Fi.keepC hb2 (lt_cell x1) x1
    have ly := lt_cell y1
    have HB2 : Hid (Below w.heap.size w w2) := HB1.out.trans (hb2.mono HB1.out.size)
    clear qa hb2 HB1 x1 hxb
    go_wp2_with fail
    go_returns
    exact ⟨rfl, HB2.out⟩
  · have hM : M ≠ N := by omega
    have hb1 : ((M : Int) != (N : Int)) = true := by simp; omega
    have c1' : ¬ (n < 0) := c1
    have c2' : ¬ (5000 < n) := c2
    have hM' : Hid (M ≠ N) := hM
    clear h hM
    go_enter Try.func7, Try.ntmps7
    go_wp2_with fail
    rw [← hW1, ← hxb]
    clear hW1
    refine qa.mono ?_
    rintro e w2 ⟨rfl, hb2⟩
    have y1 := Fi.keepC hb2 (lt_cell x1) x1
    have ly := lt_cell y1
    have HB2 : Hid (Below w.heap.size w w2) := HB1.out.trans (hb2.mono HB1.out.size)
    clear qa hb2 HB1 x1 hxb
    go_wp2_with fail
    all_goals first
      | (exfalso; have := hM'.out; omega)
      | (go_returns; exact ⟨rfl, HB2.out⟩)
theorem order_any (g : Gr) (go uo : Option Addr) (gc uc : Nat) (P : List (List Nat)) (io : Option Addr) (m ic : Nat) (n : Int) (ord : List Int) (oo : Option Addr) (M oc : Nat) (w : World) (hG : GH w (fun b => b < w.heap.size) g go uo gc uc) (hP : Fi.PL w w.heap.size io P) (hm : P.length = m) (hc : m ≤ ic) (hcm : ic ≤ 9223372036854775807) (hO : ZL w (fun b => b < w.heap.size) oo ord) (hol : ord.length = M) (hoc : M ≤ oc) (hocm : oc ≤ 9223372036854775807) (hN : g.nodes.length ≤ 977343669134) (hUl : g.outs.length ≤ 17592186044416) :
    Calls Try.prog 7 #[gvg g go uo gc uc, .slice io m ic, .int .i64 n, .slice oo M oc] w fun e w' => e = .returned (.bool true) ∧ Below w.heap.size w w' := by
  by_cases c : n < 0 ∨ 5000 < n ∨ M ≠ g.nodes.length
  · exact order_out g.ins go uo io oo g.nodes.length gc g.outs.length uc m ic M oc n w c
  · obtain ⟨nn, rfl⟩ := Int.eq_ofNat_of_zero_le (show 0 ≤ n by omega)
    exact order_walk g go uo gc uc P io m ic nn ord oo oc M w hG hP hm hc hcm (by omega) hO hol hoc hocm (by omega) (by omega) hUl
end Go.Proofs.Ytlodijemafnkfaj.Gh
