/- The document's dither: a list of sums. -/
import Derived.Test.YtancpboepekflaaMx6
namespace Go.Proofs.Ytancpboepekflaa.Mx
open Go.RowKit Go.Maps Go.Sort
set_option linter.unusedVariables false
set_option linter.unusedSimpArgs false

theorem below4 {B : Nat} {a w : World} {b : Nat} (h : Below B a w) (hb : B ≤ b) (v0 v1 v2 v3 : Value) : Below B a ((((w.setCell ⟨b, 0, none⟩ v0).setCell ⟨b, 1, none⟩ v1).setCell ⟨b, 2, none⟩ v2).setCell ⟨b, 3, none⟩ v3) :=
  ((((h.setCell (p := ⟨b, 0, none⟩) hb _).setCell (p := ⟨b, 1, none⟩) hb _).setCell (p := ⟨b, 2, none⟩) hb _).setCell (p := ⟨b, 3, none⟩) hb _)
theorem row4 {w : World} {b : Nat} {f : Nat → Value} (h : w.rowIs b 35 4 f) (s : Dt) : ((((w.setCell ⟨b, 0, none⟩ (.int .u32 s.seed)).setCell ⟨b, 1, none⟩ (.int .i64 s.rest)).setCell ⟨b, 2, none⟩ (.int .i64 s.loud)).setCell ⟨b, 3, none⟩ (.int .i64 s.clip)).rowIs b 35 4 (dv s) :=
  World.rowIs.congr (World.rowIs.set (World.rowIs.set (World.rowIs.set (World.rowIs.set h 0 _) 1 _) 2 _) 3 _) (fun i hi => by
    match i, hi with
    | 0, _ => rfl
    | 1, _ => rfl
    | 2, _ => rfl
    | 3, _ => rfl)
theorem kn4 {w : World} {b N : Nat} (v0 v1 v2 v3 : Value) : Kn w b N ((((w.setCell ⟨b, 0, none⟩ v0).setCell ⟨b, 1, none⟩ v1).setCell ⟨b, 2, none⟩ v2).setCell ⟨b, 3, none⟩ v3) :=
  (((Kn.put (.inl rfl) (Nat.le_refl _)).trans (Kn.put (.inl rfl) (Nat.le_refl _))).trans (Kn.put (.inl rfl) (Nat.le_refl _))).trans (Kn.put (.inl rfl) (Nat.le_refl _))
set_option maxHeartbeats 8000000 in
theorem refRun_any (s : Dt) (hg : Gd s) (S : Nat → Prop) (l : List Int) (ao : Option Addr) (cp : Nat) (w : World) (hL : IL w S ao l) (hS : ∀ b, S b → b < w.heap.size) (hc : l.length ≤ cp) (hcm : cp ≤ 9223372036854775807) (hl : l.length ≤ 17592186044415) (hcl : s.clip + l.length ≤ 2305843009213693951) :
    Calls Try.prog 13 #[sv s, .slice ao l.length cp] w fun e w' => RfQ w s l e w' := by
  obtain ⟨n, hn⟩ : ∃ n, n = l.length := ⟨_, rfl⟩
  obtain ⟨sb, hsb⟩ : ∃ sb, sb = w.heap.size := ⟨_, rfl⟩
  have HX : ∃ SS : Dt, SS = s := ⟨s, rfl⟩
  obtain ⟨W1, hW1⟩ : ∃ X, X = (w.alloc (Obj.cells #[.int .u32 s.seed, .int .i64 s.rest, .int .i64 s.loud, .int .i64 s.clip] 35)).alloc (Obj.cells #[.int .u32 0, .int .i64 0, .int .i64 0, .int .i64 0] 35) := ⟨_, rfl⟩
  have hb1 : Below w.heap.size w W1 := by rw [hW1]; exact ((Below.refl _ _).alloc (Nat.le_refl _) _).alloc (by simp) _
  have z1 : W1.heap.size = sb + 2 := by rw [hW1, hsb]; simp
  have HD : Hid (W1.rowIs sb 35 4 (dv s)) := by
    unfold Hid
    rw [hW1, hsb]
    refine World.rowIs.of_block (World.rowIs_alloc w #[.int .u32 s.seed, .int .i64 s.rest, .int .i64 s.loud, .int .i64 s.clip] 35 (dv s) (fun i hi => ?_)) (Below.heap_alloc _ _ _ (by simp))
    match i, hi with
    | 0, _ => rfl
    | 1, _ => rfl
    | 2, _ => rfl
    | 3, _ => rfl
    | i + 4, hi => exact absurd hi (by show ¬ (i + 4 < 4); omega)
  have HZ : Hid (W1.rowIs (sb + 1) 35 4 (dv (new 0))) := by
    unfold Hid
    have e : sb + 1 = (w.alloc (Obj.cells #[.int .u32 s.seed, .int .i64 s.rest, .int .i64 s.loud, .int .i64 s.clip] 35)).heap.size := by rw [hsb]; simp
    rw [hW1, e]
    refine World.rowIs_alloc _ #[.int .u32 0, .int .i64 0, .int .i64 0, .int .i64 0] 35 (dv (new 0)) (fun i hi => ?_)
    match i, hi with
    | 0, _ => rfl
    | 1, _ => rfl
    | 2, _ => rfl
    | 3, _ => rfl
    | i + 4, hi => exact absurd hi (by show ¬ (i + 4 < 4); omega)
  have HL : Hid (IL W1 (fun b => b < sb) ao l) := hL.keep (fun b h1 h2 => hb1.block b h2) hb1.size (fun b h1 _ => by have := hS b h1; omega)
  have HQ0 : Hid (inR mS l = false → ∀ w', Below w.heap.size w w' → RfQ w s l (.returned (.tuple #[sv s, .slice none 0 0, .int .i64 3])) w') := fun hR w' hb => by
    have e1 : prr s l = ⟨[], 3, s.loud, s.clip⟩ := by unfold prr; rw [if_neg (by rw [hR]; decide)]
    have e2 : pst s l = s := by unfold pst; rw [if_neg (by rw [hR]; decide)]
    exact ⟨⟨.slice none 0 0, w.heap.size, by rw [e1, e2], Nat.le_refl _, by rw [e1]; exact World.ownsRow_nil _ _ _ _⟩, hb⟩
  have HQ1 : Hid (inR mS l = true → ∀ w' v base, Below w.heap.size w w' → w.heap.size ≤ base → w'.ownsRow base 3 1 v n (ints (outs s l)) → RfQ w s l (.returned (.tuple #[sv (sts s l), v, .int .i64 0])) w') := fun hR w' v base hb hbs ho => by
    have e1 : prr s l = ⟨outs s l, 0, (sts s l).loud, (sts s l).clip⟩ := by unfold prr; rw [if_pos hR]
    have e2 : pst s l = sts s l := by unfold pst; rw [if_pos hR]
    refine ⟨⟨v, base, by rw [e1, e2], hbs, ?_⟩, hb⟩
    rw [e1]
    show w'.ownsRow base 3 1 v (outs s l).length (ints (outs s l))
    rw [outs_len, ← hn]
    exact ho
  have Hb1 : Hid (Below w.heap.size w W1) := hb1
  have HGd : Hid (Gd s) := hg
  have Hn : Hid (n = l.length) := hn
  have Hsb : Hid (sb = w.heap.size) := hsb
  have HCl : Hid (s.clip + n ≤ 2305843009213693951) := by unfold Hid; omega
  have hsv : sv s = .agg #[.int .u32 s.seed, .int .i64 s.rest, .int .i64 s.loud, .int .i64 s.clip] := rfl
  rw [← hn] at hc hl ⊢
  rw [hsv]
  clear hn hL hS hg hcl hb1 HX hsv
  have hr0 : W1.cell? ⟨sb, 0, none⟩ = some (.int .u32 s.seed) := World.rowIs.cell HD.out (by decide)
  have hr1 : W1.cell? ⟨sb, 1, none⟩ = some (.int .i64 s.rest) := World.rowIs.cell HD.out (by decide)
  have hr2 : W1.cell? ⟨sb, 2, none⟩ = some (.int .i64 s.loud) := World.rowIs.cell HD.out (by decide)
  have hr3 : W1.cell? ⟨sb, 3, none⟩ = some (.int .i64 s.clip) := World.rowIs.cell HD.out (by decide)
  have hz0 : W1.cell? ⟨sb + 1, 0, none⟩ = some (.int .u32 0) := World.rowIs.cell HZ.out (by decide)
  have hz1 : W1.cell? ⟨sb + 1, 1, none⟩ = some (.int .i64 0) := World.rowIs.cell HZ.out (by decide)
  have hz2 : W1.cell? ⟨sb + 1, 2, none⟩ = some (.int .i64 0) := World.rowIs.cell HZ.out (by decide)
  have hz3 : W1.cell? ⟨sb + 1, 3, none⟩ = some (.int .i64 0) := World.rowIs.cell HZ.out (by decide)
  have hf0 := World.rowIs.frozen HZ.out 0
  have hf1 := World.rowIs.frozen HZ.out 1
  have hf2 := World.rowIs.frozen HZ.out 2
  have hf3 := World.rowIs.frozen HZ.out 3
  go_enter Try.func13, Try.ntmps13
  go_wp2_with fail
  rw [← hW1, ← hsb]
  clear hW1 hsb
  go_loopw [15] (fun i ww => ∃ k : Nat, k ≤ n ∧ i = .int .i64 k ∧ ww = W1 ∧ Hid (inR mS (l.take k) = true)) (fun i _ => n - (intOf i).toNat)
  case atStart => exact ⟨0, by omega, rfl, rfl, rfl⟩
  case round =>
    obtain ⟨k, hk, rfl, rfl, hP⟩ := hrel
    by_cases hlt : k < n
    · obtain ⟨x, hx⟩ : ∃ x, l[k]? = some x := ⟨_, List.getElem?_eq_getElem (by rw [← Hn.out]; exact hlt)⟩
      obtain ⟨b, off, rfl, hb, hbs, q⟩ := HL.out.at' (by rw [← Hn.out]; omega)
      have cf := q k x hx
      have hlt' : (k : Int) < (n : Int) := by omega
      have w3 : IntKind.i64.wrap ((k : Int) + 1) = (k : Int) + 1 := wid (by omega) (by omega)
      have hq := small_any x mS (by decide) (by decide) wr
      cases hB : inB mS x
      · rw [hB] at hq
        have HN : Hid (inR mS l = false) := inR_take_no hx hB
        clear q hx hB
        go_wp2_with fail
        refine hq.mono ?_
        rintro e w2 ⟨rfl, hw⟩
        rw [hw]
        clear hw hq
        have hRE : ((((wr.setCell ⟨sb + 1, 0, none⟩ (.int .u32 s.seed)).setCell ⟨sb + 1, 1, none⟩ (.int .i64 s.rest)).setCell ⟨sb + 1, 2, none⟩ (.int .i64 s.loud)).setCell ⟨sb + 1, 3, none⟩ (.int .i64 s.clip)).rowIs (sb + 1) 35 4 (dv s) := row4 HZ.out s
        have HRE : Hid (((((wr.setCell ⟨sb + 1, 0, none⟩ (.int .u32 s.seed)).setCell ⟨sb + 1, 1, none⟩ (.int .i64 s.rest)).setCell ⟨sb + 1, 2, none⟩ (.int .i64 s.loud)).setCell ⟨sb + 1, 3, none⟩ (.int .i64 s.clip)).rowIs (sb + 1) 35 4 (dv s)) := hRE
        have HBE : Hid (Below w.heap.size w ((((wr.setCell ⟨sb + 1, 0, none⟩ (.int .u32 s.seed)).setCell ⟨sb + 1, 1, none⟩ (.int .i64 s.rest)).setCell ⟨sb + 1, 2, none⟩ (.int .i64 s.loud)).setCell ⟨sb + 1, 3, none⟩ (.int .i64 s.clip))) := below4 Hb1.out (by rw [Hsb.out]; omega) _ _ _ _
        clear hRE
        go_wp2_with fail
        generalize ((((wr.setCell ⟨sb + 1, 0, none⟩ (.int .u32 s.seed)).setCell ⟨sb + 1, 1, none⟩ (.int .i64 s.rest)).setCell ⟨sb + 1, 2, none⟩ (.int .i64 s.loud)).setCell ⟨sb + 1, 3, none⟩ (.int .i64 s.clip)) = WE at *
        have gc0 : WE.cell? ⟨sb + 1, 0, none⟩ = some (.int .u32 s.seed) := World.rowIs.cell HRE.out (by decide)
        have gc1 : WE.cell? ⟨sb + 1, 1, none⟩ = some (.int .i64 s.rest) := World.rowIs.cell HRE.out (by decide)
        have gc2 : WE.cell? ⟨sb + 1, 2, none⟩ = some (.int .i64 s.loud) := World.rowIs.cell HRE.out (by decide)
        have gc3 : WE.cell? ⟨sb + 1, 3, none⟩ = some (.int .i64 s.clip) := World.rowIs.cell HRE.out (by decide)
        refine bodyPost_ret (v := .tuple #[sv s, .slice none 0 0, .int .i64 3]) (by simp [results, Try.results13, go_sem, gc0, gc1, gc2, gc3, sv]) rfl ?_
        exact HQ0.out HN.out _ HBE.out
      · rw [hB] at hq
        have HP : Hid (inR mS (l.take (k + 1)) = true) := inR_step hx hP.out hB
        clear q hx hB
        go_wp2_with fail
        refine hq.mono ?_
        rintro e w2 ⟨rfl, hw⟩
        rw [hw]
        clear hw hq
        go_wp2_with fail
        go_roundw
        case rel => exact ⟨k + 1, by omega, by go_num, trivial, HP⟩
        case measure => simp [intOf]; omega
    · obtain rfl : k = n := by omega
      have HR : Hid (inR mS l = true) := by have := hP.out; rwa [Hn.out, List.take_length] at this
      obtain ⟨W2, hW2⟩ : ∃ x, x = wr := ⟨wr, rfl⟩
      subst hW2
      clear hP
      clear hr0 hr1 hr2 hr3
      go_wp2_with fail
      go_loopw [26, 9] (fun i v ww => ∃ q : Nat, q ≤ k ∧ i = .int .i64 q ∧ Hid (ww.rowIs sb 35 4 (dv (sts s (l.take q)))) ∧ Hid (ww.ownsRow W2.heap.size 3 1 v q (ints (outs s (l.take q)))) ∧ Hid (Kn W2 sb W2.heap.size ww)) (fun i _ _ => k - (intOf i).toNat)
      case atStart => exact ⟨0, by omega, rfl, HD, World.ownsRow_nil _ _ _ _, Kn.refl _ _ _⟩
      case round =>
        obtain ⟨q, hq, rfl, hR, hO, hK⟩ := hrel
        obtain ⟨oa, oc, rfl, hoc, hoc2⟩ := own_form hO.out
        have hzr := hK.out.z
        by_cases hlt2 : q < k
        · obtain ⟨x, hx⟩ : ∃ x, l[q]? = some x := ⟨_, List.getElem?_eq_getElem (by rw [← Hn.out]; exact hlt2)⟩
          obtain ⟨b, off, rfl, hb, hbs, q0⟩ := HL.out.at' (by rw [← Hn.out]; omega)
          have c0 := q0 q x hx
          have cf : wr.cell? ⟨b, off + q, none⟩ = some (.int .i64 x) := (World.cell?_of_block (w := W2) (w' := wr) (a := ⟨b, off + q, none⟩) (hK.out.k b hb (by omega))).trans c0
          have lb : b < wr.heap.size := by omega
          have hlt' : (q : Int) < (k : Int) := by omega
          have w3 : IntKind.i64.wrap ((q : Int) + 1) = (q : Int) + 1 := wid (by omega) (by omega)
          have hxb := inR_mem HR.out (List.mem_of_getElem? hx)
          have hgd : Gd (sts s (l.take q)) := sts_gd HGd.out _
          have hck : (sts s (l.take q)).clip < 2305843009213693952 := by
            have h1 := (sts_clip s (l.take q)).2
            have h2 := HCl.out
            rw [List.length_take, ← Hn.out] at h1
            omega
          have HT : Hid (sts s (l.take (q + 1)) = nxt (sts s (l.take q)) x) := sts_step s hx
          have HOt : Hid (outs s (l.take (q + 1)) = outs s (l.take q) ++ [cut (raw (sts s (l.take q)) x)]) := outs_step s hx
          have e0 : wr.cell? ⟨sb, 0, none⟩ = some (.int .u32 (sts s (l.take q)).seed) := World.rowIs.cell hR.out (by decide)
          have e1 : wr.cell? ⟨sb, 1, none⟩ = some (.int .i64 (sts s (l.take q)).rest) := World.rowIs.cell hR.out (by decide)
          have e2 : wr.cell? ⟨sb, 2, none⟩ = some (.int .i64 (sts s (l.take q)).loud) := World.rowIs.cell hR.out (by decide)
          have e3 : wr.cell? ⟨sb, 3, none⟩ = some (.int .i64 (sts s (l.take q)).clip) := World.rowIs.cell hR.out (by decide)
          have hq1 := One_any (sts s (l.take q)) hgd x hxb.1 hxb.2 hck wr
          unfold sv at hq1
          generalize sts s (l.take q) = SS at *
          generalize outs s (l.take q) = OO at *
          generalize nxt SS x = NN at *
          generalize cut (raw SS x) = CC at *
          have lsb : sb < wr.heap.size := by omega
          clear q0 hx hxb hgd hck c0
          go_wp2_with fail
          refine hq1.mono ?_
          rintro e w4 ⟨rfl, hb4⟩
          have hR4 : w4.rowIs sb 35 4 (dv SS) := World.rowIs.of_block hR.out (hb4.block sb lsb)
          have HR4 : Hid (w4.rowIs sb 35 4 (dv SS)) := hR4
          have e0 : w4.cell? ⟨sb, 0, none⟩ = some (.int .u32 SS.seed) := World.rowIs.cell hR4 (by decide)
          have e1 : w4.cell? ⟨sb, 1, none⟩ = some (.int .i64 SS.rest) := World.rowIs.cell hR4 (by decide)
          have e2 : w4.cell? ⟨sb, 2, none⟩ = some (.int .i64 SS.loud) := World.rowIs.cell hR4 (by decide)
          have e3 : w4.cell? ⟨sb, 3, none⟩ = some (.int .i64 SS.clip) := World.rowIs.cell hR4 (by decide)
          have f0 := World.rowIs.frozen hR4 0
          have f1 := World.rowIs.frozen hR4 1
          have f2 := World.rowIs.frozen hR4 2
          have f3 := World.rowIs.frozen hR4 3
          have z4 := hb4.size
          have lsb4 : sb < w4.heap.size := by omega
          have HO4 : Hid (w4.ownsRow W2.heap.size 3 1 (.slice oa q oc) q (ints OO)) := own_step hO.out (fun j hj => hb4.block j (own_lt hO.out j hj))
          have HK4 : Hid (Kn W2 sb W2.heap.size w4) := hK.out.trans (Kn.bel hb4 (by omega) lsb)
          have hlo := own_lt HO4.out
          have hbo := own_block HO4.out
          have hzS : ((((w4.setCell ⟨sb, 0, none⟩ (.int .u32 NN.seed)).setCell ⟨sb, 1, none⟩ (.int .i64 NN.rest)).setCell ⟨sb, 2, none⟩ (.int .i64 NN.loud)).setCell ⟨sb, 3, none⟩ (.int .i64 NN.clip)).heap.size = w4.heap.size := by simp [World.setCell]
          have HRS : Hid (((((w4.setCell ⟨sb, 0, none⟩ (.int .u32 NN.seed)).setCell ⟨sb, 1, none⟩ (.int .i64 NN.rest)).setCell ⟨sb, 2, none⟩ (.int .i64 NN.loud)).setCell ⟨sb, 3, none⟩ (.int .i64 NN.clip)).rowIs sb 35 4 (dv NN)) := row4 HR4.out NN
          have HKS : Hid (Kn W2 sb W2.heap.size ((((w4.setCell ⟨sb, 0, none⟩ (.int .u32 NN.seed)).setCell ⟨sb, 1, none⟩ (.int .i64 NN.rest)).setCell ⟨sb, 2, none⟩ (.int .i64 NN.loud)).setCell ⟨sb, 3, none⟩ (.int .i64 NN.clip))) := HK4.out.trans (kn4 _ _ _ _)
          have hOS : ((((w4.setCell ⟨sb, 0, none⟩ (.int .u32 NN.seed)).setCell ⟨sb, 1, none⟩ (.int .i64 NN.rest)).setCell ⟨sb, 2, none⟩ (.int .i64 NN.loud)).setCell ⟨sb, 3, none⟩ (.int .i64 NN.clip)).ownsRow W2.heap.size 3 1 (.slice oa q oc) q (ints OO) := own_step HO4.out (fun j hj => by
            have := hbo j hj
            have hne : j ≠ sb := by omega
            rw [Below.heap_setCell _ _ _ _ hne, Below.heap_setCell _ _ _ _ hne, Below.heap_setCell _ _ _ _ hne, Below.heap_setCell _ _ _ _ hne])
          obtain ⟨WS, hWS⟩ : ∃ X, X = ((((w4.setCell ⟨sb, 0, none⟩ (.int .u32 NN.seed)).setCell ⟨sb, 1, none⟩ (.int .i64 NN.rest)).setCell ⟨sb, 2, none⟩ (.int .i64 NN.loud)).setCell ⟨sb, 3, none⟩ (.int .i64 NN.clip)) := ⟨_, rfl⟩
          rw [← hWS] at hzS HRS HKS hOS
          have hbA : Below WS.heap.size WS (WS.alloc (Obj.cells #[.int .i64 CC] 3)) := (Below.refl _ _).alloc (Nat.le_refl _) _
          have hOA : (WS.alloc (Obj.cells #[.int .i64 CC] 3)).ownsRow W2.heap.size 3 1 (.slice oa q oc) q (ints OO) := own_step hOS (fun j hj => hbA.block j (own_lt hOS j hj))
          have hcA : (WS.alloc (Obj.cells #[.int .i64 CC] 3)).cell? ⟨w4.heap.size, 0, none⟩ = some (.int .i64 CC) := by rw [← hzS]; exact (World.cell?_alloc_at _ _ _ _ rfl).trans rfl
          have hbz : W2.heap.size ≤ (WS.alloc (Obj.cells #[.int .i64 CC] 3)).heap.size := by have := hbA.size; omega
          have HbA : Hid (Below WS.heap.size WS (WS.alloc (Obj.cells #[.int .i64 CC] 3))) := hbA
          rw [hWS] at hOA hcA hbz
          have hq63 : q < 17592186044416 := by omega
          have hq47 : (q + 1) * 8 ≤ 140737488355328 := by omega
          clear hq1 hR hO hK hb4 hR4 cf hlo hbo hbA
          go_wp2_with (at_builtin; refine wpList_append_1 23 3 (.int .i64 0) 8 Try.underlying23 infoI rfl rfl (.tmp 36) (.tmp 38) rfl W2.heap.size _ q (ints OO) rfl hOA w4.heap.size (.int .i64 CC) rfl hcA rfl hq63 hq47 hbz ?a1)
          case a1 =>
            intro v' w6 o6 g6
            rw [← hWS] at g6
            have hb6 : Below W2.heap.size WS w6 := Below.trans (HbA.out.mono (by have := HKS.out.z; omega)) (g6.bel (by have := HbA.out.size; have := HKS.out.z; omega) (fun j hj => own_block hOS j hj))
            have HR6 : Hid (w6.rowIs sb 35 4 (dv NN)) := World.rowIs.of_block HRS.out (hb6.block sb (by omega))
            have HK6 : Hid (Kn W2 sb W2.heap.size w6) := HKS.out.trans ⟨fun j hj hne => hb6.block j hj, hb6.size, hb6.mono (by omega)⟩
            have HO6 : Hid (w6.ownsRow W2.heap.size 3 1 v' (q + 1) (ints (OO ++ [CC]))) := by
              have e : ints (OO ++ [CC]) = ints OO ++ [Value.int .i64 CC] := by unfold ints; rw [List.map_append]; rfl
              unfold Hid
              rw [e, z1]
              exact o6
            clear o6 g6 hb6 hWS HbA hOS hzS
            go_wp2_with fail
            exact ⟨⟨q + 1, by omega, by go_num, by rw [HT.out]; exact HR6, by rw [HOt.out]; exact HO6, HK6⟩, by simp [intOf]; omega⟩
        · obtain rfl : q = k := by omega
          have ht : l.take q = l := List.take_of_length_le (by rw [← Hn.out]; exact Nat.le_refl _)
          rw [ht] at hR hO
          have e0 : wr.cell? ⟨sb, 0, none⟩ = some (.int .u32 (sts s l).seed) := World.rowIs.cell hR.out (by decide)
          have e1 : wr.cell? ⟨sb, 1, none⟩ = some (.int .i64 (sts s l).rest) := World.rowIs.cell hR.out (by decide)
          have e2 : wr.cell? ⟨sb, 2, none⟩ = some (.int .i64 (sts s l).loud) := World.rowIs.cell hR.out (by decide)
          have e3 : wr.cell? ⟨sb, 3, none⟩ = some (.int .i64 (sts s l).clip) := World.rowIs.cell hR.out (by decide)
          have hR1 : wr.rowIs (sb + 1) 35 4 (dv (new 0)) := World.rowIs.of_block HZ.out (hK.out.k (sb + 1) (by omega) (by omega))
          have g0 : wr.cell? ⟨sb + 1, 0, none⟩ = some (.int .u32 0) := World.rowIs.cell hR1 (by decide)
          have g1 : wr.cell? ⟨sb + 1, 1, none⟩ = some (.int .i64 0) := World.rowIs.cell hR1 (by decide)
          have g2 : wr.cell? ⟨sb + 1, 2, none⟩ = some (.int .i64 0) := World.rowIs.cell hR1 (by decide)
          have g3 : wr.cell? ⟨sb + 1, 3, none⟩ = some (.int .i64 0) := World.rowIs.cell hR1 (by decide)
          have f0 := World.rowIs.frozen hR1 0
          have f1 := World.rowIs.frozen hR1 1
          have f2 := World.rowIs.frozen hR1 2
          have f3 := World.rowIs.frozen hR1 3
          have HOo : Hid (wr.ownsRow W2.heap.size 3 1 (.slice oa q oc) q (ints (outs s l))) := hO
          have HBw : Hid (Below w.heap.size w wr) := Hb1.out.trans (hK.out.b.mono (by rw [Hsb.out]; exact Nat.le_refl _))
          have HQ1' : Hid (∀ w', Below w.heap.size w w' → w'.ownsRow W2.heap.size 3 1 (.slice oa q oc) q (ints (outs s l)) → RfQ w s l (.returned (.tuple #[.agg #[.int .u32 (sts s l).seed, .int .i64 (sts s l).rest, .int .i64 (sts s l).loud, .int .i64 (sts s l).clip], .slice oa q oc, .int .i64 0])) w') := fun w' h1 h2 => HQ1.out HR.out w' _ W2.heap.size h1 (by have := Hb1.out.size; omega) h2
          have lsb1 : sb + 1 < wr.heap.size := by omega
          generalize sts s l = SS at *
          have HR1 : Hid (wr.rowIs (sb + 1) 35 4 (dv (new 0))) := hR1
          clear hR hO hK hR1 HQ1 HQ0
          have HRE : Hid (((((wr.setCell ⟨sb + 1, 0, none⟩ (.int .u32 SS.seed)).setCell ⟨sb + 1, 1, none⟩ (.int .i64 SS.rest)).setCell ⟨sb + 1, 2, none⟩ (.int .i64 SS.loud)).setCell ⟨sb + 1, 3, none⟩ (.int .i64 SS.clip)).rowIs (sb + 1) 35 4 (dv SS)) := row4 HR1.out SS
          have HBE : Hid (Below w.heap.size w ((((wr.setCell ⟨sb + 1, 0, none⟩ (.int .u32 SS.seed)).setCell ⟨sb + 1, 1, none⟩ (.int .i64 SS.rest)).setCell ⟨sb + 1, 2, none⟩ (.int .i64 SS.loud)).setCell ⟨sb + 1, 3, none⟩ (.int .i64 SS.clip))) := below4 HBw.out (by rw [Hsb.out]; omega) _ _ _ _
          have HOE : Hid (((((wr.setCell ⟨sb + 1, 0, none⟩ (.int .u32 SS.seed)).setCell ⟨sb + 1, 1, none⟩ (.int .i64 SS.rest)).setCell ⟨sb + 1, 2, none⟩ (.int .i64 SS.loud)).setCell ⟨sb + 1, 3, none⟩ (.int .i64 SS.clip)).ownsRow W2.heap.size 3 1 (.slice oa q oc) q (ints (outs s l))) := own_step HOo.out (fun j hj => by
            have := own_block HOo.out j hj
            have hne : j ≠ sb + 1 := by omega
            rw [Below.heap_setCell _ _ _ _ hne, Below.heap_setCell _ _ _ _ hne, Below.heap_setCell _ _ _ _ hne, Below.heap_setCell _ _ _ _ hne])
          go_wp2_with fail
          generalize ((((wr.setCell ⟨sb + 1, 0, none⟩ (.int .u32 SS.seed)).setCell ⟨sb + 1, 1, none⟩ (.int .i64 SS.rest)).setCell ⟨sb + 1, 2, none⟩ (.int .i64 SS.loud)).setCell ⟨sb + 1, 3, none⟩ (.int .i64 SS.clip)) = WE at *
          have gc0 : WE.cell? ⟨sb + 1, 0, none⟩ = some (.int .u32 SS.seed) := World.rowIs.cell HRE.out (by decide)
          have gc1 : WE.cell? ⟨sb + 1, 1, none⟩ = some (.int .i64 SS.rest) := World.rowIs.cell HRE.out (by decide)
          have gc2 : WE.cell? ⟨sb + 1, 2, none⟩ = some (.int .i64 SS.loud) := World.rowIs.cell HRE.out (by decide)
          have gc3 : WE.cell? ⟨sb + 1, 3, none⟩ = some (.int .i64 SS.clip) := World.rowIs.cell HRE.out (by decide)
          refine bodyPost_ret (v := .tuple #[.agg #[.int .u32 SS.seed, .int .i64 SS.rest, .int .i64 SS.loud, .int .i64 SS.clip], .slice oa q oc, .int .i64 0]) (by simp [results, Try.results13, go_sem, gc0, gc1, gc2, gc3]) rfl ?_
          exact HQ1'.out _ HBE.out HOE.out
end Go.Proofs.Ytancpboepekflaa.Mx
