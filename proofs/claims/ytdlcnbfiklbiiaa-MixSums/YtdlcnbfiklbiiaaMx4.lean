/- What plain.Dither comes to. -/
import Derived.Test.YtdlcnbfiklbiiaaMx3
import Derived.Test.YtdlcnbfiklbiiaaMxRow3
import Derived.Test.YtdlcnbfiklbiiaaRFloatC
namespace Go.Proofs.Ytdlcnbfiklbiiaa.Mx
open Go.RowKit Go.Maps Go.Sort
set_option linter.unusedVariables false
set_option linter.unusedSimpArgs false

theorem lt_cell {w : World} {b o : Nat} {v : Value} (h : w.cell? ⟨b, o, none⟩ = some v) : b < w.heap.size := block_lt_of_cell h
theorem belD {w : World} {n B : Nat} : Below B w (w.drewN n) := ⟨rfl, rfl, rfl, Nat.le_refl _, fun _ _ => rfl⟩
/-- What came of all pieces. -/
structure DtQ (w : World) (z : Nat) (ps : List (List Int)) (e : Ending) (w' : World) : Prop where
  ex : ∃ v base, e = .returned v ∧ w.heap.size ≤ base ∧ DR w' base v (dth (new z) ps)
  b : Below w.heap.size w w'
set_option maxRecDepth 20000 in
set_option maxHeartbeats 8000000 in
theorem Dither_any (z : Nat) (hz : z < 4294967296) (ps : List (List Int)) (ao : Option Addr) (cp : Nat) (w : World) (hP : PL w w.heap.size ao ps) (hc : ps.length ≤ cp) (hcm : cp ≤ 9223372036854775807) (hl : ps.length ≤ 1048577) (hlen : tlen ps ≤ 17592186044416) :
    Calls Try.prog 14 #[.int .u32 z, .slice ao ps.length cp] w fun e w' => DtQ w z ps e w' := by
  have HN := New_any z w
  have HP : Hid (PL w w.heap.size ao ps) := hP
  have HLen : Hid (tlen ps ≤ 17592186044416) := hlen
  have HG : Hid (Gd (new z)) := new_gd hz
  clear hP hlen hz
  go_enter Try.func14, Try.ntmps14
  go_wp2_with fail
  refine HN.mono ?_
  rintro e w1 ⟨rfl, hV0, hb1⟩
  have z1 : w.heap.size < w1.heap.size := hV0.out.lt
  clear HN
  obtain ⟨b, hb⟩ : ∃ b, b = w.heap.size := ⟨_, rfl⟩
  rw [← hb] at hV0 ⊢
  have Hb : Hid (b = w.heap.size) := hb
  have zb : b < w1.heap.size := by omega
  clear hb
  go_wp2_with fail
  go_loopw [17, 6] (fun i v ww => ∃ k : Nat, k ≤ ps.length ∧ i = .int .i64 k ∧ Hid (DR ww w1.heap.size v (dth (new z) (ps.take k))) ∧ Hid (DL ww b (stn (new z) (ps.take k))) ∧ Below w.heap.size w ww ∧ w1.heap.size ≤ ww.heap.size) (fun i _ _ => ps.length - (intOf i).toNat)
  case atStart => exact ⟨0, by omega, rfl, DR.nil _ _, hV0, hb1, Nat.le_refl _⟩
  case round =>
    obtain ⟨k, hk, rfl, hS, hV, hbr, hzr⟩ := hrel
    clear hV0
    by_cases hlt : k < ps.length
    · obtain ⟨p, hx⟩ : ∃ p, ps[k]? = some p := ⟨_, List.getElem?_eq_getElem hlt⟩
      obtain ⟨nb, of, rfl, hnb, hnb2, q0⟩ := (HP.out.keep (fun j hj _ => hbr.block j hj) hbr.size (fun b hb _ => hb)).at' (by omega)
      obtain ⟨xa, xc, r0, r1, r2, r3, r4⟩ := q0 k p hx
      have HIL : Hid (IL wr (fun k => k < w.heap.size) xa p) := r4
      have hlt' : (k : Int) < (ps.length : Int) := by omega
      have w3 : IntKind.i64.wrap ((k : Int) + 1) = (k : Int) + 1 := wid (by omega) (by omega)
      have HT1 : Hid (dth (new z) (ps.take (k + 1)) = dth (new z) (ps.take k) ++ [prr (stn (new z) (ps.take k)) p]) := dth_step _ hx
      have HT2 : Hid (stn (new z) (ps.take (k + 1)) = pst (stn (new z) (ps.take k)) p) := stn_step _ hx
      have hrl : (dth (new z) (ps.take k)).length = k := by rw [dth_len, List.length_take]; omega
      have hgd : Gd (stn (new z) (ps.take k)) := stn_gd HG.out _
      have hpl : p.length ≤ 17592186044416 ∧ (stn (new z) (ps.take k)).clip + p.length ≤ 2305843009213693952 := by
        have h1 := (stn_clip (new z) (ps.take k)).2
        have h2 := tlen_take ps (k + 1)
        rw [take_one hx, tlen_app] at h2
        have h3 : tlen [p] = p.length := by simp [tlen]
        have h4 := HLen.out
        have h5 : (new z).clip = 0 := rfl
        omega
      have HLw0 : Hid (∀ q, u6.ownBlock = some q → q < wr.heap.size) := fun q hq => by
        obtain ⟨Vs, o1, _⟩ := hS.out.ex
        exact own_lt o1 q hq
      generalize stn (new z) (ps.take k) = SS at *
      generalize dth (new z) (ps.take k) = R at *
      have hq := Run_any SS hgd b (fun k => k < w.heap.size) p xa xc wr hV.out HIL.out (fun k hk => by rw [Hb.out]; omega) r1 r2 hpl.1 hpl.2
      have hvl : b < wr.heap.size := hV.out.lt
      clear q0 hx r4 r3 hV hgd hpl
      go_wp2_with fail
      refine hq.mono ?_
      rintro e w2 ⟨⟨ya, yc, rfl, y1, y2, y3, y4⟩, hD2, hK2⟩
      have HS2 : Hid (DR w2 w1.heap.size u6 R) := hS.out.step (fun j h1 h2 => hK2.k j h2 (by omega)) hK2.z
      have HV2 : Hid (DL w2 b (pst SS p)) := hD2
      have hb02 : Below w.heap.size w w2 := hbr.trans (hK2.b.mono (by rw [Hb.out]; exact Nat.le_refl _))
      have z2 : wr.heap.size ≤ w2.heap.size := hK2.z
      have l2 : w2.cell? ⟨b, 2, none⟩ = some (.int .i64 (pst SS p).loud) := hD2.c2
      have l3 : w2.cell? ⟨b, 3, none⟩ = some (.int .i64 (pst SS p).clip) := hD2.c3
      have hpr : (prr SS p).loud = (pst SS p).loud ∧ (prr SS p).clip = (pst SS p).clip := by
        unfold prr pst; split <;> exact ⟨rfl, rfl⟩
      rw [← hpr.1] at l2
      rw [← hpr.2] at l3
      obtain ⟨Vs, o1, o2, o3⟩ := HS2.out.ex
      obtain ⟨ea, ec, rfl, f1, f2⟩ := own_form o1
      have HLw : Hid (∀ q, (Value.slice ea R.length ec).ownBlock = some q → q < wr.heap.size) := HLw0.out
      rw [hrl] at o1 f1
      have HO1 : Hid (w2.ownsRow w1.heap.size 39 4 (.slice ea k ec) k Vs) := o1
      have HO3 : Hid (Vs.length = R.length * 4 ∧ ∀ (j : Nat) r, R[j]? = some r → DrC w2 (Sc w1.heap.size w2 (.slice ea R.length ec)) Vs j r) := ⟨o2, o3⟩
      have HLv : Hid (∀ j, (Value.slice ea k ec).ownBlock = some j → j < w2.heap.size) := own_lt o1
      have HNw : Hid (∀ q, wr.heap.size ≤ q → (Value.slice ea k ec).ownBlock = some q → False) := fun q hq e => by have := HLw.out q (by rw [hrl]; exact e); omega
      have HIY : Hid (IL w2 (fun k => wr.heap.size ≤ k) ya (prr SS p).l) := y4
      have HRl : Hid (R.length = k) := hrl
      generalize prr SS p = PP at *
      obtain ⟨ln, hln⟩ : ∃ ln, ln = PP.l.length := ⟨_, rfl⟩
      rw [← hln] at y1 ⊢
      have HLn : Hid (ln = PP.l.length) := hln
      rw [hrl]
      clear o1 o2 o3 hrl HS2 hS hq hK2 hD2 y4 hpr hln HIL
      go_wp2_with fail
      refine RF.wp_region_floatC (fun w' : World => w'.cell? ⟨b, 2, none⟩ = some (.int .i64 PP.loud) ∧ w'.cell? ⟨b, 3, none⟩ = some (.int .i64 PP.clip)) (fun k => k != 12 && k != 13) (by kernel_rfl) (by kernel_rfl) (by kernel_rfl) ⟨l2, l3⟩ ?_
      refine RF.wpFl_readC rfl rfl (.slice ea k ec) (fun w' hw' => by have cc := hw'.1; have cd := hw'.2; have cl := lt_cell cc; unfold RM.valAt; go_simp) ?_
      refine RF.wpFl_readC rfl rfl (.slice ya ln yc) (fun w' hw' => by have cc := hw'.1; have cd := hw'.2; have cl := lt_cell cc; unfold RM.valAt; go_simp) ?_
      refine RF.wpFl_readC rfl rfl (.int .i64 PP.e) (fun w' hw' => by have cc := hw'.1; have cd := hw'.2; have cl := lt_cell cc; unfold RM.valAt; go_simp) ?_
      refine RF.wpFl_readC rfl rfl (.pointer (some ⟨b, 0, none⟩)) (fun w' hw' => by have cc := hw'.1; have cd := hw'.2; have cl := lt_cell cc; unfold RM.valAt; go_simp) ?_
      refine RF.wpFl_readC rfl rfl (.pointer (some ⟨b, 0, none⟩)) (fun w' hw' => by have cc := hw'.1; have cd := hw'.2; have cl := lt_cell cc; unfold RM.valAt; go_simp) ?_
      refine RF.wpFl_readC rfl rfl (.pointer (some ⟨b, 2, none⟩)) (fun w' hw' => by have cc := hw'.1; have cd := hw'.2; have cl := lt_cell cc; unfold RM.valAt; go_simp) ?_
      refine RF.wpFl_readC rfl rfl (.int .i64 PP.loud) (fun w' hw' => by have cc := hw'.1; have cd := hw'.2; have cl := lt_cell cc; unfold RM.valAt; go_simp) ?_
      refine RF.wpFl_readC rfl rfl (.pointer (some ⟨b, 0, none⟩)) (fun w' hw' => by have cc := hw'.1; have cd := hw'.2; have cl := lt_cell cc; unfold RM.valAt; go_simp) ?_
      refine RF.wpFl_readC rfl rfl (.pointer (some ⟨b, 0, none⟩)) (fun w' hw' => by have cc := hw'.1; have cd := hw'.2; have cl := lt_cell cc; unfold RM.valAt; go_simp) ?_
      refine RF.wpFl_readC rfl rfl (.pointer (some ⟨b, 3, none⟩)) (fun w' hw' => by have cc := hw'.1; have cd := hw'.2; have cl := lt_cell cc; unfold RM.valAt; go_simp) ?_
      refine RF.wpFl_readC rfl rfl (.int .i64 PP.clip) (fun w' hw' => by have cc := hw'.1; have cd := hw'.2; have cl := lt_cell cc; unfold RM.valAt; go_simp) ?_
      refine RF.wpFl_readC rfl rfl (.agg #[.slice ya ln yc, .int .i64 PP.e, .int .i64 PP.loud, .int .i64 PP.clip]) (fun w' hw' => by have cc := hw'.1; have cd := hw'.2; have cl := lt_cell cc; unfold RM.valAt; go_simp) ?_
      refine RF.wpFl_doC rfl rfl (fun K hK => ?_)
      go_wp2_with fail
      have hbC : Below w2.heap.size w2 (w2.alloc (Obj.cells #[.slice ya ln yc, .int .i64 PP.e, .int .i64 PP.loud, .int .i64 PP.clip] 39)).drew := ((Below.refl w2.heap.size w2).alloc (Nat.le_refl w2.heap.size) _).drew
      have hO : ((w2.alloc (Obj.cells #[.slice ya ln yc, .int .i64 PP.e, .int .i64 PP.loud, .int .i64 PP.clip] 39)).drew).ownsRow w1.heap.size 39 4 (.slice ea k ec) k Vs := own_step HO1.out (fun j hj => hbC.block j (HLv.out j hj))
      have hbz : w1.heap.size ≤ (w2.alloc (Obj.cells #[.slice ya ln yc, .int .i64 PP.e, .int .i64 PP.loud, .int .i64 PP.clip] 39)).drew.heap.size := by have := hbC.size; omega
      have HbC : Hid (Below w2.heap.size w2 (w2.alloc (Obj.cells #[.slice ya ln yc, .int .i64 PP.e, .int .i64 PP.loud, .int .i64 PP.clip] 39)).drew) := hbC
      have hk48 : k ≤ 1048577 := by omega
      have lb2 : b < w2.heap.size := lt_cell l2
      have x0 : (w2.alloc (Obj.cells #[.slice ya ln yc, .int .i64 PP.e, .int .i64 PP.loud, .int .i64 PP.clip] 39)).drew.cell? ⟨w2.heap.size, 0, none⟩ = some (.slice ya ln yc) := (World.cell?_alloc_at _ _ _ _ rfl).trans rfl
      have x1 : (w2.alloc (Obj.cells #[.slice ya ln yc, .int .i64 PP.e, .int .i64 PP.loud, .int .i64 PP.clip] 39)).drew.cell? ⟨w2.heap.size, 1, none⟩ = some (.int .i64 PP.e) := (World.cell?_alloc_at _ _ _ _ rfl).trans rfl
      have x2 : (w2.alloc (Obj.cells #[.slice ya ln yc, .int .i64 PP.e, .int .i64 PP.loud, .int .i64 PP.clip] 39)).drew.cell? ⟨w2.heap.size, 2, none⟩ = some (.int .i64 PP.loud) := (World.cell?_alloc_at _ _ _ _ rfl).trans rfl
      have x3 : (w2.alloc (Obj.cells #[.slice ya ln yc, .int .i64 PP.e, .int .i64 PP.loud, .int .i64 PP.clip] 39)).drew.cell? ⟨w2.heap.size, 3, none⟩ = some (.int .i64 PP.clip) := (World.cell?_alloc_at _ _ _ _ rfl).trans rfl
      refine hK _ _ ⟨keepC hbC lb2 l2, keepC hbC lb2 l3⟩ ?_
      clear hK K
      generalize (w2.alloc (Obj.cells #[.slice ya ln yc, .int .i64 PP.e, .int .i64 PP.loud, .int .i64 PP.clip] 39)).drew = W8 at *
      refine RF.wpFl_doC rfl rfl (fun K hK => ?_)
      refine wpList_append_dd rfl (.tmp 27) (.tmp 39) rfl w1.heap.size _ k Vs rfl hO w2.heap.size ya ln yc PP.e PP.loud PP.clip rfl x0 x1 x2 x3 hk48 hbz ?_
      intro v' w4 o5 g5
      have hnb3 : ∀ i v, W8.cell? ⟨b, i, none⟩ = some v → w4.cell? ⟨b, i, none⟩ = some v := fun i v h => g5.cell (by have := hbC.size; omega) (fun q => by have := own_block HO1.out b q.symm; omega) h
      refine hK _ _ ⟨hnb3 2 _ (keepC hbC lb2 l2), hnb3 3 _ (keepC hbC lb2 l3)⟩ ?_
      clear hK K
      refine RF.wpFl_readC rfl rfl v' (fun w' hw' => by unfold RM.valAt; go_simp) ?_
      refine RF.wpFl_nil ?_
      have z5 := g5.gr.size
      have zC := hbC.size
      have hDR : DR w4 w1.heap.size v' (R ++ [PP]) := by
        refine DR.put (w := w2) (w1 := W8) (by omega) Vs HO3.out.1 (by
          have := HO3.out.2
          rw [HRl.out] at this
          exact this) hbC g5 (ao := ya) (c := yc) (by rw [HRl.out, ← HLn.out]; exact o5) ?_ (by rw [← HLn.out]; exact y1) y2 y3
        refine HIY.out.keep (fun q hq hl => hbC.block q hl) hbC.size (fun q hq hl => ⟨by omega, by omega, fun e => ?_⟩)
        have h1 := own_lt HO1.out q e.symm
        have h2 := HLv.out q e.symm
        exact HNw.out q hq e.symm
      have hb24 : ∀ j, j < w1.heap.size → w4.heap[j]? = w2.heap[j]? := fun j hj => by
        rw [g5.gr.block j (by omega) (fun q => by have := own_block HO1.out j q.symm; omega), hbC.block j (by omega)]
      have HV4 : Hid (DL w4 b (pst SS p)) := HV2.out.keep (hb24 b zb)
      have hb04 : Below w.heap.size w w4 := hb02.trans (Below.trans (hbC.mono (by omega)) (g5.bel (by omega) (fun j hj => by have := own_block HO1.out j hj; omega)))
      have HDR : Hid (DR w4 w1.heap.size v' (R ++ [PP])) := hDR
      clear hDR o5 g5 hO x0 x1 x2 x3 hnb3
      go_wp2_with fail
      exact ⟨⟨k + 1, by omega, by go_num, by rw [HT1.out]; exact HDR, by rw [HT2.out]; exact HV4, hb04, by omega⟩, by simp [intOf]; omega⟩
    · obtain rfl : k = ps.length := by omega
      have hfin := hS.out
      rw [List.take_length] at hfin
      have HFin : Hid (DtQ w z ps (.returned u6) wr) := ⟨⟨u6, w1.heap.size, rfl, by omega, hfin⟩, hbr⟩
      clear hfin hS hV
      go_wp2_with fail
      go_ret
      exact HFin.out
end Go.Proofs.Ytdlcnbfiklbiiaa.Mx
