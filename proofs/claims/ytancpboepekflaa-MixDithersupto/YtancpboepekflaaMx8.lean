/- MixDithers: the law's text, walked. -/
import Derived.Test.YtancpboepekflaaMx7
import Derived.Test.YtancpboepekflaaMx13
namespace Go.Proofs.Ytancpboepekflaa.Mx
open Go.RowKit Go.Maps Go.Sort
set_option linter.unusedVariables false
set_option linter.unusedSimpArgs false

set_option maxRecDepth 4000 in
set_option maxHeartbeats 8000000 in
theorem dithers_walk (z : Nat) (hz : z < 4294967296) (ps : List (List Int)) (ao : Option Addr) (n cp : Nat) (w : World) (hP : PL w w.heap.size ao ps) (hn : ps.length = n) (hc : n ≤ cp) (hcm : cp ≤ 9223372036854775807) (hl : n ≤ 1048576) (hlen : tlen ps ≤ 1048576) :
    Calls Try.prog 4 #[.int .u32 z, .slice ao n cp] w fun e w' => e = .returned (.bool true) ∧ Below w.heap.size w w' := by
  have hq := Dither_any z hz ps ao cp w hP (by omega) hcm (by omega) (by omega)
  rw [hn] at hq
  have HP : Hid (PL w w.heap.size ao ps) := hP
  have HN : Hid (ps.length = n) := hn
  have HLen : Hid (tlen ps ≤ 1048576) := hlen
  have HG : Hid (Gd (new z)) := new_gd hz
  clear hP hn hlen hz
  go_enter Try.func4, Try.ntmps4
  go_wp2_with fail
  refine hq.mono ?_
  rintro e w1 ⟨⟨v, base, rfl, hbs, hDR⟩, hb1⟩
  obtain ⟨ra, rc, hv, r1, r2, r3, hRd⟩ := hDR.rd
  rw [dth_len, HN.out] at hv r1
  subst hv
  have HRd : Hid (DRd w1 (fun b => b < w1.heap.size) ra (dth (new z) ps)) := hRd.keep (fun _ _ _ => rfl) (Nat.le_refl _) (fun b _ h => h)
  clear hRd hDR hq
  obtain ⟨W2, hW2⟩ : ∃ X, X = w1.alloc (Obj.cells #[.int .u32 z, .int .i64 0, .int .i64 0, .int .i64 0] 35) := ⟨_, rfl⟩
  have hbA : Below w1.heap.size w1 W2 := by rw [hW2]; exact (Below.refl _ _).alloc (Nat.le_refl _) _
  obtain ⟨sb, hsb⟩ : ∃ sb, sb = w1.heap.size := ⟨_, rfl⟩
  have HR2 : Hid (W2.rowIs sb 35 4 (dv (new z))) := by
    unfold Hid
    rw [hW2, hsb]
    exact World.rowIs_alloc w1 #[.int .u32 z, .int .i64 0, .int .i64 0, .int .i64 0] 35 (dv (new z)) (fun i hi => by
      match i, hi with
      | 0, _ => rfl
      | 1, _ => rfl
      | 2, _ => rfl
      | 3, _ => rfl
      | i + 4, hi => exact absurd hi (by show ¬ (i + 4 < 4); omega))
  have HRd2 : Hid (DRd W2 (fun b => b < sb) ra (dth (new z) ps)) := by rw [hsb]; exact HRd.out.keep (fun b hb hl => hbA.block b hb) hbA.size (fun b hb _ => hb)
  have HP2 : Hid (PL W2 w.heap.size ao ps) := HP.out.keep (fun b hb _ => (hbA.block b (by have := hb1.size; omega)).trans (hb1.block b hb)) (by have := hbA.size; have := hb1.size; omega) (fun b hb _ => hb)
  have HB2 : Hid (Below w.heap.size w W2 ∧ w.heap.size ≤ sb ∧ sb < W2.heap.size) := ⟨hb1.trans (hbA.mono hb1.size), by rw [hsb]; exact hb1.size, by rw [hW2, hsb]; simp⟩
  have lsb2 := HB2.out.2
  have hnn : ((n : Int) != (n : Int)) = false := by simp
  clear hb1 HRd HP hbA hbs
  go_wp2_with fail
  rw [← hW2, ← hsb]
  clear hW2 hsb
  go_loopw [23] (fun i ww => ∃ k : Nat, k ≤ n ∧ i = .int .i64 k ∧ Hid (ww.rowIs sb 35 4 (dv (stn (new z) (ps.take k)))) ∧ Hid (Kn W2 sb W2.heap.size ww)) (fun i _ => n - (intOf i).toNat)
  case atStart => exact ⟨0, by omega, rfl, HR2, Kn.refl _ _ _⟩
  case round =>
    obtain ⟨k, hk, rfl, hR, hK⟩ := hrel
    have hzr := hK.out.z
    by_cases hlt : k < n
    · obtain ⟨p, hx⟩ : ∃ p, ps[k]? = some p := ⟨_, List.getElem?_eq_getElem (by rw [HN.out]; exact hlt)⟩
      obtain ⟨nb, of, rfl, hnb, hnb2, q0⟩ := (HP2.out.keep (w' := wr) (fun j hj hl => hK.out.k j hl (by omega)) hzr (fun b hb _ => hb)).at' (by rw [HN.out]; omega)
      obtain ⟨xa, xc, r0, p1, p2, p3, p4⟩ := q0 k p hx
      have hlt' : (k : Int) < (n : Int) := by omega
      have w3 : IntKind.i64.wrap ((k : Int) + 1) = (k : Int) + 1 := wid (by omega) (by omega)
      have HT2 : Hid (stn (new z) (ps.take (k + 1)) = pst (stn (new z) (ps.take k)) p) := stn_step _ hx
      have hgd : Gd (stn (new z) (ps.take k)) := stn_gd HG.out _
      have hpl : p.length ≤ 17592186044415 ∧ (stn (new z) (ps.take k)).clip + p.length ≤ 2305843009213693951 := by
        have h1 := (stn_clip (new z) (ps.take k)).2
        have h2 := tlen_take ps (k + 1)
        rw [take_one hx, tlen_app] at h2
        have h3 : tlen [p] = p.length := by simp [tlen]
        have h4 := HLen.out
        have h5 : (new z).clip = 0 := rfl
        omega
      have hdg := dth_get (new z) hx
      have e0 : wr.cell? ⟨sb, 0, none⟩ = some (.int .u32 (stn (new z) (ps.take k)).seed) := World.rowIs.cell hR.out (by decide)
      have e1 : wr.cell? ⟨sb, 1, none⟩ = some (.int .i64 (stn (new z) (ps.take k)).rest) := World.rowIs.cell hR.out (by decide)
      have e2 : wr.cell? ⟨sb, 2, none⟩ = some (.int .i64 (stn (new z) (ps.take k)).loud) := World.rowIs.cell hR.out (by decide)
      have e3 : wr.cell? ⟨sb, 3, none⟩ = some (.int .i64 (stn (new z) (ps.take k)).clip) := World.rowIs.cell hR.out (by decide)
      have hq1 := refRun_any (stn (new z) (ps.take k)) hgd (fun b => b < w.heap.size) p xa xc wr p4 (fun b hb => by omega) p1 p2 hpl.1 hpl.2
      unfold sv at hq1
      have hHR : Hid (wr.rowIs sb 35 4 (dv (stn (new z) (ps.take k)))) := hR
      generalize stn (new z) (ps.take k) = SS at *
      have lsb : sb < wr.heap.size := by omega
      obtain ⟨w4, hw4⟩ : ∃ x, x = wr := ⟨wr, rfl⟩
      subst hw4
      clear q0 hx hgd hpl p4 hR
      go_wp2_with fail
      refine hq1.mono ?_
      rintro e w5 ⟨⟨v, base, he, hbs, hO⟩, hb5⟩
      unfold sv at he
      subst he
      have hpr : (prr SS p).loud = (pst SS p).loud ∧ (prr SS p).clip = (pst SS p).clip := by
        unfold prr pst; split <;> exact ⟨rfl, rfl⟩
      obtain ⟨l1, l2⟩ := hpr
      obtain ⟨va, vc, rfl, v1, v2, v3, v4⟩ := IL.own hO rfl
      have hvb := own_block hO
      have hvl := own_lt hO
      have HR5 : Hid (w5.rowIs sb 35 4 (dv SS)) := World.rowIs.of_block hHR (hb5.block sb lsb)
      have HK5 : Hid (Kn W2 sb W2.heap.size w5) := hK.out.trans (Kn.bel hb5 (by omega) lsb)
      have HI5 : Hid (IL w5 (fun b => base ≤ b) va (prr SS p).l) := v4.keep (fun _ _ _ => rfl) (Nat.le_refl _) (fun b hb _ => hvb b hb.symm)
      have hbs2 : sb < base := by omega
      generalize pst SS p = NN at *
      generalize prr SS p = PP at *
      obtain ⟨ln, hln⟩ : ∃ ln, ln = PP.l.length := ⟨_, rfl⟩
      rw [← hln] at v1 ⊢
      have HLn : Hid (PP.l.length = ln) := hln.symm
      have f0 := World.rowIs.frozen HR5.out 0
      have f1 := World.rowIs.frozen HR5.out 1
      have f2 := World.rowIs.frozen HR5.out 2
      have f3 := World.rowIs.frozen HR5.out 3
      have s0 : w5.cell? ⟨sb, 0, none⟩ = some (.int .u32 SS.seed) := World.rowIs.cell HR5.out (by decide)
      have s1 : w5.cell? ⟨sb, 1, none⟩ = some (.int .i64 SS.rest) := World.rowIs.cell HR5.out (by decide)
      have s2 : w5.cell? ⟨sb, 2, none⟩ = some (.int .i64 SS.loud) := World.rowIs.cell HR5.out (by decide)
      have s3 : w5.cell? ⟨sb, 3, none⟩ = some (.int .i64 SS.clip) := World.rowIs.cell HR5.out (by decide)
      have lsb5 : sb < w5.heap.size := by have := hb5.size; omega
      have HRS : Hid (((((w5.setCell ⟨sb, 0, none⟩ (.int .u32 NN.seed)).setCell ⟨sb, 1, none⟩ (.int .i64 NN.rest)).setCell ⟨sb, 2, none⟩ (.int .i64 NN.loud)).setCell ⟨sb, 3, none⟩ (.int .i64 NN.clip)).rowIs sb 35 4 (dv NN)) := row4 HR5.out NN
      have HKS : Hid (Kn W2 sb W2.heap.size ((((w5.setCell ⟨sb, 0, none⟩ (.int .u32 NN.seed)).setCell ⟨sb, 1, none⟩ (.int .i64 NN.rest)).setCell ⟨sb, 2, none⟩ (.int .i64 NN.loud)).setCell ⟨sb, 3, none⟩ (.int .i64 NN.clip))) := HK5.out.trans (kn4 _ _ _ _)
      have HIS : Hid (IL ((((w5.setCell ⟨sb, 0, none⟩ (.int .u32 NN.seed)).setCell ⟨sb, 1, none⟩ (.int .i64 NN.rest)).setCell ⟨sb, 2, none⟩ (.int .i64 NN.loud)).setCell ⟨sb, 3, none⟩ (.int .i64 NN.clip)) (fun b => base ≤ b) va PP.l) := HI5.out.keep (fun j hj _ => by
        have hne : j ≠ sb := by omega
        rw [Below.heap_setCell _ _ _ _ hne, Below.heap_setCell _ _ _ _ hne, Below.heap_setCell _ _ _ _ hne, Below.heap_setCell _ _ _ _ hne]) (by simp [World.setCell]) (fun _ h _ => h)
      have HDg : Hid ((dth (new z) ps)[k]? = some PP) := hdg
      clear hq1 hHR hO hb5 v4 hvb hvl hln hK e0 e1 e2 e3 hdg
      go_wp2_with fail
      generalize ((((w5.setCell ⟨sb, 0, none⟩ (.int .u32 NN.seed)).setCell ⟨sb, 1, none⟩ (.int .i64 NN.rest)).setCell ⟨sb, 2, none⟩ (.int .i64 NN.loud)).setCell ⟨sb, 3, none⟩ (.int .i64 NN.clip)) = WE at *
      obtain ⟨rb, hra, rlt, rS, rd⟩ := (HRd2.out.keep (w' := WE) (S' := fun b => b < sb) (fun b hb hl => HKS.out.k b hl (by omega)) HKS.out.z (fun _ h _ => h)).at' (by rw [dth_len, HN.out]; omega)
      subst hra
      obtain ⟨⟨ya, yc, y0, y1, y2, y3, y4⟩, y5, y6, y7⟩ := rd k PP HDg.out
      rw [HLn.out] at y0 y1
      rw [l1] at y6
      rw [l2] at y7
      have t2 : WE.cell? ⟨sb, 2, none⟩ = some (.int .i64 NN.loud) := World.rowIs.cell HRS.out (by decide)
      have t3 : WE.cell? ⟨sb, 3, none⟩ = some (.int .i64 NN.clip) := World.rowIs.cell HRS.out (by decide)
      have hS : ∀ q, Calls Try.prog 9 #[.slice ya ln yc, .slice va ln vc] (WE.drewN q) fun e w'' => e = .returned (.bool true) ∧ ∃ m, w'' = WE.drewN m := fun q =>
        (Same_q (WE.drewN q) _ _ ya va PP.l ln yc vc (y4.keep (fun _ _ _ => rfl) (Nat.le_refl _) (fun _ h _ => h)) (HIS.out.keep (fun _ _ _ => rfl) (Nat.le_refl _) (fun _ h _ => h)) HLn.out y1 y2 v1 v2).mono (fun e w'' h => ⟨h.1, by obtain ⟨m, hm⟩ := h.2; exact ⟨q + m, by rw [hm, World.drewN_drewN]⟩⟩)
      have n1 : (PP.e != PP.e) = false := by simp
      have n2 : (NN.loud != NN.loud) = false := by simp
      have n3 : ((NN.clip : Int) != (NN.clip : Int)) = false := by simp
      clear rd y4 s0 s1 s2 s3 f0 f1 f2 f3
      go_quiet (exact hS _)
      go_wp2_with fail
      exact ⟨⟨k + 1, by omega, by go_num, by rw [HT2.out]; exact World.rowIs.of_block HRS.out rfl, HKS.out.trans ⟨fun _ _ _ => rfl, Nat.le_refl _, belD⟩⟩, by simp [intOf]; omega⟩
    · obtain rfl : k = n := by omega
      have HBe : Hid (Below w.heap.size w wr) := HB2.out.1.trans (hK.out.b.mono lsb2.1)
      clear hR hK
      go_wp2_with fail
      go_ret
      exact ⟨rfl, HBe.out⟩
end Go.Proofs.Ytancpboepekflaa.Mx
