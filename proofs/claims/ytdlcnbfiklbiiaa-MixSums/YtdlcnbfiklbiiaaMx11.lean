/- What Sum comes to, where there is a gain for each track. -/
import Derived.Test.YtdlcnbfiklbiiaaMx10
namespace Go.Proofs.Ytdlcnbfiklbiiaa.Mx
open Go.RowKit Go.Maps Go.Sort
set_option linter.unusedVariables false
set_option linter.unusedSimpArgs false

set_option maxHeartbeats 8000000 in
theorem Sum_main (P : List (List Int)) (G : List Int) (S : Nat → Prop) (ao bo : Option Addr) (n cp cg : Nat) (w : World) (hP : PL w w.heap.size ao P) (hG : IL w S bo G) (hS : ∀ b, S b → b < w.heap.size) (hn : P.length = n) (hm : G.length = n) (h : ¬ 256 < n) (hc1 : n ≤ cp) (hc2 : cp ≤ 9223372036854775807) (hg1 : n ≤ cg) (hg2 : cg ≤ 9223372036854775807) (hlen : ∀ p ∈ P, p.length ≤ 17592186044416) :
    Calls Try.prog 9 #[.slice ao n cp, .slice bo n cg] w fun e w' => SmQ w P G e w' := by
  obtain ⟨ts, hts⟩ : ∃ ts, ts = P.zip G := ⟨_, rfl⟩
  have hl : ts.length = n := by rw [hts, List.length_zip, hn, hm]; omega
  have HP : Hid (PL w w.heap.size ao P) := hP
  have HG : Hid (IL w (fun b => b < w.heap.size) bo G) := hG.keep (fun _ _ _ => rfl) (Nat.le_refl _) (fun b h _ => hS b h)
  have HT : Hid (∀ k, k < n → ∃ p g, P[k]? = some p ∧ G[k]? = some g ∧ ts[k]? = some (p, g) ∧ p.length ≤ 17592186044416) := fun k hk => by
    obtain ⟨p, h1⟩ : ∃ p, P[k]? = some p := ⟨_, List.getElem?_eq_getElem (by omega)⟩
    obtain ⟨g, h2⟩ : ∃ g, G[k]? = some g := ⟨_, List.getElem?_eq_getElem (by omega)⟩
    exact ⟨_, _, h1, h2, by rw [hts]; exact zip_get h1 h2, hlen _ (List.mem_of_getElem? h1)⟩
  have HN : Hid (P.length = n ∧ G.length = n ∧ ts.length = n) := ⟨hn, hm, hl⟩
  have HQ3 : Hid (ts.all tok = false → ∀ w', Below w.heap.size w w' → SmQ w P G (.returned (.tuple #[.slice none 0 0, .int .i64 3])) w') := fun hb w' hw => SmQ.bad (by unfold se; rw [if_neg (by omega), if_pos (by omega), ← hts, if_neg (by rw [hb]; decide)]) (by decide) hw
  have HQ0 : Hid (ts.all tok = true → ∀ w' nb, Below w.heap.size w w' → w.heap.size ≤ nb → nb < w'.heap.size → FR w' nb (lng ts) (fun j => tot ts j) → lng ts ≤ 9223372036854775807 → SmQ w P G (.returned (.tuple #[.slice (some ⟨nb, 0, none⟩) (lng ts) (lng ts), .int .i64 0])) w') := fun hb w' nb hw h1 h2 h3 h4 => by
    have e : se P G = 0 := by unfold se; rw [if_neg (by omega), if_pos (by omega), ← hts, if_pos hb]
    have e2 : so P G = sums ts := by unfold so; rw [if_pos e, hts]
    refine ⟨⟨some ⟨nb, 0, none⟩, lng ts, by rw [e, e2, sums_len], by rw [e2, sums_len]; exact Nat.le_refl _, h4, (fun q => by cases q), ?_⟩, hw⟩
    rw [e2]
    exact h3.il (sums_len ts) (fun i hi => by unfold sums; rw [List.getD_eq_getElem?_getD, List.getElem?_map, List.getElem?_range hi]; rfl) h2 _ h1
  have HLn : Hid (∀ k, lng (ts.take k) ≤ 17592186044416) := fun k => lng_le (fun t ht => by
    have h1 := List.mem_of_mem_take ht
    rw [hts] at h1
    exact hlen t.1 (List.of_mem_zip (show (t.1, t.2) ∈ P.zip G from h1)).1)
  have h' : ¬ (256 : Int) < (n : Int) := by omega
  clear hP hG hS hn hm hl hlen hts
  go_enter Try.func9, Try.ntmps9
  go_wp2_with fail
  go_loopw [24, 6] (fun i v ww => ∃ k : Nat, k ≤ n ∧ i = .int .i64 k ∧ v = .int .i64 (lng (ts.take k) : Nat) ∧ Hid ((ts.take k).all tok = true) ∧ Hid (Below w.heap.size w ww)) (fun i _ _ => n - (intOf i).toNat)
  case atStart => exact ⟨0, by omega, rfl, rfl, rfl, Below.refl _ _⟩
  case round =>
    obtain ⟨k, hk, rfl, rfl, hA, hbr⟩ := hrel
    by_cases hlt : k < n
    · obtain ⟨p, g, p1, p2, p3, p4⟩ := HT.out k hlt
      obtain ⟨nb, of, rfl, hnb, hnb2, q0⟩ := (HP.out.keep (fun j hj _ => hbr.out.block j hj) hbr.out.size (fun b hb _ => hb)).at' (by rw [HN.out.1]; omega)
      obtain ⟨xa, xc, r0, r1, r2, r3, r4⟩ := q0 k p p1
      obtain ⟨gb, go, rfl, hgb, hgb2, g0⟩ := (HG.out.keep (fun j hj _ => hbr.out.block j hj) hbr.out.size (fun b hb _ => hb)).at' (by rw [HN.out.2.1]; omega)
      have g1 := g0 k g p2
      have hlt' : (k : Int) < (n : Int) := by omega
      have w3 : IntKind.i64.wrap ((k : Int) + 1) = (k : Int) + 1 := wid (by omega) (by omega)
      obtain ⟨W1, hW1⟩ : ∃ X, X = wr.alloc (Obj.cells #[.int .i64 g] 3) := ⟨_, rfl⟩
      have hbA : Below wr.heap.size wr W1 := by rw [hW1]; exact (Below.refl _ _).alloc (Nat.le_refl _) _
      have hi1 : IL W1 (fun b => b = wr.heap.size) (some ⟨wr.heap.size, 0, none⟩) [g] := ⟨fun _ => ⟨wr.heap.size, 0, rfl, by rw [hW1]; simp, rfl, fun j x hj => by
        match j, hj with
        | 0, hj => simp at hj; subst hj; rw [hW1]; simp [go_sem]⟩⟩
      have hq1 := within_any 1048576 (by decide) (by decide) [g] _ (some ⟨wr.heap.size, 0, none⟩) 1 W1 hi1 (Nat.le_refl _) (by decide)
      rw [inR_one] at hq1
      have hq2 := within_any 16777216 (by decide) (by decide) p (fun b => b < w.heap.size) xa xc W1 (r4.keep (fun b hb hl => hbA.block b hl) hbA.size (fun _ h _ => h)) r1 r2
      have HB1 : Hid (Below w.heap.size w W1) := hbr.out.trans (hbA.mono hbr.out.size)
      have HTk : Hid (ts[k]? = some (p, g)) := p3
      have e1 : ([g] : List Int).length = 1 := rfl
      rw [e1] at hq1
      clear q0 g0 p1 p2 p3 r3 r4 hi1 e1
      cases hB1 : inB 1048576 g
      · rw [hB1] at hq1
        have HNo : Hid (ts.all tok = false) := all_no HTk.out (by unfold tok; rw [hB1]; rfl)
        clear hB1 hq2
        go_wp2_with fail
        rw [← hW1]
        clear hW1
        refine hq1.mono ?_
        rintro e w2 ⟨rfl, hw⟩
        rw [hw]
        clear hw hq1
        go_wp2_with fail
        go_returns
        exact HQ3.out HNo.out _ HB1.out
      · rw [hB1] at hq1
        cases hB2 : inR 16777216 p
        · rw [hB2] at hq2
          have HNo : Hid (ts.all tok = false) := all_no HTk.out (by unfold tok; rw [hB1, hB2]; rfl)
          clear hB1 hB2
          go_wp2_with fail
          rw [← hW1]
          clear hW1
          refine hq1.mono ?_
          rintro e w2 ⟨rfl, hw⟩
          rw [hw]
          clear hw hq1
          go_wp2_with fail
          refine hq2.mono ?_
          rintro e w2 ⟨rfl, hw⟩
          rw [hw]
          clear hw hq2
          go_wp2_with fail
          go_returns
          exact HQ3.out HNo.out _ HB1.out
        · rw [hB2] at hq2
          have HOk : Hid ((ts.take (k + 1)).all tok = true) := all_step HTk.out hA.out (by unfold tok; rw [hB1, hB2]; rfl)
          have HLg : Hid (lng (ts.take (k + 1)) = max (lng (ts.take k)) p.length) := lng_step HTk.out
          obtain ⟨pl, hpl⟩ : ∃ pl, pl = p.length := ⟨_, rfl⟩
          rw [← hpl] at hq2 HLg r0 r1 p4
          generalize lng (ts.take k) = LG at *
          have hmm : (if (LG : Int) < (pl : Int) then (pl : Int) else (LG : Int)) = ((max LG pl : Nat) : Int) := by
            by_cases c : LG < pl
            · rw [if_pos (by omega), Nat.max_eq_right (by omega)]
            · rw [if_neg (by omega), Nat.max_eq_left (by omega)]
          clear hB1 hB2 hpl
          go_wp2_with fail
          rw [← hW1]
          clear hW1
          refine hq1.mono ?_
          rintro e w2 ⟨rfl, hw⟩
          rw [hw]
          clear hw hq1
          go_wp2_with fail
          refine hq2.mono ?_
          rintro e w2 ⟨rfl, hw⟩
          rw [hw]
          clear hw hq2
          go_wp2_with fail
          exact ⟨⟨k + 1, by omega, by go_num, by rw [HLg.out]; congr 1; split <;> omega, HOk, HB1⟩, by simp [intOf]; omega⟩
    · obtain rfl : k = n := by omega
      have hal : ts.take k = ts := List.take_of_length_le (by rw [HN.out.2.2]; exact Nat.le_refl _)
      have HAl : Hid (ts.all tok = true) := by have := hA.out; rwa [hal] at this
      rw [hal]
      have hln : lng ts ≤ 17592186044416 := by have := HLn.out k; rwa [hal] at this
      obtain ⟨w2, hw2⟩ : ∃ x, x = wr := ⟨wr, rfl⟩
      subst hw2
      obtain ⟨N, hN⟩ : ∃ N, N = lng ts := ⟨_, rfl⟩
      rw [← hN] at hln ⊢
      have HNl : Hid (N = lng ts) := hN
      have mk : (Instr.makeSlice 23 (.int .i64 (N : Int)) (.int .i64 (N : Int))).run Try.prog w2 = .ok (.slice (some ⟨w2.heap.size, 0, none⟩) N N) (w2.alloc (.cells (madeCells #[.int .i64 0] N) 3)) := run_make_row' (P := Try.prog) 23 3 (.int .i64 0) 8 Try.underlying23 infoI rfl .i64 .i64 N (by omega) (by omega) w2
      have hbA : Below w2.heap.size w2 (w2.alloc (.cells (madeCells #[.int .i64 0] N) 3)) := (Below.refl _ _).alloc (Nat.le_refl _) _
      have HF : Hid (FR (w2.alloc (.cells (madeCells #[.int .i64 0] N) 3)) w2.heap.size N (fun j => tot (ts.take 0) j)) := World.rowIs.congr (World.rowIs_made w2 (.int .i64 0) N 3) (fun i _ => rfl)
      have hzA : (w2.alloc (.cells (madeCells #[.int .i64 0] N) 3)).heap.size = w2.heap.size + 1 := by simp
      have HB0 : Hid (Below w.heap.size w (w2.alloc (.cells (madeCells #[.int .i64 0] N) 3))) := hbr.out.trans (hbA.mono hbr.out.size)
      have hwz : w.heap.size ≤ w2.heap.size := hbr.out.size
      clear hA hN hal
      go_wp2_with (simp only [mk])
      generalize w2.alloc (.cells (madeCells #[.int .i64 0] N) 3) = W0 at *
      clear mk
      go_loopw [50] (fun i ww => ∃ j : Nat, j ≤ k ∧ i = .int .i64 j ∧ Hid (FR ww w2.heap.size N (fun q => tot (ts.take j) q)) ∧ Hid (Kn W0 w2.heap.size W0.heap.size ww)) (fun i _ => k - (intOf i).toNat)
      case atStart => exact ⟨0, by omega, rfl, HF, Kn.refl _ _ _⟩
      case round =>
        obtain ⟨j, hj, rfl, hF, hK⟩ := hrel
        by_cases hlt2 : j < k
        · obtain ⟨w4, hw4⟩ : ∃ x, x = wr := ⟨wr, rfl⟩
          subst hw4
          obtain ⟨p, g, p1, p2, p3, p4⟩ := HT.out j hlt2
          have hkeep : ∀ W : World, Kn W0 w2.heap.size W0.heap.size W → (∀ b, b < w.heap.size → W.heap[b]? = w.heap[b]?) ∧ w.heap.size ≤ W.heap.size := fun W hW => ⟨fun b hb => (hW.k b (by omega) (by omega)).trans (HB0.out.block b hb), by have := hW.z; have := HB0.out.size; omega⟩
          have hzm : Hid (∀ W : World, Kn W0 w2.heap.size W0.heap.size W → W0.heap.size ≤ W.heap.size) := fun W hW => hW.z
          have Hkeep : Hid (∀ W : World, Kn W0 w2.heap.size W0.heap.size W → (∀ b, b < w.heap.size → W.heap[b]? = w.heap[b]?) ∧ w.heap.size ≤ W.heap.size) := hkeep
          obtain ⟨kb, kz⟩ := hkeep w4 hK.out
          obtain ⟨nb, of, rfl, hnb, hnb2, q0⟩ := HP.out.at' (by rw [HN.out.1]; omega)
          obtain ⟨xa, xc, r00, r1, r2, r3, r4⟩ := q0 j p p1
          have r0 : w4.cell? ⟨nb, of + j, none⟩ = some (.slice xa p.length xc) := (World.cell?_of_block (w := w) (w' := w4) (a := ⟨nb, of + j, none⟩) (kb nb hnb)).trans r00
          have lnb : nb < w4.heap.size := by omega
          have hlt' : (j : Int) < (k : Int) := by omega
          have w3 : IntKind.i64.wrap ((j : Int) + 1) = (j : Int) + 1 := wid (by omega) (by omega)
          have htok : tok (p, g) = true := List.all_eq_true.1 HAl.out (p, g) (List.mem_of_getElem? p3)
          unfold tok at htok
          rw [Bool.and_eq_true] at htok
          have hgb := inB_iff.1 htok.1
          have HPr : Hid (inR 16777216 p = true) := htok.2
          have hbd : ∀ q, -(17592186044416 * (j : Int)) ≤ tot (ts.take j) q ∧ tot (ts.take j) q ≤ 17592186044416 * (j : Int) := fun q => by
            have h1 : (ts.take j).all tok = true := List.all_eq_true.2 (fun t ht => List.all_eq_true.1 HAl.out t (List.mem_of_mem_take ht))
            have := tot_bd h1 q
            rw [List.length_take, HN.out.2.2, Nat.min_eq_left (by omega)] at this
            exact this
          have Hbd : Hid (∀ q, -(17592186044416 * (j : Int)) ≤ tot (ts.take j) q ∧ tot (ts.take j) q ≤ 17592186044416 * (j : Int)) := hbd
          have hpN : p.length ≤ N := by rw [HNl.out]; exact lng_mem (List.mem_of_getElem? p3)
          have HE2 : Hid (∀ W, FR W w2.heap.size N (part ts j p.length (p, g)) → FR W w2.heap.size N (fun q => tot (ts.take (j + 1)) q)) := fun W hW => World.rowIs.congr hW (fun i _ => by rw [part_end (t := (p, g)) p3])
          have HF0 : Hid (FR w4 w2.heap.size N (part ts j 0 (p, g))) := World.rowIs.congr hF.out (fun i _ => by rw [part_zero])
          obtain ⟨pl, hpl⟩ : ∃ pl, pl = p.length := ⟨_, rfl⟩
          have HPl : Hid (pl = p.length ∧ p[0]? = p[0]?) := ⟨hpl, rfl⟩
          have HIp : Hid (IL w (fun b => b < w.heap.size) xa p) := r4
          have HGt : Hid (G[j]? = some g) := p2
          rw [← hpl] at r0 r1 p4 hpN HE2
          clear q0 p1 p2 p3 r3 r4 r00 htok hbd hpl hF hkeep
          go_wp2_with fail
          go_loopw [57] (fun i ww => ∃ q : Nat, q ≤ pl ∧ i = .int .i64 q ∧ Hid (FR ww w2.heap.size N (part ts j q (p, g))) ∧ Hid (Kn W0 w2.heap.size W0.heap.size ww)) (fun i _ => pl - (intOf i).toNat)
          case atStart => exact ⟨0, by omega, rfl, HF0, hK⟩
          case round =>
            obtain ⟨q, hq, rfl, hF3, hK3⟩ := hrel
            clear HF0
            by_cases hlt3 : q < pl
            · obtain ⟨x, hx⟩ : ∃ x, p[q]? = some x := ⟨_, List.getElem?_eq_getElem (by rw [← HPl.out.1]; exact hlt3)⟩
              obtain ⟨kb3, kz3⟩ := Hkeep.out wr hK3.out
              have hlt3' : (q : Int) < (pl : Int) := by omega
              have w5 : IntKind.i64.wrap ((q : Int) + 1) = (q : Int) + 1 := wid (by omega) (by omega)
              obtain ⟨xb, xo, rfl, x1, x2, x3⟩ := (HIp.out.keep (w' := wr) (S' := fun b => b < w.heap.size) (fun b hb _ => kb3 b hb) kz3 (fun _ h _ => h)).at' (by rw [← HPl.out.1]; omega)
              have c1 := x3 q x hx
              obtain ⟨gb, go, rfl, y1, y2, y3⟩ := (HG.out.keep (w' := wr) (S' := fun b => b < w.heap.size) (fun b hb _ => kb3 b hb) kz3 (fun _ h _ => h)).at' (by rw [HN.out.2.1]; omega)
              have c2 := y3 j g HGt.out
              have hqN : q < N := by omega
              have c3 : wr.cell? ⟨w2.heap.size, q, none⟩ = some (.int .i64 (part ts j q (p, g) q)) := World.rowIs.cell hF3.out hqN
              rw [part_at] at c3
              have cf := World.rowIs.frozen hF3.out q
              have hb := Hbd.out q
              have ha : at0 p q = x := by unfold at0; rw [List.getD_eq_getElem?_getD, hx]; rfl
              have hm := mul_bd hgb (inR_mem HPr.out (List.mem_of_getElem? hx))
              have HSt : Hid (∀ i, part ts j (q + 1) (p, g) i = if i = q then tot (ts.take j) q + g * x else part ts j q (p, g) i) := fun i => by rw [part_step, ha]
              generalize tot (ts.take j) q = TT at *
              obtain ⟨V, hV⟩ : ∃ V, g * x = V := ⟨_, rfl⟩
              rw [hV] at hm HSt
              have wV : IntKind.i64.wrap V = V := wid (by omega) (by omega)
              have wT : IntKind.i64.wrap (TT + V) = TT + V := wid (by omega) (by omega)
              clear x3 y3 hx ha hb
              have HFs : Hid (FR ((wr.setCell ⟨w2.heap.size, q, none⟩ (.int .i64 (TT + V))).drew) w2.heap.size N (part ts j (q + 1) (p, g))) := World.rowIs.congr (World.rowIs.set hF3.out q (.int .i64 (TT + V))) (fun i _ => by
                rw [HSt.out]
                by_cases e : i = q
                · rw [if_pos e, if_pos e]
                · rw [if_neg e, if_neg e])
              have HKs : Hid (Kn W0 w2.heap.size W0.heap.size ((wr.setCell ⟨w2.heap.size, q, none⟩ (.int .i64 (TT + V))).drew)) := (hK3.out.trans (Kn.put (.inl rfl) (Nat.le_refl _))).trans ⟨fun _ _ _ => rfl, Nat.le_refl _, (Below.refl _ _).drew⟩
              clear hF3 hK3 HSt kb3
              go_wp2_with fail
              go_region
              go_wp2_with fail
              exact ⟨⟨q + 1, by omega, by go_num, HFs, HKs⟩, by simp [intOf]; omega⟩
            · obtain rfl : q = pl := by omega
              have HFn := HE2.out wr hF3.out
              have HFn' : Hid (FR wr w2.heap.size N (fun q => tot (ts.take (j + 1)) q)) := HFn
              clear HFn hF3
              go_wp2_with fail
              exact ⟨⟨j + 1, by omega, by go_num, HFn', hK3⟩, by simp [intOf]; omega⟩
        · obtain rfl : j = k := by omega
          have hal : ts.take j = ts := List.take_of_length_le (by rw [HN.out.2.2]; exact Nat.le_refl _)
          rw [hal] at hF
          have hE := HQ0.out HAl.out wr w2.heap.size (HB0.out.trans (hK.out.b.mono hwz)) hwz (by have := hK.out.z; omega) (by rw [← HNl.out]; exact hF.out) (by rw [← HNl.out]; omega)
          rw [← HNl.out] at hE
          have HE : Hid (SmQ w P G (.returned (.tuple #[.slice (some ⟨w2.heap.size, 0, none⟩) N N, .int .i64 0])) wr) := hE
          clear hE hF hK
          go_wp2_with fail
          go_returns
          exact HE.out
end Go.Proofs.Ytdlcnbfiklbiiaa.Mx
