/- What the document's Sum comes to. -/
import Derived.Test.YtdlcnbfiklbiiaaMx12
import Derived.Test.YtdlcnbfiklbiiaaMx5
import Derived.Test.YtdlcnbfiklbiiaaMx13
namespace Go.Proofs.Ytdlcnbfiklbiiaa.Mx
open Go.RowKit Go.Maps Go.Sort
set_option linter.unusedVariables false
set_option linter.unusedSimpArgs false

/-- What the document's Sum leaves. -/
structure SrQ (w : World) (P : List (List Int)) (G : List Int) (e : Ending) (w' : World) : Prop where
  ex : ∃ v base, e = .returned (.tuple #[v, .int .i64 (se P G)]) ∧ w.heap.size ≤ base ∧ w'.ownsRow base 3 1 v (so P G).length (ints (so P G))
  b : Below w.heap.size w w'
theorem SrQ.bad {w w' : World} {P : List (List Int)} {G : List Int} {n : Int} (h : se P G = n) (h0 : n ≠ 0) (hb : Below w.heap.size w w') : SrQ w P G (.returned (.tuple #[.slice none 0 0, .int .i64 n])) w' := by
  have e : so P G = [] := by unfold so; rw [if_neg (by rw [h]; exact h0)]
  exact ⟨⟨.slice none 0 0, w.heap.size, by rw [h], Nat.le_refl _, by rw [e]; exact World.ownsRow_nil _ _ _ _⟩, hb⟩
set_option maxHeartbeats 8000000 in
theorem refSum_main (P : List (List Int)) (G : List Int) (ao bo : Option Addr) (n cp cg : Nat) (w : World) (hP : PL w w.heap.size ao P) (hG : IL w (fun b => b < w.heap.size) bo G) (hn : P.length = n) (hm : G.length = n) (h : ¬ 256 < n) (hc1 : n ≤ cp) (hc2 : cp ≤ 9223372036854775807) (hg1 : n ≤ cg) (hg2 : cg ≤ 9223372036854775807) (hlen : ∀ p ∈ P, p.length ≤ 17592186044416) :
    Calls Try.prog 10 #[.slice ao n cp, .slice bo n cg] w fun e w' => SrQ w P G e w' := by
  obtain ⟨ts, hts⟩ : ∃ ts, ts = P.zip G := ⟨_, rfl⟩
  have hl : ts.length = n := by rw [hts, List.length_zip, hn, hm]; omega
  have HP : Hid (PL w w.heap.size ao P) := hP
  have HG : Hid (IL w (fun b => b < w.heap.size) bo G) := hG
  have HT : Hid (∀ k, k < n → ∃ p g, P[k]? = some p ∧ G[k]? = some g ∧ ts[k]? = some (p, g) ∧ p.length ≤ 17592186044416) := fun k hk => by
    obtain ⟨p, h1⟩ : ∃ p, P[k]? = some p := ⟨_, List.getElem?_eq_getElem (by omega)⟩
    obtain ⟨g, h2⟩ : ∃ g, G[k]? = some g := ⟨_, List.getElem?_eq_getElem (by omega)⟩
    exact ⟨_, _, h1, h2, by rw [hts]; exact zip_get h1 h2, hlen _ (List.mem_of_getElem? h1)⟩
  have HN : Hid (P.length = n ∧ G.length = n ∧ ts.length = n) := ⟨hn, hm, hl⟩
  have HQ3 : Hid (ts.all tok = false → SrQ w P G (.returned (.tuple #[.slice none 0 0, .int .i64 3])) w) := fun hb => SrQ.bad (by unfold se; rw [if_neg (by omega), if_pos (by omega), ← hts, if_neg (by rw [hb]; decide)]) (by decide) (Below.refl _ _)
  have HQ0 : Hid (ts.all tok = true → ∀ w' v, Below w.heap.size w w' → w'.ownsRow w.heap.size 3 1 v (lng ts) (ints ((List.range (lng ts)).map (tot ts))) → SrQ w P G (.returned (.tuple #[v, .int .i64 0])) w') := fun hb w' v hw ho => by
    have e : se P G = 0 := by unfold se; rw [if_neg (by omega), if_pos (by omega), ← hts, if_pos hb]
    have e2 : so P G = sums ts := by unfold so; rw [if_pos e, hts]
    exact ⟨⟨v, w.heap.size, by rw [e], Nat.le_refl _, by rw [e2, sums_len]; exact ho⟩, hw⟩
  have HLn : Hid (lng ts ≤ 17592186044416) := lng_le (fun t ht => by
    rw [hts] at ht
    exact hlen t.1 (List.of_mem_zip (show (t.1, t.2) ∈ P.zip G from ht)).1)
  have h' : ¬ (256 : Int) < (n : Int) := by omega
  have hne : ((n : Int) != (n : Int)) = false := by simp
  clear hP hG hn hm hl hlen hts
  go_enter Try.func10, Try.ntmps10
  go_wp2_with fail
  go_loopw [26, 6] (fun i v ww => ∃ k : Nat, k ≤ n ∧ i = .int .i64 k ∧ v = .int .i64 (lng (ts.take k) : Nat) ∧ Hid ((ts.take k).all tok = true) ∧ ww = w) (fun i _ _ => n - (intOf i).toNat)
  case atStart => exact ⟨0, by omega, rfl, rfl, rfl, rfl⟩
  case round =>
    obtain ⟨k, hk, rfl, rfl, hA, rfl⟩ := hrel
    by_cases hlt : k < n
    · obtain ⟨p, g, p1, p2, p3, p4⟩ := HT.out k hlt
      obtain ⟨nb, of, rfl, hnb, hnb2, q0⟩ := HP.out.at' (by rw [HN.out.1]; omega)
      obtain ⟨xa, xc, r0, r1, r2, r3, r4⟩ := q0 k p p1
      obtain ⟨gb, go, rfl, hgb, hgb2, g0⟩ := HG.out.at' (by rw [HN.out.2.1]; omega)
      have g1 := g0 k g p2
      have hlt' : (k : Int) < (n : Int) := by omega
      have w3 : IntKind.i64.wrap ((k : Int) + 1) = (k : Int) + 1 := wid (by omega) (by omega)
      have HTk : Hid (ts[k]? = some (p, g)) := p3
      have hq1 := small_any g 1048576 (by decide) (by decide) wr
      obtain ⟨wl, hwl⟩ : ∃ x, x = wr := ⟨wr, rfl⟩
      subst hwl
      cases hB1 : inB 1048576 g
      · rw [hB1] at hq1
        have HNo : Hid (ts.all tok = false) := all_no HTk.out (by unfold tok; rw [hB1]; rfl)
        clear hB1 q0 g0 p1 p2 p3 r3 r4
        go_wp2_with fail
        refine hq1.mono ?_
        rintro e w2 ⟨rfl, hw⟩
        rw [hw]
        clear hw hq1
        go_wp2_with fail
        go_returns
        exact HQ3.out HNo.out
      · rw [hB1] at hq1
        obtain ⟨pl, hpl⟩ : ∃ pl, pl = p.length := ⟨_, rfl⟩
        have HPl : Hid (pl = p.length) := hpl
        rw [← hpl] at r0 r1 p4
        have HI : Hid (IL wl (fun b => b < wl.heap.size) xa p) := r4
        have HB1 : Hid (inB 1048576 g = true) := hB1
        have HLg : Hid (lng (ts.take (k + 1)) = max (lng (ts.take k)) pl) := by rw [hpl]; exact lng_step HTk.out
        generalize lng (ts.take k) = LG at *
        clear hB1 q0 g0 p1 p2 p3 r3 r4 hpl
        go_wp2_with fail
        refine hq1.mono ?_
        rintro e w2 ⟨rfl, hw⟩
        rw [hw]
        clear hw hq1
        go_wp2_with fail
        go_loopw [39] (fun i ww => ∃ j : Nat, j ≤ pl ∧ i = .int .i64 j ∧ ww = wl ∧ Hid (inR 16777216 (p.take j) = true)) (fun i _ => pl - (intOf i).toNat)
        case atStart => exact ⟨0, by omega, rfl, rfl, rfl⟩
        case round =>
          obtain ⟨j, hj, rfl, rfl, hP2⟩ := hrel
          by_cases hlt2 : j < pl
          · obtain ⟨x, hx⟩ : ∃ x, p[j]? = some x := ⟨_, List.getElem?_eq_getElem (by rw [← HPl.out]; exact hlt2)⟩
            obtain ⟨xb, xo, rfl, hxb, _, x0⟩ := HI.out.at' (by rw [← HPl.out]; omega)
            have cx := x0 j x hx
            have hlt2' : (j : Int) < (pl : Int) := by omega
            have w5 : IntKind.i64.wrap ((j : Int) + 1) = (j : Int) + 1 := wid (by omega) (by omega)
            have hq2 := small_any x 16777216 (by decide) (by decide) wr
            cases hB2 : inB 16777216 x
            · rw [hB2] at hq2
              have HNo : Hid (ts.all tok = false) := all_no HTk.out (by unfold tok; rw [HB1.out, show inR 16777216 p = false from inR_take_no hx hB2]; rfl)
              clear hB2 x0 hx
              go_wp2_with fail
              refine hq2.mono ?_
              rintro e w2 ⟨rfl, hw⟩
              rw [hw]
              clear hw hq2
              go_wp2_with fail
              go_returns
              exact HQ3.out HNo.out
            · rw [hB2] at hq2
              have HS : Hid (inR 16777216 (p.take (j + 1)) = true) := inR_step hx hP2.out hB2
              clear hB2 x0 hx
              go_wp2_with fail
              refine hq2.mono ?_
              rintro e w2 ⟨rfl, hw⟩
              rw [hw]
              clear hw hq2
              go_wp2_with fail
              exact ⟨⟨j + 1, by omega, by go_num, trivial, HS⟩, by simp [intOf]; omega⟩
          · obtain rfl : j = pl := by omega
            have HOk : Hid ((ts.take (k + 1)).all tok = true) := all_step HTk.out hA.out (by
              have h1 := hP2.out
              rw [HPl.out, List.take_length] at h1
              unfold tok; rw [HB1.out, h1]; rfl)
            by_cases hgt : LG < j
            · have hgt' : (LG : Int) < (j : Int) := by omega
              have HM : Hid (max LG j = j) := by show _ = _; omega
              go_wp2_with fail
              exact ⟨⟨k + 1, by omega, by go_num, by rw [HLg.out, HM.out], HOk, trivial⟩, by simp [intOf]; omega⟩
            · have hgt' : ¬ (LG : Int) < (j : Int) := by omega
              have HM : Hid (max LG j = LG) := by show _ = _; omega
              go_wp2_with fail
              exact ⟨⟨k + 1, by omega, by go_num, by rw [HLg.out, HM.out], HOk, trivial⟩, by simp [intOf]; omega⟩
    · obtain rfl : k = n := by omega
      have hal : ts.take k = ts := List.take_of_length_le (by rw [HN.out.2.2]; exact Nat.le_refl _)
      have HAl : Hid (ts.all tok = true) := by have := hA.out; rwa [hal] at this
      rw [hal]
      obtain ⟨w2, hw2⟩ : ∃ x, x = wr := ⟨wr, rfl⟩
      subst hw2
      obtain ⟨N, hN⟩ : ∃ N, N = lng ts := ⟨_, rfl⟩
      have hln : N ≤ 17592186044416 := by rw [hN]; exact HLn.out
      rw [← hN] at HQ0 ⊢
      clear hA hN hal
      go_wp2_with fail
      go_loopw [12, 11] (fun i v ww => ∃ q : Nat, q ≤ N ∧ i = .int .i64 q ∧ Hid (ww.ownsRow w2.heap.size 3 1 v q (ints ((List.range q).map (tot ts)))) ∧ Hid (Below w2.heap.size w2 ww)) (fun i _ _ => N - (intOf i).toNat)
      case atStart => exact ⟨0, by omega, rfl, World.ownsRow_nil _ _ _ _, Below.refl _ _⟩
      case round =>
        obtain ⟨q, hq, rfl, hO, hB⟩ := hrel
        obtain ⟨oa, oc, rfl, oc1, oc2⟩ := own_form hO.out
        have zq := hB.out.size
        by_cases hlt : q < N
        · obtain ⟨wq, hwq⟩ : ∃ x, x = wr := ⟨wr, rfl⟩
          subst hwq
          have hltq' : (q : Int) < (N : Int) := by omega
          have w4 : IntKind.i64.wrap ((q : Int) + 1) = (q : Int) + 1 := wid (by omega) (by omega)
          go_wp2_with fail
          go_loopw [61, 13] (fun i v ww => ∃ j r : Nat, j ≤ k ∧ i = .int .i64 j ∧ v = .int .i64 (tot (ts.take j) q) ∧ ww = wq.drewN r) (fun i _ _ => k - (intOf i).toNat)
          case atStart => exact ⟨0, 0, by omega, rfl, rfl, rfl⟩
          case round =>
            obtain ⟨j, r, hj, rfl, rfl, rfl⟩ := hrel
            by_cases hlt3 : j < k
            · obtain ⟨p, g, p1, p2, p3, p4⟩ := HT.out j hlt3
              obtain ⟨nb, of, rfl, hnb, _, q0⟩ := (HP.out.keep (w' := wq) (N' := w2.heap.size) (fun b hb _ => hB.out.block b hb) zq (fun _ h _ => h)).at' (by rw [HN.out.1]; omega)
              obtain ⟨xa, xc, r0, r1, r2, r3, r4⟩ := q0 j p p1
              obtain ⟨gb, go, rfl, hgb, _, g0⟩ := (HG.out.keep (w' := wq) (S' := fun b => b < w2.heap.size) (fun b hb _ => hB.out.block b hb) zq (fun _ h _ => h)).at' (by rw [HN.out.2.1]; omega)
              have g1 := g0 j g p2
              have hlt3' : (j : Int) < (k : Int) := by omega
              have w3 : IntKind.i64.wrap ((j : Int) + 1) = (j : Int) + 1 := wid (by omega) (by omega)
              have hst : tot (ts.take (j + 1)) q = tot (ts.take j) q + g * at0 p q := tot_step (t := (p, g)) p3 q
              have htok : tok (p, g) = true := List.all_eq_true.1 HAl.out (p, g) (List.mem_of_getElem? p3)
              unfold tok at htok
              rw [Bool.and_eq_true] at htok
              have hbd : -(17592186044416 * (j : Int)) ≤ tot (ts.take j) q ∧ tot (ts.take j) q ≤ 17592186044416 * (j : Int) := by
                have h1 : (ts.take j).all tok = true := List.all_eq_true.2 (fun t ht => List.all_eq_true.1 HAl.out t (List.mem_of_mem_take ht))
                have := tot_bd h1 q
                rw [List.length_take, HN.out.2.2, Nat.min_eq_left (by omega)] at this
                exact this
              have hm := mul_bd (inB_iff.1 htok.1) (at0_bd (by decide) htok.2 q)
              obtain ⟨pl, hpl⟩ : ∃ pl, pl = p.length := ⟨_, rfl⟩
              rw [← hpl] at r0 r1 p4
              have HI : Hid (IL wq (fun b => b < w2.heap.size) xa p) := r4
              have HP0 : Hid (P[j]? = some p ∧ ts[j]? = some (p, g)) := ⟨p1, p3⟩
              by_cases hin : q < pl
              · obtain ⟨x, hx⟩ : ∃ x, p[q]? = some x := ⟨_, List.getElem?_eq_getElem (by rw [← hpl]; exact hin)⟩
                obtain ⟨xb, xo, rfl, hxb, _, x0⟩ := HI.out.at' (by rw [← hpl]; omega)
                have cx := x0 q x hx
                have ha : at0 p q = x := by unfold at0; rw [List.getD_eq_getElem?_getD, hx]; rfl
                rw [ha] at hst hm
                have HSt : Hid (tot (ts.take (j + 1)) q = tot (ts.take j) q + x * g) := by unfold Hid; rw [hst, Int.mul_comm]
                rw [Int.mul_comm] at hm
                generalize tot (ts.take j) q = TT at *
                obtain ⟨V, hV⟩ : ∃ V, x * g = V := ⟨_, rfl⟩
                rw [hV] at hm HSt
                have wV : IntKind.i64.wrap V = V := wid (by omega) (by omega)
                have wT : IntKind.i64.wrap (TT + V) = TT + V := wid (by omega) (by omega)
                have hin' : (q : Int) < (pl : Int) := by omega
                clear x0 hx ha hst htok q0 g0 p1 p2 p3 r3 r4 hpl hbd
                go_wp2_with fail
                go_quiet (fail)
                go_wp2_with fail
                exact ⟨⟨j + 1, _, by omega, by go_num, by rw [HSt.out], rfl⟩, by simp [intOf]; omega⟩
              · have ha : at0 p q = 0 := by unfold at0; rw [List.getD_eq_getElem?_getD, List.getElem?_eq_none (by omega)]; rfl
                have HSt : Hid (tot (ts.take (j + 1)) q = tot (ts.take j) q) := by unfold Hid; rw [hst, ha, Int.mul_zero, Int.add_zero]
                generalize tot (ts.take j) q = TT at *
                have hin' : ¬ (q : Int) < (pl : Int) := by omega
                clear ha hst htok q0 g0 p1 p2 p3 r3 r4 hpl hm hbd
                go_wp2_with fail
                exact ⟨⟨j + 1, _, by omega, by go_num, by rw [HSt.out], rfl⟩, by simp [intOf]; omega⟩
            · obtain rfl : j = k := by omega
              have hal : ts.take j = ts := List.take_of_length_le (by rw [HN.out.2.2]; exact Nat.le_refl _)
              rw [hal]
              have HR : Hid (ints ((List.range (q + 1)).map (tot ts)) = ints ((List.range q).map (tot ts)) ++ [.int .i64 (tot ts q)]) := by
                unfold Hid ints
                rw [List.range_succ, List.map_append, List.map_append]; rfl
              generalize tot ts q = TQ at *
              generalize ints ((List.range q).map (tot ts)) = RQ at *
              obtain ⟨W9, hW9⟩ : ∃ X, X = (wq.drewN r).alloc (Obj.cells #[.int .i64 TQ] 3) := ⟨_, rfl⟩
              have hb9 : Below wq.heap.size wq W9 := by rw [hW9]; exact (belD (w := wq) (n := r) (B := wq.heap.size)).alloc (Nat.le_refl _) _
              have hO9 : W9.ownsRow w2.heap.size 3 1 (.slice oa q oc) q RQ := own_step hO.out (fun i hi => hb9.block i (own_lt hO.out i hi))
              have c9 : W9.cell? ⟨wq.heap.size, 0, none⟩ = some (.int .i64 TQ) := by rw [hW9]; exact (World.cell?_alloc_at _ _ _ _ rfl).trans rfl
              have z9 : w2.heap.size ≤ W9.heap.size := by have := hb9.size; omega
              have HB9 : Hid (Below w2.heap.size w2 W9) := hB.out.trans (hb9.mono zq)
              have HO9 : Hid (∀ i, (Value.slice oa q oc).ownBlock = some i → w2.heap.size ≤ i) := own_block hO9
              rw [hW9] at hO9 c9 z9
              have hq63 : q < 17592186044416 := by omega
              have hq47 : (q + 1) * 8 ≤ 140737488355328 := by omega
              clear hb9 hal
              go_wp2_with (at_builtin; refine wpList_append_1 23 3 (.int .i64 0) 8 Try.underlying23 infoI rfl rfl (.tmp 82) (.tmp 84) rfl w2.heap.size _ q RQ rfl hO9 wq.heap.size (.int .i64 TQ) rfl c9 rfl hq63 hq47 z9 ?a1)
              case a1 =>
                intro v' w6 o6 g6
                rw [← hW9] at g6
                have HO6 : Hid (w6.ownsRow w2.heap.size 3 1 v' (q + 1) (ints ((List.range (q + 1)).map (tot ts)))) := by unfold Hid; rw [HR.out]; exact o6
                have HB6 : Hid (Below w2.heap.size w2 w6) := HB9.out.trans (g6.bel HB9.out.size HO9.out)
                clear o6 g6 hW9 hO9 c9 z9
                go_wp2_with fail
                exact ⟨⟨q + 1, by omega, by go_num, HO6, HB6⟩, by simp [intOf]; omega⟩
        · obtain rfl : q = N := by omega
          have HE : Hid (SrQ w2 P G (.returned (.tuple #[.slice oa q oc, .int .i64 0])) wr) := HQ0.out HAl.out wr _ hB.out hO.out
          clear hO hB
          go_wp2_with fail
          go_returns
          exact HE.out
end Go.Proofs.Ytdlcnbfiklbiiaa.Mx
