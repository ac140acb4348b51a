/- MixOrder: the law's text, walked. -/
import Derived.Test.YtdlcnbfiklbiiaaMx20
import Derived.Deep.RegionLaw
import Derived.Deep.DeepCutAuto
namespace Go.Proofs.Ytdlcnbfiklbiiaa.Mx
open Go.RowKit Go.Maps Go.Sort
set_option linter.unusedVariables false
set_option linter.unusedSimpArgs false

theorem infoBo : (Try.prog.info? 4).map (fun i => (i.zero, i.size, i.bytes)) = some (some (.bool false), 1, 1) := by kernel_rfl
theorem se_zero {P : List (List Int)} {G : List Int} (h : se P G = 0) : G.length = P.length ∧ P.length ≤ 256 ∧ (P.zip G).all tok = true := by
  unfold se at h
  by_cases c1 : 256 < P.length
  · rw [if_pos c1] at h; cases h
  · rw [if_neg c1] at h
    by_cases c2 : G.length = P.length
    · rw [if_pos c2] at h
      by_cases c3 : (P.zip G).all tok = true
      · exact ⟨c2, by omega, c3⟩
      · rw [if_neg c3] at h; cases h
    · rw [if_neg c2] at h; cases h
theorem own_posv {w : World} {base : Nat} {e : TypeId} {size : Nat} {v : Value} {n : Nat} {xs : List Value} (hn : 0 < n) (h : w.ownsRow base e size v n xs) : ∃ g c, v = .slice (some ⟨g, 0, none⟩) n c ∧ base ≤ g := by
  rcases h.2 with ⟨q1, q2⟩ | ⟨g, cap, cur, q1, q2, _⟩
  · omega
  · exact ⟨g, cap, q1, q2⟩
theorem lt_cell' {w : World} {b o : Nat} {v : Value} (h : w.cell? ⟨b, o, none⟩ = some v) : b < w.heap.size := block_lt_of_cell h
theorem sum_same {LS : List (List Int)} {GS : List Int} {ts : List Tr} (h : LS.length ≤ 256) (hl : GS.length = LS.length) (hT : (LS.zip GS).all tok = true) (hs : sums (LS.zip GS) = sums ts) : se LS GS = 0 ∧ so LS GS = sums ts := by
  have e : se LS GS = 0 := by unfold se; rw [if_neg (by omega), if_pos hl, if_pos hT]
  exact ⟨e, by unfold so; rw [if_pos e, hs]⟩
theorem OS.same {w : World} {sb base N n : Nat} {P : List (List Int)} {G : List Int} {vl vg : Value} {os : List Nat} (h : OS w sb base N n P G vl vg os) (hP : P.length = n) (hG : G.length = n) (ho : os.length = n) : ((os.map fun i => P.getD i []).zip (os.map fun i => G.getD i 0)).Perm (P.zip G) := by
  rw [zip_ord P G os (by omega) (fun i hi => by rw [hP]; exact h.lt i hi)]
  have e : (P.zip G).length = n := by rw [List.length_zip, hP, hG]; omega
  exact inOrd_perm h.nd (fun i hi => by rw [e]; exact h.lt i hi) (by rw [e]; exact ho)
set_option maxRecDepth 8000 in
set_option maxHeartbeats 8000000 in
theorem morder_walk (P : List (List Int)) (ao : Option Addr) (n cp : Nat) (G : List Int) (bo : Option Addr) (m cg : Nat) (o : List Int) (qo : Option Addr) (qn qc : Nat) (ct : Int) (w : World) (hP : PL w w.heap.size ao P) (hn : P.length = n) (hc1 : n ≤ cp) (hc2 : cp ≤ 9223372036854775807) (hlen : ∀ p ∈ P, p.length ≤ 17592186044416)
    (hG : IL w (fun k => k < w.heap.size) bo G) (hm : G.length = m) (hg1 : m ≤ cg) (hg2 : cg ≤ 9223372036854775807) (hQ : IL w (fun k => k < w.heap.size) qo o) (hqn : o.length = qn) (hqc : qn ≤ qc) (hqm : qc ≤ 9223372036854775807) :
    Calls Try.prog 5 #[.slice ao n cp, .slice bo m cg, .slice qo qn qc, .int .i64 ct] w fun e w' => e = .returned (.bool true) ∧ Below w.heap.size w w' := by
  have HP : Hid (PL w w.heap.size ao P) := hP
  have HG : Hid (IL w (fun k => k < w.heap.size) bo G) := hG
  have HQ : Hid (IL w (fun k => k < w.heap.size) qo o) := hQ
  have HLen : Hid (∀ p ∈ P, p.length ≤ 17592186044416) := hlen
  have HN : Hid (P.length = n ∧ G.length = m ∧ o.length = qn) := ⟨hn, hm, hqn⟩
  clear hP hG hQ hlen hn hm hqn
  go_enter Try.func5, Try.ntmps5
  go_wp2_with fail
  refine (alive_any _).mono ?_
  rintro e w1 ⟨rfl, hb1⟩
  have z1 := hb1.size
  have hq := Sum_any P G (fun k => k < w.heap.size) ao bo n m cp cg w1 (HP.out.keep (fun b hb _ => hb1.block b hb) z1 (fun b hb _ => by omega)) (HG.out.keep (fun b hb _ => hb1.block b hb) z1 (fun _ h _ => h)) (fun b hb => by omega) HN.out.1 HN.out.2.1 hc1 hc2 hg1 hg2 HLen.out
  have HB1 : Hid (Below w.heap.size w w1) := hb1
  clear hb1
  go_wp2_with fail
  refine hq.mono ?_
  rintro e w2 ⟨⟨sa, sc, rfl, s1, s2, s3, s4⟩, hb2⟩
  have HB2 : Hid (Below w.heap.size w w2) := HB1.out.trans (hb2.mono z1)
  have hbs : Hid (w1.heap.size ≤ w2.heap.size) := hb2.size
  clear hq hb2
  by_cases hse : se P G = 0
  · have hfit := se_zero hse
    rw [hse]
    obtain ⟨e1, e2, e3⟩ := hfit
    obtain rfl : m = n := by rw [← HN.out.1, ← HN.out.2.1]; exact e1
    have hso : so P G = sums (P.zip G) := by unfold so; rw [if_pos hse]
    rw [hso] at s1 s4 ⊢
    obtain ⟨sn, hsn⟩ : ∃ sn, sn = (sums (P.zip G)).length := ⟨_, rfl⟩
    rw [← hsn] at s1 ⊢
    have HS : Hid (IL w2 (fun k => w1.heap.size ≤ k) sa (sums (P.zip G)) ∧ sn = (sums (P.zip G)).length) := ⟨s4, hsn⟩
    have HTok : Hid ((P.zip G).all tok = true) := e3
    clear hse hso s4 hsn e3
    by_cases hqq : qn = m
    · subst hqq
      by_cases hbig : 250 < qn
      · have hbig' : (250 : Int) < (qn : Int) := by omega
        have hne : ((qn : Int) != (qn : Int)) = false := by simp
        clear hbig
        go_wp2_with fail
        go_ret
        exact ⟨rfl, HB2.out⟩
      · have hbig' : ¬ (250 : Int) < (qn : Int) := by omega
        have hne : ((qn : Int) != (qn : Int)) = false := by simp
        have mk : (Instr.makeSlice 42 (.int .i64 (qn : Int)) (.int .i64 (qn : Int))).run Try.prog w2 = .ok (.slice (some ⟨w2.heap.size, 0, none⟩) qn qn) (w2.alloc (.cells (madeCells #[.bool false] qn) 4)) := run_make_row' (P := Try.prog) 42 4 (.bool false) 1 Try.underlying42 infoBo rfl .i64 .i64 qn (by omega) (by omega) w2
        have hbA : Below w2.heap.size w2 (w2.alloc (.cells (madeCells #[.bool false] qn) 4)) := (Below.refl _ _).alloc (Nat.le_refl _) _
        have hsn0 : (w2.alloc (.cells (madeCells #[.bool false] qn) 4)).rowIs w2.heap.size 4 qn (fun i => .bool (decide (i ∈ ([] : List Nat)))) := World.rowIs.congr (World.rowIs_made w2 (.bool false) qn 4) (fun i _ => by simp)
        have hzA : (w2.alloc (.cells (madeCells #[.bool false] qn) 4)).heap.size = w2.heap.size + 1 := by simp
        go_wp2_with (simp only [mk])
        generalize w2.alloc (.cells (madeCells #[.bool false] qn) 4) = W0 at *
        clear mk
        have hzL : w2.heap.size < W0.heap.size := by omega
        clear hzA
        have hwz : w.heap.size ≤ w2.heap.size := HB2.out.size
        have HB0 : Hid (Below w.heap.size w W0) := HB2.out.trans (hbA.mono hwz)
        have HOS0 : Hid (OS W0 w2.heap.size W0.heap.size w.heap.size qn P G (.slice none 0 0) (.slice none 0 0) []) := ⟨fun i hi => absurd hi (by simp), List.nodup_nil, VO.nil _ _ _, World.ownsRow_nil _ _ _ _, fun q hq => by simp [Value.ownBlock] at hq, hsn0⟩
        have HS0 : Hid (IL W0 (fun k => w1.heap.size ≤ k ∧ k < w2.heap.size) sa (sums (P.zip G))) := HS.out.1.keep (fun b _ hl => hbA.block b hl) hbA.size (fun b hb hl => ⟨hb, hl⟩)
        clear hsn0
        go_loopw [46, 12, 13] (fun i a b ww => ∃ k : Nat, k ≤ qn ∧ i = .int .i64 k ∧ Hid (∃ os : List Nat, os.length = k ∧ OS ww w2.heap.size W0.heap.size w.heap.size qn P G a b os) ∧ Hid (Kn W0 w2.heap.size W0.heap.size ww)) (fun i _ _ _ => qn - (intOf i).toNat)
        case atStart => exact ⟨0, by omega, rfl, ⟨[], rfl, HOS0⟩, Kn.refl _ _ _⟩
        case round =>
          obtain ⟨k, hk, rfl, hE, hK⟩ := hrel
          obtain ⟨os, hol, hOS⟩ := hE.out
          have zr := hK.out.z
          by_cases hlt : k < qn
          · obtain ⟨x, hx⟩ : ∃ x, o[k]? = some x := ⟨_, List.getElem?_eq_getElem (by rw [HN.out.2.2]; exact hlt)⟩
            have hkeep : ∀ b, b < w.heap.size → wr.heap[b]? = w.heap[b]? := fun b hb => (hK.out.k b (by omega) (by omega)).trans (HB0.out.block b hb)
            obtain ⟨nb, of, hqo, hnb, _, q0⟩ := (HQ.out.keep (w' := wr) (S' := fun k => k < w.heap.size) (fun b hb _ => hkeep b hb) (by omega) (fun _ h _ => h)).at' (by rw [HN.out.2.2]; omega)
            subst hqo
            have x0 := q0 k x hx
            have hlt' : (k : Int) < (qn : Int) := by omega
            have w3 : IntKind.i64.wrap ((k : Int) + 1) = (k : Int) + 1 := wid (by omega) (by omega)
            have HBr : Hid (Below w.heap.size w wr) := HB0.out.trans (hK.out.b.mono hwz)
            by_cases n1 : x < 0
            · clear q0 hx hOS hE
              go_wp2_with fail
              go_ret
              exact ⟨rfl, HBr.out⟩
            by_cases n2 : (qn : Int) ≤ x
            · clear q0 hx hOS hE
              go_wp2_with fail
              go_ret
              exact ⟨rfl, HBr.out⟩
            obtain ⟨X, rfl⟩ : ∃ X : Nat, x = X := ⟨x.toNat, by omega⟩
            have hX : X < qn := by omega
            have cs : wr.cell? ⟨w2.heap.size, X, none⟩ = some (.bool (decide (X ∈ os))) := World.rowIs.cell hOS.sn hX
            have cf := World.rowIs.frozen hOS.sn X
            have lsb : w2.heap.size < wr.heap.size := by omega
            by_cases hmem : X ∈ os
            · rw [decide_eq_true hmem] at cs
              clear q0 hx hOS hE hmem
              go_wp2_with fail
              go_ret
              exact ⟨rfl, HBr.out⟩
            · rw [decide_eq_false hmem] at cs
              obtain ⟨p, hp⟩ : ∃ p, P[X]? = some p := ⟨_, List.getElem?_eq_getElem (by rw [HN.out.1]; exact hX)⟩
              obtain ⟨g, hg⟩ : ∃ g, G[X]? = some g := ⟨_, List.getElem?_eq_getElem (by rw [HN.out.2.1]; exact hX)⟩
              obtain ⟨W5, hW5⟩ : ∃ W5, W5 = wr.setCell ⟨w2.heap.size, X, none⟩ (.bool true) := ⟨_, rfl⟩
              have hk5 : Kn wr w2.heap.size W0.heap.size W5 := by rw [hW5]; exact Kn.put (.inl rfl) (Nat.le_refl _)
              have hz5 : W5.heap.size = wr.heap.size := by rw [hW5]; simp [World.setCell]
              have hkeep5 : ∀ b, b ≠ w2.heap.size → W5.heap[b]? = wr.heap[b]? := fun b hb => by rw [hW5]; exact Below.heap_setCell _ _ _ _ hb
              have HO5 : Hid (O1 W5 W0.heap.size w.heap.size u12 u13 (os.map fun i => P.getD i []) (os.map fun i => G.getD i 0)) := ⟨hOS.vo.step (fun j hj => hkeep5 j (by have := hOS.vo.ge j hj; omega)) (fun j hj _ => hkeep5 j (by omega)) (by omega), own_step (by have := hOS.gs; rw [List.length_map]; exact this) (fun j hj => hkeep5 j (by have := own_block hOS.gs j hj; omega)), hOS.ap⟩
              have HSn5 : Hid (W5.rowIs w2.heap.size 4 qn (fun i => .bool (decide (i ∈ os ++ [X])))) := by
                unfold Hid
                rw [hW5]
                refine World.rowIs.congr (World.rowIs.set hOS.sn X (.bool true)) (fun i _ => ?_)
                by_cases e : i = X
                · subst e; rw [if_pos rfl]; simp
                · rw [if_neg e]; simp [e]
              have hkeepw5 : ∀ b, b < w.heap.size → W5.heap[b]? = w.heap[b]? := fun b hb => (hkeep5 b (by omega)).trans (hkeep b hb)
              obtain ⟨pb, po, hpo, lpb, _, p0⟩ := (HP.out.keep (w' := W5) (N' := w.heap.size) (fun b hb _ => hkeepw5 b hb) (by omega) (fun _ h _ => h)).at' (by rw [HN.out.1]; omega)
              subst hpo
              obtain ⟨xa, xc, cP, r1, r2, r3, r4⟩ := p0 X p hp
              obtain ⟨gb, go, hgo, lgb, lgbN, g0⟩ := (HG.out.keep (w' := W5) (S' := fun k => k < w.heap.size) (fun b hb _ => hkeepw5 b hb) (by omega) (fun _ h _ => h)).at' (by rw [HN.out.2.1]; omega)
              subst hgo
              have cG := g0 X g hg
              have HK5 : Hid (Kn W0 w2.heap.size W0.heap.size W5) := hK.out.trans hk5
              have HOs : Hid ((∀ i ∈ os ++ [X], i < qn) ∧ (os ++ [X]).Nodup ∧ os.length = k) := ⟨fun i hi => by
                rcases List.mem_append.1 hi with q | q
                · exact hOS.lt i q
                · simp at q; omega, List.nodup_append.2 ⟨hOS.nd, by simp, fun a ha b hb e => hmem (by simp at hb; rw [← hb, ← e]; exact ha)⟩, hol⟩
              have HIp : Hid (IL W5 (fun b => b < w.heap.size) xa p ∧ P[X]? = some p ∧ G[X]? = some g) := ⟨r4, hp, hg⟩
              obtain ⟨pl, hpl⟩ : ∃ pl, pl = p.length := ⟨_, rfl⟩
              rw [← hpl] at cP r1
              obtain ⟨LS, hLS⟩ : ∃ LS, LS = os.map fun i => P.getD i [] := ⟨_, rfl⟩
              obtain ⟨GS, hGS⟩ : ∃ GS, GS = os.map fun i => G.getD i 0 := ⟨_, rfl⟩
              have hLl : LS.length = k := by rw [hLS, List.length_map]; exact hol
              have hGl : GS.length = k := by rw [hGS, List.length_map]; exact hol
              rw [← hLS, ← hGS] at HO5
              obtain ⟨Vs, o1, o2, o3⟩ := HO5.out.vo.ex
              obtain ⟨la, lc, rfl, lc1, lc2⟩ := own_form o1
              have o4 := HO5.out.gs
              obtain ⟨ga, gc, rfl, gc1, gc2⟩ := own_form o4
              rw [hLl] at o1 lc1 HO5 ⊢
              rw [hGl] at o4 gc1 HO5 ⊢
              have hNb : w.heap.size ≤ W0.heap.size := by omega
              have hbase : W0.heap.size ≤ W5.heap.size := by omega
              have HA : Hid (∀ (W1 : World) v1 w7, Below W5.heap.size W5 W1 → w7.ownsRow W0.heap.size 23 1 v1 (k + 1) (Vs ++ [.slice xa pl xc]) → Gw W1 w7 (.slice la k lc) v1 → O1 w7 W0.heap.size w.heap.size v1 (.slice ga k gc) (LS ++ [p]) GS ∧ W5.heap.size ≤ w7.heap.size ∧ Below W0.heap.size W5 w7 ∧ w7.ownsRow W0.heap.size 3 1 (.slice ga k gc) k (ints GS)) := fun W1 v1 w7 hb h7 g7 => by
                have hone := HO5.out.one hNb hbase hb g7 Vs o2 o3 (p := p) (a := xa) (c := xc) (by rw [hLl, ← hpl]; exact h7) (fun q hq => own_block o1 q hq) (by rw [← hpl]; exact r1) r2 r3 HIp.out.1
                refine ⟨hone, by have := hb.size; have := g7.gr.size; omega, (hb.mono hbase).trans (g7.bel (by have := hb.size; omega) (fun q hq => own_block o1 q hq)), by have := hone.gs; rw [hGl] at this; exact this⟩
              have HBq : Hid (∀ (W1 w7 : World) v1 v2 w9, O1 w7 W0.heap.size w.heap.size v1 (.slice ga k gc) (LS ++ [p]) GS ∧ W5.heap.size ≤ w7.heap.size ∧ Below W0.heap.size W5 w7 ∧ w7.ownsRow W0.heap.size 3 1 (.slice ga k gc) k (ints GS) → Below w7.heap.size w7 W1 → w9.ownsRow W0.heap.size 3 1 v2 (k + 1) (ints GS ++ [.int .i64 g]) → Gw W1 w9 (.slice ga k gc) v2 → O1 w9 W0.heap.size w.heap.size v1 v2 (LS ++ [p]) (GS ++ [g]) ∧ W5.heap.size ≤ w9.heap.size ∧ Below W0.heap.size W5 w9) := fun W1 w7 v1 v2 w9 h hb h9 g9 => by
                refine ⟨h.1.two hNb hb g9 (by rw [hGl]; exact h9), by have := hb.size; have := g9.gr.size; have := h.2.1; omega, (h.2.2.1.trans (hb.mono (by have := h.2.1; omega))).trans (g9.bel (by have := hb.size; have := h.2.1; omega) (fun q hq => own_block h.2.2.2 q hq))⟩
              have bi : Below W5.heap.size W5 ((W5.alloc (Obj.cells #[.slice xa pl xc] 23)).drew) := ((Below.refl W5.heap.size W5).alloc (Nat.le_refl _) _).drew
              have bii : Below W5.heap.size W5 (((W5.alloc (Obj.cells #[.slice xa pl xc] 23)).alloc (Obj.cells #[.int .i64 g] 3)).drew) := (((Below.refl W5.heap.size W5).alloc (Nat.le_refl _) _).alloc (by simp) _).drew
              have biii : Below W5.heap.size W5 (((W5.alloc (Obj.cells #[.int .i64 g] 3)).alloc (Obj.cells #[.slice xa pl xc] 23)).drew) := (((Below.refl W5.heap.size W5).alloc (Nat.le_refl _) _).alloc (by simp) _).drew
              have oi : ((W5.alloc (Obj.cells #[.slice xa pl xc] 23)).drew).ownsRow W0.heap.size 23 1 (.slice la k lc) k Vs := own_step o1 (fun j hj => bi.block j (own_lt o1 j hj))
              have oii : (((W5.alloc (Obj.cells #[.slice xa pl xc] 23)).alloc (Obj.cells #[.int .i64 g] 3)).drew).ownsRow W0.heap.size 23 1 (.slice la k lc) k Vs := own_step o1 (fun j hj => bii.block j (own_lt o1 j hj))
              have oiii : (((W5.alloc (Obj.cells #[.int .i64 g] 3)).alloc (Obj.cells #[.slice xa pl xc] 23)).drew).ownsRow W0.heap.size 23 1 (.slice la k lc) k Vs := own_step o1 (fun j hj => biii.block j (own_lt o1 j hj))
              have ci : ((W5.alloc (Obj.cells #[.slice xa pl xc] 23)).drew).cell? ⟨W5.heap.size, 0, none⟩ = some (.slice xa pl xc) := by simp [go_sem]
              have cii : (((W5.alloc (Obj.cells #[.slice xa pl xc] 23)).alloc (Obj.cells #[.int .i64 g] 3)).drew).cell? ⟨W5.heap.size, 0, none⟩ = some (.slice xa pl xc) := by simp [go_sem]
              have ciii : (((W5.alloc (Obj.cells #[.int .i64 g] 3)).alloc (Obj.cells #[.slice xa pl xc] 23)).drew).cell? ⟨W5.heap.size + 1, 0, none⟩ = some (.slice xa pl xc) := by simp [go_sem]
              have dii : (((W5.alloc (Obj.cells #[.slice xa pl xc] 23)).alloc (Obj.cells #[.int .i64 g] 3)).drew).cell? ⟨W5.heap.size + 1, 0, none⟩ = some (.int .i64 g) := by simp [go_sem]
              have diii : (((W5.alloc (Obj.cells #[.int .i64 g] 3)).alloc (Obj.cells #[.slice xa pl xc] 23)).drew).cell? ⟨W5.heap.size, 0, none⟩ = some (.int .i64 g) := by simp [go_sem]
              have zi : W0.heap.size ≤ ((W5.alloc (Obj.cells #[.slice xa pl xc] 23)).drew).heap.size := by simp; omega
              have zii : W0.heap.size ≤ (((W5.alloc (Obj.cells #[.slice xa pl xc] 23)).alloc (Obj.cells #[.int .i64 g] 3)).drew).heap.size := by simp; omega
              have ziii : W0.heap.size ≤ (((W5.alloc (Obj.cells #[.int .i64 g] 3)).alloc (Obj.cells #[.slice xa pl xc] 23)).drew).heap.size := by simp; omega
              have lo1 := own_lt o1
              have nii : some (W5.heap.size + 1) ≠ (Value.slice la k lc).ownBlock := fun e => by have := lo1 _ e.symm; omega
              have niii : some W5.heap.size ≠ (Value.slice la k lc).ownBlock := fun e => by have := lo1 _ e.symm; omega
              have lii : W5.heap.size + 1 < (((W5.alloc (Obj.cells #[.slice xa pl xc] 23)).alloc (Obj.cells #[.int .i64 g] 3)).drew).heap.size := by simp
              have liii : W5.heap.size < (((W5.alloc (Obj.cells #[.int .i64 g] 3)).alloc (Obj.cells #[.slice xa pl xc] 23)).drew).heap.size := by simp; omega
              have hk58 : k < 5864062014805 := by omega
              have hk17 : k < 17592186044416 := by omega
              have HF : Hid ((∀ i ∈ os ++ [X], i < qn) ∧ (os ++ [X]).Nodup ∧ os.length = k ∧ LS ++ [p] = (os ++ [X]).map (fun i => P.getD i []) ∧ GS ++ [g] = (os ++ [X]).map (fun i => G.getD i 0)) := ⟨HOs.out.1, HOs.out.2.1, HOs.out.2.2, by
                rw [hLS, List.map_append, show ([X] : List Nat).map (fun i => P.getD i []) = [p] from congrArg (· :: []) (getD_at HIp.out.2.1)], by
                rw [hGS, List.map_append, show ([X] : List Nat).map (fun i => G.getD i 0) = [g] from congrArg (· :: []) (getD_at HIp.out.2.2)]⟩
              have HEnd : Hid (∀ v1 v2 w9, O1 w9 W0.heap.size w.heap.size v1 v2 (LS ++ [p]) (GS ++ [g]) ∧ W5.heap.size ≤ w9.heap.size ∧ Below W0.heap.size W5 w9 → (∃ os : List Nat, os.length = k + 1 ∧ OS w9 w2.heap.size W0.heap.size w.heap.size qn P G v1 v2 os) ∧ Kn W0 w2.heap.size W0.heap.size w9) := fun v1 v2 w9 h => by
                obtain ⟨f1, f2, f3, f4, f5⟩ := HF.out
                refine ⟨⟨os ++ [X], by simp [f3], ⟨f1, f2, ?_, ?_, h.1.ap, World.rowIs.of_block HSn5.out (h.2.2.block _ hzL)⟩⟩, HK5.out.trans ⟨fun j hj _ => h.2.2.block j hj, h.2.2.size, h.2.2.mono (by omega)⟩⟩
                · rw [← f4]; exact h.1.vo
                · have h2 := h.1.gs
                  rw [f5, List.length_map] at h2
                  exact h2
              have lpb5 : pb < W5.heap.size := by omega
              have lgb5 : gb < W5.heap.size := by omega
              have lgbB : gb < W0.heap.size := by omega
              clear q0 hx hOS hE hmem hkeep p0 g0 r4 hp hg hK hkeep5 hkeepw5 hk5 HB0 HBr HO5 HOs HIp hpl hLS hGS hLl hGl o1 o2 o3 o4 hol lo1 hz5
              go_wp2_with fail
              rw [← hW5]
              clear hW5
              go_region_law (first
                | (refine step_append_s (w := ((W5.alloc (Obj.cells #[.slice xa pl xc] 23)).drew)) (by rfl) _ _ (by rfl) W0.heap.size (.slice la k lc) k Vs (by rfl) oi W5.heap.size xa pl xc (by rfl) ci hk58 zi ?_; intro v1 w7 h7 g7; have T1 : Hid _ := HA.out _ v1 w7 bi h7 g7; have cG7 : w7.cell? ⟨gb, go + X, none⟩ = some (.int .i64 g) := (World.cell?_of_block (w := W5) (w' := w7) (a := ⟨gb, go + X, none⟩) (T1.out.2.2.1.block gb lgbB)).trans cG; have lg7 : gb < w7.heap.size := Nat.lt_of_lt_of_le lgb5 T1.out.2.1; clear h7 g7)
                | (refine step_append_s (w := (((W5.alloc (Obj.cells #[.slice xa pl xc] 23)).alloc (Obj.cells #[.int .i64 g] 3)).drew)) (by rfl) _ _ (by rfl) W0.heap.size (.slice la k lc) k Vs (by rfl) oii W5.heap.size xa pl xc (by rfl) cii hk58 zii ?_; intro v1 w7 h7 g7; have T1 : Hid _ := HA.out _ v1 w7 bii h7 g7; have d7 := g7.cell lii nii dii; have cG7 : w7.cell? ⟨gb, go + X, none⟩ = some (.int .i64 g) := (World.cell?_of_block (w := W5) (w' := w7) (a := ⟨gb, go + X, none⟩) (T1.out.2.2.1.block gb lgbB)).trans cG; have lg7 : gb < w7.heap.size := Nat.lt_of_lt_of_le lgb5 T1.out.2.1; clear h7 g7)
                | (refine step_append_s (w := (((W5.alloc (Obj.cells #[.int .i64 g] 3)).alloc (Obj.cells #[.slice xa pl xc] 23)).drew)) (by rfl) _ _ (by rfl) W0.heap.size (.slice la k lc) k Vs (by rfl) oiii (W5.heap.size + 1) xa pl xc (by rfl) ciii hk58 ziii ?_; intro v1 w7 h7 g7; have T1 : Hid _ := HA.out _ v1 w7 biii h7 g7; have d7 := g7.cell liii niii diii; have cG7 : w7.cell? ⟨gb, go + X, none⟩ = some (.int .i64 g) := (World.cell?_of_block (w := W5) (w' := w7) (a := ⟨gb, go + X, none⟩) (T1.out.2.2.1.block gb lgbB)).trans cG; have lg7 : gb < w7.heap.size := Nat.lt_of_lt_of_le lgb5 T1.out.2.1; clear h7 g7)
                | (refine step_append_i (w := w7.alloc (Obj.cells #[.int .i64 g] 3)) (by rfl) _ _ (by rfl) W0.heap.size (.slice ga k gc) k (ints GS) (by rfl) (own_step T1.out.2.2.2 (fun j hj => Below.heap_alloc _ _ _ (own_lt T1.out.2.2.2 j hj))) w7.heap.size g (by rfl) (by simp [go_sem]) hk17 (by have := T1.out.2.1; simp; omega) ?_; intro v2 w9 h9 g9; have T2 : Hid _ := HBq.out _ w7 v1 v2 w9 T1.out ((Below.refl _ _).alloc (Nat.le_refl _) _) h9 g9; clear h9 g9)
                | (refine step_append_i (w := w7) (by rfl) _ _ (by rfl) W0.heap.size (.slice ga k gc) k (ints GS) (by rfl) T1.out.2.2.2 (W5.heap.size + 1) g (by rfl) d7 hk17 (by have := T1.out.2.1; omega) ?_; intro v2 w9 h9 g9; have T2 : Hid _ := HBq.out _ w7 v1 v2 w9 T1.out (Below.refl _ _) h9 g9; clear h9 g9)
                | (refine step_append_i (w := w7) (by rfl) _ _ (by rfl) W0.heap.size (.slice ga k gc) k (ints GS) (by rfl) T1.out.2.2.2 W5.heap.size g (by rfl) d7 hk17 (by have := T1.out.2.1; omega) ?_; intro v2 w9 h9 g9; have T2 : Hid _ := HBq.out _ w7 v1 v2 w9 T1.out (Below.refl _ _) h9 g9; clear h9 g9))
              all_goals
                obtain ⟨E1, E2⟩ := HEnd.out v1 v2 w9 T2.out
                have HE1 : Hid _ := E1
                have HE2 : Hid _ := E2
                clear E1 E2 T1 T2 HEnd HA HBq HF HSn5 HK5 bi bii biii oi oii oiii ci cii ciii dii diii cG7
                go_wp2_with fail
                exact ⟨⟨k + 1, by omega, by go_num, HE1, HE2⟩, by simp [intOf]; omega⟩
          · obtain rfl : k = qn := by omega
            obtain ⟨w3, hw3⟩ : ∃ x, x = wr := ⟨wr, rfl⟩
            subst hw3
            have hperm := hOS.same HN.out.1 HN.out.2.1 hol
            obtain ⟨LS, hLS⟩ : ∃ LS, LS = os.map fun i => P.getD i [] := ⟨_, rfl⟩
            obtain ⟨GS, hGS⟩ : ∃ GS, GS = os.map fun i => G.getD i 0 := ⟨_, rfl⟩
            have hVO := hOS.vo
            have hgs := hOS.gs
            rw [← hLS, ← hGS] at hperm
            rw [← hLS] at hVO
            rw [← hGS] at hgs
            have hLl : LS.length = k := by rw [hLS, List.length_map]; exact hol
            have hGl : GS.length = k := by rw [hGS, List.length_map]; exact hol
            rw [hol] at hgs
            have hPl : ∀ p ∈ LS, p.length ≤ 17592186044416 := fun p hp => by
              rw [hLS] at hp
              obtain ⟨i, hi, rfl⟩ := List.mem_map.1 hp
              have h1 := hOS.lt i hi
              obtain ⟨p, hp2⟩ : ∃ p, P[i]? = some p := ⟨_, List.getElem?_eq_getElem (by rw [HN.out.1]; exact h1)⟩
              rw [getD_at hp2]
              exact HLen.out p (List.mem_of_getElem? hp2)
            have hsm := sum_same (LS := LS) (GS := GS) (ts := P.zip G) (by omega) (by omega) (by rw [tok_perm hperm]; exact HTok.out) (sums_eq (lng_perm hperm) (tot_perm hperm))
            have HVO : Hid (VO w3 W0.heap.size w.heap.size u12 LS) := hVO
            have HOg : Hid (w3.ownsRow W0.heap.size 3 1 u13 k (ints GS)) := hgs
            have HAp : Hid (∀ q, u12.ownBlock = some q → u13.ownBlock ≠ some q) := hOS.ap
            have hzw3 : w.heap.size ≤ w3.heap.size := by omega
            obtain ⟨la, lc, rfl, lc1, lc2, hPL⟩ := hVO.PL hzw3
            obtain ⟨ga, gc, rfl, gc1, gc2, gc3, hIg⟩ := IL.own hgs hGl
            rw [hLl] at lc1 HVO HAp ⊢
            have HPf : Hid (PL w3 w3.heap.size la LS) := hPL
            have HGf : Hid (IL w3 (fun b => b < w3.heap.size) ga GS) := hIg.keep (fun _ _ _ => rfl) (Nat.le_refl _) (fun b _ hl => hl)
            have HLl : Hid (LS.length = k ∧ GS.length = k) := ⟨hLl, hGl⟩
            have HPl : Hid (∀ p ∈ LS, p.length ≤ 17592186044416) := hPl
            have HSm : Hid (se LS GS = 0 ∧ so LS GS = sums (P.zip G)) := hsm
            have HB3 : Hid (Below w.heap.size w w3) := HB0.out.trans (hK.out.b.mono hwz)
            have HS3 : Hid (IL w3 (fun b => w1.heap.size ≤ b ∧ b < w3.heap.size) sa (sums (P.zip G))) := HS0.out.keep (fun b hb hl => hK.out.k b hl (by omega)) zr (fun b hb _ => ⟨hb.1, by omega⟩)
            have HK3 : Hid (Kn W0 w2.heap.size W0.heap.size w3) := hK
            have HPerm : Hid (LS.Perm LS ∧ (LS.zip GS).Perm (P.zip G)) := ⟨List.Perm.refl _, hperm⟩
            have hsnb : sn ≤ 4611686018427387904 := by
              rw [HS.out.2, sums_len]
              have h1 := lng_le (ts := P.zip G) (N := 17592186044416) (fun t ht => HLen.out t.1 (List.of_mem_zip (show (t.1, t.2) ∈ P.zip G from ht)).1)
              omega
            clear hE hOS hVO hgs hLl hGl hPl hsm hPL hIg hperm hLS hGS hol HOS0
            by_cases hq0 : k = 0
            · subst hq0
              by_cases hA : True
              ·
                have hq9 := Sum_any LS GS (fun b => b < w3.heap.size) la ga 0 0 lc gc w3 HPf.out HGf.out (fun _ h => h) HLl.out.1 HLl.out.2 lc1 lc2 gc1 gc2 HPl.out
                have Hs2 : Hid (sc ≤ 9223372036854775807 ∧ sn ≤ sc) := ⟨s2, s1⟩
                clear HP HQ HG HLen HN HTok HOg HAp HVO HPf HGf HLl HPl HK3 HPerm gc3 s3 e1 e2 hbig hbig' hne hbA hzL hwz HB0 HB1 HB2 HS0 zr hzw3 lc1 lc2 gc1 gc2 hsnb hc1 hc2 hg1 hg2 hqc hqm hk hlt s1 s2 z1
                go_wp2_with fail
                refine hq9.mono ?_
                rintro e w8 ⟨⟨ta, tc, rfl, t1, t2, t3, t4⟩, hb8⟩
                rw [HSm.out.1, HSm.out.2] at *
                rw [← HS.out.2] at t1 ⊢
                have HB8 : Hid (Below w.heap.size w w8) := HB3.out.trans (hb8.mono HB3.out.size)
                have hS8 := Same_q w8 (fun b => w1.heap.size ≤ b ∧ b < w3.heap.size) (fun b => w3.heap.size ≤ b) sa ta (sums (P.zip G)) sn sc tc (HS3.out.keep (fun b hb _ => hb8.block b hb.2) hb8.size (fun _ h _ => h)) t4 HS.out.2.symm Hs2.out.2 Hs2.out.1 t1 t2
                clear hq9 hb8 t4 t1 t2 t3 HSm HS HS3 HB3 Hs2
                go_wp2_with fail
                refine hS8.mono ?_
                rintro e w9 ⟨rfl, q9, hw9⟩
                have HB9 : Hid (Below w.heap.size w w9) := by rw [hw9]; exact HB8.out.trans belD
                clear hS8 hw9
                go_wp2_with fail
                go_ret
                exact ⟨rfl, HB9.out⟩
              · exact absurd trivial hA
            · have hq0' : (0 : Int) < (k : Int) := by omega
              have hd1 : decide ((0 : Int) < (k : Int)) = true := by simp; omega
              have hd0 : decide (0 < k) = true := by simp; omega
              obtain ⟨lb, lo, hlo, llb, llb2, p0⟩ := HPf.out.at' (by rw [HLl.out.1]; omega)
              subst hlo
              obtain ⟨h0, hh0⟩ : ∃ h0, LS[0]? = some h0 := ⟨_, List.getElem?_eq_getElem (by rw [HLl.out.1]; omega)⟩
              obtain ⟨xa, xc, cP, r1, r2, r3, r4⟩ := p0 0 h0 hh0
              rw [Nat.add_zero] at cP
              obtain ⟨hl0, hhl⟩ : ∃ hl0, hl0 = h0.length := ⟨_, rfl⟩
              rw [← hhl] at cP r1
              have HH : Hid (LS[0]? = some h0 ∧ hl0 = h0.length ∧ IL w3 (fun b => b < w3.heap.size) xa h0) := ⟨hh0, hhl, r4⟩
              have HR3 : Hid (xa = none → xc = 0) := r3
              have HGc3 : Hid (ga = none → gc = 0) := gc3
              clear p0 hh0 hhl r4 r3 gc3 s3
              by_cases hct0 : ct < 0
              · have hq9 := Sum_any LS GS (fun b => b < w3.heap.size) (some ⟨lb, lo, none⟩) ga k k lc gc w3 HPf.out HGf.out (fun _ h => h) HLl.out.1 HLl.out.2 lc1 lc2 gc1 gc2 HPl.out
                have Hs2 : Hid (sc ≤ 9223372036854775807 ∧ sn ≤ sc) := ⟨s2, s1⟩
                clear HP HQ HG HLen HN HTok HOg HAp HVO HPf HGf HLl HPl HK3 HPerm hd0 hd1 cP r1 r2 HH HR3 HGc3 llb llb2 hq0 e1 e2 hbig hbig' hne hbA hzL hwz HB0 HB1 HB2 HS0 zr hzw3 lc1 lc2 gc1 gc2 hsnb hc1 hc2 hg1 hg2 hqc hqm hk hlt s1 s2 z1
                go_wp2_with fail
                refine hq9.mono ?_
                rintro e w8 ⟨⟨ta, tc, rfl, t1, t2, t3, t4⟩, hb8⟩
                rw [HSm.out.1, HSm.out.2] at *
                rw [← HS.out.2] at t1 ⊢
                have HB8 : Hid (Below w.heap.size w w8) := HB3.out.trans (hb8.mono HB3.out.size)
                have hS8 := Same_q w8 (fun b => w1.heap.size ≤ b ∧ b < w3.heap.size) (fun b => w3.heap.size ≤ b) sa ta (sums (P.zip G)) sn sc tc (HS3.out.keep (fun b hb _ => hb8.block b hb.2) hb8.size (fun _ h _ => h)) t4 HS.out.2.symm Hs2.out.2 Hs2.out.1 t1 t2
                clear hq9 hb8 t4 t1 t2 t3 HSm HS HS3 HB3 Hs2
                go_wp2_with fail
                refine hS8.mono ?_
                rintro e w9 ⟨rfl, q9, hw9⟩
                have HB9 : Hid (Below w.heap.size w w9) := by rw [hw9]; exact HB8.out.trans belD
                clear hS8 hw9
                go_wp2_with fail
                go_ret
                exact ⟨rfl, HB9.out⟩
              · have hct0' : 0 ≤ ct := Int.not_lt.1 hct0
                by_cases hct1 : ct ≤ (hl0 : Int)
                · obtain ⟨X, rfl⟩ : ∃ X : Nat, ct = X := ⟨ct.toNat, (Int.toNat_of_nonneg hct0').symm⟩
                  have hX : X ≤ hl0 := Int.ofNat_le.1 hct1
                  have hcl : hl0 ≤ 17592186044416 := by rw [HH.out.2.1]; exact HPl.out h0 (List.mem_of_getElem? HH.out.1)
                  have k0 : 0 < k := by omega
                  obtain ⟨Vs, o1, o2, o3⟩ := HVO.out.ex
                  rw [HLl.out.1] at o1
                  obtain ⟨hlo0, hlbb⟩ := own_head o1
                  subst hlo0
                  have ov := World.ownsRow.cellAt o1 0 (by omega)
                  obtain ⟨xa', xc', y1, y2, y3, y4, y5⟩ := o3 0 h0 HH.out.1
                  rw [cP, y1, ← HH.out.2.1] at ov
                  cases ov
                  have cf := World.ownsRow.frozenAt o1 0
                  obtain ⟨g0, hg0⟩ : ∃ g0, GS[0]? = some g0 := ⟨_, List.getElem?_eq_getElem (by rw [HLl.out.2]; exact k0)⟩
                  obtain ⟨gb, gc', hgv, hgbb⟩ := own_posv k0 HOg.out
                  cases hgv
                  have cG := World.ownsRow.cellAt HOg.out 0 (by omega)
                  rw [show (ints GS)[0]? = some (.int .i64 g0) from by unfold ints; rw [List.getElem?_map, hg0]; rfl] at cG
                  have hcs := cut_sums (LS := LS) (GS := GS) (h0 := h0) (g0 := g0) (n := X) (ts := P.zip G) (by rw [HLl.out.1, HLl.out.2]) HH.out.1 hg0 (by rw [← HH.out.2.1]; exact hX) (by rw [tok_perm HPerm.out.2]; exact HTok.out) (sums_eq (lng_perm HPerm.out.2) (tot_perm HPerm.out.2))
                  have hlen2 : (LS.set 0 (h0.take X) ++ [sec h0 X]).length = k + 1 ∧ (GS ++ [g0]).length = k + 1 := by simp [HLl.out.1, HLl.out.2]
                  have HLl2 : Hid ((LS.set 0 (h0.take X) ++ [sec h0 X]).length = k + 1 ∧ (GS ++ [g0]).length = k + 1) := hlen2
                  have HSm2 : Hid (se (LS.set 0 (h0.take X) ++ [sec h0 X]) (GS ++ [g0]) = 0 ∧ so (LS.set 0 (h0.take X) ++ [sec h0 X]) (GS ++ [g0]) = sums (P.zip G)) := sum_same (by omega) (by omega) hcs.1 hcs.2
                  have HPl2 : Hid (∀ p ∈ LS.set 0 (h0.take X) ++ [sec h0 X], p.length ≤ 17592186044416) := fun p hp => by
                    rcases List.mem_append.1 hp with h | h
                    · rcases List.mem_or_eq_of_mem_set h with h | h
                      · exact HPl.out p h
                      · rw [h, List.length_take]; omega
                    · simp at h; rw [h, sec_len (by rw [← HH.out.2.1]; exact hX), ← HH.out.2.1]; exact hcl
                  have s18 : ∀ W : World, (Instr.slice 23 (.slice xa hl0 xc) none (some (.int .i64 (X : Int))) (some (.int .i64 (X : Int)))).run Try.prog W = .ok (.slice xa X X) W := fun W => run_to xa hl0 xc X (Nat.le_trans hX r1) W
                  have mk : ∀ W : World, (Instr.makeSlice 23 (.int .i64 (hl0 : Int)) (.int .i64 (hl0 : Int))).run Try.prog W = .ok (.slice (some ⟨W.heap.size, 0, none⟩) hl0 hl0) (W.alloc (.cells (madeCells #[.int .i64 0] hl0) 3)) := fun W => run_make_row' (P := Try.prog) 23 3 (.int .i64 0) 8 Try.underlying23 infoI rfl .i64 .i64 hl0 (by omega) (by omega) W
                  have s19a : ∀ W : World, (Instr.slice 23 (.slice (some ⟨w3.heap.size, 0, none⟩) hl0 hl0) (some (.int .i64 (X : Int))) none none).run Try.prog W = .ok (.slice (frm (some ⟨w3.heap.size, 0, none⟩) X hl0) (hl0 - X) (hl0 - X)) W := fun W => run_from _ hl0 hl0 X hX W
                  have s19b : ∀ W : World, (Instr.slice 23 (.slice xa hl0 xc) (some (.int .i64 (X : Int))) none none).run Try.prog W = .ok (.slice (frm xa X xc) (hl0 - X) (xc - X)) W := fun W => run_from _ hl0 xc X hX W
                  have HEl : Hid (VS w3 W0.heap.size (fun b => b < w.heap.size) (.slice (some ⟨lb, 0, none⟩) k lc) LS Vs ∧ IL w3 (fun b => b < w.heap.size) xa h0) := ⟨⟨by rw [HLl.out.1]; exact o1, o2, o3⟩, y5⟩
                  have HOgg : Hid (w3.ownsRow W0.heap.size 3 1 (.slice (some ⟨gb, 0, none⟩) k gc) k (ints GS)) := HOg.out
                  have HApp : Hid (lb ≠ gb) := fun e => HAp.out lb rfl (by rw [e]; rfl)
                  have HSz : Hid (w.heap.size ≤ W0.heap.size ∧ w2.heap.size < W0.heap.size ∧ W0.heap.size ≤ w3.heap.size ∧ w1.heap.size ≤ w2.heap.size) := ⟨by omega, hzL, zr, hbs.out⟩
                  have HLim : Hid (k ≤ lc ∧ lc ≤ 9223372036854775807 ∧ k ≤ gc ∧ gc ≤ 9223372036854775807 ∧ hl0 ≤ xc ∧ xc ≤ 9223372036854775807 ∧ sn ≤ sc ∧ sc ≤ 9223372036854775807) := ⟨lc1, lc2, gc1, gc2, r1, r2, s1, s2⟩
                  have hk250 : k ≤ 250 := by omega
                  have lbw : lb < w3.heap.size := lt_cell' cP
                  have gbw : gb < w3.heap.size := lt_cell' cG
                  have HG0 : Hid (GS[0]? = some g0 ∧ W0.heap.size ≤ gb ∧ W0.heap.size ≤ lb) := ⟨hg0, hgbb, hlbb⟩
                  have HS4 : Hid (IL w3 (fun b => w1.heap.size ≤ b ∧ b < w2.heap.size) sa (sums (P.zip G))) := HS0.out.keep (fun b hb hl => HK3.out.k b hl (by omega)) zr (fun b hb _ => hb)
                  have HR3b : Hid (xa = none → X = 0) := fun e => by have := HR3.out e; omega
                  clear HP HQ HG HLen HN HTok HPf HGf HPl HLl HPerm HSm hd1 e1 e2 hbig hbig' hne hbA HB0 HB1 HB2 HS0 lc1 lc2 gc1 gc2 hc1 hc2 hg1 hg2 hqc hqm hk hlt s1 s2 z1 hct0 hct0' o1 o2 o3 y1 y2 y3 y4 y5 hcs hlen2 hg0 HAp HVO HOg HGc3 HK3 hzL hwz hzw3 llb llb2 hq0' zr hlbb hgbb
                  go_wp2_with fail
                  go_region
                  have hb4 : Below w3.heap.size w3 (w3.alloc (.cells (madeCells #[.int .i64 0] hl0) 3)).drew := ((Below.refl _ _).alloc (Nat.le_refl _) _).drew
                  have hF4 : FR (w3.alloc (.cells (madeCells #[.int .i64 0] hl0) 3)).drew w3.heap.size hl0 (fun _ => 0) := World.rowIs_made w3 (.int .i64 0) hl0 3
                  have hz4 : (w3.alloc (.cells (madeCells #[.int .i64 0] hl0) 3)).drew.heap.size = w3.heap.size + 1 := by simp
                  generalize (w3.alloc (.cells (madeCells #[.int .i64 0] hl0) 3)).drew = W4 at *
                  have c4 := keepC (a := ⟨lb, 0, none⟩) hb4 lbw cP
                  have lb4 : lb < W4.heap.size := by omega
                  have hl4 : w3.heap.size < W4.heap.size := by omega
                  have HF4 : Hid (FR W4 w3.heap.size hl0 (fun _ => 0)) := hF4
                  clear hF4 hz4 s18 mk
                  go_wp2_with fail
                  have hb5 : Below W4.heap.size W4 W4.drew := (Below.refl _ _).drew
                  have hIc := (((HEl.out.2.keep (w' := W4.drew) (S' := fun b => b < w.heap.size) (fun b hb hl => by rw [hb5.block b (by omega), hb4.block b hl]) (by have := hb5.size; omega) (fun _ h _ => h)).drop X xc (by rw [← HH.out.2.1]; exact HLim.out.2.2.2.2.1)))
                  have hcs : (h0.drop X).length = hl0 - X := by rw [List.length_drop, ← HH.out.2.1]
                  have hFd : FR W4.drew w3.heap.size hl0 (fun _ => 0) := World.rowIs.of_block HF4.out (hb5.block _ hl4)
                  have hmn : (h0.drop X).length = Nat.min (hl0 - X) (hl0 - X) := by rw [hcs]; exact (Nat.min_self _).symm
                  have hps : 0 < (h0.drop X).length → frm (some ⟨w3.heap.size, 0, none⟩) X hl0 = some ⟨w3.heap.size, X, none⟩ ∧ ∃ b o2, frm xa X xc = some ⟨b, o2, none⟩ ∧ ∀ (j : Nat) x, (h0.drop X)[j]? = some x → W4.drew.cell? ⟨b, o2 + j, none⟩ = some (.int .i64 x) := fun hp => by
                    rw [hcs] at hp
                    obtain ⟨b2, off2, t1, _, _, t4⟩ := hIc.at' (by rw [hcs]; exact hp)
                    refine ⟨?_, b2, off2, t1, t4⟩
                    unfold frm
                    rw [if_neg (by omega)]
                    show some ((⟨w3.heap.size, 0, none⟩ : Addr).add X) = _
                    unfold Addr.add
                    by_cases e : X = 0 <;> simp [e]
                  have hft : X + (h0.drop X).length ≤ hl0 := by rw [hcs]; omega
                  have Hpack : Hid (FR W4.drew w3.heap.size hl0 (fun _ => 0) ∧ (h0.drop X).length = Nat.min (hl0 - X) (hl0 - X) ∧ (0 < (h0.drop X).length → frm (some ⟨w3.heap.size, 0, none⟩) X hl0 = some ⟨w3.heap.size, X, none⟩ ∧ ∃ b o2, frm xa X xc = some ⟨b, o2, none⟩ ∧ ∀ (j : Nat) x, (h0.drop X)[j]? = some x → W4.drew.cell? ⟨b, o2 + j, none⟩ = some (.int .i64 x)) ∧ X + (h0.drop X).length ≤ hl0) := ⟨hFd, hmn, hps, hft⟩
                  clear hIc hcs hFd hmn hps hft
                  go_region_law (refine step_copy_fr (by rfl) (.tmp 110) (.tmp 115) (by rfl) (frm (some ⟨w3.heap.size, 0, none⟩) X hl0) (frm xa X xc) (hl0 - X) (hl0 - X) (hl0 - X) (xc - X) (by rfl) (by rfl) w3.heap.size X hl0 (fun _ => 0) Hpack.out.1 (h0.drop X) Hpack.out.2.1 Hpack.out.2.2.1 Hpack.out.2.2.2 ?_; intro w6 hF6 hb6 hk6 hz6)
                  have z45 := hb5.size
                  have hkk : ∀ b, b < w3.heap.size → w6.heap[b]? = w3.heap[b]? := fun b hb => by rw [hb6.block b hb, hb5.block b (by omega), hb4.block b hb]
                  have c6 : w6.cell? ⟨lb, 0, none⟩ = some (.slice xa hl0 xc) := (World.cell?_of_block (w := w3) (w' := w6) (a := ⟨lb, 0, none⟩) (hkk lb lbw)).trans cP
                  have f6 : w6.frozen? ⟨lb, 0, none⟩ = false := (World.frozen?_of_block (w := w3) (w' := w6) (a := ⟨lb, 0, none⟩) (hkk lb lbw)).trans cf
                  have g6 : w6.cell? ⟨gb, 0, none⟩ = some (.int .i64 g0) := (World.cell?_of_block (w := w3) (w' := w6) (a := ⟨gb, 0, none⟩) (hkk gb gbw)).trans cG
                  have l6 : w3.heap.size < w6.heap.size := by omega
                  have lb6 : lb < w6.heap.size := by omega
                  have HK6 : Hid (∀ b, b < w3.heap.size → w6.heap[b]? = w3.heap[b]?) := hkk
                  have HB6 : Hid (Below w.heap.size w w6) := HB3.out.trans (((hb4.trans (hb5.mono (by omega))).trans hb6).mono HB3.out.size)
                  have HI6 : Hid (IL w6 (fun b => b = w3.heap.size) (some ⟨w3.heap.size, 0, none⟩) (sec h0 X)) := hF6.out.il (l := sec h0 X) (by rw [sec_len (by rw [← HH.out.2.1]; exact hX), ← HH.out.2.1]) (fun i hi => lay_sec h0 X i (by rw [← HH.out.2.1]; exact hX)) l6 _ rfl
                  clear hF6 hb6 hk6 hz6 z45 hkk hb5 Hpack HF4 c4 cP cf cG s19a s19b hb4 hl4 lb4
                  go_wp2_with fail
                  obtain ⟨W7, hW7⟩ : ∃ W, W = w6.setCell ⟨lb, 0, none⟩ (.slice xa X X) := ⟨_, rfl⟩
                  rw [← hW7]
                  have z7 : W7.heap.size = w6.heap.size := by rw [hW7]; simp [World.setCell]
                  have hk7 : ∀ b, b ≠ lb → W7.heap[b]? = w6.heap[b]? := fun b hb => by rw [hW7]; exact Below.heap_setCell _ _ _ _ (by show b ≠ lb; exact hb)
                  have hV6 : VS w6 W0.heap.size (fun b => b < w.heap.size ∨ b = w3.heap.size) (.slice (some ⟨lb, 0, none⟩) k lc) LS Vs := HEl.out.1.keep (fun j hj => by cases hj; exact HK6.out _ lbw) (fun b hb _ => HK6.out b (by have := HSz.out; omega)) (by omega) (fun b hb _ => Or.inl hb)
                  have hX6 : IL w6 (fun b => b < w.heap.size ∨ b = w3.heap.size) xa (h0.take X) := (HEl.out.2.keep (S' := fun b => b < w.heap.size ∨ b = w3.heap.size) (fun b hb _ => HK6.out b (by have := HSz.out; omega)) (by omega) (fun b hb _ => Or.inl hb)).take X
                  have hV7 := hV6.set0 (by have := HLl2.out.1; simp at this; exact this) 0 k0 (m := X) (c := X) (by rw [List.length_take, ← HH.out.2.1]; omega) (Nat.le_refl _) (by omega) HR3b.out hX6 (fun b hb _ => by have := HG0.out; have := HSz.out; omega)
                  rw [← hW7] at hV7
                  have hO7 : W7.ownsRow W0.heap.size 3 1 (.slice (some ⟨gb, 0, none⟩) k gc) k (ints GS) := own_step HOgg.out (fun j hj => by cases hj; rw [hk7 gb (fun e => HApp.out e.symm), HK6.out gb gbw])
                  have hI7 : IL W7 (fun b => b < w.heap.size ∨ b = w3.heap.size) (some ⟨w3.heap.size, 0, none⟩) (sec h0 X) := HI6.out.keep (fun b hb _ => by subst hb; exact hk7 _ (by omega)) (by omega) (fun b hb _ => Or.inr hb)
                  have HS7 : Hid (IL W7 (fun b => w1.heap.size ≤ b ∧ b < w2.heap.size) sa (sums (P.zip G))) := HS4.out.keep (fun b hb hl => by rw [hk7 b (by have := HG0.out; have := HSz.out; omega), HK6.out b hl]) (by omega) (fun _ h _ => h)
                  have HB7 : Hid (Below w.heap.size w W7) := by
                    show Below _ _ _
                    rw [hW7]; exact HB6.out.setCell (p := ⟨lb, 0, none⟩) (by show w.heap.size ≤ lb; have := HG0.out; have := HSz.out; omega) _
                  have cG : W7.cell? ⟨gb, 0, none⟩ = some (.int .i64 g0) := (World.cell?_of_block (w := w6) (w' := W7) (a := ⟨gb, 0, none⟩) (hk7 gb (fun e => HApp.out e.symm))).trans g6
                  have hsl : (sec h0 X).length = hl0 := by rw [sec_len (by rw [← HH.out.2.1]; exact hX), ← HH.out.2.1]
                  obtain ⟨Vs7, hVs7⟩ : ∃ V, V = Vs.set 0 (.slice xa X X) := ⟨_, rfl⟩
                  rw [← hVs7] at hV7
                  have HV7 : Hid (VS W7 W0.heap.size (fun b => b < w.heap.size ∨ b = w3.heap.size) (.slice (some ⟨lb, 0, none⟩) k lc) (LS.set 0 (h0.take X)) Vs7) := hV7
                  have HO7 : Hid (W7.ownsRow W0.heap.size 3 1 (.slice (some ⟨gb, 0, none⟩) k gc) k (ints GS)) := hO7
                  have HI7 : Hid (IL W7 (fun b => b < w.heap.size ∨ b = w3.heap.size) (some ⟨w3.heap.size, 0, none⟩) (sec h0 X)) := hI7
                  have hl7 : (LS.set 0 (h0.take X)).length = k := by have := HLl2.out.1; simp at this; rw [List.length_set]; exact this
                  have o1 := hV7.own
                  rw [hl7] at o1
                  have lbW : lb < W7.heap.size := by omega
                  have gbW : gb < W7.heap.size := by omega
                  have sbW : w3.heap.size < W7.heap.size := by omega
                  have HW7s : Hid (W7.heap.size = w6.heap.size ∧ w3.heap.size < w6.heap.size) := ⟨z7, l6⟩
                  have HA : Hid (∀ (W1 : World) v1 w7, Below W7.heap.size W7 W1 → w7.ownsRow W0.heap.size 23 1 v1 (k + 1) (Vs7 ++ [.slice (some ⟨w3.heap.size, 0, none⟩) hl0 hl0]) → Gw W1 w7 (.slice (some ⟨lb, 0, none⟩) k lc) v1 → VS w7 W0.heap.size (fun b => b < w.heap.size ∨ b = w3.heap.size) v1 (LS.set 0 (h0.take X) ++ [sec h0 X]) (Vs7 ++ [.slice (some ⟨w3.heap.size, 0, none⟩) hl0 hl0]) ∧ W7.heap.size ≤ w7.heap.size ∧ Below W0.heap.size W7 w7 ∧ w7.ownsRow W0.heap.size 3 1 (.slice (some ⟨gb, 0, none⟩) k gc) k (ints GS) ∧ (∀ q, v1.ownBlock = some q → q ≠ gb) ∧ w7.cell? ⟨gb, 0, none⟩ = some (.int .i64 g0)) := fun W1 v1 w7 hb h7 g7 => by
                    have zz := hb.size
                    have zg := g7.gr.size
                    have hgbk : w7.heap[gb]? = W7.heap[gb]? := by rw [g7.gr.block gb (by omega) (fun e => by cases e; exact HApp.out rfl), hb.block gb gbW]
                    refine ⟨?_, by omega, ?_, own_step HO7.out (fun j hj => by cases hj; exact hgbk), ?_, (World.cell?_of_block (w := W7) (w' := w7) (a := ⟨gb, 0, none⟩) hgbk).trans cG⟩
                    · have hp := HV7.out.put (a := (some ⟨w3.heap.size, 0, none⟩)) (c := hl0) (p := sec h0 X) hb g7 (fun b hbS _ e => by have e2 : b = lb := Option.some.inj (show some b = some lb from e); have := HG0.out; have := HSz.out; omega) (by rw [hl7, hsl]; exact h7) (by omega) (by omega) (fun e => by cases e) HI7.out
                      rw [hsl] at hp; exact hp
                    · exact (hb.mono (by have := HSz.out; have := HW7s.out; omega)).trans (g7.bel (by have := HSz.out; have := HW7s.out; omega) (fun q hq => by cases hq; exact HG0.out.2.2))
                    · intro q hq
                      rcases g7.ob with e | ⟨j, e, hj⟩
                      · rw [e] at hq; cases hq; exact HApp.out
                      · rw [e] at hq; cases hq; omega
                  have HBq : Hid (∀ (W1 w7 : World) v1 v2 w9, (VS w7 W0.heap.size (fun b => b < w.heap.size ∨ b = w3.heap.size) v1 (LS.set 0 (h0.take X) ++ [sec h0 X]) (Vs7 ++ [.slice (some ⟨w3.heap.size, 0, none⟩) hl0 hl0]) ∧ W7.heap.size ≤ w7.heap.size ∧ Below W0.heap.size W7 w7 ∧ w7.ownsRow W0.heap.size 3 1 (.slice (some ⟨gb, 0, none⟩) k gc) k (ints GS) ∧ (∀ q, v1.ownBlock = some q → q ≠ gb) ∧ w7.cell? ⟨gb, 0, none⟩ = some (.int .i64 g0)) → Below w7.heap.size w7 W1 → w9.ownsRow W0.heap.size 3 1 v2 (k + 1) (ints GS ++ [.int .i64 g0]) → Gw W1 w9 (.slice (some ⟨gb, 0, none⟩) k gc) v2 → VS w9 W0.heap.size (fun b => b < w.heap.size ∨ b = w3.heap.size) v1 (LS.set 0 (h0.take X) ++ [sec h0 X]) (Vs7 ++ [.slice (some ⟨w3.heap.size, 0, none⟩) hl0 hl0]) ∧ w9.ownsRow W0.heap.size 3 1 v2 (k + 1) (ints (GS ++ [g0])) ∧ Below W0.heap.size W7 w9) := fun W1 w7 v1 v2 w9 h hb h9 g9 => by
                    have zz := hb.size
                    have zg := g9.gr.size
                    have z17 := h.2.1
                    refine ⟨h.1.keep (fun j hj => ?_) (fun b hbS hl => ?_) (by omega) (fun _ h _ => h), ?_, h.2.2.1.trans ((hb.mono (by have := HSz.out; have := HW7s.out; omega)).trans (g9.bel (by have := HSz.out; have := HW7s.out; omega) (fun q hq => by cases hq; exact HG0.out.2.1)))⟩
                    · have hjl := own_lt h.1.own j hj
                      rw [g9.gr.block j (by omega) (fun e => by cases e; exact h.2.2.2.2.1 _ hj rfl), hb.block j hjl]
                    · rw [g9.gr.block b (by omega) (fun e => by have e2 : b = gb := Option.some.inj (show some b = some gb from e); have := HG0.out; have := HSz.out; omega), hb.block b hl]
                    · have e : ints (GS ++ [g0]) = ints GS ++ [.int .i64 g0] := by unfold ints; rw [List.map_append]; rfl
                      rw [e]; exact h9
                  have bi : Below W7.heap.size W7 ((W7.alloc (Obj.cells #[.slice (some ⟨w3.heap.size, 0, none⟩) hl0 hl0] 23)).drew) := ((Below.refl W7.heap.size W7).alloc (Nat.le_refl _) _).drew
                  have bii : Below W7.heap.size W7 (((W7.alloc (Obj.cells #[.slice (some ⟨w3.heap.size, 0, none⟩) hl0 hl0] 23)).alloc (Obj.cells #[.int .i64 g0] 3)).drew) := (((Below.refl W7.heap.size W7).alloc (Nat.le_refl _) _).alloc (by simp) _).drew
                  have biii : Below W7.heap.size W7 (((W7.alloc (Obj.cells #[.int .i64 g0] 3)).alloc (Obj.cells #[.slice (some ⟨w3.heap.size, 0, none⟩) hl0 hl0] 23)).drew) := (((Below.refl W7.heap.size W7).alloc (Nat.le_refl _) _).alloc (by simp) _).drew
                  have oi : ((W7.alloc (Obj.cells #[.slice (some ⟨w3.heap.size, 0, none⟩) hl0 hl0] 23)).drew).ownsRow W0.heap.size 23 1 (.slice (some ⟨lb, 0, none⟩) k lc) k Vs7 := own_step o1 (fun j hj => bi.block j (own_lt o1 j hj))
                  have oii : (((W7.alloc (Obj.cells #[.slice (some ⟨w3.heap.size, 0, none⟩) hl0 hl0] 23)).alloc (Obj.cells #[.int .i64 g0] 3)).drew).ownsRow W0.heap.size 23 1 (.slice (some ⟨lb, 0, none⟩) k lc) k Vs7 := own_step o1 (fun j hj => bii.block j (own_lt o1 j hj))
                  have oiii : (((W7.alloc (Obj.cells #[.int .i64 g0] 3)).alloc (Obj.cells #[.slice (some ⟨w3.heap.size, 0, none⟩) hl0 hl0] 23)).drew).ownsRow W0.heap.size 23 1 (.slice (some ⟨lb, 0, none⟩) k lc) k Vs7 := own_step o1 (fun j hj => biii.block j (own_lt o1 j hj))
                  have ci : ((W7.alloc (Obj.cells #[.slice (some ⟨w3.heap.size, 0, none⟩) hl0 hl0] 23)).drew).cell? ⟨W7.heap.size, 0, none⟩ = some (.slice (some ⟨w3.heap.size, 0, none⟩) hl0 hl0) := by simp [go_sem]
                  have cii : (((W7.alloc (Obj.cells #[.slice (some ⟨w3.heap.size, 0, none⟩) hl0 hl0] 23)).alloc (Obj.cells #[.int .i64 g0] 3)).drew).cell? ⟨W7.heap.size, 0, none⟩ = some (.slice (some ⟨w3.heap.size, 0, none⟩) hl0 hl0) := by simp [go_sem]
                  have ciii : (((W7.alloc (Obj.cells #[.int .i64 g0] 3)).alloc (Obj.cells #[.slice (some ⟨w3.heap.size, 0, none⟩) hl0 hl0] 23)).drew).cell? ⟨W7.heap.size + 1, 0, none⟩ = some (.slice (some ⟨w3.heap.size, 0, none⟩) hl0 hl0) := by simp [go_sem]
                  have dii : (((W7.alloc (Obj.cells #[.slice (some ⟨w3.heap.size, 0, none⟩) hl0 hl0] 23)).alloc (Obj.cells #[.int .i64 g0] 3)).drew).cell? ⟨W7.heap.size + 1, 0, none⟩ = some (.int .i64 g0) := by simp [go_sem]
                  have diii : (((W7.alloc (Obj.cells #[.int .i64 g0] 3)).alloc (Obj.cells #[.slice (some ⟨w3.heap.size, 0, none⟩) hl0 hl0] 23)).drew).cell? ⟨W7.heap.size, 0, none⟩ = some (.int .i64 g0) := by simp [go_sem]
                  have hbase : W0.heap.size ≤ W7.heap.size := by have := HSz.out; have := HW7s.out; omega
                  have zi : W0.heap.size ≤ ((W7.alloc (Obj.cells #[.slice (some ⟨w3.heap.size, 0, none⟩) hl0 hl0] 23)).drew).heap.size := by simp; omega
                  have zii : W0.heap.size ≤ (((W7.alloc (Obj.cells #[.slice (some ⟨w3.heap.size, 0, none⟩) hl0 hl0] 23)).alloc (Obj.cells #[.int .i64 g0] 3)).drew).heap.size := by simp; omega
                  have ziii : W0.heap.size ≤ (((W7.alloc (Obj.cells #[.int .i64 g0] 3)).alloc (Obj.cells #[.slice (some ⟨w3.heap.size, 0, none⟩) hl0 hl0] 23)).drew).heap.size := by simp; omega
                  have nii : some (W7.heap.size + 1) ≠ (Value.slice (some ⟨lb, 0, none⟩) k lc).ownBlock := fun e => by have e2 : W7.heap.size + 1 = lb := Option.some.inj (show some _ = some lb from e); omega
                  have niii : some W7.heap.size ≠ (Value.slice (some ⟨lb, 0, none⟩) k lc).ownBlock := fun e => by have e2 : W7.heap.size = lb := Option.some.inj (show some _ = some lb from e); omega
                  have lii : W7.heap.size + 1 < (((W7.alloc (Obj.cells #[.slice (some ⟨w3.heap.size, 0, none⟩) hl0 hl0] 23)).alloc (Obj.cells #[.int .i64 g0] 3)).drew).heap.size := by simp
                  have liii : W7.heap.size < (((W7.alloc (Obj.cells #[.int .i64 g0] 3)).alloc (Obj.cells #[.slice (some ⟨w3.heap.size, 0, none⟩) hl0 hl0] 23)).drew).heap.size := by simp; omega
                  have hk58 : k < 5864062014805 := by omega
                  have hk17 : k < 17592186044416 := by omega
                  clear hW7 z7 hk7 hV6 hX6 hV7 hO7 hI7 hsl hVs7 o1 hl7 HV7 HO7 HI7 l6 lb6 c6 f6 g6 HB6 HI6 HK6 HEl HOgg
                  go_region_law (first
                    | (refine step_append_s (w := ((W7.alloc (Obj.cells #[.slice (some ⟨w3.heap.size, 0, none⟩) hl0 hl0] 23)).drew)) (by rfl) _ _ (by rfl) W0.heap.size (.slice (some ⟨lb, 0, none⟩) k lc) k Vs7 (by rfl) oi W7.heap.size (some ⟨w3.heap.size, 0, none⟩) hl0 hl0 (by rfl) ci hk58 zi ?_; intro v1 w7 h7 g7; have T1 : Hid _ := HA.out _ v1 w7 bi h7 g7; have cG7 := T1.out.2.2.2.2.2; have lg7 : gb < w7.heap.size := Nat.lt_of_lt_of_le gbW T1.out.2.1; clear h7 g7)
                    | (refine step_append_s (w := (((W7.alloc (Obj.cells #[.slice (some ⟨w3.heap.size, 0, none⟩) hl0 hl0] 23)).alloc (Obj.cells #[.int .i64 g0] 3)).drew)) (by rfl) _ _ (by rfl) W0.heap.size (.slice (some ⟨lb, 0, none⟩) k lc) k Vs7 (by rfl) oii W7.heap.size (some ⟨w3.heap.size, 0, none⟩) hl0 hl0 (by rfl) cii hk58 zii ?_; intro v1 w7 h7 g7; have T1 : Hid _ := HA.out _ v1 w7 bii h7 g7; have d7 := g7.cell lii nii dii; have cG7 := T1.out.2.2.2.2.2; have lg7 : gb < w7.heap.size := Nat.lt_of_lt_of_le gbW T1.out.2.1; clear h7 g7)
                    | (refine step_append_s (w := (((W7.alloc (Obj.cells #[.int .i64 g0] 3)).alloc (Obj.cells #[.slice (some ⟨w3.heap.size, 0, none⟩) hl0 hl0] 23)).drew)) (by rfl) _ _ (by rfl) W0.heap.size (.slice (some ⟨lb, 0, none⟩) k lc) k Vs7 (by rfl) oiii (W7.heap.size + 1) (some ⟨w3.heap.size, 0, none⟩) hl0 hl0 (by rfl) ciii hk58 ziii ?_; intro v1 w7 h7 g7; have T1 : Hid _ := HA.out _ v1 w7 biii h7 g7; have d7 := g7.cell liii niii diii; have cG7 := T1.out.2.2.2.2.2; have lg7 : gb < w7.heap.size := Nat.lt_of_lt_of_le gbW T1.out.2.1; clear h7 g7)
                    | (refine step_append_i (w := w7.alloc (Obj.cells #[.int .i64 g0] 3)) (by rfl) _ _ (by rfl) W0.heap.size (.slice (some ⟨gb, 0, none⟩) k gc) k (ints GS) (by rfl) (own_step T1.out.2.2.2.1 (fun j hj => Below.heap_alloc _ _ _ (own_lt T1.out.2.2.2.1 j hj))) w7.heap.size g0 (by rfl) (by simp [go_sem]) hk17 (by have := T1.out.2.1; simp; omega) ?_; intro v2 w9 h9 g9; have T2 : Hid _ := HBq.out _ w7 v1 v2 w9 T1.out ((Below.refl _ _).alloc (Nat.le_refl _) _) h9 g9; clear h9 g9)
                    | (refine step_append_i (w := w7) (by rfl) _ _ (by rfl) W0.heap.size (.slice (some ⟨gb, 0, none⟩) k gc) k (ints GS) (by rfl) T1.out.2.2.2.1 (W7.heap.size + 1) g0 (by rfl) d7 hk17 (by have := T1.out.2.1; omega) ?_; intro v2 w9 h9 g9; have T2 : Hid _ := HBq.out _ w7 v1 v2 w9 T1.out (Below.refl _ _) h9 g9; clear h9 g9)
                    | (refine step_append_i (w := w7) (by rfl) _ _ (by rfl) W0.heap.size (.slice (some ⟨gb, 0, none⟩) k gc) k (ints GS) (by rfl) T1.out.2.2.2.1 W7.heap.size g0 (by rfl) d7 hk17 (by have := T1.out.2.1; omega) ?_; intro v2 w9 h9 g9; have T2 : Hid _ := HBq.out _ w7 v1 v2 w9 T1.out (Below.refl _ _) h9 g9; clear h9 g9))
                  all_goals
                    obtain ⟨la2, lcc, hv1, l1, l2, hPL⟩ := T2.out.1.vo.PL (Nat.le_refl _)
                    subst hv1
                    obtain ⟨ga2, gcc, hv2, g1, g2, _, hILg⟩ := IL.own T2.out.2.1 HLl2.out.2
                    subst hv2
                    have HB9 : Hid (Below w.heap.size w w9) := HB7.out.trans (T2.out.2.2.mono HSz.out.1)
                    have HS9 : Hid (IL w9 (fun b => w1.heap.size ≤ b ∧ b < w2.heap.size) sa (sums (P.zip G))) := HS7.out.keep (fun b hb _ => T2.out.2.2.block b (by have := HSz.out; omega)) T2.out.2.2.size (fun _ h _ => h)
                    have hz9 : Hid (w2.heap.size ≤ w9.heap.size) := by show _ ≤ _; have := T2.out.2.2.size; have := HSz.out; omega
                    have hILg2 := hILg.keep (w' := w9) (S' := fun b => b < w9.heap.size) (fun _ _ _ => rfl) (Nat.le_refl _) (fun b _ hl => hl)
                    rw [HLl2.out.1] at l1 ⊢
                    have hq9 := Sum_any (LS.set 0 (h0.take X) ++ [sec h0 X]) (GS ++ [g0]) (fun b => b < w9.heap.size) la2 ga2 (k + 1) (k + 1) lcc gcc w9 hPL hILg2 (fun _ h => h) HLl2.out.1 HLl2.out.2 l1 l2 g1 g2 HPl2.out
                    clear T1 T2 HA HBq bi bii biii oi oii oiii ci cii ciii dii diii cG7 hPL hILg hILg2 HB7 HS7 cG HPl2 HLl2 HG0 HR3b HS4 l1 l2 g1 g2 zi zii ziii nii niii lii liii
                    go_wp2_with fail
                    refine hq9.mono ?_
                    rintro e w8 ⟨⟨ta, tc, rfl, t1, t2, t3, t4⟩, hb8⟩
                    rw [HSm2.out.1, HSm2.out.2] at *
                    rw [← HS.out.2] at t1 ⊢
                    have HB8 : Hid (Below w.heap.size w w8) := HB9.out.trans (hb8.mono HB9.out.size)
                    have hS8 := Same_q w8 (fun b => w1.heap.size ≤ b ∧ b < w2.heap.size) (fun b => w9.heap.size ≤ b) sa ta (sums (P.zip G)) sn sc tc (HS9.out.keep (fun b hb hl => hb8.block b hl) hb8.size (fun _ h _ => h)) t4 HS.out.2.symm HLim.out.2.2.2.2.2.2.1 HLim.out.2.2.2.2.2.2.2 t1 t2
                    clear hq9 hb8 t4 t1 t2 t3 HSm2 HS HS9 HB9 HLim
                    go_wp2_with fail
                    refine hS8.mono ?_
                    rintro e w10 ⟨rfl, q10, hw10⟩
                    have HB10 : Hid (Below w.heap.size w w10) := by rw [hw10]; exact HB8.out.trans belD
                    clear hS8 hw10
                    go_wp2_with fail
                    go_ret
                    exact ⟨rfl, HB10.out⟩
                · have hct1' : (hl0 : Int) < ct := Int.not_le.1 hct1
                  have hq9 := Sum_any LS GS (fun b => b < w3.heap.size) (some ⟨lb, lo, none⟩) ga k k lc gc w3 HPf.out HGf.out (fun _ h => h) HLl.out.1 HLl.out.2 lc1 lc2 gc1 gc2 HPl.out
                  have Hs2 : Hid (sc ≤ 9223372036854775807 ∧ sn ≤ sc) := ⟨s2, s1⟩
                  clear HP HQ HG HLen HN HTok HOg HAp HVO HPf HGf HLl HPl HK3 HPerm hd0 hd1 r1 r2 HH HR3 HGc3 hq0 e1 e2 hbig hbig' hne hbA hzL hwz HB0 HB1 HB2 HS0 zr hzw3 lc1 lc2 gc1 gc2 hsnb hc1 hc2 hg1 hg2 hqc hqm hk hlt s1 s2 z1
                  go_wp2_with fail
                  refine hq9.mono ?_
                  rintro e w8 ⟨⟨ta, tc, rfl, t1, t2, t3, t4⟩, hb8⟩
                  rw [HSm.out.1, HSm.out.2] at *
                  rw [← HS.out.2] at t1 ⊢
                  have HB8 : Hid (Below w.heap.size w w8) := HB3.out.trans (hb8.mono HB3.out.size)
                  have hS8 := Same_q w8 (fun b => w1.heap.size ≤ b ∧ b < w3.heap.size) (fun b => w3.heap.size ≤ b) sa ta (sums (P.zip G)) sn sc tc (HS3.out.keep (fun b hb _ => hb8.block b hb.2) hb8.size (fun _ h _ => h)) t4 HS.out.2.symm Hs2.out.2 Hs2.out.1 t1 t2
                  clear hq9 hb8 t4 t1 t2 t3 HSm HS HS3 HB3 Hs2
                  go_wp2_with fail
                  refine hS8.mono ?_
                  rintro e w9 ⟨rfl, q9, hw9⟩
                  have HB9 : Hid (Below w.heap.size w w9) := by rw [hw9]; exact HB8.out.trans belD
                  clear hS8 hw9
                  go_wp2_with fail
                  go_ret
                  exact ⟨rfl, HB9.out⟩
    · have hqq' : ((qn : Int) != (m : Int)) = true := by simp; omega
      clear hqq
      go_wp2_with fail
      go_ret
      exact ⟨rfl, HB2.out⟩
  · have hse' : (se P G != 0) = true := by simp [hse]
    generalize se P G = E at *
    clear hse
    go_wp2_with fail
    go_ret
    exact ⟨rfl, HB2.out⟩
end Go.Proofs.Ytdlcnbfiklbiiaa.Mx
