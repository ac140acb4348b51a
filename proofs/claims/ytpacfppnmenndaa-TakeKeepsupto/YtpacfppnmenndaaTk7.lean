/- with. -/
import Derived.Test.YtpacfppnmenndaaTk6
namespace Go.Proofs.Ytpacfppnmenndaa.Tk
open Go.RowKit Go.Maps Go.Sort Go.Proofs.Ytpacfppnmenndaa.Rg
open Go.Proofs.Ytpacfppnmenndaa.Y (Tn lt okT wr fst cod bfr OkL TL tab tc rows)
set_option linter.unusedVariables false
set_option linter.unusedSimpArgs false

theorem Y.add_block (a : Addr) (j : Nat) : (a.add j).block = a.block := by unfold Addr.add; by_cases h : j = 0 <;> simp [h]
theorem infoSL : (Try.prog.info? 30).map (fun i => (i.zero, i.size, i.bytes)) = some (some (.slice none 0 0), 1, 24) := by kernel_rfl
theorem sizeSL (w : World) : (Go.sizeOf 30).run Try.prog w = .ok 1 w := by
  simp [Go.sizeOf]
  kernel_rfl
theorem run_three (la : Option Addr) (m c n : Nat) (h1 : n ≤ c) (w : World) : (Instr.slice 68 (.slice la m c) none (some (.int .i64 (n : Int))) (some (.int .i64 (n : Int)))).run Try.prog w = .ok (.slice la n n) w := by
  have hu : Try.prog.underlying 68 = some (.slice 30) := Try.underlying68
  unfold Instr.slice
  simp [run_underlying hu, Instr.sliceBounds, run_sliceBound, h1, sizeSL]
  intro _
  exact map_add0 la
/-- A row of slices that is one's own, as versions. -/
theorem VR.own {w : World} {S : Nat → Prop} {v : Value} {n base : Nat} {xs : List Value} {vs : List (List Tn)} (h : w.ownsRow base 30 1 v n xs) (hn : vs.length = n) (h0 : 0 < n) (hS : ∀ b, base ≤ b → S b)
    (hx : ∀ (j : Nat) L, vs[j]? = some L → ∃ ao c, xs[j]? = some (.slice ao L.length c) ∧ L.length ≤ c ∧ c ≤ 9223372036854775807 ∧ (ao = none → c = 0) ∧ LN w S ao L) : ∃ va vc, v = .slice va n vc ∧ n ≤ vc ∧ vc ≤ 9223372036854775807 ∧ (va = none → vc = 0) ∧ VR w S va vs := by
  rcases h.2 with ⟨e1, e2⟩ | ⟨q, cap, cur, e1, e2, e3, e4, hm, rest⟩
  · omega
  · refine ⟨some ⟨q, 0, none⟩, cap, e1, e4, by unfold maxLen at hm; omega, (fun q => by cases q), ⟨fun _ => ⟨q, 0, rfl, (Array.getElem?_eq_some_iff.1 e3).1, hS q e2, fun j L hj => ?_⟩⟩⟩
    subst e1
    have hjl : j < vs.length := (List.getElem?_eq_some_iff.1 hj).1
    obtain ⟨ao, c, k1, k2⟩ := hx j L hj
    refine ⟨ao, c, ?_, k2⟩
    rw [Nat.zero_add, World.ownsRow.cellAt h j (by omega)]
    exact k1
set_option maxRecDepth 20000 in
set_option maxHeartbeats 4000000 in
theorem with_any (S : Nat → Prop) (va lo : Option Addr) (vc lc' : Nat) (h : Hs) (L : List Tn) (w : World) (hV : HV w S va vc h) (hst : h.st ≤ h.vs.length) (hs : h.st ≤ 1024) (hL : LN w S lo L) (hl1 : L.length ≤ lc') (hl2 : lc' ≤ 9223372036854775807) (hl3 : lo = none → lc' = 0) (hS : ∀ b, w.heap.size ≤ b → S b) :
    Calls Try.prog 40 #[.agg #[.slice va h.vs.length vc, .int .i64 h.st], .slice lo L.length lc'] w fun e w' => (∃ va' vc', e = .returned (.agg #[.slice va' (h.st + 1) vc', .int .i64 (h.st + 1 : Nat)]) ∧ HV w' S va' vc' (h.add L)) ∧ Below w.heap.size w w' := by
  have hvl : (h.vs.take h.st).length = h.st := by rw [List.length_take]; omega
  have HX : Hid (∃ xs : List Value, xs.length = h.st ∧ (∀ b, va = some b → ∀ j u, xs[j]? = some u → w.cell? (b.add j) = some u) ∧ (∀ u ∈ xs, u.oneCell' = true) ∧ (∀ b, va = some b → b.block < w.heap.size ∨ h.st = 0) ∧
      ∀ (j : Nat) M, (h.vs.take h.st)[j]? = some M → ∃ ao c, xs[j]? = some (.slice ao M.length c) ∧ M.length ≤ c ∧ c ≤ 9223372036854775807 ∧ (ao = none → c = 0) ∧ LN w S ao M) := by
    by_cases h0 : h.st = 0
    · refine ⟨[], by rw [h0]; rfl, fun b _ j u hj => by simp at hj, fun u hu => by simp at hu, fun b _ => .inr h0, fun j M hj => ?_⟩
      rw [h0, List.take_zero] at hj; simp at hj
    · obtain ⟨b, off, xs, k1, k2, k3, k4, k5, k6, k7⟩ := (hV.v.take h.st).ex (by omega)
      refine ⟨xs, by omega, fun b' hb j u hj => ?_, k6, fun b' hb => ?_, k7⟩
      · rw [k1] at hb; cases hb
        have := k5 j u hj
        rw [Addr.add_lit]; exact this
      · rw [k1] at hb; cases hb
        exact .inl k2
  obtain ⟨xs, x1, x2, x3, x4, x5⟩ := HX.out
  obtain ⟨WA, hWA⟩ : ∃ X, X = (w.alloc (.cells #[.slice va h.vs.length vc, .int .i64 h.st] 70)).alloc (.cells #[.slice none 0 0, .int .i64 0] 70) := ⟨_, rfl⟩
  have hbA : Below w.heap.size w WA := by rw [hWA]; exact ((Below.refl _ _).alloc (Nat.le_refl _) _).alloc (by simp) _
  have zA : WA.heap.size = w.heap.size + 2 := by rw [hWA]; simp
  have c0 : WA.cell? ⟨w.heap.size, 0, none⟩ = some (.slice va h.vs.length vc) := by rw [hWA]; simp [go_sem]
  have c1 : WA.cell? ⟨w.heap.size, 1, none⟩ = some (.int .i64 h.st) := by rw [hWA]; simp [go_sem]
  have r0 : WA.cell? ⟨w.heap.size + 1, 0, none⟩ = some (.slice none 0 0) := by rw [hWA]; simp [go_sem]
  have r1 : WA.cell? ⟨w.heap.size + 1, 1, none⟩ = some (.int .i64 0) := by rw [hWA]; simp [go_sem]
  have f0 : WA.frozen? ⟨w.heap.size + 1, 0, none⟩ = false := by rw [hWA]; simp [go_sem]
  have f1 : WA.frozen? ⟨w.heap.size + 1, 1, none⟩ = false := by rw [hWA]; simp [go_sem]
  have hv1 := hV.c1
  have hv2 := hV.c2
  have hv3 := hV.c3
  have s1 := run_three va h.vs.length vc h.st (by omega)
  have wA1 : IntKind.i64.wrap ((h.st : Int) + 1) = (h.st : Int) + 1 := wid (by omega) (by omega)
  have HL : Hid (LN w S lo L ∧ L.length ≤ lc' ∧ lc' ≤ 9223372036854775807 ∧ (lo = none → lc' = 0)) := ⟨hL, hl1, hl2, hl3⟩
  have HV' : Hid (h.vs.take h.st ++ [L] = (h.add L).vs ∧ (h.add L).st = h.st + 1) := ⟨rfl, rfl⟩
  have hv4 : va = none → h.st = 0 := fun e => by have := hv3 e; omega
  clear hV hL hl1 hl2 hl3
  have X5 : Hid (∀ (j : Nat) M, (h.vs.take h.st)[j]? = some M → ∃ ao c, xs[j]? = some (.slice ao M.length c) ∧ M.length ≤ c ∧ c ≤ 9223372036854775807 ∧ (ao = none → c = 0) ∧ LN w S ao M) := x5
  have X2 : Hid (∀ b, va = some b → ∀ j u, xs[j]? = some u → w.cell? (b.add j) = some u) := x2
  clear x5 x2
  generalize h.vs.take h.st = vt at *
  generalize h.add L = hN at *
  generalize h.vs.length = n at *
  generalize h.st = st at *
  generalize hll : L.length = ll at *
  have Hll : Hid (L.length = ll) := hll
  clear hll
  go_enter Try.func40, Try.ntmps40
  go_wp2_with fail
  rw [← hWA]
  clear hWA
  go_wp2_with fail
  have hC : ∀ w', Below WA.heap.size WA w' → w.heap.size + 1 < w'.heap.size ∧ w'.cell? ⟨w.heap.size, 1, none⟩ = some (.int .i64 st) := fun w' hb => ⟨by have := hb.size; omega, keepC hb (by omega) c1⟩
  refine RF.wp_region_last (fun w' : World => Below WA.heap.size WA w') (fun k => k != 2 && k != 3) 8 _ rfl (by kernel_rfl) (by kernel_rfl) (by kernel_rfl) (by kernel_rfl) (by kernel_rfl) (by go_grown) ?_
  dsimp only [List.take]
  refine RF.wpFl_readC rfl rfl (.slice va st st) (fun w' hw' => by unfold RM.valAt; go_simp) ?_
  refine RF.wpFl_readC rfl rfl (.slice lo ll lc') (fun w' hw' => by unfold RM.valAt; go_simp) ?_
  refine RF.wpFl_doC rfl rfl (fun K hK => ?_)
  go_wp2_with fail
  obtain ⟨WB, hWB⟩ : ∃ X, X = (WA.alloc (.cells #[.slice lo ll lc'] 30)).drew := ⟨_, rfl⟩
  have hbB : Below WA.heap.size WA WB := by rw [hWB]; exact below_drewN ((Below.refl _ _).alloc (Nat.le_refl _) _) 1
  have zB : WB.heap.size = w.heap.size + 3 := by rw [hWB]; simp [World.drew]; omega
  have cB : WB.cell? ⟨w.heap.size + 2, 0, none⟩ = some (.slice lo ll lc') := by rw [hWB, ← zA]; simp [go_sem]
  rw [← hWB]
  clear hWB
  refine hK _ _ hbB ?_
  clear hK K
  refine RF.wpFl_doC rfl rfl (fun K hK => ?_)
  obtain ⟨i, hi, hz, hz1, hz2⟩ := info_parts infoSL
  have hwB : Below w.heap.size w WB := hbA.trans (hbB.mono hbA.size)
  refine wpList_append_grows WB rfl (.tmp 13) (.tmp 15) 68 rfl 30 i (.slice none 0 0) 1 24 Try.underlying68 hi hz hz1 hz2 rfl (by omega) va st st xs rfl (fun e => ⟨hv4 e, hv4 e⟩) (by omega) (fun b hb j u hj => ?_) ⟨w.heap.size + 2, 0, none⟩ 1 1 [.slice lo ll lc'] rfl rfl ?_ ?_ (by omega) (by unfold maxLen; omega) (by omega) ?_
  · have hjl : j < xs.length := (List.getElem?_eq_some_iff.1 hj).1
    have hlt : b.block < w.heap.size := by
      rcases x4 b hb with h | h
      · exact h
      · omega
    have := X2.out b hb j u hj
    rw [World.cell?_of_block (w := w) (w' := WB) (a := b.add j) (by rw [Y.add_block]; exact hwB.block _ hlt)]
    exact this
  · intro j u hj
    match j, hj with
    | 0, hj => simp at hj; subst hj; simpa [Addr.add] using cB
  · intro u hu; simp at hu; subst hu; rfl
  intro v' w4 o4 g4
  have z4 := g4.size
  have hb4 : Below WB.heap.size WB w4 := ⟨g4.os, g4.tape, g4.output, g4.size, fun k hk => g4.block k hk (by simp)⟩
  have hbA4 : Below WA.heap.size WA w4 := hbB.trans (hb4.mono hbB.size)
  have HB4 : Hid (Below w.heap.size w w4) := hwB.trans (hb4.mono hwB.size)
  obtain ⟨va', vc', rfl, n1, n2, n3, n4⟩ := VR.own (S := fun b => S b ∧ b ≠ w.heap.size + 1) (vs := vt ++ [L]) o4 (by simp [hvl]) (by omega) (fun b hb => ⟨hS b (by omega), by omega⟩) (fun j M hj => by
    by_cases cj : j < vt.length
    · rw [List.getElem?_append_left cj] at hj
      obtain ⟨ao, c, k1, k2, k3, k4, k5⟩ := X5.out j M hj
      exact ⟨ao, c, by rw [List.getElem?_append_left (by omega)]; exact k1, k2, k3, k4, k5.keep (fun b _ hlt => HB4.out.block b hlt) HB4.out.size (fun _ h h2 => ⟨h, by omega⟩)⟩
    · rw [List.getElem?_append_right (by omega)] at hj
      have h0 : j - vt.length = 0 := by
        have := (List.getElem?_eq_some_iff.1 hj).1
        simp at this; omega
      rw [h0] at hj
      simp at hj
      subst hj
      refine ⟨lo, lc', ?_, by rw [Hll.out]; exact HL.out.2.1, HL.out.2.2.1, HL.out.2.2.2, HL.out.1.keep (fun b _ hlt => HB4.out.block b hlt) HB4.out.size (fun _ h h2 => ⟨h, by omega⟩)⟩
      rw [List.getElem?_append_right (by omega), show j - xs.length = 0 by omega, Hll.out]; rfl)
  have HH : Hid (HV w4 (fun b => S b ∧ b ≠ w.heap.size + 1) va' vc' hN) := ⟨by rw [← HV'.out.1]; exact n4, by rw [← HV'.out.1]; simp [hvl]; exact n1, n2, n3⟩
  clear n4 o4
  refine hK _ _ hbA4 ?_
  clear hK K
  refine RF.wpFl_readC rfl rfl (.pointer (some ⟨w.heap.size, 1, none⟩)) (fun w' hw' => by have kk := hC w' hw'; unfold RM.valAt; go_simp) ?_
  refine RF.wpFl_readC rfl rfl (.int .i64 st) (fun w' hw' => by obtain ⟨k1, k2⟩ := hC w' hw'; unfold RM.valAt; go_simp) ?_
  refine RF.wpFl_readC rfl rfl (.int .i64 (st + 1)) (fun w' hw' => by unfold RM.valAt; go_simp) ?_
  refine RF.wpFl_readC rfl rfl (.agg #[.slice va' (st + 1) vc', .int .i64 (st + 1)]) (fun w' hw' => by unfold RM.valAt; go_simp) ?_
  refine RF.wpFl_nil ?_
  have y0 := keepC hbA4 (show w.heap.size + 1 < WA.heap.size by omega) r0
  have y1 := keepC hbA4 (show w.heap.size + 1 < WA.heap.size by omega) r1
  have g0 : w4.frozen? ⟨w.heap.size + 1, 0, none⟩ = false := (World.frozen?_of_block (hbA4.block _ (show w.heap.size + 1 < WA.heap.size by omega))).trans f0
  have g1 : w4.frozen? ⟨w.heap.size + 1, 1, none⟩ = false := (World.frozen?_of_block (hbA4.block _ (show w.heap.size + 1 < WA.heap.size by omega))).trans f1
  have HF : Hid (Below w.heap.size w ((w4.setCell ⟨w.heap.size + 1, 0, none⟩ (.slice va' (st + 1) vc')).setCell ⟨w.heap.size + 1, 1, none⟩ (.int .i64 (st + 1))) ∧ HV ((w4.setCell ⟨w.heap.size + 1, 0, none⟩ (.slice va' (st + 1) vc')).setCell ⟨w.heap.size + 1, 1, none⟩ (.int .i64 (st + 1))) S va' vc' hN) := by
    refine ⟨(HB4.out.setCell (p := ⟨w.heap.size + 1, 0, none⟩) (by show w.heap.size ≤ w.heap.size + 1; omega) _).setCell (p := ⟨w.heap.size + 1, 1, none⟩) (by show w.heap.size ≤ w.heap.size + 1; omega) _, HH.out.keep (fun b hb _ => (Below.heap_setCell _ _ _ _ hb.2).trans (Below.heap_setCell _ _ _ _ hb.2)) (by simp [World.setCell]) (fun _ h _ => h.1)⟩
  clear c0 c1 r0 r1 f0 f1 hC X2 X5 x4 s1 hbA4 hbA hbB hwB hb4
  go_wp2_with fail
  obtain ⟨WF, hWF⟩ : ∃ X, X = (w4.setCell ⟨w.heap.size + 1, 0, none⟩ (.slice va' (st + 1) vc')).setCell ⟨w.heap.size + 1, 1, none⟩ (.int .i64 ((st : Int) + 1)) := ⟨_, rfl⟩
  have d0 : WF.cell? ⟨w.heap.size + 1, 0, none⟩ = some (.slice va' (st + 1) vc') := by
    rw [hWF, World.cell?_setCell_other _ _ _ _ (by simp)]
    exact World.cell?_setCell_same _ _ _ y0
  have d1 : WF.cell? ⟨w.heap.size + 1, 1, none⟩ = some (.int .i64 ((st : Int) + 1)) := by
    rw [hWF]
    exact World.cell?_setCell_same _ _ _ (by rw [World.cell?_setCell_other _ _ _ _ (by simp)]; exact y1)
  have HF2 := HF.out
  rw [← hWF] at HF2 ⊢
  clear hWF HF
  refine bodyPost_ret (v := .agg #[.slice va' (st + 1) vc', .int .i64 ((st : Int) + 1)]) (by simp [results, Try.results40, go_sem, d0, d1]) rfl ?_
  exact ⟨⟨va', vc', by push_cast; rfl, HF2.2⟩, HF2.1⟩
end Go.Proofs.Ytpacfppnmenndaa.Tk
