/- The document's sample, kind by kind, the rest. -/
import Derived.Test.YtjpcebnbkdekkaaGU22
import Derived.Test.YtjpcebnbkdekkaaGU6
namespace Go.Proofs.Ytjpcebnbkdekkaa.Gh
open Go.RowKit Go.Maps Go.Sort Fl
set_option linter.unusedVariables false
set_option linter.unusedSimpArgs false

set_option maxRecDepth 40000 in
set_option maxHeartbeats 8000000 in
theorem sample_4 (g : Gr) (go uo : Option Addr) (gc uc : Nat) (pb N : Nat) (P : Nat → List Nat) (V I : Hist) (io : Option Addr) (m ic : Nat) (Q : List (List Nat)) (i t : Nat) (w : World) (h : SmH g go uo gc uc pb N P V I io m ic Q i t w) (hk : (nd g i).kind = 4) :
    Calls Try.prog 19 #[gvg g go uo gc uc, .slice (some ⟨pb, 0, none⟩) N N, .slice io m ic, .int .i64 i, .int .i64 t] w fun e w' => SmQ w (sampD (nd g i) I V i t) e w' := by
  obtain ⟨U, hU⟩ : ∃ U, U = g.outs.length := ⟨_, rfl⟩
  obtain ⟨ins, hins⟩ : ∃ ins, ins = g.ins := ⟨_, rfl⟩
  have hargs : gvg g go uo gc uc = .agg #[.int .i64 ins, .slice go N gc, .slice uo U uc] := by rw [hU, hins, ← h.nN]
  have hgl : N ≤ gc := by rw [← h.nN]; exact h.gh.gl
  rw [hargs]
  have hgi : g.nodes[i]? = some (nd g i) := by unfold nd; rw [List.getD_eq_getElem?_getD, List.getElem?_eq_getElem (by rw [h.nN]; exact h.hi)]; rfl
  have hmy : many (nd g i) := (h.wf.n _ (List.mem_of_getElem? hgi)).1
  have hfr : ∀ k ∈ (nd g i).frm, 0 ≤ k ∧ k < (N : Int) := by have := (h.wf.n _ (List.mem_of_getElem? hgi)).2.1; rw [h.nN] at this; exact this
  have hw1 := (h.wf.n _ (List.mem_of_getElem? hgi)).2.2
  have hnow := h.nw
  obtain ⟨d, hd⟩ : ∃ d, d = nd g i := ⟨_, rfl⟩
  rw [← hd] at hgi hmy hfr hw1 hnow hk ⊢
  obtain ⟨nb, ofn, fo, fc, rfl, _, hlb, hcl, hNA⟩ := h.gh.n.at' i d hgi
  obtain ⟨FL, hFL⟩ : ∃ FL, FL = d.frm.length := ⟨_, rfl⟩
  have n0 : w.cell? ⟨nb, ofn + i * 16, none⟩ = some (.int .i64 4) := by rw [← hk]; exact hcl 0 _ rfl
  have n1 : w.cell? ⟨nb, ofn + i * 16 + 1, none⟩ = some (.slice fo FL fc) := by rw [hFL]; exact hcl 1 _ rfl
  have n2 : w.cell? ⟨nb, ofn + i * 16 + 2, none⟩ = some (.int .i64 d.n) := hcl 2 _ rfl
  have n3 : w.cell? ⟨nb, ofn + i * 16 + 3, none⟩ = some (.float .f64 d.x) := hcl 3 _ rfl
  have n4 : w.cell? ⟨nb, ofn + i * 16 + 4, none⟩ = some (.float .f64 d.c.b0) := hcl 4 _ rfl
  have n5 : w.cell? ⟨nb, ofn + i * 16 + 5, none⟩ = some (.float .f64 d.c.b1) := hcl 5 _ rfl
  have n6 : w.cell? ⟨nb, ofn + i * 16 + 6, none⟩ = some (.float .f64 d.c.b2) := hcl 6 _ rfl
  have n7 : w.cell? ⟨nb, ofn + i * 16 + 7, none⟩ = some (.float .f64 d.c.a1) := hcl 7 _ rfl
  have n8 : w.cell? ⟨nb, ofn + i * 16 + 8, none⟩ = some (.float .f64 d.c.a2) := hcl 8 _ rfl
  have n9 : w.cell? ⟨nb, ofn + i * 16 + 9, none⟩ = some (.int .i64 d.p.shape) := hcl 9 _ rfl
  have n10 : w.cell? ⟨nb, ofn + i * 16 + 10, none⟩ = some (.int .u32 d.p.step) := hcl 10 _ rfl
  have n11 : w.cell? ⟨nb, ofn + i * 16 + 11, none⟩ = some (.float .f64 d.p.gain) := hcl 11 _ rfl
  have n12 : w.cell? ⟨nb, ofn + i * 16 + 12, none⟩ = some (.int .i64 d.p.atk) := hcl 12 _ rfl
  have n13 : w.cell? ⟨nb, ofn + i * 16 + 13, none⟩ = some (.int .i64 d.p.dec) := hcl 13 _ rfl
  have n14 : w.cell? ⟨nb, ofn + i * 16 + 14, none⟩ = some (.int .i64 d.p.rel) := hcl 14 _ rfl
  have n15 : w.cell? ⟨nb, ofn + i * 16 + 15, none⟩ = some (.int .i64 d.p.sus) := hcl 15 _ rfl
  obtain ⟨W2, hW2⟩ : ∃ X, X = (w.alloc (Obj.cells #[.int .i64 ins, .slice (some ⟨nb, ofn, none⟩) N gc, .slice uo U uc] 25)).alloc (Obj.cells #[.int .i64 4, .slice fo FL fc, .int .i64 d.n, .float .f64 d.x, .float .f64 d.c.b0, .float .f64 d.c.b1, .float .f64 d.c.b2, .float .f64 d.c.a1, .float .f64 d.c.a2, .int .i64 d.p.shape, .int .u32 d.p.step, .float .f64 d.p.gain, .int .i64 d.p.atk, .int .i64 d.p.dec, .int .i64 d.p.rel, .int .i64 d.p.sus] 53) := ⟨_, rfl⟩
  have hb2 : Below w.heap.size w W2 := by rw [hW2]; exact ((Below.refl _ _).alloc (Nat.le_refl _) _).alloc (by simp) _
  have z2 : W2.heap.size = w.heap.size + 2 := by rw [hW2]; simp
  have c0 : W2.cell? ⟨w.heap.size + 1, 0, none⟩ = some (.int .i64 4) := by rw [hW2]; simp [go_sem]
  have c1 : W2.cell? ⟨w.heap.size + 1, 1, none⟩ = some (.slice fo FL fc) := by rw [hW2]; simp [go_sem]
  have c2 : W2.cell? ⟨w.heap.size + 1, 2, none⟩ = some (.int .i64 d.n) := by rw [hW2]; simp [go_sem]
  have c3 : W2.cell? ⟨w.heap.size + 1, 3, none⟩ = some (.float .f64 d.x) := by rw [hW2]; simp [go_sem]
  have c4 : W2.cell? ⟨w.heap.size + 1, 4, none⟩ = some (.float .f64 d.c.b0) := by rw [hW2]; simp [go_sem]
  have c5 : W2.cell? ⟨w.heap.size + 1, 5, none⟩ = some (.float .f64 d.c.b1) := by rw [hW2]; simp [go_sem]
  have c6 : W2.cell? ⟨w.heap.size + 1, 6, none⟩ = some (.float .f64 d.c.b2) := by rw [hW2]; simp [go_sem]
  have c7 : W2.cell? ⟨w.heap.size + 1, 7, none⟩ = some (.float .f64 d.c.a1) := by rw [hW2]; simp [go_sem]
  have c8 : W2.cell? ⟨w.heap.size + 1, 8, none⟩ = some (.float .f64 d.c.a2) := by rw [hW2]; simp [go_sem]
  have hi' : (i : Int) < (N : Int) := by have := h.hi; omega
  have HB2 : Hid (Below w.heap.size w W2) := hb2
  have HW2 : Hid ((w.alloc (Obj.cells #[.int .i64 ins, .slice (some ⟨nb, ofn, none⟩) N gc, .slice uo U uc] 25)).alloc (Obj.cells #[.int .i64 4, .slice fo FL fc, .int .i64 d.n, .float .f64 d.x, .float .f64 d.c.b0, .float .f64 d.c.b1, .float .f64 d.c.b2, .float .f64 d.c.a1, .float .f64 d.c.a2, .int .i64 d.p.shape, .int .u32 d.p.step, .float .f64 d.p.gain, .int .i64 d.p.atk, .int .i64 d.p.dec, .int .i64 d.p.rel, .int .i64 d.p.sus] 53) = W2) := hW2.symm
  have lxk : w.heap.size + 1 < W2.heap.size := by omega
  have hZ : ZL W2 (fun b => b < w.heap.size) fo d.frm := hNA.z.bel hb2
  have hP : PA W2 pb N P := h.pa.bel hb2
  have ht := h.ht
  have hfc : FL ≤ fc := by rw [hFL]; exact hNA.c
  have hfm := hNA.cm
  have HN : Hid (∀ k ∈ d.frm, t < (P k.toNat).length) := fun k hk2 => hnow k (by unfold now; rw [if_neg (by omega)]; exact hk2)
  have HF : Hid (∀ k ∈ d.frm, 0 ≤ k ∧ k < (N : Int)) := hfr
  have HFL : Hid (FL = d.frm.length) := hFL
  have HS : Hid (SmH g (some ⟨nb, ofn, none⟩) uo gc uc pb N P V I io m ic Q i t w) := h
  have HZ : Hid (ZL W2 (fun b => b < w.heap.size) fo d.frm) := hZ
  have HP : Hid (PA W2 pb N P) := hP
  have Hmix : Hid (sampD d I V i t = mixs V t d.frm) := by
    unfold Hid sampD
    rw [if_neg (by omega), if_neg (by omega), if_neg (by omega), if_pos hk]
  clear hFL hargs hgi hcl hNA hU hins hW2 hb2 hnow hmy hfr hw1 hd hP hZ h
  go_enter Try.func19, Try.ntmps19
  go_wp2_with fail
  rw [HW2.out]
  go_loopw [61, 12] (fun q v ww => ∃ j : Nat, j ≤ FL ∧ q = .int .i64 j ∧ (∃ x : Nat, v = .float .f64 x ∧ Hid (x < 18446744073709551616 ∧ ab x = mixs V t (d.frm.take j))) ∧ ∃ dr, ww = W2.drewN dr) (fun q _ _ => FL - (intOf q).toNat)
  case atStart => exact ⟨0, Nat.zero_le _, rfl, ⟨0, rfl, by decide, by show ab 0 = some 0; decide⟩, 0, rfl⟩
  case round =>
    obtain ⟨j, hj, rfl, ⟨x, rfl, hX⟩, dr, rfl⟩ := hrel
    by_cases hlt : j < FL
    · obtain ⟨z, hz⟩ : ∃ z, d.frm[j]? = some z := ⟨_, List.getElem?_eq_getElem (by rw [← HFL.out]; exact hlt)⟩
      have hzr := HF.out z (List.mem_of_getElem? hz)
      have hno := HN.out z (List.mem_of_getElem? hz)
      obtain ⟨y, rfl⟩ : ∃ y : Nat, z = y := ⟨z.toNat, by omega⟩
      rw [Int.toNat_natCast] at hno
      obtain ⟨fb, fof, rfl, o1, _, o3⟩ := HZ.out.at' (by rw [← HFL.out]; omega)
      have v0 : (W2.drewN dr).cell? ⟨fb, fof + j, none⟩ = some (.int .i64 (y : Nat)) := o3 j _ hz
      have lv0 := lt_cell v0
      obtain ⟨x1, lx1, ex1, hx1⟩ := HS.out.at y (by omega) (t : Int) (.inr ⟨by omega, by rw [Int.toNat_natCast]; exact hno⟩)
      rw [pv_nat] at ex1
      have qa : Calls Try.prog 33 #[.slice (some ⟨pb, 0, none⟩) N N, .int .i64 (y : Nat), .int .i64 (t : Nat)] (W2.drewN dr) fun e w' => e = .returned (.float .f64 x1) ∧ w' = W2.drewN dr := at_any pb N P y (t : Int) x1 (W2.drewN dr) (HP.out.bel (belN dr _)) (by omega) hx1
      have hlt' : (j : Int) < (FL : Int) := by omega
      have w9 : IntKind.i64.wrap ((j : Int) + 1) = (j : Int) + 1 := wid (by omega) (by omega)
      have hy : (y : Int) < (N : Int) := by omega
      by_cases hj0 : j = 0
      · subst hj0
        rw [Nat.add_zero] at v0
        have HN1 : Hid (x1 < 18446744073709551616 ∧ ab x1 = mixs V t (d.frm.take (0 + 1))) := ⟨lx1, by
          rw [ex1, List.take_add_one, hz]
          simp [mixs]⟩
        clear o3 hz hzr hno ex1 hx1 hX
        go_wp2_with fail
        refine qa.mono ?_
        rintro e wb ⟨rfl, hwb⟩
        rw [hwb]
        clear hwb
        go_wp2_with fail
        exact ⟨⟨1, by omega, by go_num, ⟨x1, rfl, HN1⟩, dr, rfl⟩, by simp [intOf]; omega⟩
      · have hb0 : ((j : Int) == 0) = false := by simp; omega
        have HN1 : Hid (∀ r, ab r = Fi.fo .add (ab x) (ab x1) → ab r = mixs V t (d.frm.take (j + 1))) := fun r hr => by
          rw [hr, hX.out.2, ex1, List.take_add_one, hz]
          cases hT : d.frm.take j with
          | nil =>
            have := congrArg List.length hT
            rw [List.length_take, List.length_nil] at this
            have := HFL.out
            omega
          | cons a l =>
            show _ = (l ++ [(y : Int)]).foldl _ _
            rw [List.foldl_append]
            simp [mixs, Fi.fo]
        clear o3 hz hzr hno ex1 hx1 hX
        go_wp2_with fail
        refine qa.mono ?_
        rintro e wb ⟨rfl, hwb⟩
        rw [hwb]
        clear hwb
        go_wp2_with (refine Fi.wpList_f rfl .add (.inl rfl) _ _ _ _ rfl x x1 rfl rfl ?f1)
        case f1 =>
          intro r d1 lr er
          have HR : Hid (r < 18446744073709551616 ∧ ab r = mixs V t (d.frm.take (j + 1))) := ⟨lr, HN1.out r er⟩
          clear er
          go_wp2_with fail
          exact ⟨⟨j + 1, by omega, by go_num, ⟨r, rfl, HR⟩, dr + d1, by first | rfl | rw [World.drewN_drewN]⟩, by simp [intOf]; omega⟩
    · obtain rfl : FL = j := by omega
      have HR : Hid (x < 18446744073709551616 ∧ ab x = sampD d I V i t) := ⟨hX.out.1, by
        rw [Hmix.out, hX.out.2, HFL.out, List.take_of_length_le (Nat.le_refl _)]⟩
      clear hX
      go_wp2_with fail
      go_ret
      exact ⟨x, rfl, HR.out.1, HR.out.2, HB2.out.trans (belN dr _)⟩
set_option maxRecDepth 40000 in
set_option maxHeartbeats 8000000 in
theorem sample_7 (g : Gr) (go uo : Option Addr) (gc uc : Nat) (pb N : Nat) (P : Nat → List Nat) (V I : Hist) (io : Option Addr) (m ic : Nat) (Q : List (List Nat)) (i t : Nat) (w : World) (h : SmH g go uo gc uc pb N P V I io m ic Q i t w) (hk : (nd g i).kind = 7) :
    Calls Try.prog 19 #[gvg g go uo gc uc, .slice (some ⟨pb, 0, none⟩) N N, .slice io m ic, .int .i64 i, .int .i64 t] w fun e w' => SmQ w (sampD (nd g i) I V i t) e w' := by
  obtain ⟨U, hU⟩ : ∃ U, U = g.outs.length := ⟨_, rfl⟩
  obtain ⟨ins, hins⟩ : ∃ ins, ins = g.ins := ⟨_, rfl⟩
  have hargs : gvg g go uo gc uc = .agg #[.int .i64 ins, .slice go N gc, .slice uo U uc] := by rw [hU, hins, ← h.nN]
  have hgl : N ≤ gc := by rw [← h.nN]; exact h.gh.gl
  rw [hargs]
  have hgi : g.nodes[i]? = some (nd g i) := by unfold nd; rw [List.getD_eq_getElem?_getD, List.getElem?_eq_getElem (by rw [h.nN]; exact h.hi)]; rfl
  have hmy : many (nd g i) := (h.wf.n _ (List.mem_of_getElem? hgi)).1
  have hfr : ∀ k ∈ (nd g i).frm, 0 ≤ k ∧ k < (N : Int) := by have := (h.wf.n _ (List.mem_of_getElem? hgi)).2.1; rw [h.nN] at this; exact this
  have hw1 := (h.wf.n _ (List.mem_of_getElem? hgi)).2.2
  have hnow := h.nw
  obtain ⟨d, hd⟩ : ∃ d, d = nd g i := ⟨_, rfl⟩
  rw [← hd] at hgi hmy hfr hw1 hnow hk ⊢
  obtain ⟨nb, ofn, fo, fc, rfl, _, hlb, hcl, hNA⟩ := h.gh.n.at' i d hgi
  obtain ⟨FL, hFL⟩ : ∃ FL, FL = d.frm.length := ⟨_, rfl⟩
  have n0 : w.cell? ⟨nb, ofn + i * 16, none⟩ = some (.int .i64 7) := by rw [← hk]; exact hcl 0 _ rfl
  have n1 : w.cell? ⟨nb, ofn + i * 16 + 1, none⟩ = some (.slice fo FL fc) := by rw [hFL]; exact hcl 1 _ rfl
  have n2 : w.cell? ⟨nb, ofn + i * 16 + 2, none⟩ = some (.int .i64 d.n) := hcl 2 _ rfl
  have n3 : w.cell? ⟨nb, ofn + i * 16 + 3, none⟩ = some (.float .f64 d.x) := hcl 3 _ rfl
  have n4 : w.cell? ⟨nb, ofn + i * 16 + 4, none⟩ = some (.float .f64 d.c.b0) := hcl 4 _ rfl
  have n5 : w.cell? ⟨nb, ofn + i * 16 + 5, none⟩ = some (.float .f64 d.c.b1) := hcl 5 _ rfl
  have n6 : w.cell? ⟨nb, ofn + i * 16 + 6, none⟩ = some (.float .f64 d.c.b2) := hcl 6 _ rfl
  have n7 : w.cell? ⟨nb, ofn + i * 16 + 7, none⟩ = some (.float .f64 d.c.a1) := hcl 7 _ rfl
  have n8 : w.cell? ⟨nb, ofn + i * 16 + 8, none⟩ = some (.float .f64 d.c.a2) := hcl 8 _ rfl
  have n9 : w.cell? ⟨nb, ofn + i * 16 + 9, none⟩ = some (.int .i64 d.p.shape) := hcl 9 _ rfl
  have n10 : w.cell? ⟨nb, ofn + i * 16 + 10, none⟩ = some (.int .u32 d.p.step) := hcl 10 _ rfl
  have n11 : w.cell? ⟨nb, ofn + i * 16 + 11, none⟩ = some (.float .f64 d.p.gain) := hcl 11 _ rfl
  have n12 : w.cell? ⟨nb, ofn + i * 16 + 12, none⟩ = some (.int .i64 d.p.atk) := hcl 12 _ rfl
  have n13 : w.cell? ⟨nb, ofn + i * 16 + 13, none⟩ = some (.int .i64 d.p.dec) := hcl 13 _ rfl
  have n14 : w.cell? ⟨nb, ofn + i * 16 + 14, none⟩ = some (.int .i64 d.p.rel) := hcl 14 _ rfl
  have n15 : w.cell? ⟨nb, ofn + i * 16 + 15, none⟩ = some (.int .i64 d.p.sus) := hcl 15 _ rfl
  obtain ⟨W2, hW2⟩ : ∃ X, X = (w.alloc (Obj.cells #[.int .i64 ins, .slice (some ⟨nb, ofn, none⟩) N gc, .slice uo U uc] 25)).alloc (Obj.cells #[.int .i64 7, .slice fo FL fc, .int .i64 d.n, .float .f64 d.x, .float .f64 d.c.b0, .float .f64 d.c.b1, .float .f64 d.c.b2, .float .f64 d.c.a1, .float .f64 d.c.a2, .int .i64 d.p.shape, .int .u32 d.p.step, .float .f64 d.p.gain, .int .i64 d.p.atk, .int .i64 d.p.dec, .int .i64 d.p.rel, .int .i64 d.p.sus] 53) := ⟨_, rfl⟩
  have hb2 : Below w.heap.size w W2 := by rw [hW2]; exact ((Below.refl _ _).alloc (Nat.le_refl _) _).alloc (by simp) _
  have z2 : W2.heap.size = w.heap.size + 2 := by rw [hW2]; simp
  have c0 : W2.cell? ⟨w.heap.size + 1, 0, none⟩ = some (.int .i64 7) := by rw [hW2]; simp [go_sem]
  have c1 : W2.cell? ⟨w.heap.size + 1, 1, none⟩ = some (.slice fo FL fc) := by rw [hW2]; simp [go_sem]
  have c2 : W2.cell? ⟨w.heap.size + 1, 2, none⟩ = some (.int .i64 d.n) := by rw [hW2]; simp [go_sem]
  have c3 : W2.cell? ⟨w.heap.size + 1, 3, none⟩ = some (.float .f64 d.x) := by rw [hW2]; simp [go_sem]
  have c4 : W2.cell? ⟨w.heap.size + 1, 4, none⟩ = some (.float .f64 d.c.b0) := by rw [hW2]; simp [go_sem]
  have c5 : W2.cell? ⟨w.heap.size + 1, 5, none⟩ = some (.float .f64 d.c.b1) := by rw [hW2]; simp [go_sem]
  have c6 : W2.cell? ⟨w.heap.size + 1, 6, none⟩ = some (.float .f64 d.c.b2) := by rw [hW2]; simp [go_sem]
  have c7 : W2.cell? ⟨w.heap.size + 1, 7, none⟩ = some (.float .f64 d.c.a1) := by rw [hW2]; simp [go_sem]
  have c8 : W2.cell? ⟨w.heap.size + 1, 8, none⟩ = some (.float .f64 d.c.a2) := by rw [hW2]; simp [go_sem]
  have hi' : (i : Int) < (N : Int) := by have := h.hi; omega
  have HB2 : Hid (Below w.heap.size w W2) := hb2
  have HW2 : Hid ((w.alloc (Obj.cells #[.int .i64 ins, .slice (some ⟨nb, ofn, none⟩) N gc, .slice uo U uc] 25)).alloc (Obj.cells #[.int .i64 7, .slice fo FL fc, .int .i64 d.n, .float .f64 d.x, .float .f64 d.c.b0, .float .f64 d.c.b1, .float .f64 d.c.b2, .float .f64 d.c.a1, .float .f64 d.c.a2, .int .i64 d.p.shape, .int .u32 d.p.step, .float .f64 d.p.gain, .int .i64 d.p.atk, .int .i64 d.p.dec, .int .i64 d.p.rel, .int .i64 d.p.sus] 53) = W2) := hW2.symm
  have lxk : w.heap.size + 1 < W2.heap.size := by omega
  have hZ : ZL W2 (fun b => b < w.heap.size) fo d.frm := hNA.z.bel hb2
  have hP : PA W2 pb N P := h.pa.bel hb2
  have ht := h.ht
  have hfc : FL ≤ fc := by rw [hFL]; exact hNA.c
  have hfm := hNA.cm
  have hfl := hmy.1 (.inr (.inr hk))
  obtain ⟨z0, hz0⟩ : ∃ z, d.frm[0]? = some z := ⟨_, List.getElem?_eq_getElem (by rw [hfl]; omega)⟩
  have hzr0 := hfr z0 (List.mem_of_getElem? hz0)
  obtain ⟨y0, rfl⟩ : ∃ y : Nat, z0 = y := ⟨z0.toNat, by omega⟩
  have hy0 : y0 < N := by omega
  have hy0' : (y0 : Int) < (N : Int) := by omega
  obtain ⟨fb, fof, rfl, o1, _, o3⟩ := hZ.at' (by rw [hfl]; omega)
  have v0 := o3 0 _ hz0
  rw [Nat.add_zero] at v0
  have lv0 := lt_cell v0
  have hno : t < (P y0).length := by
    have := hnow (y0 : Int) (by unfold now; rw [if_neg (by omega)]; exact List.mem_of_getElem? hz0)
    rwa [Int.toNat_natCast] at this
  have hle := h.hl i h.hi
  have hii := h.hi
  obtain ⟨W3, hW3⟩ : ∃ X, X = W2.alloc (Obj.cells #[.float .f64 d.c.b0, .float .f64 d.c.b1, .float .f64 d.c.b2, .float .f64 d.c.a1, .float .f64 d.c.a2] 48) := ⟨_, rfl⟩
  have hb3 : Below W2.heap.size W2 W3 := by rw [hW3]; exact (Below.refl _ _).alloc (Nat.le_refl _) _
  have HB3 : Hid (Below w.heap.size w W3) := HB2.out.trans (hb3.mono HB2.out.size)
  have hP3 : PA W3 pb N P := hP.bel hb3
  have e0 : W3.cell? ⟨w.heap.size + 2, 0, none⟩ = some (.float .f64 d.c.b0) := by rw [hW3, ← z2]; simp [go_sem]
  have e1 : W3.cell? ⟨w.heap.size + 2, 1, none⟩ = some (.float .f64 d.c.b1) := by rw [hW3, ← z2]; simp [go_sem]
  have e2 : W3.cell? ⟨w.heap.size + 2, 2, none⟩ = some (.float .f64 d.c.b2) := by rw [hW3, ← z2]; simp [go_sem]
  have e3 : W3.cell? ⟨w.heap.size + 2, 3, none⟩ = some (.float .f64 d.c.a1) := by rw [hW3, ← z2]; simp [go_sem]
  have e4 : W3.cell? ⟨w.heap.size + 2, 4, none⟩ = some (.float .f64 d.c.a2) := by rw [hW3, ← z2]; simp [go_sem]
  have q1 : (t : Int) - 1 < 0 ∨ (0 ≤ (t : Int) - 1 ∧ ((t : Int) - 1).toNat < (P y0).length) := by omega
  have q2 : (t : Int) - 2 < 0 ∨ (0 ≤ (t : Int) - 2 ∧ ((t : Int) - 2).toNat < (P y0).length) := by omega
  have q3 : (t : Int) - 1 < 0 ∨ (0 ≤ (t : Int) - 1 ∧ ((t : Int) - 1).toNat < (P i).length) := by omega
  have q4 : (t : Int) - 2 < 0 ∨ (0 ≤ (t : Int) - 2 ∧ ((t : Int) - 2).toNat < (P i).length) := by omega
  obtain ⟨x0, lx0, ex0, hx0⟩ := h.at y0 (by omega) (t : Int) (.inr ⟨by omega, by rw [Int.toNat_natCast]; exact hno⟩)
  obtain ⟨x1, lx1, ex1, hx1⟩ := h.at y0 (by omega) ((t : Int) - 1) q1
  obtain ⟨x2, lx2, ex2, hx2⟩ := h.at y0 (by omega) ((t : Int) - 2) q2
  obtain ⟨x3, lx3, ex3, hx3⟩ := h.at i hii ((t : Int) - 1) q3
  obtain ⟨x4, lx4, ex4, hx4⟩ := h.at i hii ((t : Int) - 2) q4
  have qa0 : ∀ n, Calls Try.prog 33 #[.slice (some ⟨pb, 0, none⟩) N N, .int .i64 (y0 : Nat), .int .i64 (t : Nat)] (W3.drewN n) fun e w' => e = .returned (.float .f64 x0) ∧ w' = W3.drewN n := fun n => at_any pb N P y0 (t : Int) x0 _ (hP3.bel (belN n _)) (by omega) hx0
  have qa1 : ∀ n, Calls Try.prog 33 #[.slice (some ⟨pb, 0, none⟩) N N, .int .i64 (y0 : Nat), .int .i64 ((t : Int) - 1)] (W3.drewN n) fun e w' => e = .returned (.float .f64 x1) ∧ w' = W3.drewN n := fun n => at_any pb N P y0 _ x1 _ (hP3.bel (belN n _)) (by omega) hx1
  have qa2 : ∀ n, Calls Try.prog 33 #[.slice (some ⟨pb, 0, none⟩) N N, .int .i64 (y0 : Nat), .int .i64 ((t : Int) - 2)] (W3.drewN n) fun e w' => e = .returned (.float .f64 x2) ∧ w' = W3.drewN n := fun n => at_any pb N P y0 _ x2 _ (hP3.bel (belN n _)) (by omega) hx2
  have qa3 : ∀ n, Calls Try.prog 33 #[.slice (some ⟨pb, 0, none⟩) N N, .int .i64 (i : Nat), .int .i64 ((t : Int) - 1)] (W3.drewN n) fun e w' => e = .returned (.float .f64 x3) ∧ w' = W3.drewN n := fun n => at_any pb N P i _ x3 _ (hP3.bel (belN n _)) hii hx3
  have qa4 : ∀ n, Calls Try.prog 33 #[.slice (some ⟨pb, 0, none⟩) N N, .int .i64 (i : Nat), .int .i64 ((t : Int) - 2)] (W3.drewN n) fun e w' => e = .returned (.float .f64 x4) ∧ w' = W3.drewN n := fun n => at_any pb N P i _ x4 _ (hP3.bel (belN n _)) hii hx4
  have w1 : IntKind.i64.wrap ((t : Int) - 1) = (t : Int) - 1 := wid (by omega) (by omega)
  have w2 : IntKind.i64.wrap ((t : Int) - 2) = (t : Int) - 2 := wid (by omega) (by omega)
  have HX : Hid (∀ r, ab r = os (os (oa (oa (om (ab d.c.b0) (ab x0)) (om (ab d.c.b1) (ab x1))) (om (ab d.c.b2) (ab x2))) (om (ab d.c.a1) (ab x3))) (om (ab d.c.a2) (ab x4)) → ab r = sampD d I V i t) := fun r hr => by
    unfold sampD
    rw [if_neg (by omega), if_neg (by omega), if_neg (by omega), if_neg (by omega), if_neg (by omega), if_neg (by omega), if_pos hk, hr, ex0, ex1, ex2, ex3, ex4, pv_nat]
    unfold f0
    rw [List.getD_eq_getElem?_getD, hz0]; rfl
  have hFL1 : FL = 1 := by rw [hFL]; exact hfl
  rw [hFL1] at c1 n1
  have HW3 : Hid (W2.alloc (Obj.cells #[.float .f64 d.c.b0, .float .f64 d.c.b1, .float .f64 d.c.b2, .float .f64 d.c.a1, .float .f64 d.c.a2] 48) = W3) := hW3.symm
  have z3 : w.heap.size + 2 < W3.heap.size := lt_cell e0
  have lfb : fb < w.heap.size + 2 := by omega
  have v0w : w.cell? ⟨fb, fof, none⟩ = some (.int .i64 (y0 : Nat)) := by
    have h0 := hNA.z.at' (by rw [hfl]; omega)
    obtain ⟨b, off, hbo, g1, _, g3⟩ := h0
    cases hbo
    have := g3 0 _ hz0
    rwa [Nat.add_zero] at this
  clear hFL hfl hz0 hzr0 o3 hno hle ex0 ex1 ex2 ex3 ex4 hx0 hx1 hx2 hx3 hx4 q1 q2 q3 q4 hW3 hb3 hP3 hargs hgi hcl hNA hU hins hW2 hb2 hnow hmy hfr hw1 hd hP hZ h
  subst hFL1
  go_enter Try.func19, Try.ntmps19
  go_wp2_with fail
  rw [HW2.out]
  go_region
  rw [HW3.out]
  clear HW2 HW3 n0 n2 n3 n4 n5 n6 n7 n8 n9 n10 n11 n12 n13 n14 n15 v0w c0 c1 c2 c3 c4 c5 c6 c7 c8 lfb
  obtain ⟨m0, hm0⟩ : ∃ n, W3.drew = W3.drewN n := ⟨1, rfl⟩
  rw [hm0]
  clear hm0
  have HC0 : Hid (∀ n, (fun w' : World => w'.cell? ⟨w.heap.size + 2, 0, none⟩ = some (.float .f64 d.c.b0)) (W3.drewN n)) := fun n => e0
  go_wp2_with fail
  refine RF.wp_region_floatC (fun w' : World => w'.cell? ⟨w.heap.size + 2, 0, none⟩ = some (.float .f64 d.c.b0)) (fun k => k != 5 && k != 6) (by kernel_rfl) (by kernel_rfl) (by kernel_rfl) e0 ?_
  refine RF.wpFl_readC rfl rfl (.pointer (some ⟨w.heap.size + 2, 0, none⟩)) (fun w' hw' => by have q0 : w'.cell? ⟨w.heap.size + 2, 0, none⟩ = some (.float .f64 d.c.b0) := hw'; have l0 := lt_cell q0; clear hw'; unfold RM.valAt; go_simp) ?_
  refine RF.wpFl_readC rfl rfl (.float .f64 d.c.b0) (fun w' hw' => by have q0 : w'.cell? ⟨w.heap.size + 2, 0, none⟩ = some (.float .f64 d.c.b0) := hw'; have l0 := lt_cell q0; clear hw'; unfold RM.valAt; go_simp) ?_
  refine RF.wpFl_readC rfl rfl (.slice (some ⟨pb, 0, none⟩) N N) (fun w' hw' => by have q0 : w'.cell? ⟨w.heap.size + 2, 0, none⟩ = some (.float .f64 d.c.b0) := hw'; have l0 := lt_cell q0; clear hw'; unfold RM.valAt; go_simp) ?_
  refine RF.wpFl_readC rfl rfl (.int .i64 (y0 : Nat)) (fun w' hw' => by have q0 : w'.cell? ⟨w.heap.size + 2, 0, none⟩ = some (.float .f64 d.c.b0) := hw'; have l0 := lt_cell q0; clear hw'; unfold RM.valAt; go_simp) ?_
  refine RF.wpFl_readC rfl rfl (.int .i64 (t : Nat)) (fun w' hw' => by have q0 : w'.cell? ⟨w.heap.size + 2, 0, none⟩ = some (.float .f64 d.c.b0) := hw'; have l0 := lt_cell q0; clear hw'; unfold RM.valAt; go_simp) ?_
  refine RF.wpFl_doC rfl rfl (fun K hK => ?_)
  go_wp2_with fail
  refine (qa0 _).mono ?_
  rintro e wb ⟨rfl, hwb⟩
  rw [hwb]
  clear hwb
  go_wp2_with fail
  refine hK _ _ (HC0.out _) ?_
  clear hK K
  refine RF.wpFl_doC rfl rfl (fun K hK => ?_)
  refine Fi.wpList_f rfl .mul (.inr (.inr rfl)) _ _ _ _ rfl d.c.b0 x0 rfl rfl ?_
  intro r0 dr0 lr0 er0
  refine Fi.wpList_nil' ?_
  refine hK _ _ e0 ?_
  clear hK K
  refine RF.wpFl_readC rfl rfl (.float .f64 r0) (fun w' hw' => by have q0 : w'.cell? ⟨w.heap.size + 2, 0, none⟩ = some (.float .f64 d.c.b0) := hw'; have l0 := lt_cell q0; clear hw'; unfold RM.valAt; go_simp) ?_
  refine RF.wpFl_nil ?_
  rw [World.drewN_drewN]
  generalize m0 + 1 + dr0 = m1
  have HC1 : Hid (∀ n, (fun w' : World => w'.cell? ⟨w.heap.size + 2, 1, none⟩ = some (.float .f64 d.c.b1)) (W3.drewN n)) := fun n => e1
  go_wp2_with fail
  refine RF.wp_region_floatC (fun w' : World => w'.cell? ⟨w.heap.size + 2, 1, none⟩ = some (.float .f64 d.c.b1)) (fun k => k != 6 && k != 7) (by kernel_rfl) (by kernel_rfl) (by kernel_rfl) e1 ?_
  refine RF.wpFl_readC rfl rfl (.pointer (some ⟨w.heap.size + 2, 1, none⟩)) (fun w' hw' => by have q0 : w'.cell? ⟨w.heap.size + 2, 1, none⟩ = some (.float .f64 d.c.b1) := hw'; have l0 := lt_cell q0; clear hw'; unfold RM.valAt; go_simp) ?_
  refine RF.wpFl_readC rfl rfl (.float .f64 d.c.b1) (fun w' hw' => by have q0 : w'.cell? ⟨w.heap.size + 2, 1, none⟩ = some (.float .f64 d.c.b1) := hw'; have l0 := lt_cell q0; clear hw'; unfold RM.valAt; go_simp) ?_
  refine RF.wpFl_readC rfl rfl (.slice (some ⟨pb, 0, none⟩) N N) (fun w' hw' => by have q0 : w'.cell? ⟨w.heap.size + 2, 1, none⟩ = some (.float .f64 d.c.b1) := hw'; have l0 := lt_cell q0; clear hw'; unfold RM.valAt; go_simp) ?_
  refine RF.wpFl_readC rfl rfl (.int .i64 (y0 : Nat)) (fun w' hw' => by have q0 : w'.cell? ⟨w.heap.size + 2, 1, none⟩ = some (.float .f64 d.c.b1) := hw'; have l0 := lt_cell q0; clear hw'; unfold RM.valAt; go_simp) ?_
  refine RF.wpFl_readC rfl rfl (.int .i64 (t : Nat)) (fun w' hw' => by have q0 : w'.cell? ⟨w.heap.size + 2, 1, none⟩ = some (.float .f64 d.c.b1) := hw'; have l0 := lt_cell q0; clear hw'; unfold RM.valAt; go_simp) ?_
  refine RF.wpFl_readC rfl rfl (.int .i64 ((t : Int) - 1)) (fun w' hw' => by have q0 : w'.cell? ⟨w.heap.size + 2, 1, none⟩ = some (.float .f64 d.c.b1) := hw'; have l0 := lt_cell q0; clear hw'; unfold RM.valAt; go_simp) ?_
  refine RF.wpFl_doC rfl rfl (fun K hK => ?_)
  go_wp2_with fail
  refine (qa1 _).mono ?_
  rintro e wb ⟨rfl, hwb⟩
  rw [hwb]
  clear hwb
  go_wp2_with fail
  refine hK _ _ (HC1.out _) ?_
  clear hK K
  refine RF.wpFl_doC rfl rfl (fun K hK => ?_)
  refine Fi.wpList_f rfl .mul (.inr (.inr rfl)) _ _ _ _ rfl d.c.b1 x1 rfl rfl ?_
  intro r1 dr1 lr1 er1
  refine Fi.wpList_nil' ?_
  refine hK _ _ e1 ?_
  clear hK K
  refine RF.wpFl_readC rfl rfl (.float .f64 r1) (fun w' hw' => by have q0 : w'.cell? ⟨w.heap.size + 2, 1, none⟩ = some (.float .f64 d.c.b1) := hw'; have l0 := lt_cell q0; clear hw'; unfold RM.valAt; go_simp) ?_
  refine RF.wpFl_nil ?_
  rw [World.drewN_drewN]
  generalize m1 + 1 + dr1 = m2
  have HC2 : Hid (∀ n, (fun w' : World => w'.cell? ⟨w.heap.size + 2, 2, none⟩ = some (.float .f64 d.c.b2)) (W3.drewN n)) := fun n => e2
  go_wp2_with fail
  refine RF.wp_region_floatC (fun w' : World => w'.cell? ⟨w.heap.size + 2, 2, none⟩ = some (.float .f64 d.c.b2)) (fun k => k != 6 && k != 7) (by kernel_rfl) (by kernel_rfl) (by kernel_rfl) e2 ?_
  refine RF.wpFl_readC rfl rfl (.pointer (some ⟨w.heap.size + 2, 2, none⟩)) (fun w' hw' => by have q0 : w'.cell? ⟨w.heap.size + 2, 2, none⟩ = some (.float .f64 d.c.b2) := hw'; have l0 := lt_cell q0; clear hw'; unfold RM.valAt; go_simp) ?_
  refine RF.wpFl_readC rfl rfl (.float .f64 d.c.b2) (fun w' hw' => by have q0 : w'.cell? ⟨w.heap.size + 2, 2, none⟩ = some (.float .f64 d.c.b2) := hw'; have l0 := lt_cell q0; clear hw'; unfold RM.valAt; go_simp) ?_
  refine RF.wpFl_readC rfl rfl (.slice (some ⟨pb, 0, none⟩) N N) (fun w' hw' => by have q0 : w'.cell? ⟨w.heap.size + 2, 2, none⟩ = some (.float .f64 d.c.b2) := hw'; have l0 := lt_cell q0; clear hw'; unfold RM.valAt; go_simp) ?_
  refine RF.wpFl_readC rfl rfl (.int .i64 (y0 : Nat)) (fun w' hw' => by have q0 : w'.cell? ⟨w.heap.size + 2, 2, none⟩ = some (.float .f64 d.c.b2) := hw'; have l0 := lt_cell q0; clear hw'; unfold RM.valAt; go_simp) ?_
  refine RF.wpFl_readC rfl rfl (.int .i64 (t : Nat)) (fun w' hw' => by have q0 : w'.cell? ⟨w.heap.size + 2, 2, none⟩ = some (.float .f64 d.c.b2) := hw'; have l0 := lt_cell q0; clear hw'; unfold RM.valAt; go_simp) ?_
  refine RF.wpFl_readC rfl rfl (.int .i64 ((t : Int) - 2)) (fun w' hw' => by have q0 : w'.cell? ⟨w.heap.size + 2, 2, none⟩ = some (.float .f64 d.c.b2) := hw'; have l0 := lt_cell q0; clear hw'; unfold RM.valAt; go_simp) ?_
  refine RF.wpFl_doC rfl rfl (fun K hK => ?_)
  go_wp2_with fail
  refine (qa2 _).mono ?_
  rintro e wb ⟨rfl, hwb⟩
  rw [hwb]
  clear hwb
  go_wp2_with fail
  refine hK _ _ (HC2.out _) ?_
  clear hK K
  refine RF.wpFl_doC rfl rfl (fun K hK => ?_)
  refine Fi.wpList_f rfl .mul (.inr (.inr rfl)) _ _ _ _ rfl d.c.b2 x2 rfl rfl ?_
  intro r2 dr2 lr2 er2
  refine Fi.wpList_nil' ?_
  refine hK _ _ e2 ?_
  clear hK K
  refine RF.wpFl_readC rfl rfl (.float .f64 r2) (fun w' hw' => by have q0 : w'.cell? ⟨w.heap.size + 2, 2, none⟩ = some (.float .f64 d.c.b2) := hw'; have l0 := lt_cell q0; clear hw'; unfold RM.valAt; go_simp) ?_
  refine RF.wpFl_nil ?_
  rw [World.drewN_drewN]
  generalize m2 + 1 + dr2 = m3
  have HC3 : Hid (∀ n, (fun w' : World => w'.cell? ⟨w.heap.size + 2, 3, none⟩ = some (.float .f64 d.c.a1)) (W3.drewN n)) := fun n => e3
  go_wp2_with fail
  refine RF.wp_region_floatC (fun w' : World => w'.cell? ⟨w.heap.size + 2, 3, none⟩ = some (.float .f64 d.c.a1)) (fun k => k != 6 && k != 7) (by kernel_rfl) (by kernel_rfl) (by kernel_rfl) e3 ?_
  refine RF.wpFl_readC rfl rfl (.pointer (some ⟨w.heap.size + 2, 3, none⟩)) (fun w' hw' => by have q0 : w'.cell? ⟨w.heap.size + 2, 3, none⟩ = some (.float .f64 d.c.a1) := hw'; have l0 := lt_cell q0; clear hw'; unfold RM.valAt; go_simp) ?_
  refine RF.wpFl_readC rfl rfl (.float .f64 d.c.a1) (fun w' hw' => by have q0 : w'.cell? ⟨w.heap.size + 2, 3, none⟩ = some (.float .f64 d.c.a1) := hw'; have l0 := lt_cell q0; clear hw'; unfold RM.valAt; go_simp) ?_
  refine RF.wpFl_readC rfl rfl (.slice (some ⟨pb, 0, none⟩) N N) (fun w' hw' => by have q0 : w'.cell? ⟨w.heap.size + 2, 3, none⟩ = some (.float .f64 d.c.a1) := hw'; have l0 := lt_cell q0; clear hw'; unfold RM.valAt; go_simp) ?_
  refine RF.wpFl_readC rfl rfl (.int .i64 (i : Nat)) (fun w' hw' => by have q0 : w'.cell? ⟨w.heap.size + 2, 3, none⟩ = some (.float .f64 d.c.a1) := hw'; have l0 := lt_cell q0; clear hw'; unfold RM.valAt; go_simp) ?_
  refine RF.wpFl_readC rfl rfl (.int .i64 (t : Nat)) (fun w' hw' => by have q0 : w'.cell? ⟨w.heap.size + 2, 3, none⟩ = some (.float .f64 d.c.a1) := hw'; have l0 := lt_cell q0; clear hw'; unfold RM.valAt; go_simp) ?_
  refine RF.wpFl_readC rfl rfl (.int .i64 ((t : Int) - 1)) (fun w' hw' => by have q0 : w'.cell? ⟨w.heap.size + 2, 3, none⟩ = some (.float .f64 d.c.a1) := hw'; have l0 := lt_cell q0; clear hw'; unfold RM.valAt; go_simp) ?_
  refine RF.wpFl_doC rfl rfl (fun K hK => ?_)
  go_wp2_with fail
  refine (qa3 _).mono ?_
  rintro e wb ⟨rfl, hwb⟩
  rw [hwb]
  clear hwb
  go_wp2_with fail
  refine hK _ _ (HC3.out _) ?_
  clear hK K
  refine RF.wpFl_doC rfl rfl (fun K hK => ?_)
  refine Fi.wpList_f rfl .mul (.inr (.inr rfl)) _ _ _ _ rfl d.c.a1 x3 rfl rfl ?_
  intro r3 dr3 lr3 er3
  refine Fi.wpList_nil' ?_
  refine hK _ _ e3 ?_
  clear hK K
  refine RF.wpFl_readC rfl rfl (.float .f64 r3) (fun w' hw' => by have q0 : w'.cell? ⟨w.heap.size + 2, 3, none⟩ = some (.float .f64 d.c.a1) := hw'; have l0 := lt_cell q0; clear hw'; unfold RM.valAt; go_simp) ?_
  refine RF.wpFl_nil ?_
  rw [World.drewN_drewN]
  generalize m3 + 1 + dr3 = m4
  have HC4 : Hid (∀ n, (fun w' : World => w'.cell? ⟨w.heap.size + 2, 4, none⟩ = some (.float .f64 d.c.a2)) (W3.drewN n)) := fun n => e4
  go_wp2_with fail
  refine RF.wp_region_floatC (fun w' : World => w'.cell? ⟨w.heap.size + 2, 4, none⟩ = some (.float .f64 d.c.a2)) (fun k => k != 6 && k != 7) (by kernel_rfl) (by kernel_rfl) (by kernel_rfl) e4 ?_
  refine RF.wpFl_readC rfl rfl (.pointer (some ⟨w.heap.size + 2, 4, none⟩)) (fun w' hw' => by have q0 : w'.cell? ⟨w.heap.size + 2, 4, none⟩ = some (.float .f64 d.c.a2) := hw'; have l0 := lt_cell q0; clear hw'; unfold RM.valAt; go_simp) ?_
  refine RF.wpFl_readC rfl rfl (.float .f64 d.c.a2) (fun w' hw' => by have q0 : w'.cell? ⟨w.heap.size + 2, 4, none⟩ = some (.float .f64 d.c.a2) := hw'; have l0 := lt_cell q0; clear hw'; unfold RM.valAt; go_simp) ?_
  refine RF.wpFl_readC rfl rfl (.slice (some ⟨pb, 0, none⟩) N N) (fun w' hw' => by have q0 : w'.cell? ⟨w.heap.size + 2, 4, none⟩ = some (.float .f64 d.c.a2) := hw'; have l0 := lt_cell q0; clear hw'; unfold RM.valAt; go_simp) ?_
  refine RF.wpFl_readC rfl rfl (.int .i64 (i : Nat)) (fun w' hw' => by have q0 : w'.cell? ⟨w.heap.size + 2, 4, none⟩ = some (.float .f64 d.c.a2) := hw'; have l0 := lt_cell q0; clear hw'; unfold RM.valAt; go_simp) ?_
  refine RF.wpFl_readC rfl rfl (.int .i64 (t : Nat)) (fun w' hw' => by have q0 : w'.cell? ⟨w.heap.size + 2, 4, none⟩ = some (.float .f64 d.c.a2) := hw'; have l0 := lt_cell q0; clear hw'; unfold RM.valAt; go_simp) ?_
  refine RF.wpFl_readC rfl rfl (.int .i64 ((t : Int) - 2)) (fun w' hw' => by have q0 : w'.cell? ⟨w.heap.size + 2, 4, none⟩ = some (.float .f64 d.c.a2) := hw'; have l0 := lt_cell q0; clear hw'; unfold RM.valAt; go_simp) ?_
  refine RF.wpFl_doC rfl rfl (fun K hK => ?_)
  go_wp2_with fail
  refine (qa4 _).mono ?_
  rintro e wb ⟨rfl, hwb⟩
  rw [hwb]
  clear hwb
  go_wp2_with fail
  refine hK _ _ (HC4.out _) ?_
  clear hK K
  refine RF.wpFl_doC rfl rfl (fun K hK => ?_)
  refine Fi.wpList_f rfl .mul (.inr (.inr rfl)) _ _ _ _ rfl d.c.a2 x4 rfl rfl ?_
  intro r4 dr4 lr4 er4
  refine Fi.wpList_nil' ?_
  refine hK _ _ e4 ?_
  clear hK K
  refine RF.wpFl_readC rfl rfl (.float .f64 r4) (fun w' hw' => by have q0 : w'.cell? ⟨w.heap.size + 2, 4, none⟩ = some (.float .f64 d.c.a2) := hw'; have l0 := lt_cell q0; clear hw'; unfold RM.valAt; go_simp) ?_
  refine RF.wpFl_nil ?_
  rw [World.drewN_drewN]
  generalize m4 + 1 + dr4 = m5
  clear qa0 qa1 qa2 qa3 qa4 HC0 HC1 HC2 HC3 HC4
  go_wp2_with (refine Fi.wpList_f rfl .add (.inl rfl) _ _ _ _ rfl r0 r1 rfl rfl ?f1)
  case f1 =>
    intro r6 d6 lr6 er6
    go_wp2_with (refine Fi.wpList_f rfl .add (.inl rfl) _ _ _ _ rfl r6 r2 rfl rfl ?f2)
    case f2 =>
      intro r7 d7 lr7 er7
      go_wp2_with (refine Fi.wpList_f rfl .sub (.inr (.inl rfl)) _ _ _ _ rfl r7 r3 rfl rfl ?f3)
      case f3 =>
        intro r8 d8 lr8 er8
        go_wp2_with (refine Fi.wpList_f rfl .sub (.inr (.inl rfl)) _ _ _ _ rfl r8 r4 rfl rfl ?f4)
        case f4 =>
          intro r9 d9 lr9 er9
          have HR : Hid (r9 < 18446744073709551616 ∧ ab r9 = sampD d I V i t) := ⟨lr9, HX.out r9 (by simp only [er9, er8, er7, er6, er4, er3, er2, er1, er0, Fi.fo])⟩
          clear er9 er8 er7 er6 er4 er3 er2 er1 er0
          go_wp2_with fail
          go_ret
          refine ⟨r9, rfl, HR.out.1, HR.out.2, HB3.out.trans ?_⟩
          first | exact belN _ _ | exact (belN m5 _).trans (belN _ _) | exact (((belN m5 _).trans (belN _ _)).trans (belN _ _)).trans (belN _ _) | exact ((((belN m5 _).trans (belN _ _)).trans (belN _ _)).trans (belN _ _)).trans (belN _ _)
end Go.Proofs.Ytjpcebnbkdekkaa.Gh

/- The document's All: the rows while they grow. -/
namespace Go.Proofs.Ytjpcebnbkdekkaa.Gh
open Go.RowKit Go.Maps Go.Sort Fl
set_option linter.unusedVariables false
set_option linter.unusedSimpArgs false

/-- Any sample. -/
theorem sample_any (g : Gr) (go uo : Option Addr) (gc uc : Nat) (pb N : Nat) (P : Nat → List Nat) (V I : Hist) (io : Option Addr) (m ic : Nat) (Q : List (List Nat)) (i t : Nat) (w : World) (h : SmH g go uo gc uc pb N P V I io m ic Q i t w) (hk : 1 ≤ (nd g i).kind ∧ (nd g i).kind ≤ 8) :
    Calls Try.prog 19 #[gvg g go uo gc uc, .slice (some ⟨pb, 0, none⟩) N N, .slice io m ic, .int .i64 i, .int .i64 t] w fun e w' => SmQ w (sampD (nd g i) I V i t) e w' := by
  rcases (show (nd g i).kind = 1 ∨ (nd g i).kind = 2 ∨ (nd g i).kind = 3 ∨ (nd g i).kind = 4 ∨ (nd g i).kind = 5 ∨ (nd g i).kind = 6 ∨ (nd g i).kind = 7 ∨ (nd g i).kind = 8 by omega) with e | e | e | e | e | e | e | e
  · exact sample_1 g go uo gc uc pb N P V I io m ic Q i t w h e
  · exact sample_2 g go uo gc uc pb N P V I io m ic Q i t w h e
  · exact sample_3 g go uo gc uc pb N P V I io m ic Q i t w h e
  · exact sample_4 g go uo gc uc pb N P V I io m ic Q i t w h e
  · exact sample_5 g go uo gc uc pb N P V I io m ic Q i t w h e
  · exact sample_6 g go uo gc uc pb N P V I io m ic Q i t w h e
  · exact sample_7 g go uo gc uc pb N P V I io m ic Q i t w h e
  · exact sample_8 g go uo gc uc pb N P V I io m ic Q i t w h e
/-- What node k made so far. -/
def mad (g : Gr) (I : Hist) (n k : Nat) : List (Option Nat) := (List.range n).map (vl g I k)
theorem mad_len (g : Gr) (I : Hist) (n k : Nat) : (mad g I n k).length = n := by unfold mad; simp
theorem mad_step (g : Gr) (I : Hist) (n k : Nat) : mad g I (n + 1) k = mad g I n k ++ [vl g I k n] := by unfold mad; rw [List.range_succ, List.map_append]; rfl
/-- How many a node has made in round t. -/
def ln (D : Nat → Bool) (t k : Nat) : Nat := if D k = true then t + 1 else t
/-- The rows' words, and how they are read. -/
theorem JA.words {w : World} {ab x N : Nat} {r : Nat → List (Option Nat)} (h : JA w ab x N r) : ∃ (V : Nat → Value) (P : Nat → List Nat), w.rowIs ab 38 N V ∧ (∀ k, k < N → w.ownsRow (ab + 1) 46 1 (V k) (P k).length (Fi.fls (P k)) ∧ Fi.abs (P k) = r k ∧ ∀ x ∈ P k, x < 18446744073709551616) ∧ (∀ j k b, j < N → k < N → j ≠ k → (V j).ownBlock = some b → (V k).ownBlock ≠ some b) ∧ (∀ k b, k < N → (V k).ownBlock = some b → b ≠ x) ∧ PA w ab N P := by
  obtain ⟨V, h1, h2, h3, h4⟩ := h.ex
  have hex : ∀ k, ∃ ga : List Nat, k < N → w.ownsRow (ab + 1) 46 1 (V k) ga.length (Fi.fls ga) ∧ Fi.abs ga = r k ∧ ∀ x ∈ ga, x < 18446744073709551616 := fun k => by
    by_cases hk : k < N
    · obtain ⟨ga, g1, g2, g3⟩ := (h2 k hk).ex
      refine ⟨ga, fun _ => ⟨?_, g2, g3⟩⟩
      have : ga.length = (r k).length := by rw [← g2, Fi.abs_len]
      rw [this]; exact g1
    · exact ⟨[], fun h => absurd h hk⟩
  obtain ⟨P, hP⟩ := Classical.axiomOfChoice hex
  refine ⟨V, P, h1, hP, h3, h4, ⟨fun k hk => ?_⟩⟩
  obtain ⟨g1, g2, g3⟩ := hP k hk
  obtain ⟨ao, c, e, e1, e2, _, e4⟩ := Fi.own_IL g1 g3
  refine ⟨ao, c, by rw [← e]; exact World.rowIs.cell h1 hk, e1, e2, fun j x hj => ?_⟩
  obtain ⟨b, off, f1, f2, _, f4⟩ := e4.at' (by have := (List.getElem?_eq_some_iff.1 hj).1; omega)
  exact ⟨b, off, f1, f2, (f4 j x hj).1⟩
/-- Behind one sample's append and store. -/
structure PuA (g : Gr) (I : Hist) (wr w7 : World) (pb N i t : Nat) (D : Nat → Bool) (v' : Value) : Prop where
  ja : JA (w7.setCell ⟨pb, i, none⟩ v') pb pb N (fun k => mad g I (ln (fun k => D k || decide (k = i)) t k) k)
  cell : ∀ o u, wr.cell? ⟨pb, o, none⟩ = some u → w7.cell? ⟨pb, o, none⟩ = some u
  fz : w7.frozen? ⟨pb, i, none⟩ = false
  b : ∀ B w9, B ≤ pb → B ≤ wr.heap.size → Below B w9 wr → Below B w9 (w7.setCell ⟨pb, i, none⟩ v')
theorem PuA.mk' {g : Gr} {I : Hist} {wr W7 w7 : World} {pb N i t x : Nat} {D : Nat → Bool} {V : Nat → Value} {P : Nat → List Nat} {v' : Value}
    (h1 : wr.rowIs pb 38 N V) (h2 : ∀ k, k < N → wr.ownsRow (pb + 1) 46 1 (V k) (P k).length (Fi.fls (P k)) ∧ Fi.abs (P k) = mad g I (ln D t k) k ∧ ∀ x ∈ P k, x < 18446744073709551616) (h3 : ∀ j k b, j < N → k < N → j ≠ k → (V j).ownBlock = some b → (V k).ownBlock ≠ some b)
    (hi : i < N) (hD : D i = false) (hx : x < 18446744073709551616) (hxa : ab x = vl g I i t) (hW : Below wr.heap.size wr W7) (h7 : w7.ownsRow (pb + 1) 46 1 v' ((P i).length + 1) (Fi.fls (P i) ++ [.float .f64 x])) (g7 : Fi.Gw W7 w7 (V i) v') : PuA g I wr w7 pb N i t D v' := by
  have hpb : pb < wr.heap.size := by
    obtain ⟨c, hb, _⟩ := h1
    exact (Array.getElem?_eq_some_iff.1 hb).1
  have hzW := hW.size
  have hown : ∀ b, (V i).ownBlock = some b → pb + 1 ≤ b := fun b e => Fi.own_block (h2 i hi).1 b e
  have q1 : W7.rowIs pb 38 N V := World.rowIs.of_block h1 (hW.block pb hpb)
  have q2 : ∀ k, k < N → J1 W7 (pb + 1) (V k) (mad g I (ln D t k) k) := fun k hk => by
    obtain ⟨g1, g2, g3⟩ := h2 k hk
    refine ⟨⟨P k, ?_, g2, g3⟩⟩
    rw [← g2, Fi.abs_len]
    exact Fi.own_step g1 (fun b e => hW.block b (Fi.own_lt g1 b e))
  have hln : ln D t i = t := by unfold ln; rw [hD]; rfl
  refine ⟨?_, fun o u hu => ?_, ?_, fun B w9 b1 b2 b3 => ?_⟩
  · refine JA.put (w := W7) (V := V) (r := fun k => mad g I (ln D t k) k) (y := [vl g I i t]) q1 q2 h3 (fun k b hk e => by have := Fi.own_block (h2 k hk).1 b e; omega) (by omega) hi g7 ?_ ?_ (fun j hj => ?_)
    · obtain ⟨g1, g2, g3⟩ := h2 i hi
      refine ⟨⟨P i ++ [x], ?_, ?_, fun z hz => ?_⟩⟩
      · have e1 : (mad g I (ln D t i) i ++ [vl g I i t]).length = (P i).length + 1 := by rw [List.length_append, ← g2, Fi.abs_len]; rfl
        have e2 : Fi.fls (P i ++ [x]) = Fi.fls (P i) ++ [.float .f64 x] := by unfold Fi.fls; rw [List.map_append]; rfl
        show w7.ownsRow (pb + 1) 46 1 v' (mad g I (ln D t i) i ++ [vl g I i t]).length _
        rw [e1, e2]; exact h7
      · rw [Fi.abs_app, g2]
        show _ ++ [ab x] = _
        rw [hxa]
      · rcases List.mem_append.1 hz with q | q
        · exact g3 z q
        · simp at q; rw [q]; exact hx
    · show mad g I (ln (fun k => D k || decide (k = i)) t i) i = mad g I (ln D t i) i ++ [vl g I i t]
      rw [hln]
      have : ln (fun k => D k || decide (k = i)) t i = t + 1 := by unfold ln; simp
      rw [this, mad_step]
    · show mad g I (ln (fun k => D k || decide (k = i)) t j) j = mad g I (ln D t j) j
      have : ln (fun k => D k || decide (k = i)) t j = ln D t j := by unfold ln; simp [hj]
      rw [this]
  · exact g7.cell (w := W7) (by omega) (fun e => by have := hown pb e.symm; omega) (Fi.keepC hW hpb hu)
  · exact g7.froz (w := W7) (by omega) (fun e => by have := hown pb e.symm; omega) (World.rowIs.frozen q1 i)
  · exact (((b3.trans (hW.mono b2))).trans (g7.bel (by omega) (fun b e => by have := hown b e; omega))).setCell (p := ⟨pb, i, none⟩) b1 _
end Go.Proofs.Ytjpcebnbkdekkaa.Gh

/- The document's All. -/
namespace Go.Proofs.Ytjpcebnbkdekkaa.Gh
open Go.RowKit Go.Maps Go.Sort Fl
set_option linter.unusedVariables false
set_option linter.unusedSimpArgs false

theorem ln_rd {g : Gr} {P : Nat → List Nat} {D : Nat → Bool} {t N j : Nat} (hl : ∀ k, k < N → (P k).length = ln D t k) (hf : ∀ k ∈ (nd g j).frm, 0 ≤ k ∧ k < (N : Int)) : (rdB (nd g j) P t = true → ∀ k ∈ now (nd g j), D k.toNat = true) ∧ ((∀ k ∈ now (nd g j), D k.toNat = true) → rdB (nd g j) P t = true) := by
  unfold rdB now
  by_cases h6 : (nd g j).kind = 6
  · rw [if_pos h6]
    exact ⟨fun _ k hk => (by cases hk), fun _ => (by simp [h6])⟩
  · rw [if_neg h6]
    have h6' : decide ((nd g j).kind = 6) = false := by simp [h6]
    rw [h6', Bool.false_or, List.all_eq_true]
    refine ⟨fun h k hk => ?_, fun h k hk => ?_⟩
    · have h1 := h k hk
      have h2 := hf k hk
      rw [decide_eq_true_eq, hl k.toNat (by omega)] at h1
      unfold ln at h1
      by_cases c : D k.toNat = true
      · exact c
      · rw [if_neg c] at h1; omega
    · have h2 := hf k hk
      rw [decide_eq_true_eq, hl k.toNat (by omega)]
      unfold ln
      rw [if_pos (h k hk)]
      omega
/-- append(s, x) where s is a row of floats of one's own, however long. -/
theorem wpList_append_w {w : World} {ops : Array Oper} {rest : List Oper} {o : Oper} {a : Act} {Q : Exit → Act → World → Prop} (hgd : o.guard = none) (s y : Operand)
    (ho : o.op = .call { callee := .builtin .append, args := #[s, y], argTypes := #[38, 38] })
    (base : Nat) (v : Value) (n : Nat) (xs : List Value) (hs : a.eval s = v) (hown : w.ownsRow base 46 1 v n xs)
    (g : Nat) (x : Value) (hx : a.eval y = .slice (some ⟨g, 0, none⟩) 1 1) (hc : w.cell? ⟨g, 0, none⟩ = some x) (hx1 : x.oneCell' = true)
    (h63 : n ≤ 1099511627776) (hbase : base ≤ w.heap.size)
    (h : ∀ v' w', w'.ownsRow base 46 1 v' (n + 1) (xs ++ [x]) → Fi.Gw w w' v v' → wpList Try.prog ops Q rest (a.put o.dst v') w') :
    wpList Try.prog ops Q (o :: rest) a w := by
  obtain ⟨i, hi, hz, hz1, hz2⟩ := info_parts Fi.infoF
  refine wpList_append_own_at w hgd s y 38 ho base 46 i (.float .f64 0) 1 8 Try.underlying38 hi hz hz1 hz2 rfl (by omega) v n xs hs hown ⟨g, 0, none⟩ 1 1 [x] hx rfl ?_ ?_ (by unfold maxLen; omega) (by omega) hbase (fun v' w' k1 k2 _ k4 => h v' w' k1 ⟨k2, k4.imp id (fun e => ⟨_, e, Nat.le_refl _⟩)⟩)
  · intro j u hj
    match j, hj with
    | 0, hj => simp at hj; subst hj; simpa [Addr.add] using hc
  · intro u hu; simp at hu; subst hu; exact hx1
/-- What All answers. -/
def AllQ (w : World) (g : Gr) (I : Hist) (N n : Nat) (e : Ending) (w' : World) : Prop := ∃ pb, e = .returned (.slice (some ⟨pb, 0, none⟩) N N) ∧ w.heap.size ≤ pb ∧ JA w' pb pb N (fun k => mad g I n k) ∧ Below w.heap.size w w'
set_option maxRecDepth 40000 in
set_option maxHeartbeats 8000000 in
theorem All_any (g : Gr) (go uo : Option Addr) (gc uc N : Nat) (r : Nat → Nat) (I : Hist) (io : Option Addr) (m ic : Nat) (Q : List (List Nat)) (n : Nat) (w : World) (hG : GH w (fun b => b < w.heap.size) g go uo gc uc) (hW : Wf g) (hN : g.nodes.length = N) (hRk : Rk g r) (hr : ∀ i, i < N → r i < N) (hK : ∀ i, i < N → 1 ≤ (nd g i).kind ∧ (nd g i).kind ≤ 8) (hvo : ∀ d ∈ g.nodes, d.kind = 8 → Vo.Ok d.p) (hQ : Fi.PL w w.heap.size io Q) (hm : Q.length = m) (hmi : (m : Int) = g.ins) (hql : ∀ (a : Nat) l, Q[a]? = some l → n ≤ l.length) (hI : ∀ (a : Nat) l, Q[a]? = some l → ∀ t, t < n → I a t = ab (l.getD t 0)) (hn : n ≤ 1099511627776) :
    Calls Try.prog 10 #[gvg g go uo gc uc, .slice io m ic, .int .i64 n] w fun e w' => AllQ w g I N n e w' := by
  obtain ⟨U, hU⟩ : ∃ U, U = g.outs.length := ⟨_, rfl⟩
  obtain ⟨ins, hins⟩ : ∃ ins, ins = g.ins := ⟨_, rfl⟩
  have hargs : gvg g go uo gc uc = .agg #[.int .i64 ins, .slice go N gc, .slice uo U uc] := by rw [hU, hins, ← hN]
  have HA : Hid (gvg g go uo gc uc = .agg #[.int .i64 ins, .slice go N gc, .slice uo U uc]) := hargs
  rw [hargs]
  have hgl : N ≤ gc := by rw [← hN]; exact hG.gl
  have hN256 : N ≤ 256 := by rw [← hN]; exact hW.N
  have HG : Hid (GH w (fun b => b < w.heap.size) g go uo gc uc) := hG
  have HF : Hid (∀ i, i < N → ∀ k ∈ (nd g i).frm, 0 ≤ k ∧ k < (N : Int)) := fun i hi => by
    have hgi : g.nodes[i]? = some (nd g i) := by unfold nd; rw [List.getD_eq_getElem?_getD, List.getElem?_eq_getElem (by rw [hN]; exact hi)]; rfl
    have := (hW.n _ (List.mem_of_getElem? hgi)).2.1
    rw [hN] at this
    exact this
  have HC : Hid (Wf g ∧ g.nodes.length = N ∧ Rk g r ∧ (∀ i, i < N → r i < N) ∧ (∀ i, i < N → 1 ≤ (nd g i).kind ∧ (nd g i).kind ≤ 8) ∧ (∀ d ∈ g.nodes, d.kind = 8 → Vo.Ok d.p) ∧ Fi.PL w w.heap.size io Q ∧ Q.length = m ∧ (m : Int) = g.ins ∧ (∀ (a : Nat) l, Q[a]? = some l → n ≤ l.length) ∧ ∀ (a : Nat) l, Q[a]? = some l → ∀ t, t < n → I a t = ab (l.getD t 0)) := ⟨hW, hN, hRk, hr, hK, hvo, hQ, hm, hmi, hql, hI⟩
  obtain ⟨W1, hW1⟩ : ∃ X, X = w.alloc (Obj.cells #[.int .i64 ins, .slice go N gc, .slice uo U uc] 25) := ⟨_, rfl⟩
  have hb1 : Below w.heap.size w W1 := by rw [hW1]; exact (Below.refl _ _).alloc (Nat.le_refl _) _
  have z1 : W1.heap.size = w.heap.size + 1 := by rw [hW1]; simp
  have x0 : W1.cell? ⟨w.heap.size, 0, none⟩ = some (.int .i64 ins) := by rw [hW1]; simp [go_sem]
  have x1 : W1.cell? ⟨w.heap.size, 1, none⟩ = some (.slice go N gc) := by rw [hW1]; simp [go_sem]
  have x2 : W1.cell? ⟨w.heap.size, 2, none⟩ = some (.slice uo U uc) := by rw [hW1]; simp [go_sem]
  have mk1 : (Instr.makeSlice 39 (.int .i64 (N : Int)) (.int .i64 (N : Int))).run Try.prog W1 = .ok (.slice (some ⟨W1.heap.size, 0, none⟩) N N) (W1.alloc (.cells (madeCells #[.slice none 0 0] N) 38)) := run_make_row' (P := Try.prog) 39 38 (.slice none 0 0) 24 Try.underlying39 Fi.infoFs rfl .i64 .i64 N (by omega) (by omega) _
  obtain ⟨pb, hpb⟩ : ∃ pb, pb = W1.heap.size := ⟨_, rfl⟩
  obtain ⟨W2, hW2⟩ : ∃ X, X = W1.alloc (.cells (madeCells #[.slice none 0 0] N) 38) := ⟨_, rfl⟩
  have HJ2 : Hid (JA W2 pb pb N (fun k => mad g I 0 k)) := by rw [hW2, hpb]; exact JA.made W1 N _ (fun k _ => rfl)
  have hb2 : Below pb W1 W2 := by rw [hW2, hpb]; exact (Below.refl _ _).alloc (Nat.le_refl _) _
  rw [← hW2, ← hpb] at mk1
  have hxp : w.heap.size < pb := by omega
  have y0 := Fi.keepC hb2 hxp x0
  have y1 := Fi.keepC hb2 hxp x1
  have y2 := Fi.keepC hb2 hxp x2
  have ly := lt_cell y1
  have HB2 : Hid (Below w.heap.size w W2) := hb1.trans (hb2.mono (by omega))
  rw [hW1] at mk1
  have zp2 : pb < W2.heap.size := HJ2.out.lt
  have Hxb : Hid (w.heap.size < pb) := hxp
  clear hG hW hN hRk hr hK hvo hQ hm hmi hql hI hargs hU hins hb1 hb2 x0 x1 x2 hW1 hW2 hpb z1
  go_enter Try.func10, Try.ntmps10
  go_wp2_with (simp only [mk1])
  clear mk1
  go_loopw [8] (fun i ww => ∃ t : Nat, t ≤ n ∧ i = .int .i64 t ∧ Hid (JA ww pb pb N (fun k => mad g I t k)) ∧ Hid (Below pb W2 ww)) (fun i _ => n - (intOf i).toNat)
  case atStart => exact ⟨0, Nat.zero_le _, rfl, HJ2, Below.refl _ _⟩
  case round =>
    obtain ⟨t, ht, rfl, hJ, hbr⟩ := hrel
    by_cases hlt : t < n
    · have hlt' : (t : Int) < (n : Int) := by omega
      have wt : IntKind.i64.wrap ((t : Int) + 1) = (t : Int) + 1 := wid (by omega) (by omega)
      have e0 := Fi.keepC hbr.out hxp y0
      have e1 := Fi.keepC hbr.out hxp y1
      have e2 := Fi.keepC hbr.out hxp y2
      have le := lt_cell e1
      have HJ0 : Hid (JA wr pb pb N (fun k => mad g I (ln (fun _ => false) t k) k)) := hJ.out.congr (fun k _ => by unfold ln; rfl)
      clear hJ
      go_wp2_with fail
      go_loopw [22] (fun i ww => ∃ s : Nat, s ≤ N ∧ i = .int .i64 s ∧ Hid (∃ D : Nat → Bool, JA ww pb pb N (fun k => mad g I (ln D t k) k) ∧ ∀ k, k < N → r k < s → D k = true) ∧ Hid (Below pb W2 ww)) (fun i _ => N - (intOf i).toNat)
      case atStart => exact ⟨0, Nat.zero_le _, rfl, ⟨fun _ => false, HJ0.out, fun k _ h => absurd h (by omega)⟩, hbr⟩
      case round =>
        obtain ⟨s, hs, rfl, hD, hbs⟩ := hrel
        by_cases hls : s < N
        · have hls' : (s : Int) < (N : Int) := by omega
          have ws : IntKind.i64.wrap ((s : Int) + 1) = (s : Int) + 1 := wid (by omega) (by omega)
          have f0 := Fi.keepC hbs.out hxp y0
          have f1 := Fi.keepC hbs.out hxp y1
          have f2 := Fi.keepC hbs.out hxp y2
          have lf := lt_cell f1
          clear e0 e1 e2 le
          go_wp2_with fail
          go_loopw [27] (fun i ww => ∃ j : Nat, j ≤ N ∧ i = .int .i64 j ∧ Hid (∃ D : Nat → Bool, JA ww pb pb N (fun k => mad g I (ln D t k) k) ∧ (∀ k, k < N → r k < s → D k = true) ∧ ∀ k, k < j → r k < s + 1 → D k = true) ∧ Hid (Below pb W2 ww)) (fun i _ => N - (intOf i).toNat)
          case atStart =>
            obtain ⟨D, d1, d2⟩ := hD.out
            exact ⟨0, Nat.zero_le _, rfl, ⟨D, d1, d2, fun k h => absurd h (by omega)⟩, hbs⟩
          case round =>
            obtain ⟨j, hj, rfl, hE, hbj⟩ := hrel
            clear f0 f1 f2 lf
            have f0 := Fi.keepC hbj.out hxp y0
            have f1 := Fi.keepC hbj.out hxp y1
            have f2 := Fi.keepC hbj.out hxp y2
            have lf := lt_cell f1
            by_cases hlj : j < N
            ·
              --(
              have hlj' : (j : Int) < (N : Int) := by omega
              have wj : IntKind.i64.wrap ((j : Int) + 1) = (j : Int) + 1 := wid (by omega) (by omega)
              obtain ⟨D, d1, d2, d3⟩ := hE.out
              obtain ⟨V, P, v1, v2, v3, v4, v5⟩ := d1.words
              have hbw : Below w.heap.size w wr := HB2.out.trans (hbj.out.mono (by omega))
              have hPl : ∀ k, k < N → (P k).length = ln D t k := fun k hk => by rw [← Fi.abs_len, (v2 k hk).2.1, mad_len]
              obtain ⟨va, vc, hVj, _, _⟩ := Fi.own_form (v2 j hlj).1
              have hcj : wr.cell? ⟨pb, j, none⟩ = some (.slice va (P j).length vc) := by rw [← hVj]; exact World.rowIs.cell v1 hlj
              rw [hPl j hlj] at hcj
              have hGw : GH wr (fun b => b < wr.heap.size) g go uo gc uc := HG.out.bel hbw
              have qr := ready_any g go uo gc uc pb N P j t wr hGw HC.out.2.1 hN256 HF.out hlj v5 (by omega)
              rw [HA.out] at qr
              have hrd := ln_rd (g := g) (t := t) (j := j) hPl (HF.out j hlj)
              have lpc := lt_cell hcj
              cases hDj : D j with
              | true =>
                have hl1 : ln D t j = t + 1 := by unfold ln; rw [if_pos hDj]
                rw [hl1] at hcj
                have hne : (((t + 1 : Nat) : Int) == (t : Int)) = false := by rw [beq_eq_false_iff_ne]; omega
                have hne2 : ((t : Int) + 1 == (t : Int)) = false := by rw [beq_eq_false_iff_ne]; omega
                have HN : Hid (∃ D : Nat → Bool, JA wr pb pb N (fun k => mad g I (ln D t k) k) ∧ (∀ k, k < N → r k < s → D k = true) ∧ ∀ k, k < j + 1 → r k < s + 1 → D k = true) := ⟨D, d1, d2, fun k hk h => by
                  by_cases c : k = j
                  · rw [c]; exact hDj
                  · exact d3 k (by omega) h⟩
                clear hE d1 d2 d3 v1 v2 v3 v4 v5 hbw hPl hVj hGw qr hrd hDj hl1
                go_wp2_with fail
                exact ⟨⟨j + 1, by omega, by go_num, HN, hbj⟩, by simp [intOf]; omega⟩
              | false =>
                have hl1 : ln D t j = t := by unfold ln; rw [hDj]; rfl
                rw [hl1] at hcj
                have HRd : Hid ((rdB (nd g j) P t = true → ∀ k ∈ now (nd g j), D k.toNat = true) ∧ ((∀ k ∈ now (nd g j), D k.toNat = true) → rdB (nd g j) P t = true)) := hrd
                have HD : Hid (JA wr pb pb N (fun k => mad g I (ln D t k) k) ∧ (∀ k, k < N → r k < s → D k = true) ∧ (∀ k, k < j → r k < s + 1 → D k = true) ∧ D j = false) := ⟨d1, d2, d3, hDj⟩
                have HBw : Hid (Below w.heap.size w wr) := hbw
                obtain ⟨B, hB⟩ : ∃ B, B = rdB (nd g j) P t := ⟨_, rfl⟩
                rw [← hB] at qr HRd
                clear hE d1 d2 d3 v1 v2 v3 v4 v5 hbw hPl hVj hGw hrd hDj hl1 hB
                go_wp2_with fail
                refine qr.mono ?_
                rintro e w3 ⟨rfl, hb3⟩
                have HB3 : Hid (Below wr.heap.size wr w3) := hb3
                have HBj3 : Hid (Below pb W2 w3) := hbj.out.trans (hb3.mono (by omega))
                have zw3 := hb3.size
                clear qr hb3
                cases B with
                | false =>
                  have HN : Hid (∃ D : Nat → Bool, JA w3 pb pb N (fun k => mad g I (ln D t k) k) ∧ (∀ k, k < N → r k < s → D k = true) ∧ ∀ k, k < j + 1 → r k < s + 1 → D k = true) := ⟨D, HD.out.1.keep (fun b _ hl => HB3.out.block b hl) (.inl rfl), HD.out.2.1, fun k hk h => by
                    by_cases c : k = j
                    · exfalso
                      subst c
                      have := HRd.out.2 (fun q hq => by
                        have hlt := HC.out.2.2.1.lt' k q hq
                        have hq2 : q.toNat < N := by
                          have hq3 : q ∈ (nd g k).frm := by
                            unfold now at hq
                            split at hq
                            · cases hq
                            · exact hq
                          have := HF.out k hlj q hq3
                          omega
                        exact HD.out.2.1 q.toNat hq2 (by omega))
                      cases this
                    · exact HD.out.2.2.1 k (by omega) h⟩
                  clear HD HRd
                  go_wp2_with fail
                  exact ⟨⟨j + 1, by omega, by go_num, HN, HBj3⟩, by simp [intOf]; omega⟩
                | true =>
                  have hJ3 : JA w3 pb pb N (fun k => mad g I (ln D t k) k) := HD.out.1.keep (fun b _ hl => HB3.out.block b hl) (.inl rfl)
                  obtain ⟨V, P, v1, v2, v3, v4, v5⟩ := hJ3.words
                  have hPl : ∀ k, k < N → (P k).length = ln D t k := fun k hk => by rw [← Fi.abs_len, (v2 k hk).2.1, mad_len]
                  have hl1 : ln D t j = t := by unfold ln; rw [HD.out.2.2.2]; rfl
                  obtain ⟨va, vc, hVj, vc1, vc2⟩ := Fi.own_form (v2 j hlj).1
                  rw [hPl j hlj, hl1] at hVj
                  have hcj3 : w3.cell? ⟨pb, j, none⟩ = some (.slice va t vc) := by rw [← hVj]; exact World.rowIs.cell v1 hlj
                  have hbw3 : Below w.heap.size w w3 := HBw.out.trans (HB3.out.mono HBw.out.size)
                  have lpb3 : pb < w3.heap.size := lt_cell hcj3
                  have a0 := Fi.keepC HB3.out (by omega) f0
                  have a1 := Fi.keepC HB3.out (by omega) f1
                  have a2 := Fi.keepC HB3.out (by omega) f2
                  have la := lt_cell a1
                  have hD3 : Below w3.heap.size w3 w3.drew := ⟨rfl, rfl, rfl, Nat.le_refl _, fun _ _ => rfl⟩
                  have hvl : vl g I j t = sampD (nd g j) I (vl g I) j t := vl_eq HC.out.2.2.1 I j t (by rw [HC.out.2.1]; exact hlj)
                  have hS : SmH g go uo gc uc pb N P (vl g I) I io m ic Q j t w3.drew := {
                    gh := HG.out.bel (hbw3.trans (hD3.mono hbw3.size))
                    wf := HC.out.1
                    nN := HC.out.2.1
                    hi := hlj
                    pa := v5.bel hD3
                    hv := fun k hk s x hx => by
                      refine ⟨(v2 k hk).2.2 x (List.mem_of_getElem? hx), ?_⟩
                      have h1 : (Fi.abs (P k))[s]? = some (ab x) := by unfold Fi.abs; rw [List.getElem?_map, hx]; rfl
                      rw [(v2 k hk).2.1] at h1
                      unfold mad at h1
                      rw [List.getElem?_map] at h1
                      cases h2 : (List.range (ln D t k))[s]? with
                      | none => rw [h2] at h1; cases h1
                      | some z =>
                        rw [h2] at h1
                        have h3 := List.getElem?_eq_some_iff.1 h2
                        obtain ⟨h4, h5⟩ := h3
                        rw [List.getElem_range] at h5
                        subst h5
                        have h6 : some (vl g I k s) = some (ab x) := h1
                        exact (Option.some.inj h6).symm
                    hl := fun k hk => by rw [hPl k hk]; unfold ln; split <;> omega
                    nw := fun k hk => by
                      have h1 := HRd.out.1 rfl k hk
                      have hq3 : k ∈ (nd g j).frm := by
                        unfold now at hk
                        split at hk
                        · cases hk
                        · exact hk
                      have h2 := HF.out j hlj k hq3
                      rw [hPl k.toNat (by omega)]
                      unfold ln
                      rw [if_pos h1]
                      omega
                    ht := by omega
                    hq := PLmono ((HC.out.2.2.2.2.2.2.1).keep (Nat.le_refl _) (fun b hb => (hbw3.trans (hD3.mono hbw3.size)).block b hb) (hbw3.trans (hD3.mono hbw3.size)).size) (hbw3.trans (hD3.mono hbw3.size)).size
                    hm := HC.out.2.2.2.2.2.2.2.1
                    mi := HC.out.2.2.2.2.2.2.2.2.1
                    ql := fun a l hl => by have := HC.out.2.2.2.2.2.2.2.2.2.1 a l hl; omega
                    hI := fun a l hl => HC.out.2.2.2.2.2.2.2.2.2.2 a l hl t hlt
                    vo := HC.out.2.2.2.2.2.1 }
                  have qs := sample_any g go uo gc uc pb N P (vl g I) I io m ic Q j t w3.drew hS (HC.out.2.2.2.2.1 j hlj)
                  rw [HA.out, ← hvl] at qs
                  have HVj : Hid (V j = .slice va t vc) := hVj
                  have HPu : Hid (∀ (W7 w7 : World) (x : Nat) (v' : Value), x < 18446744073709551616 → ab x = vl g I j t → Below w3.heap.size w3 W7 → w7.ownsRow (pb + 1) 46 1 v' (t + 1) (Fi.fls (P j) ++ [.float .f64 x]) → Fi.Gw W7 w7 (.slice va t vc) v' → PuA g I w3 w7 pb N j t D v') := fun W7 w7 x v' h1 h2 h3 h4 h5 => by
                    refine PuA.mk' v1 v2 v3 hlj HD.out.2.2.2 h1 h2 h3 (by rw [hPl j hlj, hl1]; exact h4) (by rw [hVj]; exact h5)
                  have HOw : Hid (w3.ownsRow (pb + 1) 46 1 (.slice va t vc) t (Fi.fls (P j))) := by
                    have := (v2 j hlj).1
                    rw [hPl j hlj, hl1, hVj] at this
                    exact this
                  have CC : (fun w' : World => w'.cell? ⟨pb, j, none⟩ = some (.slice va t vc) ∧ w'.cell? ⟨w.heap.size, 0, none⟩ = some (.int .i64 ins) ∧ w'.cell? ⟨w.heap.size, 1, none⟩ = some (.slice go N gc) ∧ w'.cell? ⟨w.heap.size, 2, none⟩ = some (.slice uo U uc)) w3.drew := ⟨hcj3, a0, a1, a2⟩
                  have ht4 : t ≤ 1099511627776 := by omega
                  obtain ⟨FP, hFP⟩ : ∃ FP, FP = Fi.fls (P j) := ⟨_, rfl⟩
                  rw [← hFP] at HPu HOw
                  clear hJ3 v1 v2 v3 v4 v5 hPl hl1 hVj vc1 vc2 hS hvl hFP hcj f0 f1 f2 lf HRd
                  go_wp2_with fail
                  refine RF.wp_region_last (fun w' : World => w'.cell? ⟨pb, j, none⟩ = some (.slice va t vc) ∧ w'.cell? ⟨w.heap.size, 0, none⟩ = some (.int .i64 ins) ∧ w'.cell? ⟨w.heap.size, 1, none⟩ = some (.slice go N gc) ∧ w'.cell? ⟨w.heap.size, 2, none⟩ = some (.slice uo U uc)) (fun k => k != 11 && k != 12 && k != 13) 15 _ rfl (by kernel_rfl) (by kernel_rfl) (by kernel_rfl) (by kernel_rfl) (by kernel_rfl) CC ?_
                  dsimp only [List.take]
                  refine RF.wpFl_readC rfl rfl (.slice (some ⟨pb, 0, none⟩) N N) (fun w' hw' => by have p0 := hw'.1; have p1 := hw'.2.1; have p2 := hw'.2.2.1; have p3 := hw'.2.2.2; have k0 := lt_cell p0; have k1 := lt_cell p1; clear hw'; unfold RM.valAt; go_simp) ?_
                  refine RF.wpFl_readC rfl rfl (.int .i64 (j : Nat)) (fun w' hw' => by have p0 := hw'.1; have p1 := hw'.2.1; have p2 := hw'.2.2.1; have p3 := hw'.2.2.2; have k0 := lt_cell p0; have k1 := lt_cell p1; clear hw'; unfold RM.valAt; go_simp) ?_
                  refine RF.wpFl_readC rfl rfl (.slice (some ⟨pb, 0, none⟩) N N) (fun w' hw' => by have p0 := hw'.1; have p1 := hw'.2.1; have p2 := hw'.2.2.1; have p3 := hw'.2.2.2; have k0 := lt_cell p0; have k1 := lt_cell p1; clear hw'; unfold RM.valAt; go_simp) ?_
                  refine RF.wpFl_readC rfl rfl (.int .i64 (j : Nat)) (fun w' hw' => by have p0 := hw'.1; have p1 := hw'.2.1; have p2 := hw'.2.2.1; have p3 := hw'.2.2.2; have k0 := lt_cell p0; have k1 := lt_cell p1; clear hw'; unfold RM.valAt; go_simp) ?_
                  refine RF.wpFl_readC rfl rfl (.pointer (some ⟨pb, j, none⟩)) (fun w' hw' => by have p0 := hw'.1; have p1 := hw'.2.1; have p2 := hw'.2.2.1; have p3 := hw'.2.2.2; have k0 := lt_cell p0; have k1 := lt_cell p1; clear hw'; unfold RM.valAt; go_simp) ?_
                  refine RF.wpFl_readC rfl rfl (.slice va t vc) (fun w' hw' => by have p0 := hw'.1; have p1 := hw'.2.1; have p2 := hw'.2.2.1; have p3 := hw'.2.2.2; have k0 := lt_cell p0; have k1 := lt_cell p1; clear hw'; unfold RM.valAt; go_simp) ?_
                  refine RF.wpFl_readC rfl rfl (.agg #[.int .i64 ins, .slice go N gc, .slice uo U uc]) (fun w' hw' => by have p0 := hw'.1; have p1 := hw'.2.1; have p2 := hw'.2.2.1; have p3 := hw'.2.2.2; have k0 := lt_cell p0; have k1 := lt_cell p1; clear hw'; unfold RM.valAt; go_simp) ?_
                  refine RF.wpFl_readC rfl rfl (.slice (some ⟨pb, 0, none⟩) N N) (fun w' hw' => by have p0 := hw'.1; have p1 := hw'.2.1; have p2 := hw'.2.2.1; have p3 := hw'.2.2.2; have k0 := lt_cell p0; have k1 := lt_cell p1; clear hw'; unfold RM.valAt; go_simp) ?_
                  refine RF.wpFl_readC rfl rfl (.slice io m ic) (fun w' hw' => by have p0 := hw'.1; have p1 := hw'.2.1; have p2 := hw'.2.2.1; have p3 := hw'.2.2.2; have k0 := lt_cell p0; have k1 := lt_cell p1; clear hw'; unfold RM.valAt; go_simp) ?_
                  refine RF.wpFl_readC rfl rfl (.int .i64 (j : Nat)) (fun w' hw' => by have p0 := hw'.1; have p1 := hw'.2.1; have p2 := hw'.2.2.1; have p3 := hw'.2.2.2; have k0 := lt_cell p0; have k1 := lt_cell p1; clear hw'; unfold RM.valAt; go_simp) ?_
                  refine RF.wpFl_readC rfl rfl (.int .i64 (t : Nat)) (fun w' hw' => by have p0 := hw'.1; have p1 := hw'.2.1; have p2 := hw'.2.2.1; have p3 := hw'.2.2.2; have k0 := lt_cell p0; have k1 := lt_cell p1; clear hw'; unfold RM.valAt; go_simp) ?_
                  refine RF.wpFl_doC rfl rfl (fun K hK => ?_)
                  go_wp2_with fail
                  refine qs.mono ?_
                  rintro e w4 ⟨x, rfl, hx1, hx2, hb4⟩
                  have hb4' : Below w3.heap.size w3 w4 := Below.trans hD3 hb4
                  have b0 := Fi.keepC hb4' lpb3 hcj3
                  have b1 := Fi.keepC hb4' la a0
                  have b2 := Fi.keepC hb4' la a1
                  have b3 := Fi.keepC hb4' la a2
                  have HB4 : Hid (Below w3.heap.size w3 w4) := hb4'
                  have Hx : Hid (x < 18446744073709551616 ∧ ab x = vl g I j t) := ⟨hx1, hx2⟩
                  have z4 := hb4'.size
                  clear qs hb4 hb4' hx2
                  go_wp2_with fail
                  refine hK _ _ ⟨b0, b1, b2, b3⟩ ?_
                  clear hK K
                  have hA : Below w4.heap.size w4 (w4.alloc (Obj.cells #[.float .f64 x] 46)) := (Below.refl _ _).alloc (Nat.le_refl _) _
                  have HA4 : Hid (Below w3.heap.size w3 (w4.alloc (Obj.cells #[.float .f64 x] 46))) := HB4.out.trans (hA.mono z4)
                  refine RF.wpFl_doC rfl rfl (fun K hK => ?_)
                  go_wp2_with fail
                  refine hK _ _ ⟨Fi.keepC hA (lt_cell b0) b0, Fi.keepC hA (lt_cell b1) b1, Fi.keepC hA (lt_cell b2) b2, Fi.keepC hA (lt_cell b3) b3⟩ ?_
                  clear hK K
                  have HOa : Hid ((w4.alloc (Obj.cells #[.float .f64 x] 46)).ownsRow (pb + 1) 46 1 (.slice va t vc) t FP) := Fi.own_step HOw.out (fun b e => HA4.out.block b (Fi.own_lt HOw.out b e))
                  have hxc : (w4.alloc (Obj.cells #[.float .f64 x] 46)).cell? ⟨w4.heap.size, 0, none⟩ = some (.float .f64 x) := (World.cell?_alloc_at _ _ _ _ rfl).trans rfl
                  have hbz : pb + 1 ≤ (w4.alloc (Obj.cells #[.float .f64 x] 46)).heap.size := by have := hA.size; omega
                  refine RF.wpFl_doC rfl rfl (fun K hK => ?_)
                  refine wpList_append_w rfl (.tmp 49) (.tmp 56) rfl (pb + 1) (.slice va t vc) t FP rfl HOa.out w4.heap.size (.float .f64 x) rfl hxc rfl ht4 hbz ?_
                  intro v' w7 h7 g7
                  have hpu := HPu.out _ w7 x v' Hx.out.1 Hx.out.2 HA4.out h7 g7
                  have hne : ∀ o u, w3.cell? ⟨w.heap.size, o, none⟩ = some u → w7.cell? ⟨w.heap.size, o, none⟩ = some u := fun o u hu => g7.cell (by have := hA.size; omega) (fun e => by have := Fi.own_block HOw.out _ e.symm; have := Hxb.out; omega) (Fi.keepC HA4.out la hu)
                  have z2 := hpu.cell j _ hcj3
                  have z5 := hpu.fz
                  have HN : Hid (∃ D : Nat → Bool, JA (w7.setCell ⟨pb, j, none⟩ v') pb pb N (fun k => mad g I (ln D t k) k) ∧ (∀ k, k < N → r k < s → D k = true) ∧ ∀ k, k < j + 1 → r k < s + 1 → D k = true) := ⟨fun k => D k || decide (k = j), hpu.ja, fun k hk h => by simp [HD.out.2.1 k hk h], fun k hk h => by
                    by_cases c : k = j
                    · simp [c]
                    · simp [HD.out.2.2.1 k (by omega) h]⟩
                  have HB7 : Hid (Below pb W2 (w7.setCell ⟨pb, j, none⟩ v')) := hpu.b _ _ (Nat.le_refl _) (by omega) HBj3.out
                  obtain ⟨va2, vc3, rfl, vd1, vd2⟩ := Fi.own_form h7
                  refine hK _ _ ⟨z2, hne 0 _ a0, hne 1 _ a1, hne 2 _ a2⟩ ?_
                  clear hK K h7 g7 hpu hne CC
                  refine RF.wpFl_readC rfl rfl (.pointer (some ⟨pb, j, none⟩)) (fun w' hw' => by have p0 := hw'.1; have p1 := hw'.2.1; have p2 := hw'.2.2.1; have p3 := hw'.2.2.2; have k0 := lt_cell p0; have k1 := lt_cell p1; clear hw'; unfold RM.valAt; go_simp) ?_
                  refine RF.wpFl_nil ?_
                  have lz2 := lt_cell z2
                  go_wp2_with fail
                  generalize w7.setCell ⟨pb, j, none⟩ (.slice va2 (t + 1) vc3) = W8 at *
                  clear HPu HOw HOa z2 z5 lz2 hbz hxc hA hD3 b0 b1 b2 b3 a0 a1 a2 HD HB4 HA4
                  go_wp2_with fail
                  exact ⟨⟨j + 1, by omega, by go_num, HN, HB7⟩, by simp [intOf]; omega⟩
              --)
            · obtain rfl : N = j := by omega
              have HN : Hid (∃ D : Nat → Bool, JA wr pb pb N (fun k => mad g I (ln D t k) k) ∧ ∀ k, k < N → r k < s + 1 → D k = true) := by
                obtain ⟨D, d1, d2, d3⟩ := hE.out
                exact ⟨D, d1, d3⟩
              clear hE
              go_wp2_with fail
              exact ⟨⟨s + 1, by omega, by go_num, HN, hbj⟩, by simp [intOf]; omega⟩
        · obtain rfl : N = s := by omega
          have HN : Hid (JA wr pb pb N (fun k => mad g I (t + 1) k)) := by
            obtain ⟨D, d1, d2⟩ := hD.out
            exact d1.congr (fun k hk => by
              have : ln D t k = t + 1 := by unfold ln; rw [if_pos (d2 k hk (HC.out.2.2.2.1 k hk))]
              rw [this])
          clear hD
          go_wp2_with fail
          exact ⟨⟨t + 1, by omega, by go_num, HN, hbs⟩, by simp [intOf]; omega⟩
    · obtain rfl : n = t := by omega
      have hd : decide ((n : Int) < (n : Int)) = false := by simp
      have HQ : Hid (AllQ w g I N n (.returned (.slice (some ⟨pb, 0, none⟩) N N)) wr) := ⟨pb, rfl, by omega, hJ.out, HB2.out.trans (hbr.out.mono (by omega))⟩
      clear hJ
      go_wp2_with fail
      go_ret
      exact HQ.out
end Go.Proofs.Ytjpcebnbkdekkaa.Gh

/- The law's right: is a piece as the graph asks? -/
namespace Go.Proofs.Ytjpcebnbkdekkaa.Gh
open Go.RowKit Go.Maps Go.Sort Fl
set_option linter.unusedVariables false
set_option linter.unusedSimpArgs false

theorem fitB_all {ins : Int} {P : List (List Nat)} {n : Int} (h0 : (P.length : Int) = ins) (h : ∀ (k : Nat) l, P[k]? = some l → (l.length : Int) = n) : fitB ins P n = true := by
  unfold fitB
  rw [Bool.and_eq_true, decide_eq_true_eq, List.all_eq_true]
  refine ⟨h0, fun l hl => ?_⟩
  obtain ⟨k, hk⟩ := List.getElem?_of_mem hl
  exact decide_eq_true (h k l hk)
theorem fitB_len {ins : Int} {P : List (List Nat)} {n : Int} (h : (P.length : Int) ≠ ins) : fitB ins P n = false := by
  unfold fitB
  rw [decide_eq_false h, Bool.false_and]
set_option maxRecDepth 40000 in
set_option maxHeartbeats 8000000 in
theorem right_any (g : Gr) (go uo : Option Addr) (gc uc : Nat) (Pn : List (List Nat)) (io : Option Addr) (pl ic : Nat) (n : Int) (rs : Bool) (w : World) (hP : Fi.PL w w.heap.size io Pn) (hl : Pn.length = pl) (hc : pl ≤ ic) (hcm : ic ≤ 9223372036854775807) :
    Calls Try.prog 9 #[gvg g go uo gc uc, .agg #[.slice io pl ic, .int .i64 n, .bool rs]] w fun e w' => e = .returned (.int .i64 (er g Pn n)) ∧ Below w.heap.size w w' := by
  obtain ⟨N, hN⟩ : ∃ N, N = g.nodes.length := ⟨_, rfl⟩
  obtain ⟨U, hU⟩ : ∃ U, U = g.outs.length := ⟨_, rfl⟩
  obtain ⟨ins, hins⟩ : ∃ ins, ins = g.ins := ⟨_, rfl⟩
  have hargs : gvg g go uo gc uc = .agg #[.int .i64 ins, .slice go N gc, .slice uo U uc] := by rw [hU, hins, hN]
  rw [hargs]
  obtain ⟨W2, hW2⟩ : ∃ X, X = (w.alloc (Obj.cells #[.int .i64 ins, .slice go N gc, .slice uo U uc] 25)).alloc (Obj.cells #[.slice io pl ic, .int .i64 n, .bool rs] 34) := ⟨_, rfl⟩
  have hb2 : Below w.heap.size w W2 := by rw [hW2]; exact ((Below.refl _ _).alloc (Nat.le_refl _) _).alloc (by simp) _
  have z2 : W2.heap.size = w.heap.size + 2 := by rw [hW2]; simp
  have p0 : W2.cell? ⟨w.heap.size + 1, 0, none⟩ = some (.slice io pl ic) := by rw [hW2]; simp [go_sem]
  have p1 : W2.cell? ⟨w.heap.size + 1, 1, none⟩ = some (.int .i64 n) := by rw [hW2]; simp [go_sem]
  have lp : w.heap.size + 1 < W2.heap.size := by omega
  have HB2 : Hid (Below w.heap.size w W2) := hb2
  have HP : Hid (Fi.PL W2 w.heap.size io Pn) := hP.keep (Nat.le_refl _) (fun b hb => hb2.block b hb) hb2.size
  have HW2 : Hid ((w.alloc (Obj.cells #[.int .i64 ins, .slice go N gc, .slice uo U uc] 25)).alloc (Obj.cells #[.slice io pl ic, .int .i64 n, .bool rs] 34) = W2) := hW2.symm
  have Her : Hid (er g Pn n = if n < 0 ∨ 65536 < n then 3 else if fitB ins Pn n = true then 0 else 8) := by rw [hins]; exact rfl
  obtain ⟨WR, hWR⟩ : ∃ A, A = er g Pn n := ⟨_, rfl⟩
  have HWR : Hid (WR = er g Pn n) := hWR
  have Hl : Hid (Pn.length = pl) := hl
  rw [← hWR]
  clear hargs hU hins hN hW2 hb2 hP hWR hl
  by_cases h1 : n < 0
  · have hv : Hid (WR = 3) := by unfold Hid; rw [HWR.out, Her.out, if_pos (.inl h1)]
    go_enter Try.func9, Try.ntmps9
    go_wp2_with fail
    go_ret
    refine ⟨?_, by rw [HW2.out]; exact HB2.out⟩
    show Ending.returned (.int .i64 3) = _
    rw [hv.out]
  · by_cases h2 : 65536 < n
    · have hv : Hid (WR = 3) := by unfold Hid; rw [HWR.out, Her.out, if_pos (.inr h2)]
      go_enter Try.func9, Try.ntmps9
      go_wp2_with fail
      go_ret
      refine ⟨?_, by rw [HW2.out]; exact HB2.out⟩
      show Ending.returned (.int .i64 3) = _
      rw [hv.out]
    · have Hok : Hid (¬ (n < 0 ∨ 65536 < n)) := by unfold Hid; omega
      by_cases h3 : (pl : Int) = ins
      · have hb3 : ((pl : Int) != ins) = false := by simp [h3]
        have H3 : Hid ((pl : Int) = ins) := h3
        clear h3
        go_enter Try.func9, Try.ntmps9
        go_wp2_with fail
        rw [HW2.out]
        go_loopw [24] (fun q ww => ∃ j : Nat, j ≤ pl ∧ q = .int .i64 j ∧ Hid (∀ (a : Nat) l, a < j → Pn[a]? = some l → (l.length : Int) = n) ∧ ww = W2) (fun q _ => pl - (intOf q).toNat)
        case atStart => exact ⟨0, Nat.zero_le _, rfl, fun a l h => absurd h (by omega), rfl⟩
        case round =>
          obtain ⟨j, hj, rfl, hR, rfl⟩ := hrel
          by_cases hlt : j < pl
          · obtain ⟨l, hl⟩ : ∃ l, Pn[j]? = some l := ⟨_, List.getElem?_eq_getElem (by rw [Hl.out]; exact hlt)⟩
            obtain ⟨b, off, rfl, q1, q2⟩ := HP.out.at' (by rw [Hl.out]; omega)
            obtain ⟨la, lc, v0, q4, q5, q6, q7⟩ := q2 j l hl
            obtain ⟨L, hL⟩ : ∃ L, L = l.length := ⟨_, rfl⟩
            rw [← hL] at v0 q4
            have lv := lt_cell v0
            have hlt' : (j : Int) < (pl : Int) := by omega
            have w9 : IntKind.i64.wrap ((j : Int) + 1) = (j : Int) + 1 := wid (by omega) (by omega)
            by_cases c : (L : Int) = n
            · have hb : ((L : Int) != n) = false := by simp [c]
              have HN : Hid (∀ (a : Nat) l, a < j + 1 → Pn[a]? = some l → (l.length : Int) = n) := fun a y ha hy => by
                by_cases e : a = j
                · subst e
                  rw [hl] at hy
                  cases hy
                  rw [← hL]; exact c
                · exact hR.out a y (by omega) hy
              clear hR q2 hl q7 hL c
              go_wp2_with fail
              exact ⟨⟨j + 1, by omega, by go_num, HN, trivial⟩, by simp [intOf]; omega⟩
            · have hb : ((L : Int) != n) = true := by simp [c]
              have hv : Hid (WR = 8) := by
                unfold Hid
                rw [HWR.out, Her.out, if_neg Hok.out, fitB_no hl (by rw [← hL]; exact c)]; rfl
              clear hR q2 hl q7 hL c
              go_wp2_with fail
              go_ret
              refine ⟨?_, HB2.out⟩
              show Ending.returned (.int .i64 8) = _
              rw [hv.out]
          · obtain rfl : pl = j := by omega
            have hv : Hid (WR = 0) := by
              unfold Hid
              rw [HWR.out, Her.out, if_neg Hok.out, fitB_all (by rw [Hl.out]; exact H3.out) (fun k l h => hR.out k l (by have := (List.getElem?_eq_some_iff.1 h).1; rw [Hl.out] at this; exact this) h)]; rfl
            clear hR
            go_wp2_with fail
            go_ret
            refine ⟨?_, HB2.out⟩
            show Ending.returned (.int .i64 0) = _
            rw [hv.out]
      · have hb3 : ((pl : Int) != ins) = true := by simp [h3]
        have hv : Hid (WR = 8) := by
          unfold Hid
          rw [HWR.out, Her.out, if_neg Hok.out, fitB_len (by rw [Hl.out]; exact h3)]; rfl
        clear h3
        go_enter Try.func9, Try.ntmps9
        go_wp2_with fail
        go_ret
        refine ⟨?_, by rw [HW2.out]; exact HB2.out⟩
        show Ending.returned (.int .i64 8) = _
        rw [hv.out]
end Go.Proofs.Ytjpcebnbkdekkaa.Gh

/- GraphRuns, plain: what came in so far, run by run. -/
namespace Go.Proofs.Ytjpcebnbkdekkaa.Gh
open Go.RowKit Go.Maps Go.Sort Fl
set_option linter.unusedVariables false
set_option linter.unusedSimpArgs false

/-- Nothing yet, out of M. -/
def ze (M : Nat) : List (List Nat) := List.replicate M []
/-- What there is ahead of a piece. -/
def c0 (M : Nat) (c : List (List Nat)) (p : Pc) : List (List Nat) := if p.rest = true then ze M else c
/-- What came in, with one piece more. -/
def stp (g : Gr) (M : Nat) (c : List (List Nat)) (p : Pc) : List (List Nat) := if er g p.ins p.n = 0 then List.zipWith (fun a b => a ++ b) (c0 M c p) p.ins else c0 M c p
def cum (g : Gr) (M : Nat) : List (List Nat) → List Pc → List (List Nat)
  | c, [] => c
  | c, p :: l => cum g M (stp g M c p) l
theorem cum_app (g : Gr) (M : Nat) : ∀ (c : List (List Nat)) (a b : List Pc), cum g M c (a ++ b) = cum g M (cum g M c a) b
  | c, [], b => rfl
  | c, p :: a, b => cum_app g M (stp g M c p) a b
theorem cum_step (g : Gr) (M : Nat) {l : List Pc} {k : Nat} {p : Pc} (c : List (List Nat)) (h : l[k]? = some p) : cum g M c (l.take (k + 1)) = stp g M (cum g M c (l.take k)) p := by
  rw [List.take_add_one, h, cum_app]; rfl
/-- All M rows are as long as the time tells. -/
structure Cu (M t : Nat) (c : List (List Nat)) : Prop where
  m : c.length = M
  l : ∀ (q : Nat) a, c[q]? = some a → a.length = t
theorem Cu.ze (M : Nat) : Cu M 0 (ze M) := ⟨by unfold Gh.ze; simp, fun q a h => by
  unfold Gh.ze at h
  rw [List.getElem?_replicate] at h
  by_cases c : q < M
  · rw [if_pos c] at h; cases h; rfl
  · rw [if_neg c] at h; cases h⟩
theorem Cu.c0 {M t : Nat} {c : List (List Nat)} (h : Cu M t c) (p : Pc) : Cu M (t0 t p) (c0 M c p) := by
  unfold Gh.c0 t0
  by_cases e : p.rest = true
  · rw [if_pos e, if_pos e]; exact Cu.ze M
  · rw [if_neg e, if_neg e]; exact h
theorem Cu.stp {g : Gr} {M t : Nat} {c : List (List Nat)} (h : Cu M t c) (hM : (M : Int) = g.ins) (p : Pc) : Cu M (tnx g t p) (stp g M c p) := by
  have h0 := h.c0 p
  unfold Gh.stp tnx
  by_cases e : er g p.ins p.n = 0
  · rw [if_pos e, if_pos e]
    obtain ⟨e1, e2, e3, e4⟩ := er_ok e
    refine ⟨by rw [List.length_zipWith, h0.m]; omega, fun q a hq => ?_⟩
    rw [List.getElem?_zipWith] at hq
    cases h1 : (Gh.c0 M c p)[q]? with
    | none => rw [h1] at hq; cases hq
    | some x =>
      cases h2 : p.ins[q]? with
      | none => rw [h1, h2] at hq; cases hq
      | some y =>
        rw [h1, h2] at hq
        cases hq
        have := h0.l q x h1
        have h5 := e4 y (List.mem_of_getElem? h2)
        rw [List.length_append, this]
        omega
  · rw [if_neg e, if_neg e]
    exact h0
theorem Cu.cum {g : Gr} {M : Nat} (hM : (M : Int) = g.ins) : ∀ {l : List Pc} {t : Nat} {c : List (List Nat)}, Cu M t c → Cu M (tst g t l) (cum g M c l)
  | [], t, c, h => h
  | p :: l, t, c, h => Cu.cum (l := l) hM (h.stp hM p)
/-- The run's end, seen from behind a piece. -/
def fin (g : Gr) (M : Nat) : List (List Nat) → List Pc → List (List Nat)
  | c, [] => c
  | c, p :: l => if p.rest = true then c else fin g M (stp g M c p) l
/-- What comes in at each time of piece k's run. -/
def jr (g : Gr) (M : Nat) (pcs : List Pc) (k : Nat) : Hist := iB (fin g M (cum g M (ze M) (pcs.take (k + 1))) (pcs.drop (k + 1)))
theorem jr_same (g : Gr) (M : Nat) (pcs : List Pc) : ∀ k p, pcs[k + 1]? = some p → p.rest = false → jr g M pcs (k + 1) = jr g M pcs k := fun k p h hr => by
  unfold jr
  have hk := (List.getElem?_eq_some_iff.1 h).1
  have e : pcs.drop (k + 1) = p :: pcs.drop (k + 2) := by
    rw [List.drop_eq_getElem_cons hk]
    have := (List.getElem?_eq_some_iff.1 h).2
    rw [this]
  rw [e]
  show _ = iB (if p.rest = true then _ else fin g M (stp g M _ p) (pcs.drop (k + 2)))
  rw [if_neg (by rw [hr]; decide), ← cum_step g M (ze M) h]
/-- What came in stays at the head of what comes. -/
def Hq (c d : List (List Nat)) : Prop := ∀ (q : Nat) a, c[q]? = some a → ∃ b, d[q]? = some (a ++ b)
theorem Hq.refl (c : List (List Nat)) : Hq c c := fun q a h => ⟨[], by rw [h, List.append_nil]⟩
theorem Hq.trans {c d e : List (List Nat)} (h : Hq c d) (h2 : Hq d e) : Hq c e := fun q a hq => by
  obtain ⟨b, hb⟩ := h q a hq
  obtain ⟨b2, hb2⟩ := h2 q _ hb
  exact ⟨b ++ b2, by rw [hb2, List.append_assoc]⟩
theorem Hq.stp {g : Gr} {M : Nat} {c : List (List Nat)} {p : Pc} (hM : (M : Int) = g.ins) (hc : c.length = M) (hr : p.rest = false) : Hq c (stp g M c p) := fun q a hq => by
  have e0 : Gh.c0 M c p = c := by unfold Gh.c0; rw [if_neg (by rw [hr]; decide)]
  unfold Gh.stp
  rw [e0]
  by_cases e : er g p.ins p.n = 0
  · rw [if_pos e]
    obtain ⟨_, _, e3, _⟩ := er_ok e
    have hq2 := (List.getElem?_eq_some_iff.1 hq).1
    have h2 : p.ins[q]? = some (p.ins[q]'(by omega)) := List.getElem?_eq_getElem (by omega)
    exact ⟨_, by rw [List.getElem?_zipWith, hq, h2]⟩
  · rw [if_neg e]
    exact Hq.refl c q a hq
theorem Hq.fin {g : Gr} {M : Nat} (hM : (M : Int) = g.ins) : ∀ {l : List Pc} {t : Nat} {c : List (List Nat)}, Cu M t c → Hq c (fin g M c l)
  | [], t, c, h => Hq.refl c
  | p :: l, t, c, h => by
    show Hq c (if p.rest = true then c else Gh.fin g M (Gh.stp g M c p) l)
    by_cases e : p.rest = true
    · rw [if_pos e]; exact Hq.refl c
    · rw [if_neg e]
      exact (Hq.stp hM h.m (by simpa using e)).trans (Hq.fin (l := l) hM (h.stp hM p))
theorem iB_hd {c d : List (List Nat)} (h : Hq c d) {q t : Nat} {a : List Nat} (hq : c[q]? = some a) (ht : t < a.length) : iB d q t = iB c q t := by
  obtain ⟨b, hb⟩ := h q a hq
  unfold iB
  have g1 : d.getD q [] = a ++ b := by rw [List.getD_eq_getElem?_getD, hb]; rfl
  have g2 : c.getD q [] = a := by rw [List.getD_eq_getElem?_getD, hq]; rfl
  rw [g1, g2, List.getD_eq_getElem?_getD, List.getD_eq_getElem?_getD, List.getElem?_append_left ht]
/-- A piece's own samples. -/
theorem jr_piece {g : Gr} {M : Nat} (hM : (M : Int) = g.ins) (pcs : List Pc) : ∀ k p, pcs[k]? = some p → er g p.ins p.n = 0 → ∀ (q : Nat) l, p.ins[q]? = some l → ∀ i, i < p.n.toNat → jr g M pcs k q (t0 (tst g 0 (pcs.take k)) p + i) = ab (l.getD i 0) := fun k p h he q l hl i hi => by
  obtain ⟨e1, e2, e3, e4⟩ := er_ok he
  have hC := Cu.cum (g := g) hM (l := pcs.take k) (Cu.ze M)
  have hC0 := hC.c0 p
  have hC1 := hC.stp hM p
  have hq := (List.getElem?_eq_some_iff.1 hl).1
  obtain ⟨x, hx⟩ : ∃ x, (Gh.c0 M (cum g M (ze M) (pcs.take k)) p)[q]? = some x := ⟨_, List.getElem?_eq_getElem (by rw [hC0.m]; omega)⟩
  have hxl := hC0.l q x hx
  have hs : (stp g M (cum g M (ze M) (pcs.take k)) p)[q]? = some (x ++ l) := by
    unfold stp
    rw [if_pos he, List.getElem?_zipWith, hx, hl]
  have hll := e4 l (List.mem_of_getElem? hl)
  unfold jr
  rw [cum_step g M (ze M) h, iB_hd (Hq.fin hM hC1) hs (by rw [List.length_append, hxl]; omega)]
  unfold iB
  have g1 : (stp g M (cum g M (ze M) (pcs.take k)) p).getD q [] = x ++ l := by rw [List.getD_eq_getElem?_getD, hs]; rfl
  rw [g1, List.getD_eq_getElem?_getD, List.getD_eq_getElem?_getD, List.getElem?_append_right (by omega), hxl, Nat.add_sub_cancel_left]
/-- As far as time has come, the run is what came in so far. -/
theorem jr_so_far {g : Gr} {M : Nat} (hM : (M : Int) = g.ins) (hg : ∀ i, many (nd g i)) (hin : ∀ i, (nd g i).kind = 1 → 0 ≤ (nd g i).n ∧ (nd g i).n < g.ins) (pcs : List Pc) (k : Nat) (q t : Nat) (hq : q < M) (ht : t < tst g 0 (pcs.take (k + 1))) : jr g M pcs k q t = iB (cum g M (ze M) (pcs.take (k + 1))) q t := by
  have hC := Cu.cum (g := g) hM (l := pcs.take (k + 1)) (Cu.ze M)
  obtain ⟨x, hx⟩ : ∃ x, (cum g M (ze M) (pcs.take (k + 1)))[q]? = some x := ⟨_, List.getElem?_eq_getElem (by rw [hC.m]; exact hq)⟩
  exact iB_hd (Hq.fin hM hC) hx (by rw [hC.l q x hx]; exact ht)
end Go.Proofs.Ytjpcebnbkdekkaa.Gh

/- A rank of the nodes where none hears itself: how many a node hears. -/
namespace Go.Proofs.Ytjpcebnbkdekkaa.Gh
open Go.RowKit Go.Maps Go.Sort Fl
set_option linter.unusedVariables false
set_option linter.unusedSimpArgs false

theorem countP_le_of {a b : Nat → Bool} : ∀ (l : List Nat), (∀ j ∈ l, a j = true → b j = true) → l.countP a ≤ l.countP b
  | [], _ => Nat.le_refl _
  | x :: l, h => by
    have ih := countP_le_of l (fun j hj => h j (List.mem_cons_of_mem _ hj))
    have hx := h x (List.mem_cons_self ..)
    rw [List.countP_cons, List.countP_cons]
    by_cases c : a x = true
    · rw [if_pos c, if_pos (hx c)]; omega
    · rw [if_neg c]; split <;> omega
theorem countP_lt_of {a b : Nat → Bool} {k : Nat} : ∀ (l : List Nat), (∀ j ∈ l, a j = true → b j = true) → k ∈ l → a k = false → b k = true → l.countP a < l.countP b
  | [], _, h, _, _ => by cases h
  | x :: l, h, hk, ha, hb => by
    have hl : ∀ j ∈ l, a j = true → b j = true := fun j hj => h j (List.mem_cons_of_mem _ hj)
    have hx := h x (List.mem_cons_self ..)
    rw [List.countP_cons, List.countP_cons]
    by_cases e : k = x
    · subst e
      have := countP_le_of l hl
      rw [ha, hb]; simp; omega
    · have hk' : k ∈ l := by
        rcases List.mem_cons.1 hk with h1 | h1
        · exact absurd h1 e
        · exact h1
      have := countP_lt_of l hl hk' ha hb
      by_cases c : a x = true
      · rw [if_pos c, if_pos (hx c)]; omega
      · rw [if_neg c]; split <;> omega
/-- How many a node hears, by whatever way. -/
def hrd (g : Gr) (i : Nat) : Nat := (List.range g.nodes.length).countP (fun k => rm g g.nodes.length i k)
theorem hrd_le (g : Gr) (i : Nat) : hrd g i ≤ g.nodes.length := by
  have := List.countP_le_length (p := fun k => rm g g.nodes.length i k) (l := List.range g.nodes.length)
  rw [List.length_range] at this
  exact this
theorem hrd_self {g : Gr} (h : ¬ Cyc g) {i : Nat} (hi : i < g.nodes.length) : rm g g.nodes.length i i = false := by
  cases e : rm g g.nodes.length i i with
  | false => rfl
  | true => exact absurd (cyc_pt.2 ⟨i, hi, (rm_pt g _ i i).1 e⟩) h
theorem hrd_lt {g : Gr} (h : ¬ Cyc g) {i : Nat} (hi : i < g.nodes.length) : hrd g i < g.nodes.length := by
  have := countP_lt_of (a := fun k => rm g g.nodes.length i k) (b := fun _ => true) (k := i) (List.range g.nodes.length) (fun _ _ _ => rfl) (List.mem_range.2 hi) (hrd_self h hi) rfl
  have e : (List.range g.nodes.length).countP (fun _ => true) ≤ g.nodes.length := by
    have := List.countP_le_length (p := fun _ : Nat => true) (l := List.range g.nodes.length)
    rw [List.length_range] at this
    exact this
  unfold hrd
  omega
theorem hrd_rk {g : Gr} (h : ¬ Cyc g) (hW : Wf g) : Rk g (hrd g) := by
  refine ⟨hrd_le g, fun i hi k hk => ?_, fun i hi => ?_⟩
  · obtain ⟨d1, d2, d3, d4⟩ := hW.n _ (List.mem_of_getElem? (get_nd hi))
    have hm : k ∈ (nd g i).frm := by
      unfold now at hk
      split at hk
      · cases hk
      · exact hk
    have hkN : k.toNat < g.nodes.length := by have := d2 k hm; omega
    have he : rm g g.nodes.length i k.toNat = true := (rm_pt g _ i _).2 (Pt.le (Nat.zero_le _) (show Pt g 0 i k.toNat from ⟨k, hk, rfl⟩))
    exact countP_lt_of (k := k.toNat) (List.range g.nodes.length) (fun j _ hj => (rm_pt g _ i j).2 (Pt.trans hkN ((rm_pt g _ i _).1 he) ((rm_pt g _ _ j).1 hj))) (List.mem_range.2 hkN) (hrd_self h hkN) he
  · obtain ⟨d1, d2, d3, d4⟩ := hW.n _ (List.mem_of_getElem? (get_nd hi))
    exact ⟨d1, d2⟩
end Go.Proofs.Ytjpcebnbkdekkaa.Gh
