/- What the document's nodes made so far, in memory; its ready. -/
import Derived.Test.YtjpcebnbkdekkaaGU21
import Derived.Test.YtjpcebnbkdekkaaGU6
namespace Go.Proofs.Ytjpcebnbkdekkaa.Gh
open Go.RowKit Go.Maps Go.Sort Fl
set_option linter.unusedVariables false
set_option linter.unusedSimpArgs false

/-- What all nodes made so far, as words. -/
structure PA (w : World) (pb N : Nat) (P : Nat → List Nat) : Prop where
  rd : ∀ k, k < N → ∃ ao c, w.cell? ⟨pb, k, none⟩ = some (.slice ao (P k).length c) ∧ (P k).length ≤ c ∧ c ≤ 9223372036854775807 ∧ ∀ (j x : Nat), (P k)[j]? = some x → ∃ b off, ao = some ⟨b, off, none⟩ ∧ b < w.heap.size ∧ w.cell? ⟨b, off + j, none⟩ = some (.float .f64 x)
theorem PA.bel {w w' : World} {pb N : Nat} {P : Nat → List Nat} (h : PA w pb N P) (hb : Below w.heap.size w w') : PA w' pb N P := ⟨fun k hk => by
  obtain ⟨ao, c, h1, h2, h3, h4⟩ := h.rd k hk
  refine ⟨ao, c, Fi.keepC hb (lt_cell h1) h1, h2, h3, fun j x hj => ?_⟩
  obtain ⟨b, off, g1, g2, g3⟩ := h4 j x hj
  exact ⟨b, off, g1, by have := hb.size; omega, Fi.keepC hb g2 g3⟩⟩
/-- p.at at a time. -/
theorem at_any (pb N : Nat) (P : Nat → List Nat) (i : Nat) (t : Int) (x : Nat) (w : World) (h : PA w pb N P) (hi : i < N) (hx : (t < 0 ∧ x = 0) ∨ (0 ≤ t ∧ (P i)[t.toNat]? = some x)) :
    Calls Try.prog 33 #[.slice (some ⟨pb, 0, none⟩) N N, .int .i64 i, .int .i64 t] w fun e w' => e = .returned (.float .f64 x) ∧ w' = w := by
  rcases hx with ⟨h1, rfl⟩ | ⟨h1, h2⟩
  · exact at_neg _ _ _ _ h1
  · obtain ⟨ao, c, g1, g2, g3, g4⟩ := h.rd i hi
    obtain ⟨b, off, rfl, g5, g6⟩ := g4 _ _ h2
    have hl := (List.getElem?_eq_some_iff.1 h2).1
    have := at_pos pb N i (P i).length c b off t.toNat x w g1 g6 hi hl
    rw [Int.toNat_of_nonneg h1] at this
    exact this
/-- Has all that is heard at once made its sample t? -/
def rdB (d : Nd) (P : Nat → List Nat) (t : Nat) : Bool := decide (d.kind = 6) || d.frm.all (fun k => decide (t < (P k.toNat).length))
set_option maxRecDepth 40000 in
set_option maxHeartbeats 8000000 in
theorem ready_any (g : Gr) (go uo : Option Addr) (gc uc : Nat) (pb N : Nat) (P : Nat → List Nat) (i t : Nat) (w : World) (hG : GH w (fun b => b < w.heap.size) g go uo gc uc) (hN : g.nodes.length = N) (hN2 : N ≤ 256) (hf : ∀ i, i < N → ∀ k ∈ (nd g i).frm, 0 ≤ k ∧ k < (N : Int)) (hi : i < N) (hP : PA w pb N P) (ht : t ≤ 4611686018427387904) :
    Calls Try.prog 18 #[gvg g go uo gc uc, .slice (some ⟨pb, 0, none⟩) N N, .int .i64 i, .int .i64 t] w fun e w' => e = .returned (.bool (rdB (nd g i) P t)) ∧ Below w.heap.size w w' := by
  obtain ⟨U, hU⟩ : ∃ U, U = g.outs.length := ⟨_, rfl⟩
  obtain ⟨ins, hins⟩ : ∃ ins, ins = g.ins := ⟨_, rfl⟩
  have hargs : gvg g go uo gc uc = .agg #[.int .i64 ins, .slice go N gc, .slice uo U uc] := by rw [hU, hins, ← hN]
  have hgl : N ≤ gc := by rw [← hN]; exact hG.gl
  rw [hargs]
  have hgi : g.nodes[i]? = some (nd g i) := by unfold nd; rw [List.getD_eq_getElem?_getD, List.getElem?_eq_getElem (by rw [hN]; exact hi)]; rfl
  have hfi := hf i hi
  obtain ⟨d, hd⟩ : ∃ d, d = nd g i := ⟨_, rfl⟩
  rw [← hd] at hgi hfi ⊢
  obtain ⟨nb, ofn, fo, fc, rfl, _, hlb, hcl, hNA⟩ := hG.n.at' i d hgi
  obtain ⟨FL, hFL⟩ : ∃ FL, FL = d.frm.length := ⟨_, rfl⟩
  obtain ⟨W1, hW1⟩ : ∃ X, X = w.alloc (Obj.cells #[.int .i64 ins, .slice (some ⟨nb, ofn, none⟩) N gc, .slice uo U uc] 25) := ⟨_, rfl⟩
  have hb1 : Below w.heap.size w W1 := by rw [hW1]; exact (Below.refl _ _).alloc (Nat.le_refl _) _
  have x0 : W1.cell? ⟨w.heap.size, 0, none⟩ = some (.int .i64 ins) := by rw [hW1]; simp [go_sem]
  have x1 : W1.cell? ⟨w.heap.size, 1, none⟩ = some (.slice (some ⟨nb, ofn, none⟩) N gc) := by rw [hW1]; simp [go_sem]
  have z1 : W1.heap.size = w.heap.size + 1 := by rw [hW1]; simp
  have n0 : w.cell? ⟨nb, ofn + i * 16, none⟩ = some (.int .i64 d.kind) := hcl 0 _ rfl
  have n1 : w.cell? ⟨nb, ofn + i * 16 + 1, none⟩ = some (.slice fo FL fc) := by rw [hFL]; exact hcl 1 _ rfl
  have hi' : (i : Int) < (N : Int) := by omega
  have HB1 : Hid (Below w.heap.size w W1) := hb1
  have HZ : Hid (ZL W1 (fun b => b < w.heap.size) fo d.frm) := hNA.z.bel hb1
  have HP : Hid (PA W1 pb N P) := hP.bel hb1
  have hfc : FL ≤ fc := by rw [hFL]; exact hNA.c
  have hfm := hNA.cm
  have HFL : Hid (FL = d.frm.length) := hFL
  have HF : Hid (∀ k ∈ d.frm, 0 ≤ k ∧ k < (N : Int)) := hfi
  have HW1 : Hid (w.alloc (Obj.cells #[.int .i64 ins, .slice (some ⟨nb, ofn, none⟩) N gc, .slice uo U uc] 25) = W1) := hW1.symm
  have lx : w.heap.size < W1.heap.size := by omega
  have ln : nb < W1.heap.size := by omega
  have Hrd : Hid (rdB d P t = (decide (d.kind = 6) || d.frm.all (fun k => decide (t < (P k.toNat).length)))) := rfl
  obtain ⟨RR, hRR⟩ : ∃ A, A = rdB d P t := ⟨_, rfl⟩
  have HRR : Hid (RR = rdB d P t) := hRR
  rw [← hRR]
  clear hG hargs hgi hcl hNA hP hf hfi hU hins hN hd hW1 hb1 hFL hRR
  by_cases h6 : d.kind = 6
  · have hv : Hid (RR = true) := by
      unfold Hid; rw [HRR.out, Hrd.out, h6]; rfl
    rw [h6] at n0
    go_enter Try.func18, Try.ntmps18
    go_wp2_with fail
    go_ret
    refine ⟨?_, by rw [HW1.out]; exact HB1.out⟩
    show Ending.returned (.bool true) = _
    rw [hv.out]
  · have hb6 : (d.kind == 6) = false := by simp [h6]
    have H6 : Hid (d.kind ≠ 6) := h6
    go_enter Try.func18, Try.ntmps18
    go_wp2_with fail
    rw [HW1.out]
    go_loopw [25] (fun q ww => ∃ j : Nat, j ≤ FL ∧ q = .int .i64 j ∧ Hid (∀ (a : Nat) x, a < j → d.frm[a]? = some x → t < (P x.toNat).length) ∧ ww = W1) (fun q _ => FL - (intOf q).toNat)
    case atStart => exact ⟨0, Nat.zero_le _, rfl, fun a x h => absurd h (by omega), rfl⟩
    case round =>
      obtain ⟨j, hj, rfl, hR, rfl⟩ := hrel
      by_cases hlt : j < FL
      · obtain ⟨x, hx⟩ : ∃ x, d.frm[j]? = some x := ⟨_, List.getElem?_eq_getElem (by rw [← HFL.out]; exact hlt)⟩
        obtain ⟨fb, fof, rfl, o1, _, o3⟩ := HZ.out.at' (by rw [← HFL.out]; omega)
        have hxr := HF.out x (List.mem_of_getElem? hx)
        obtain ⟨y, rfl⟩ : ∃ y : Nat, x = y := ⟨x.toNat, by omega⟩
        have hy : y < N := by omega
        have hy' : (y : Int) < (N : Int) := by omega
        have v0 := o3 j _ hx
        obtain ⟨pa, pc, p1, p2, p3, _⟩ := HP.out.rd y hy
        obtain ⟨PL, hPL⟩ : ∃ A, A = (P y).length := ⟨_, rfl⟩
        rw [← hPL] at p1 p2
        have lp := lt_cell p1
        have lv := lt_cell v0
        have hlt' : (j : Int) < (FL : Int) := by omega
        have w9 : IntKind.i64.wrap ((j : Int) + 1) = (j : Int) + 1 := wid (by omega) (by omega)
        by_cases hc : PL ≤ t
        · have hc' : (PL : Int) ≤ (t : Int) := by omega
          have hv : Hid (RR = false) := by
            unfold Hid
            rw [HRR.out, Hrd.out]
            have h1 : d.frm.all (fun k => decide (t < (P k.toNat).length)) = false := by
              cases h : d.frm.all (fun k => decide (t < (P k.toNat).length)) with
              | false => rfl
              | true =>
                rw [List.all_eq_true] at h
                have := h _ (List.mem_of_getElem? hx)
                simp at this
                omega
            rw [h1]; simp [H6.out]
          clear hR o3 hx hPL
          go_wp2_with fail
          go_ret
          refine ⟨?_, HB1.out⟩
          show Ending.returned (.bool false) = _
          rw [hv.out]
        · have hc' : ¬ (PL : Int) ≤ (t : Int) := by omega
          have HN : Hid (∀ (a : Nat) x, a < j + 1 → d.frm[a]? = some x → t < (P x.toNat).length) := fun a z ha hz => by
            by_cases e : a = j
            · subst e
              rw [hx] at hz
              cases hz
              rw [Int.toNat_natCast]
              omega
            · exact hR.out a z (by omega) hz
          clear hR o3 hx hPL
          go_wp2_with fail
          exact ⟨⟨j + 1, by omega, by go_num, HN, trivial⟩, by simp [intOf]; omega⟩
      · obtain rfl : FL = j := by omega
        have hv : Hid (RR = true) := by
          unfold Hid
          rw [HRR.out, Hrd.out]
          have h1 : d.frm.all (fun k => decide (t < (P k.toNat).length)) = true := by
            rw [List.all_eq_true]
            intro x hx
            obtain ⟨a, ha⟩ := List.getElem?_of_mem hx
            exact decide_eq_true (hR.out a x (by have := (List.getElem?_eq_some_iff.1 ha).1; rw [← HFL.out] at this; exact this) ha)
          rw [h1, Bool.or_true]
        clear hR
        go_wp2_with fail
        go_ret
        refine ⟨?_, HB1.out⟩
        show Ending.returned (.bool true) = _
        rw [hv.out]
end Go.Proofs.Ytjpcebnbkdekkaa.Gh

/- The document's sample, kind by kind. -/
namespace Go.Proofs.Ytjpcebnbkdekkaa.Gh
open Go.RowKit Go.Maps Go.Sort Fl
set_option linter.unusedVariables false
set_option linter.unusedSimpArgs false

/-- What a sample answers. -/
def SmQ (w : World) (v : Option Nat) (e : Ending) (w' : World) : Prop := ∃ x, e = .returned (.float .f64 x) ∧ x < 18446744073709551616 ∧ ab x = v ∧ Below w.heap.size w w'
/-- What a sample is asked of. -/
structure SmH (g : Gr) (go uo : Option Addr) (gc uc : Nat) (pb N : Nat) (P : Nat → List Nat) (V I : Hist) (io : Option Addr) (m ic : Nat) (Q : List (List Nat)) (i t : Nat) (w : World) : Prop where
  gh : GH w (fun b => b < w.heap.size) g go uo gc uc
  wf : Wf g
  nN : g.nodes.length = N
  hi : i < N
  pa : PA w pb N P
  hv : ∀ k, k < N → ∀ (s x : Nat), (P k)[s]? = some x → x < 18446744073709551616 ∧ ab x = V k s
  hl : ∀ k, k < N → t ≤ (P k).length
  nw : ∀ k ∈ now (nd g i), t < (P k.toNat).length
  ht : t ≤ 4611686018427387904
  hq : Fi.PL w w.heap.size io Q
  hm : Q.length = m
  mi : (m : Int) = g.ins
  ql : ∀ (a : Nat) l, Q[a]? = some l → t < l.length
  hI : ∀ (a : Nat) l, Q[a]? = some l → I a t = ab (l.getD t 0)
  vo : ∀ d ∈ g.nodes, d.kind = 8 → Vo.Ok d.p
/-- p.at's word. -/
theorem SmH.at {g : Gr} {go uo : Option Addr} {gc uc : Nat} {pb N : Nat} {P : Nat → List Nat} {V I : Hist} {io : Option Addr} {m ic : Nat} {Q : List (List Nat)} {i t : Nat} {w : World} (h : SmH g go uo gc uc pb N P V I io m ic Q i t w) (k : Nat) (hk : k < N) (s : Int) (hs : s < 0 ∨ (0 ≤ s ∧ s.toNat < (P k).length)) :
    ∃ x, x < 18446744073709551616 ∧ ab x = pv V k s ∧ ((s < 0 ∧ x = 0) ∨ (0 ≤ s ∧ (P k)[s.toNat]? = some x)) := by
  rcases hs with h1 | ⟨h1, h2⟩
  · exact ⟨0, by decide, by rw [pv_neg _ _ h1]; decide, .inl ⟨h1, rfl⟩⟩
  · have h3 : (P k)[s.toNat]? = some ((P k)[s.toNat]'h2) := List.getElem?_eq_getElem h2
    obtain ⟨h4, h5⟩ := h.hv k hk _ _ h3
    exact ⟨_, h4, by rw [pv_pos _ _ h1]; exact h5, .inr ⟨h1, h3⟩⟩
set_option maxRecDepth 40000 in
set_option maxHeartbeats 8000000 in
theorem sample_1 (g : Gr) (go uo : Option Addr) (gc uc : Nat) (pb N : Nat) (P : Nat → List Nat) (V I : Hist) (io : Option Addr) (m ic : Nat) (Q : List (List Nat)) (i t : Nat) (w : World) (h : SmH g go uo gc uc pb N P V I io m ic Q i t w) (hk : (nd g i).kind = 1) :
    Calls Try.prog 19 #[gvg g go uo gc uc, .slice (some ⟨pb, 0, none⟩) N N, .slice io m ic, .int .i64 i, .int .i64 t] w fun e w' => SmQ w (sampD (nd g i) I V i t) e w' := by
  obtain ⟨U, hU⟩ : ∃ U, U = g.outs.length := ⟨_, rfl⟩
  obtain ⟨ins, hins⟩ : ∃ ins, ins = g.ins := ⟨_, rfl⟩
  have hargs : gvg g go uo gc uc = .agg #[.int .i64 ins, .slice go N gc, .slice uo U uc] := by rw [hU, hins, ← h.nN]
  have hgl : N ≤ gc := by rw [← h.nN]; exact h.gh.gl
  rw [hargs]
  have hgi : g.nodes[i]? = some (nd g i) := by unfold nd; rw [List.getD_eq_getElem?_getD, List.getElem?_eq_getElem (by rw [h.nN]; exact h.hi)]; rfl
  have hmy : many (nd g i) := (h.wf.n _ (List.mem_of_getElem? hgi)).1
  have hfr : ∀ k ∈ (nd g i).frm, 0 ≤ k ∧ k < (N : Int) := by have := (h.wf.n _ (List.mem_of_getElem? hgi)).2.1; rw [h.nN] at this; exact this
  have hw1 := (h.wf.n _ (List.mem_of_getElem? hgi)).2.2
  have hnow := h.nw
  obtain ⟨d, hd⟩ : ∃ d, d = nd g i := ⟨_, rfl⟩
  rw [← hd] at hgi hmy hfr hw1 hnow hk ⊢
  obtain ⟨nb, ofn, fo, fc, rfl, _, hlb, hcl, hNA⟩ := h.gh.n.at' i d hgi
  obtain ⟨FL, hFL⟩ : ∃ FL, FL = d.frm.length := ⟨_, rfl⟩
  have n0 : w.cell? ⟨nb, ofn + i * 16, none⟩ = some (.int .i64 1) := by rw [← hk]; exact hcl 0 _ rfl
  have n1 : w.cell? ⟨nb, ofn + i * 16 + 1, none⟩ = some (.slice fo FL fc) := by rw [hFL]; exact hcl 1 _ rfl
  have n2 : w.cell? ⟨nb, ofn + i * 16 + 2, none⟩ = some (.int .i64 d.n) := hcl 2 _ rfl
  have n3 : w.cell? ⟨nb, ofn + i * 16 + 3, none⟩ = some (.float .f64 d.x) := hcl 3 _ rfl
  have n4 : w.cell? ⟨nb, ofn + i * 16 + 4, none⟩ = some (.float .f64 d.c.b0) := hcl 4 _ rfl
  have n5 : w.cell? ⟨nb, ofn + i * 16 + 5, none⟩ = some (.float .f64 d.c.b1) := hcl 5 _ rfl
  have n6 : w.cell? ⟨nb, ofn + i * 16 + 6, none⟩ = some (.float .f64 d.c.b2) := hcl 6 _ rfl
  have n7 : w.cell? ⟨nb, ofn + i * 16 + 7, none⟩ = some (.float .f64 d.c.a1) := hcl 7 _ rfl
  have n8 : w.cell? ⟨nb, ofn + i * 16 + 8, none⟩ = some (.float .f64 d.c.a2) := hcl 8 _ rfl
  have n9 : w.cell? ⟨nb, ofn + i * 16 + 9, none⟩ = some (.int .i64 d.p.shape) := hcl 9 _ rfl
  have n10 : w.cell? ⟨nb, ofn + i * 16 + 10, none⟩ = some (.int .u32 d.p.step) := hcl 10 _ rfl
  have n11 : w.cell? ⟨nb, ofn + i * 16 + 11, none⟩ = some (.float .f64 d.p.gain) := hcl 11 _ rfl
  have n12 : w.cell? ⟨nb, ofn + i * 16 + 12, none⟩ = some (.int .i64 d.p.atk) := hcl 12 _ rfl
  have n13 : w.cell? ⟨nb, ofn + i * 16 + 13, none⟩ = some (.int .i64 d.p.dec) := hcl 13 _ rfl
  have n14 : w.cell? ⟨nb, ofn + i * 16 + 14, none⟩ = some (.int .i64 d.p.rel) := hcl 14 _ rfl
  have n15 : w.cell? ⟨nb, ofn + i * 16 + 15, none⟩ = some (.int .i64 d.p.sus) := hcl 15 _ rfl
  obtain ⟨W2, hW2⟩ : ∃ X, X = (w.alloc (Obj.cells #[.int .i64 ins, .slice (some ⟨nb, ofn, none⟩) N gc, .slice uo U uc] 25)).alloc (Obj.cells #[.int .i64 1, .slice fo FL fc, .int .i64 d.n, .float .f64 d.x, .float .f64 d.c.b0, .float .f64 d.c.b1, .float .f64 d.c.b2, .float .f64 d.c.a1, .float .f64 d.c.a2, .int .i64 d.p.shape, .int .u32 d.p.step, .float .f64 d.p.gain, .int .i64 d.p.atk, .int .i64 d.p.dec, .int .i64 d.p.rel, .int .i64 d.p.sus] 53) := ⟨_, rfl⟩
  have hb2 : Below w.heap.size w W2 := by rw [hW2]; exact ((Below.refl _ _).alloc (Nat.le_refl _) _).alloc (by simp) _
  have z2 : W2.heap.size = w.heap.size + 2 := by rw [hW2]; simp
  have c0 : W2.cell? ⟨w.heap.size + 1, 0, none⟩ = some (.int .i64 1) := by rw [hW2]; simp [go_sem]
  have c1 : W2.cell? ⟨w.heap.size + 1, 1, none⟩ = some (.slice fo FL fc) := by rw [hW2]; simp [go_sem]
  have c2 : W2.cell? ⟨w.heap.size + 1, 2, none⟩ = some (.int .i64 d.n) := by rw [hW2]; simp [go_sem]
  have c3 : W2.cell? ⟨w.heap.size + 1, 3, none⟩ = some (.float .f64 d.x) := by rw [hW2]; simp [go_sem]
  have c4 : W2.cell? ⟨w.heap.size + 1, 4, none⟩ = some (.float .f64 d.c.b0) := by rw [hW2]; simp [go_sem]
  have c5 : W2.cell? ⟨w.heap.size + 1, 5, none⟩ = some (.float .f64 d.c.b1) := by rw [hW2]; simp [go_sem]
  have c6 : W2.cell? ⟨w.heap.size + 1, 6, none⟩ = some (.float .f64 d.c.b2) := by rw [hW2]; simp [go_sem]
  have c7 : W2.cell? ⟨w.heap.size + 1, 7, none⟩ = some (.float .f64 d.c.a1) := by rw [hW2]; simp [go_sem]
  have c8 : W2.cell? ⟨w.heap.size + 1, 8, none⟩ = some (.float .f64 d.c.a2) := by rw [hW2]; simp [go_sem]
  have hi' : (i : Int) < (N : Int) := by have := h.hi; omega
  have HB2 : Hid (Below w.heap.size w W2) := hb2
  have HW2 : Hid ((w.alloc (Obj.cells #[.int .i64 ins, .slice (some ⟨nb, ofn, none⟩) N gc, .slice uo U uc] 25)).alloc (Obj.cells #[.int .i64 1, .slice fo FL fc, .int .i64 d.n, .float .f64 d.x, .float .f64 d.c.b0, .float .f64 d.c.b1, .float .f64 d.c.b2, .float .f64 d.c.a1, .float .f64 d.c.a2, .int .i64 d.p.shape, .int .u32 d.p.step, .float .f64 d.p.gain, .int .i64 d.p.atk, .int .i64 d.p.dec, .int .i64 d.p.rel, .int .i64 d.p.sus] 53) = W2) := hW2.symm
  have lxk : w.heap.size + 1 < W2.heap.size := by omega
  have hZ : ZL W2 (fun b => b < w.heap.size) fo d.frm := hNA.z.bel hb2
  have hP : PA W2 pb N P := h.pa.bel hb2
  have ht := h.ht
  have hfc : FL ≤ fc := by rw [hFL]; exact hNA.c
  have hfm := hNA.cm
  obtain ⟨hn0, hn1⟩ := hw1.1 hk
  obtain ⟨n, hn⟩ : ∃ n : Nat, d.n = n := ⟨d.n.toNat, by omega⟩
  have hnm : n < m := by have := h.mi; omega
  obtain ⟨l, hl⟩ : ∃ l, Q[n]? = some l := ⟨_, List.getElem?_eq_getElem (by rw [h.hm]; exact hnm)⟩
  obtain ⟨b, off, rfl, p1, p2⟩ := h.hq.at' (by rw [h.hm]; omega)
  obtain ⟨la, lc, v0, q2, q3, q4, q5⟩ := p2 n l hl
  have htl := h.ql n l hl
  obtain ⟨b2, of2, rfl, q6, q7, q8⟩ := q5.at' (by omega)
  obtain ⟨x, hx⟩ : ∃ x, l[t]? = some x := ⟨_, List.getElem?_eq_getElem htl⟩
  obtain ⟨v1, hx64⟩ := q8 t x hx
  obtain ⟨L, hL⟩ : ∃ L, L = l.length := ⟨_, rfl⟩
  rw [← hL] at v0 q2 htl
  have HX : Hid (x < 18446744073709551616 ∧ ab x = sampD d I V i t) := ⟨hx64, by
    unfold sampD
    rw [if_pos hk, hn, Int.toNat_natCast, h.hI n l hl, List.getD_eq_getElem?_getD, hx]; rfl⟩
  rw [hn] at n2 c2
  have hn' : (n : Int) < (m : Int) := by omega
  have ht' : (t : Int) < (L : Int) := by omega
  clear hFL hargs hgi hcl hNA hU hins hW2 hb2 hnow hmy hfr hw1 hd hP hZ h
  clear hl hx hL q8 p2 q5
  go_enter Try.func19, Try.ntmps19
  rw [hn] at HW2
  go_wp2_with fail
  go_ret
  exact ⟨x, rfl, HX.out.1, HX.out.2, by rw [HW2.out]; exact HB2.out⟩
set_option maxRecDepth 40000 in
set_option maxHeartbeats 8000000 in
theorem sample_2 (g : Gr) (go uo : Option Addr) (gc uc : Nat) (pb N : Nat) (P : Nat → List Nat) (V I : Hist) (io : Option Addr) (m ic : Nat) (Q : List (List Nat)) (i t : Nat) (w : World) (h : SmH g go uo gc uc pb N P V I io m ic Q i t w) (hk : (nd g i).kind = 2) :
    Calls Try.prog 19 #[gvg g go uo gc uc, .slice (some ⟨pb, 0, none⟩) N N, .slice io m ic, .int .i64 i, .int .i64 t] w fun e w' => SmQ w (sampD (nd g i) I V i t) e w' := by
  obtain ⟨U, hU⟩ : ∃ U, U = g.outs.length := ⟨_, rfl⟩
  obtain ⟨ins, hins⟩ : ∃ ins, ins = g.ins := ⟨_, rfl⟩
  have hargs : gvg g go uo gc uc = .agg #[.int .i64 ins, .slice go N gc, .slice uo U uc] := by rw [hU, hins, ← h.nN]
  have hgl : N ≤ gc := by rw [← h.nN]; exact h.gh.gl
  rw [hargs]
  have hgi : g.nodes[i]? = some (nd g i) := by unfold nd; rw [List.getD_eq_getElem?_getD, List.getElem?_eq_getElem (by rw [h.nN]; exact h.hi)]; rfl
  have hmy : many (nd g i) := (h.wf.n _ (List.mem_of_getElem? hgi)).1
  have hfr : ∀ k ∈ (nd g i).frm, 0 ≤ k ∧ k < (N : Int) := by have := (h.wf.n _ (List.mem_of_getElem? hgi)).2.1; rw [h.nN] at this; exact this
  have hw1 := (h.wf.n _ (List.mem_of_getElem? hgi)).2.2
  have hnow := h.nw
  obtain ⟨d, hd⟩ : ∃ d, d = nd g i := ⟨_, rfl⟩
  rw [← hd] at hgi hmy hfr hw1 hnow hk ⊢
  obtain ⟨nb, ofn, fo, fc, rfl, _, hlb, hcl, hNA⟩ := h.gh.n.at' i d hgi
  obtain ⟨FL, hFL⟩ : ∃ FL, FL = d.frm.length := ⟨_, rfl⟩
  have n0 : w.cell? ⟨nb, ofn + i * 16, none⟩ = some (.int .i64 2) := by rw [← hk]; exact hcl 0 _ rfl
  have n1 : w.cell? ⟨nb, ofn + i * 16 + 1, none⟩ = some (.slice fo FL fc) := by rw [hFL]; exact hcl 1 _ rfl
  have n2 : w.cell? ⟨nb, ofn + i * 16 + 2, none⟩ = some (.int .i64 d.n) := hcl 2 _ rfl
  have n3 : w.cell? ⟨nb, ofn + i * 16 + 3, none⟩ = some (.float .f64 d.x) := hcl 3 _ rfl
  have n4 : w.cell? ⟨nb, ofn + i * 16 + 4, none⟩ = some (.float .f64 d.c.b0) := hcl 4 _ rfl
  have n5 : w.cell? ⟨nb, ofn + i * 16 + 5, none⟩ = some (.float .f64 d.c.b1) := hcl 5 _ rfl
  have n6 : w.cell? ⟨nb, ofn + i * 16 + 6, none⟩ = some (.float .f64 d.c.b2) := hcl 6 _ rfl
  have n7 : w.cell? ⟨nb, ofn + i * 16 + 7, none⟩ = some (.float .f64 d.c.a1) := hcl 7 _ rfl
  have n8 : w.cell? ⟨nb, ofn + i * 16 + 8, none⟩ = some (.float .f64 d.c.a2) := hcl 8 _ rfl
  have n9 : w.cell? ⟨nb, ofn + i * 16 + 9, none⟩ = some (.int .i64 d.p.shape) := hcl 9 _ rfl
  have n10 : w.cell? ⟨nb, ofn + i * 16 + 10, none⟩ = some (.int .u32 d.p.step) := hcl 10 _ rfl
  have n11 : w.cell? ⟨nb, ofn + i * 16 + 11, none⟩ = some (.float .f64 d.p.gain) := hcl 11 _ rfl
  have n12 : w.cell? ⟨nb, ofn + i * 16 + 12, none⟩ = some (.int .i64 d.p.atk) := hcl 12 _ rfl
  have n13 : w.cell? ⟨nb, ofn + i * 16 + 13, none⟩ = some (.int .i64 d.p.dec) := hcl 13 _ rfl
  have n14 : w.cell? ⟨nb, ofn + i * 16 + 14, none⟩ = some (.int .i64 d.p.rel) := hcl 14 _ rfl
  have n15 : w.cell? ⟨nb, ofn + i * 16 + 15, none⟩ = some (.int .i64 d.p.sus) := hcl 15 _ rfl
  obtain ⟨W2, hW2⟩ : ∃ X, X = (w.alloc (Obj.cells #[.int .i64 ins, .slice (some ⟨nb, ofn, none⟩) N gc, .slice uo U uc] 25)).alloc (Obj.cells #[.int .i64 2, .slice fo FL fc, .int .i64 d.n, .float .f64 d.x, .float .f64 d.c.b0, .float .f64 d.c.b1, .float .f64 d.c.b2, .float .f64 d.c.a1, .float .f64 d.c.a2, .int .i64 d.p.shape, .int .u32 d.p.step, .float .f64 d.p.gain, .int .i64 d.p.atk, .int .i64 d.p.dec, .int .i64 d.p.rel, .int .i64 d.p.sus] 53) := ⟨_, rfl⟩
  have hb2 : Below w.heap.size w W2 := by rw [hW2]; exact ((Below.refl _ _).alloc (Nat.le_refl _) _).alloc (by simp) _
  have z2 : W2.heap.size = w.heap.size + 2 := by rw [hW2]; simp
  have c0 : W2.cell? ⟨w.heap.size + 1, 0, none⟩ = some (.int .i64 2) := by rw [hW2]; simp [go_sem]
  have c1 : W2.cell? ⟨w.heap.size + 1, 1, none⟩ = some (.slice fo FL fc) := by rw [hW2]; simp [go_sem]
  have c2 : W2.cell? ⟨w.heap.size + 1, 2, none⟩ = some (.int .i64 d.n) := by rw [hW2]; simp [go_sem]
  have c3 : W2.cell? ⟨w.heap.size + 1, 3, none⟩ = some (.float .f64 d.x) := by rw [hW2]; simp [go_sem]
  have c4 : W2.cell? ⟨w.heap.size + 1, 4, none⟩ = some (.float .f64 d.c.b0) := by rw [hW2]; simp [go_sem]
  have c5 : W2.cell? ⟨w.heap.size + 1, 5, none⟩ = some (.float .f64 d.c.b1) := by rw [hW2]; simp [go_sem]
  have c6 : W2.cell? ⟨w.heap.size + 1, 6, none⟩ = some (.float .f64 d.c.b2) := by rw [hW2]; simp [go_sem]
  have c7 : W2.cell? ⟨w.heap.size + 1, 7, none⟩ = some (.float .f64 d.c.a1) := by rw [hW2]; simp [go_sem]
  have c8 : W2.cell? ⟨w.heap.size + 1, 8, none⟩ = some (.float .f64 d.c.a2) := by rw [hW2]; simp [go_sem]
  have hi' : (i : Int) < (N : Int) := by have := h.hi; omega
  have HB2 : Hid (Below w.heap.size w W2) := hb2
  have HW2 : Hid ((w.alloc (Obj.cells #[.int .i64 ins, .slice (some ⟨nb, ofn, none⟩) N gc, .slice uo U uc] 25)).alloc (Obj.cells #[.int .i64 2, .slice fo FL fc, .int .i64 d.n, .float .f64 d.x, .float .f64 d.c.b0, .float .f64 d.c.b1, .float .f64 d.c.b2, .float .f64 d.c.a1, .float .f64 d.c.a2, .int .i64 d.p.shape, .int .u32 d.p.step, .float .f64 d.p.gain, .int .i64 d.p.atk, .int .i64 d.p.dec, .int .i64 d.p.rel, .int .i64 d.p.sus] 53) = W2) := hW2.symm
  have lxk : w.heap.size + 1 < W2.heap.size := by omega
  have hZ : ZL W2 (fun b => b < w.heap.size) fo d.frm := hNA.z.bel hb2
  have hP : PA W2 pb N P := h.pa.bel hb2
  have ht := h.ht
  have hfc : FL ≤ fc := by rw [hFL]; exact hNA.c
  have hfm := hNA.cm
  have hx64 := hNA.x
  have HX : Hid (d.x < 18446744073709551616 ∧ ab d.x = sampD d I V i t) := ⟨hx64, by
    unfold sampD
    rw [if_neg (by omega), if_pos hk]⟩
  clear hFL hargs hgi hcl hNA hU hins hW2 hb2 hnow hmy hfr hw1 hd hP hZ h
  go_enter Try.func19, Try.ntmps19
  go_wp2_with fail
  go_ret
  exact ⟨d.x, rfl, HX.out.1, HX.out.2, by rw [HW2.out]; exact HB2.out⟩
set_option maxRecDepth 40000 in
set_option maxHeartbeats 8000000 in
theorem sample_8 (g : Gr) (go uo : Option Addr) (gc uc : Nat) (pb N : Nat) (P : Nat → List Nat) (V I : Hist) (io : Option Addr) (m ic : Nat) (Q : List (List Nat)) (i t : Nat) (w : World) (h : SmH g go uo gc uc pb N P V I io m ic Q i t w) (hk : (nd g i).kind = 8) :
    Calls Try.prog 19 #[gvg g go uo gc uc, .slice (some ⟨pb, 0, none⟩) N N, .slice io m ic, .int .i64 i, .int .i64 t] w fun e w' => SmQ w (sampD (nd g i) I V i t) e w' := by
  obtain ⟨U, hU⟩ : ∃ U, U = g.outs.length := ⟨_, rfl⟩
  obtain ⟨ins, hins⟩ : ∃ ins, ins = g.ins := ⟨_, rfl⟩
  have hargs : gvg g go uo gc uc = .agg #[.int .i64 ins, .slice go N gc, .slice uo U uc] := by rw [hU, hins, ← h.nN]
  have hgl : N ≤ gc := by rw [← h.nN]; exact h.gh.gl
  rw [hargs]
  have hgi : g.nodes[i]? = some (nd g i) := by unfold nd; rw [List.getD_eq_getElem?_getD, List.getElem?_eq_getElem (by rw [h.nN]; exact h.hi)]; rfl
  have hmy : many (nd g i) := (h.wf.n _ (List.mem_of_getElem? hgi)).1
  have hfr : ∀ k ∈ (nd g i).frm, 0 ≤ k ∧ k < (N : Int) := by have := (h.wf.n _ (List.mem_of_getElem? hgi)).2.1; rw [h.nN] at this; exact this
  have hw1 := (h.wf.n _ (List.mem_of_getElem? hgi)).2.2
  have hnow := h.nw
  obtain ⟨d, hd⟩ : ∃ d, d = nd g i := ⟨_, rfl⟩
  rw [← hd] at hgi hmy hfr hw1 hnow hk ⊢
  obtain ⟨nb, ofn, fo, fc, rfl, _, hlb, hcl, hNA⟩ := h.gh.n.at' i d hgi
  obtain ⟨FL, hFL⟩ : ∃ FL, FL = d.frm.length := ⟨_, rfl⟩
  have n0 : w.cell? ⟨nb, ofn + i * 16, none⟩ = some (.int .i64 8) := by rw [← hk]; exact hcl 0 _ rfl
  have n1 : w.cell? ⟨nb, ofn + i * 16 + 1, none⟩ = some (.slice fo FL fc) := by rw [hFL]; exact hcl 1 _ rfl
  have n2 : w.cell? ⟨nb, ofn + i * 16 + 2, none⟩ = some (.int .i64 d.n) := hcl 2 _ rfl
  have n3 : w.cell? ⟨nb, ofn + i * 16 + 3, none⟩ = some (.float .f64 d.x) := hcl 3 _ rfl
  have n4 : w.cell? ⟨nb, ofn + i * 16 + 4, none⟩ = some (.float .f64 d.c.b0) := hcl 4 _ rfl
  have n5 : w.cell? ⟨nb, ofn + i * 16 + 5, none⟩ = some (.float .f64 d.c.b1) := hcl 5 _ rfl
  have n6 : w.cell? ⟨nb, ofn + i * 16 + 6, none⟩ = some (.float .f64 d.c.b2) := hcl 6 _ rfl
  have n7 : w.cell? ⟨nb, ofn + i * 16 + 7, none⟩ = some (.float .f64 d.c.a1) := hcl 7 _ rfl
  have n8 : w.cell? ⟨nb, ofn + i * 16 + 8, none⟩ = some (.float .f64 d.c.a2) := hcl 8 _ rfl
  have n9 : w.cell? ⟨nb, ofn + i * 16 + 9, none⟩ = some (.int .i64 d.p.shape) := hcl 9 _ rfl
  have n10 : w.cell? ⟨nb, ofn + i * 16 + 10, none⟩ = some (.int .u32 d.p.step) := hcl 10 _ rfl
  have n11 : w.cell? ⟨nb, ofn + i * 16 + 11, none⟩ = some (.float .f64 d.p.gain) := hcl 11 _ rfl
  have n12 : w.cell? ⟨nb, ofn + i * 16 + 12, none⟩ = some (.int .i64 d.p.atk) := hcl 12 _ rfl
  have n13 : w.cell? ⟨nb, ofn + i * 16 + 13, none⟩ = some (.int .i64 d.p.dec) := hcl 13 _ rfl
  have n14 : w.cell? ⟨nb, ofn + i * 16 + 14, none⟩ = some (.int .i64 d.p.rel) := hcl 14 _ rfl
  have n15 : w.cell? ⟨nb, ofn + i * 16 + 15, none⟩ = some (.int .i64 d.p.sus) := hcl 15 _ rfl
  obtain ⟨W2, hW2⟩ : ∃ X, X = (w.alloc (Obj.cells #[.int .i64 ins, .slice (some ⟨nb, ofn, none⟩) N gc, .slice uo U uc] 25)).alloc (Obj.cells #[.int .i64 8, .slice fo FL fc, .int .i64 d.n, .float .f64 d.x, .float .f64 d.c.b0, .float .f64 d.c.b1, .float .f64 d.c.b2, .float .f64 d.c.a1, .float .f64 d.c.a2, .int .i64 d.p.shape, .int .u32 d.p.step, .float .f64 d.p.gain, .int .i64 d.p.atk, .int .i64 d.p.dec, .int .i64 d.p.rel, .int .i64 d.p.sus] 53) := ⟨_, rfl⟩
  have hb2 : Below w.heap.size w W2 := by rw [hW2]; exact ((Below.refl _ _).alloc (Nat.le_refl _) _).alloc (by simp) _
  have z2 : W2.heap.size = w.heap.size + 2 := by rw [hW2]; simp
  have c0 : W2.cell? ⟨w.heap.size + 1, 0, none⟩ = some (.int .i64 8) := by rw [hW2]; simp [go_sem]
  have c1 : W2.cell? ⟨w.heap.size + 1, 1, none⟩ = some (.slice fo FL fc) := by rw [hW2]; simp [go_sem]
  have c2 : W2.cell? ⟨w.heap.size + 1, 2, none⟩ = some (.int .i64 d.n) := by rw [hW2]; simp [go_sem]
  have c3 : W2.cell? ⟨w.heap.size + 1, 3, none⟩ = some (.float .f64 d.x) := by rw [hW2]; simp [go_sem]
  have c4 : W2.cell? ⟨w.heap.size + 1, 4, none⟩ = some (.float .f64 d.c.b0) := by rw [hW2]; simp [go_sem]
  have c5 : W2.cell? ⟨w.heap.size + 1, 5, none⟩ = some (.float .f64 d.c.b1) := by rw [hW2]; simp [go_sem]
  have c6 : W2.cell? ⟨w.heap.size + 1, 6, none⟩ = some (.float .f64 d.c.b2) := by rw [hW2]; simp [go_sem]
  have c7 : W2.cell? ⟨w.heap.size + 1, 7, none⟩ = some (.float .f64 d.c.a1) := by rw [hW2]; simp [go_sem]
  have c8 : W2.cell? ⟨w.heap.size + 1, 8, none⟩ = some (.float .f64 d.c.a2) := by rw [hW2]; simp [go_sem]
  have hi' : (i : Int) < (N : Int) := by have := h.hi; omega
  have HB2 : Hid (Below w.heap.size w W2) := hb2
  have HW2 : Hid ((w.alloc (Obj.cells #[.int .i64 ins, .slice (some ⟨nb, ofn, none⟩) N gc, .slice uo U uc] 25)).alloc (Obj.cells #[.int .i64 8, .slice fo FL fc, .int .i64 d.n, .float .f64 d.x, .float .f64 d.c.b0, .float .f64 d.c.b1, .float .f64 d.c.b2, .float .f64 d.c.a1, .float .f64 d.c.a2, .int .i64 d.p.shape, .int .u32 d.p.step, .float .f64 d.p.gain, .int .i64 d.p.atk, .int .i64 d.p.dec, .int .i64 d.p.rel, .int .i64 d.p.sus] 53) = W2) := hW2.symm
  have lxk : w.heap.size + 1 < W2.heap.size := by omega
  have hZ : ZL W2 (fun b => b < w.heap.size) fo d.frm := hNA.z.bel hb2
  have hP : PA W2 pb N P := h.pa.bel hb2
  have ht := h.ht
  have hfc : FL ≤ fc := by rw [hFL]; exact hNA.c
  have hfm := hNA.cm
  have hOk := h.vo d (List.mem_of_getElem? hgi) hk
  have hst := hNA.st
  have hoff : Vo.Off t none := fun k hk => by cases hk
  have hq := Vo.refSample_any d.p hOk hst t none hoff ht W2
  have hfi : Fi (Vo.S d.p none t) := (Vo.S_ok d.p hOk none t hoff).1
  have HX : Hid (Vo.S d.p none t < 18446744073709551616 ∧ ab (Vo.S d.p none t) = sampD d I V i t) := ⟨hfi.1, by
    unfold sampD
    rw [if_neg (by omega), if_neg (by omega), if_neg (by omega), if_neg (by omega), if_neg (by omega), if_neg (by omega), if_neg (by omega), if_pos hk]
    exact ab_fi hfi⟩
  generalize Vo.S d.p none t = X at *
  clear hFL hargs hgi hcl hNA hU hins hW2 hb2 hnow hmy hfr hw1 hd hP hZ h
  clear hOk hst hoff hfi
  go_enter Try.func19, Try.ntmps19
  go_wp2_with fail
  rw [HW2.out]
  refine hq.mono ?_
  rintro e w3 ⟨rfl, hb3⟩
  have HB3 : Hid (Below w.heap.size w w3) := HB2.out.trans (hb3.mono HB2.out.size)
  clear hq hb3
  go_wp2_with fail
  go_ret
  exact ⟨X, rfl, HX.out.1, HX.out.2, HB3.out⟩
end Go.Proofs.Ytjpcebnbkdekkaa.Gh

/- The document's sample, kind by kind, further. -/
namespace Go.Proofs.Ytjpcebnbkdekkaa.Gh
open Go.RowKit Go.Maps Go.Sort Fl
set_option linter.unusedVariables false
set_option linter.unusedSimpArgs false

theorem belN {w : World} (n B : Nat) : Below B w (w.drewN n) := ⟨rfl, rfl, rfl, Nat.le_refl _, fun _ _ => rfl⟩
set_option maxRecDepth 40000 in
set_option maxHeartbeats 8000000 in
theorem sample_3 (g : Gr) (go uo : Option Addr) (gc uc : Nat) (pb N : Nat) (P : Nat → List Nat) (V I : Hist) (io : Option Addr) (m ic : Nat) (Q : List (List Nat)) (i t : Nat) (w : World) (h : SmH g go uo gc uc pb N P V I io m ic Q i t w) (hk : (nd g i).kind = 3) :
    Calls Try.prog 19 #[gvg g go uo gc uc, .slice (some ⟨pb, 0, none⟩) N N, .slice io m ic, .int .i64 i, .int .i64 t] w fun e w' => SmQ w (sampD (nd g i) I V i t) e w' := by
  obtain ⟨U, hU⟩ : ∃ U, U = g.outs.length := ⟨_, rfl⟩
  obtain ⟨ins, hins⟩ : ∃ ins, ins = g.ins := ⟨_, rfl⟩
  have hargs : gvg g go uo gc uc = .agg #[.int .i64 ins, .slice go N gc, .slice uo U uc] := by rw [hU, hins, ← h.nN]
  have hgl : N ≤ gc := by rw [← h.nN]; exact h.gh.gl
  rw [hargs]
  have hgi : g.nodes[i]? = some (nd g i) := by unfold nd; rw [List.getD_eq_getElem?_getD, List.getElem?_eq_getElem (by rw [h.nN]; exact h.hi)]; rfl
  have hmy : many (nd g i) := (h.wf.n _ (List.mem_of_getElem? hgi)).1
  have hfr : ∀ k ∈ (nd g i).frm, 0 ≤ k ∧ k < (N : Int) := by have := (h.wf.n _ (List.mem_of_getElem? hgi)).2.1; rw [h.nN] at this; exact this
  have hw1 := (h.wf.n _ (List.mem_of_getElem? hgi)).2.2
  have hnow := h.nw
  obtain ⟨d, hd⟩ : ∃ d, d = nd g i := ⟨_, rfl⟩
  rw [← hd] at hgi hmy hfr hw1 hnow hk ⊢
  obtain ⟨nb, ofn, fo, fc, rfl, _, hlb, hcl, hNA⟩ := h.gh.n.at' i d hgi
  obtain ⟨FL, hFL⟩ : ∃ FL, FL = d.frm.length := ⟨_, rfl⟩
  have n0 : w.cell? ⟨nb, ofn + i * 16, none⟩ = some (.int .i64 3) := by rw [← hk]; exact hcl 0 _ rfl
  have n1 : w.cell? ⟨nb, ofn + i * 16 + 1, none⟩ = some (.slice fo FL fc) := by rw [hFL]; exact hcl 1 _ rfl
  have n2 : w.cell? ⟨nb, ofn + i * 16 + 2, none⟩ = some (.int .i64 d.n) := hcl 2 _ rfl
  have n3 : w.cell? ⟨nb, ofn + i * 16 + 3, none⟩ = some (.float .f64 d.x) := hcl 3 _ rfl
  have n4 : w.cell? ⟨nb, ofn + i * 16 + 4, none⟩ = some (.float .f64 d.c.b0) := hcl 4 _ rfl
  have n5 : w.cell? ⟨nb, ofn + i * 16 + 5, none⟩ = some (.float .f64 d.c.b1) := hcl 5 _ rfl
  have n6 : w.cell? ⟨nb, ofn + i * 16 + 6, none⟩ = some (.float .f64 d.c.b2) := hcl 6 _ rfl
  have n7 : w.cell? ⟨nb, ofn + i * 16 + 7, none⟩ = some (.float .f64 d.c.a1) := hcl 7 _ rfl
  have n8 : w.cell? ⟨nb, ofn + i * 16 + 8, none⟩ = some (.float .f64 d.c.a2) := hcl 8 _ rfl
  have n9 : w.cell? ⟨nb, ofn + i * 16 + 9, none⟩ = some (.int .i64 d.p.shape) := hcl 9 _ rfl
  have n10 : w.cell? ⟨nb, ofn + i * 16 + 10, none⟩ = some (.int .u32 d.p.step) := hcl 10 _ rfl
  have n11 : w.cell? ⟨nb, ofn + i * 16 + 11, none⟩ = some (.float .f64 d.p.gain) := hcl 11 _ rfl
  have n12 : w.cell? ⟨nb, ofn + i * 16 + 12, none⟩ = some (.int .i64 d.p.atk) := hcl 12 _ rfl
  have n13 : w.cell? ⟨nb, ofn + i * 16 + 13, none⟩ = some (.int .i64 d.p.dec) := hcl 13 _ rfl
  have n14 : w.cell? ⟨nb, ofn + i * 16 + 14, none⟩ = some (.int .i64 d.p.rel) := hcl 14 _ rfl
  have n15 : w.cell? ⟨nb, ofn + i * 16 + 15, none⟩ = some (.int .i64 d.p.sus) := hcl 15 _ rfl
  obtain ⟨W2, hW2⟩ : ∃ X, X = (w.alloc (Obj.cells #[.int .i64 ins, .slice (some ⟨nb, ofn, none⟩) N gc, .slice uo U uc] 25)).alloc (Obj.cells #[.int .i64 3, .slice fo FL fc, .int .i64 d.n, .float .f64 d.x, .float .f64 d.c.b0, .float .f64 d.c.b1, .float .f64 d.c.b2, .float .f64 d.c.a1, .float .f64 d.c.a2, .int .i64 d.p.shape, .int .u32 d.p.step, .float .f64 d.p.gain, .int .i64 d.p.atk, .int .i64 d.p.dec, .int .i64 d.p.rel, .int .i64 d.p.sus] 53) := ⟨_, rfl⟩
  have hb2 : Below w.heap.size w W2 := by rw [hW2]; exact ((Below.refl _ _).alloc (Nat.le_refl _) _).alloc (by simp) _
  have z2 : W2.heap.size = w.heap.size + 2 := by rw [hW2]; simp
  have c0 : W2.cell? ⟨w.heap.size + 1, 0, none⟩ = some (.int .i64 3) := by rw [hW2]; simp [go_sem]
  have c1 : W2.cell? ⟨w.heap.size + 1, 1, none⟩ = some (.slice fo FL fc) := by rw [hW2]; simp [go_sem]
  have c2 : W2.cell? ⟨w.heap.size + 1, 2, none⟩ = some (.int .i64 d.n) := by rw [hW2]; simp [go_sem]
  have c3 : W2.cell? ⟨w.heap.size + 1, 3, none⟩ = some (.float .f64 d.x) := by rw [hW2]; simp [go_sem]
  have c4 : W2.cell? ⟨w.heap.size + 1, 4, none⟩ = some (.float .f64 d.c.b0) := by rw [hW2]; simp [go_sem]
  have c5 : W2.cell? ⟨w.heap.size + 1, 5, none⟩ = some (.float .f64 d.c.b1) := by rw [hW2]; simp [go_sem]
  have c6 : W2.cell? ⟨w.heap.size + 1, 6, none⟩ = some (.float .f64 d.c.b2) := by rw [hW2]; simp [go_sem]
  have c7 : W2.cell? ⟨w.heap.size + 1, 7, none⟩ = some (.float .f64 d.c.a1) := by rw [hW2]; simp [go_sem]
  have c8 : W2.cell? ⟨w.heap.size + 1, 8, none⟩ = some (.float .f64 d.c.a2) := by rw [hW2]; simp [go_sem]
  have hi' : (i : Int) < (N : Int) := by have := h.hi; omega
  have HB2 : Hid (Below w.heap.size w W2) := hb2
  have HW2 : Hid ((w.alloc (Obj.cells #[.int .i64 ins, .slice (some ⟨nb, ofn, none⟩) N gc, .slice uo U uc] 25)).alloc (Obj.cells #[.int .i64 3, .slice fo FL fc, .int .i64 d.n, .float .f64 d.x, .float .f64 d.c.b0, .float .f64 d.c.b1, .float .f64 d.c.b2, .float .f64 d.c.a1, .float .f64 d.c.a2, .int .i64 d.p.shape, .int .u32 d.p.step, .float .f64 d.p.gain, .int .i64 d.p.atk, .int .i64 d.p.dec, .int .i64 d.p.rel, .int .i64 d.p.sus] 53) = W2) := hW2.symm
  have lxk : w.heap.size + 1 < W2.heap.size := by omega
  have hZ : ZL W2 (fun b => b < w.heap.size) fo d.frm := hNA.z.bel hb2
  have hP : PA W2 pb N P := h.pa.bel hb2
  have ht := h.ht
  have hfc : FL ≤ fc := by rw [hFL]; exact hNA.c
  have hfm := hNA.cm
  have hfl := hmy.1 (.inl hk)
  obtain ⟨z0, hz0⟩ : ∃ z, d.frm[0]? = some z := ⟨_, List.getElem?_eq_getElem (by rw [hfl]; omega)⟩
  have hzr0 := hfr z0 (List.mem_of_getElem? hz0)
  obtain ⟨y0, rfl⟩ : ∃ y : Nat, z0 = y := ⟨z0.toNat, by omega⟩
  have hy0 : y0 < N := by omega
  have hy0' : (y0 : Int) < (N : Int) := by omega
  obtain ⟨fb, fof, rfl, o1, _, o3⟩ := hZ.at' (by rw [hfl]; omega)
  have v0 := o3 0 _ hz0
  rw [Nat.add_zero] at v0
  have lv0 := lt_cell v0
  have hno : t < (P y0).length := by
    have := hnow (y0 : Int) (by unfold now; rw [if_neg (by omega)]; exact List.mem_of_getElem? hz0)
    rwa [Int.toNat_natCast] at this
  obtain ⟨x1, lx1, ex1, hx1⟩ := h.at y0 (by omega) ((t : Int)) (.inr ⟨by omega, by rw [Int.toNat_natCast]; exact hno⟩)
  have qa1 : Calls Try.prog 33 #[.slice (some ⟨pb, 0, none⟩) N N, .int .i64 y0, .int .i64 ((t : Int))] W2.drew fun e w' => e = .returned (.float .f64 x1) ∧ w' = W2.drew := at_any pb N P y0 ((t : Int)) x1 W2.drew (hP.bel (belN 1 _)) (by omega) hx1
  have HX : Hid (∀ r, ab r = Fi.fo .mul (ab d.x) (ab x1) → ab r = sampD d I V i t) := fun r hr => by
    unfold sampD
    rw [if_neg (by omega), if_neg (by omega), if_pos hk, hr, ex1, pv_nat]
    unfold f0
    rw [List.getD_eq_getElem?_getD, hz0]; rfl
  have hFL1 : FL = 1 := by rw [hFL]; exact hfl
  rw [hFL1] at c1 n1
  have HC : Hid ((fun w' : World => w'.cell? ⟨w.heap.size + 1, 3, none⟩ = some (.float .f64 d.x) ∧ w'.cell? ⟨w.heap.size + 1, 1, none⟩ = some (.slice (some ⟨fb, fof, none⟩) 1 fc) ∧ w'.cell? ⟨fb, fof, none⟩ = some (.int .i64 (y0 : Nat))) W2.drew) := ⟨c3, c1, v0⟩
  clear hFL hfl hz0 hzr0 o3 hno ex1 hx1 hargs hgi hcl hNA hU hins hW2 hb2 hnow hmy hfr hw1 hd hP hZ h
  subst hFL1
  go_enter Try.func19, Try.ntmps19
  go_wp2_with fail
  rw [HW2.out]
  refine RF.wp_region_floatC (fun w' : World => w'.cell? ⟨w.heap.size + 1, 3, none⟩ = some (.float .f64 d.x) ∧ w'.cell? ⟨w.heap.size + 1, 1, none⟩ = some (.slice (some ⟨fb, fof, none⟩) 1 fc) ∧ w'.cell? ⟨fb, fof, none⟩ = some (.int .i64 (y0 : Nat))) (fun k => k != 8 && k != 9) (by kernel_rfl) (by kernel_rfl) (by kernel_rfl) HC.out ?_
  refine RF.wpFl_readC rfl rfl (.pointer (some ⟨w.heap.size + 1, 3, none⟩)) (fun w' hw' => by have q0 := hw'.1; have l0 := lt_cell q0; have q1 := hw'.2.1; have l1 := lt_cell q1; have q2 := hw'.2.2; have l2 := lt_cell q2; clear hw'; unfold RM.valAt; go_simp) ?_
  refine RF.wpFl_readC rfl rfl (.float .f64 d.x) (fun w' hw' => by have q0 := hw'.1; have l0 := lt_cell q0; have q1 := hw'.2.1; have l1 := lt_cell q1; have q2 := hw'.2.2; have l2 := lt_cell q2; clear hw'; unfold RM.valAt; go_simp) ?_
  refine RF.wpFl_readC rfl rfl (.slice (some ⟨pb, 0, none⟩) N N) (fun w' hw' => by have q0 := hw'.1; have l0 := lt_cell q0; have q1 := hw'.2.1; have l1 := lt_cell q1; have q2 := hw'.2.2; have l2 := lt_cell q2; clear hw'; unfold RM.valAt; go_simp) ?_
  refine RF.wpFl_readC rfl rfl (.pointer (some ⟨w.heap.size + 1, 1, none⟩)) (fun w' hw' => by have q0 := hw'.1; have l0 := lt_cell q0; have q1 := hw'.2.1; have l1 := lt_cell q1; have q2 := hw'.2.2; have l2 := lt_cell q2; clear hw'; unfold RM.valAt; go_simp) ?_
  refine RF.wpFl_readC rfl rfl (.slice (some ⟨fb, fof, none⟩) 1 fc) (fun w' hw' => by have q0 := hw'.1; have l0 := lt_cell q0; have q1 := hw'.2.1; have l1 := lt_cell q1; have q2 := hw'.2.2; have l2 := lt_cell q2; clear hw'; unfold RM.valAt; go_simp) ?_
  refine RF.wpFl_readC rfl rfl (.pointer (some ⟨fb, fof, none⟩)) (fun w' hw' => by have q0 := hw'.1; have l0 := lt_cell q0; have q1 := hw'.2.1; have l1 := lt_cell q1; have q2 := hw'.2.2; have l2 := lt_cell q2; clear hw'; unfold RM.valAt; go_simp) ?_
  refine RF.wpFl_readC rfl rfl (.int .i64 (y0 : Nat)) (fun w' hw' => by have q0 := hw'.1; have l0 := lt_cell q0; have q1 := hw'.2.1; have l1 := lt_cell q1; have q2 := hw'.2.2; have l2 := lt_cell q2; clear hw'; unfold RM.valAt; go_simp) ?_
  refine RF.wpFl_readC rfl rfl (.int .i64 (t : Nat)) (fun w' hw' => by have q0 := hw'.1; have l0 := lt_cell q0; have q1 := hw'.2.1; have l1 := lt_cell q1; have q2 := hw'.2.2; have l2 := lt_cell q2; clear hw'; unfold RM.valAt; go_simp) ?_
  refine RF.wpFl_doC rfl rfl (fun K hK => ?_)
  go_wp2_with fail
  refine (qa1).mono ?_
  rintro e wb ⟨rfl, hwb⟩
  rw [hwb]
  clear hwb
  go_wp2_with fail
  refine hK _ _ HC.out ?_
  clear hK K
  refine RF.wpFl_doC rfl rfl (fun K hK => ?_)
  refine Fi.wpList_f rfl .mul (.inr (.inr rfl)) _ _ _ _ rfl d.x x1 rfl rfl ?_
  intro r dr lr er
  refine Fi.wpList_nil' ?_
  refine hK _ _ HC.out ?_
  clear hK K
  refine RF.wpFl_readC rfl rfl (.float .f64 r) (fun w' hw' => by have q0 := hw'.1; have l0 := lt_cell q0; have q1 := hw'.2.1; have l1 := lt_cell q1; have q2 := hw'.2.2; have l2 := lt_cell q2; clear hw'; unfold RM.valAt; go_simp) ?_
  refine RF.wpFl_nil ?_
  go_wp2_with fail
  go_ret
  exact ⟨r, rfl, lr, HX.out r er, HB2.out.trans ((belN 1 _).trans (belN dr _))⟩
set_option maxRecDepth 40000 in
set_option maxHeartbeats 8000000 in
theorem sample_6 (g : Gr) (go uo : Option Addr) (gc uc : Nat) (pb N : Nat) (P : Nat → List Nat) (V I : Hist) (io : Option Addr) (m ic : Nat) (Q : List (List Nat)) (i t : Nat) (w : World) (h : SmH g go uo gc uc pb N P V I io m ic Q i t w) (hk : (nd g i).kind = 6) :
    Calls Try.prog 19 #[gvg g go uo gc uc, .slice (some ⟨pb, 0, none⟩) N N, .slice io m ic, .int .i64 i, .int .i64 t] w fun e w' => SmQ w (sampD (nd g i) I V i t) e w' := by
  obtain ⟨U, hU⟩ : ∃ U, U = g.outs.length := ⟨_, rfl⟩
  obtain ⟨ins, hins⟩ : ∃ ins, ins = g.ins := ⟨_, rfl⟩
  have hargs : gvg g go uo gc uc = .agg #[.int .i64 ins, .slice go N gc, .slice uo U uc] := by rw [hU, hins, ← h.nN]
  have hgl : N ≤ gc := by rw [← h.nN]; exact h.gh.gl
  rw [hargs]
  have hgi : g.nodes[i]? = some (nd g i) := by unfold nd; rw [List.getD_eq_getElem?_getD, List.getElem?_eq_getElem (by rw [h.nN]; exact h.hi)]; rfl
  have hmy : many (nd g i) := (h.wf.n _ (List.mem_of_getElem? hgi)).1
  have hfr : ∀ k ∈ (nd g i).frm, 0 ≤ k ∧ k < (N : Int) := by have := (h.wf.n _ (List.mem_of_getElem? hgi)).2.1; rw [h.nN] at this; exact this
  have hw1 := (h.wf.n _ (List.mem_of_getElem? hgi)).2.2
  have hnow := h.nw
  obtain ⟨d, hd⟩ : ∃ d, d = nd g i := ⟨_, rfl⟩
  rw [← hd] at hgi hmy hfr hw1 hnow hk ⊢
  obtain ⟨nb, ofn, fo, fc, rfl, _, hlb, hcl, hNA⟩ := h.gh.n.at' i d hgi
  obtain ⟨FL, hFL⟩ : ∃ FL, FL = d.frm.length := ⟨_, rfl⟩
  have n0 : w.cell? ⟨nb, ofn + i * 16, none⟩ = some (.int .i64 6) := by rw [← hk]; exact hcl 0 _ rfl
  have n1 : w.cell? ⟨nb, ofn + i * 16 + 1, none⟩ = some (.slice fo FL fc) := by rw [hFL]; exact hcl 1 _ rfl
  have n2 : w.cell? ⟨nb, ofn + i * 16 + 2, none⟩ = some (.int .i64 d.n) := hcl 2 _ rfl
  have n3 : w.cell? ⟨nb, ofn + i * 16 + 3, none⟩ = some (.float .f64 d.x) := hcl 3 _ rfl
  have n4 : w.cell? ⟨nb, ofn + i * 16 + 4, none⟩ = some (.float .f64 d.c.b0) := hcl 4 _ rfl
  have n5 : w.cell? ⟨nb, ofn + i * 16 + 5, none⟩ = some (.float .f64 d.c.b1) := hcl 5 _ rfl
  have n6 : w.cell? ⟨nb, ofn + i * 16 + 6, none⟩ = some (.float .f64 d.c.b2) := hcl 6 _ rfl
  have n7 : w.cell? ⟨nb, ofn + i * 16 + 7, none⟩ = some (.float .f64 d.c.a1) := hcl 7 _ rfl
  have n8 : w.cell? ⟨nb, ofn + i * 16 + 8, none⟩ = some (.float .f64 d.c.a2) := hcl 8 _ rfl
  have n9 : w.cell? ⟨nb, ofn + i * 16 + 9, none⟩ = some (.int .i64 d.p.shape) := hcl 9 _ rfl
  have n10 : w.cell? ⟨nb, ofn + i * 16 + 10, none⟩ = some (.int .u32 d.p.step) := hcl 10 _ rfl
  have n11 : w.cell? ⟨nb, ofn + i * 16 + 11, none⟩ = some (.float .f64 d.p.gain) := hcl 11 _ rfl
  have n12 : w.cell? ⟨nb, ofn + i * 16 + 12, none⟩ = some (.int .i64 d.p.atk) := hcl 12 _ rfl
  have n13 : w.cell? ⟨nb, ofn + i * 16 + 13, none⟩ = some (.int .i64 d.p.dec) := hcl 13 _ rfl
  have n14 : w.cell? ⟨nb, ofn + i * 16 + 14, none⟩ = some (.int .i64 d.p.rel) := hcl 14 _ rfl
  have n15 : w.cell? ⟨nb, ofn + i * 16 + 15, none⟩ = some (.int .i64 d.p.sus) := hcl 15 _ rfl
  obtain ⟨W2, hW2⟩ : ∃ X, X = (w.alloc (Obj.cells #[.int .i64 ins, .slice (some ⟨nb, ofn, none⟩) N gc, .slice uo U uc] 25)).alloc (Obj.cells #[.int .i64 6, .slice fo FL fc, .int .i64 d.n, .float .f64 d.x, .float .f64 d.c.b0, .float .f64 d.c.b1, .float .f64 d.c.b2, .float .f64 d.c.a1, .float .f64 d.c.a2, .int .i64 d.p.shape, .int .u32 d.p.step, .float .f64 d.p.gain, .int .i64 d.p.atk, .int .i64 d.p.dec, .int .i64 d.p.rel, .int .i64 d.p.sus] 53) := ⟨_, rfl⟩
  have hb2 : Below w.heap.size w W2 := by rw [hW2]; exact ((Below.refl _ _).alloc (Nat.le_refl _) _).alloc (by simp) _
  have z2 : W2.heap.size = w.heap.size + 2 := by rw [hW2]; simp
  have c0 : W2.cell? ⟨w.heap.size + 1, 0, none⟩ = some (.int .i64 6) := by rw [hW2]; simp [go_sem]
  have c1 : W2.cell? ⟨w.heap.size + 1, 1, none⟩ = some (.slice fo FL fc) := by rw [hW2]; simp [go_sem]
  have c2 : W2.cell? ⟨w.heap.size + 1, 2, none⟩ = some (.int .i64 d.n) := by rw [hW2]; simp [go_sem]
  have c3 : W2.cell? ⟨w.heap.size + 1, 3, none⟩ = some (.float .f64 d.x) := by rw [hW2]; simp [go_sem]
  have c4 : W2.cell? ⟨w.heap.size + 1, 4, none⟩ = some (.float .f64 d.c.b0) := by rw [hW2]; simp [go_sem]
  have c5 : W2.cell? ⟨w.heap.size + 1, 5, none⟩ = some (.float .f64 d.c.b1) := by rw [hW2]; simp [go_sem]
  have c6 : W2.cell? ⟨w.heap.size + 1, 6, none⟩ = some (.float .f64 d.c.b2) := by rw [hW2]; simp [go_sem]
  have c7 : W2.cell? ⟨w.heap.size + 1, 7, none⟩ = some (.float .f64 d.c.a1) := by rw [hW2]; simp [go_sem]
  have c8 : W2.cell? ⟨w.heap.size + 1, 8, none⟩ = some (.float .f64 d.c.a2) := by rw [hW2]; simp [go_sem]
  have hi' : (i : Int) < (N : Int) := by have := h.hi; omega
  have HB2 : Hid (Below w.heap.size w W2) := hb2
  have HW2 : Hid ((w.alloc (Obj.cells #[.int .i64 ins, .slice (some ⟨nb, ofn, none⟩) N gc, .slice uo U uc] 25)).alloc (Obj.cells #[.int .i64 6, .slice fo FL fc, .int .i64 d.n, .float .f64 d.x, .float .f64 d.c.b0, .float .f64 d.c.b1, .float .f64 d.c.b2, .float .f64 d.c.a1, .float .f64 d.c.a2, .int .i64 d.p.shape, .int .u32 d.p.step, .float .f64 d.p.gain, .int .i64 d.p.atk, .int .i64 d.p.dec, .int .i64 d.p.rel, .int .i64 d.p.sus] 53) = W2) := hW2.symm
  have lxk : w.heap.size + 1 < W2.heap.size := by omega
  have hZ : ZL W2 (fun b => b < w.heap.size) fo d.frm := hNA.z.bel hb2
  have hP : PA W2 pb N P := h.pa.bel hb2
  have ht := h.ht
  have hfc : FL ≤ fc := by rw [hFL]; exact hNA.c
  have hfm := hNA.cm
  have hfl := hmy.1 (.inr (.inl hk))
  have hn1 := hmy.2.2 hk
  have hn2 := hw1.2 hk
  obtain ⟨z0, hz0⟩ : ∃ z, d.frm[0]? = some z := ⟨_, List.getElem?_eq_getElem (by rw [hfl]; omega)⟩
  have hzr0 := hfr z0 (List.mem_of_getElem? hz0)
  obtain ⟨y0, rfl⟩ : ∃ y : Nat, z0 = y := ⟨z0.toNat, by omega⟩
  have hy0 : y0 < N := by omega
  have hy0' : (y0 : Int) < (N : Int) := by omega
  obtain ⟨fb, fof, rfl, o1, _, o3⟩ := hZ.at' (by rw [hfl]; omega)
  have v0 := o3 0 _ hz0
  rw [Nat.add_zero] at v0
  have lv0 := lt_cell v0
  have hle := h.hl y0 (by omega)
  have hcd : (t : Int) - d.n < 0 ∨ (0 ≤ (t : Int) - d.n ∧ ((t : Int) - d.n).toNat < (P y0).length) := by omega
  obtain ⟨x1, lx1, ex1, hx1⟩ := h.at y0 (by omega) ((t : Int) - d.n) (hcd)
  have qa1 : Calls Try.prog 33 #[.slice (some ⟨pb, 0, none⟩) N N, .int .i64 y0, .int .i64 ((t : Int) - d.n)] W2.drew fun e w' => e = .returned (.float .f64 x1) ∧ w' = W2.drew := at_any pb N P y0 ((t : Int) - d.n) x1 W2.drew (hP.bel (belN 1 _)) (by omega) hx1
  have HX : Hid (x1 < 18446744073709551616 ∧ ab x1 = sampD d I V i t) := ⟨lx1, by
    unfold sampD
    rw [if_neg (by omega), if_neg (by omega), if_neg (by omega), if_neg (by omega), if_neg (by omega), if_pos hk, ex1]
    unfold f0
    rw [List.getD_eq_getElem?_getD, hz0]; rfl⟩
  have wt : IntKind.i64.wrap ((t : Int) - d.n) = (t : Int) - d.n := wid (by omega) (by omega)
  have hFL1 : FL = 1 := by rw [hFL]; exact hfl
  rw [hFL1] at c1 n1
  have HC : Hid ((fun w' : World => w'.cell? ⟨w.heap.size + 1, 2, none⟩ = some (.int .i64 d.n) ∧ w'.cell? ⟨w.heap.size + 1, 1, none⟩ = some (.slice (some ⟨fb, fof, none⟩) 1 fc) ∧ w'.cell? ⟨fb, fof, none⟩ = some (.int .i64 (y0 : Nat))) W2.drew) := ⟨c2, c1, v0⟩
  clear hFL hfl hz0 hzr0 o3 ex1 hx1 hle hcd hargs hgi hcl hNA hU hins hW2 hb2 hnow hmy hfr hw1 hd hP hZ h
  subst hFL1
  go_enter Try.func19, Try.ntmps19
  go_wp2_with fail
  rw [HW2.out]
  refine RF.wp_region_floatC (fun w' : World => w'.cell? ⟨w.heap.size + 1, 2, none⟩ = some (.int .i64 d.n) ∧ w'.cell? ⟨w.heap.size + 1, 1, none⟩ = some (.slice (some ⟨fb, fof, none⟩) 1 fc) ∧ w'.cell? ⟨fb, fof, none⟩ = some (.int .i64 (y0 : Nat))) (fun k => k != 9) (by kernel_rfl) (by kernel_rfl) (by kernel_rfl) HC.out ?_
  refine RF.wpFl_readC rfl rfl (.slice (some ⟨pb, 0, none⟩) N N) (fun w' hw' => by have q0 := hw'.1; have l0 := lt_cell q0; have q1 := hw'.2.1; have l1 := lt_cell q1; have q2 := hw'.2.2; have l2 := lt_cell q2; clear hw'; unfold RM.valAt; go_simp) ?_
  refine RF.wpFl_readC rfl rfl (.pointer (some ⟨w.heap.size + 1, 1, none⟩)) (fun w' hw' => by have q0 := hw'.1; have l0 := lt_cell q0; have q1 := hw'.2.1; have l1 := lt_cell q1; have q2 := hw'.2.2; have l2 := lt_cell q2; clear hw'; unfold RM.valAt; go_simp) ?_
  refine RF.wpFl_readC rfl rfl (.slice (some ⟨fb, fof, none⟩) 1 fc) (fun w' hw' => by have q0 := hw'.1; have l0 := lt_cell q0; have q1 := hw'.2.1; have l1 := lt_cell q1; have q2 := hw'.2.2; have l2 := lt_cell q2; clear hw'; unfold RM.valAt; go_simp) ?_
  refine RF.wpFl_readC rfl rfl (.pointer (some ⟨fb, fof, none⟩)) (fun w' hw' => by have q0 := hw'.1; have l0 := lt_cell q0; have q1 := hw'.2.1; have l1 := lt_cell q1; have q2 := hw'.2.2; have l2 := lt_cell q2; clear hw'; unfold RM.valAt; go_simp) ?_
  refine RF.wpFl_readC rfl rfl (.int .i64 (y0 : Nat)) (fun w' hw' => by have q0 := hw'.1; have l0 := lt_cell q0; have q1 := hw'.2.1; have l1 := lt_cell q1; have q2 := hw'.2.2; have l2 := lt_cell q2; clear hw'; unfold RM.valAt; go_simp) ?_
  refine RF.wpFl_readC rfl rfl (.int .i64 (t : Nat)) (fun w' hw' => by have q0 := hw'.1; have l0 := lt_cell q0; have q1 := hw'.2.1; have l1 := lt_cell q1; have q2 := hw'.2.2; have l2 := lt_cell q2; clear hw'; unfold RM.valAt; go_simp) ?_
  refine RF.wpFl_readC rfl rfl (.pointer (some ⟨w.heap.size + 1, 2, none⟩)) (fun w' hw' => by have q0 := hw'.1; have l0 := lt_cell q0; have q1 := hw'.2.1; have l1 := lt_cell q1; have q2 := hw'.2.2; have l2 := lt_cell q2; clear hw'; unfold RM.valAt; go_simp) ?_
  refine RF.wpFl_readC rfl rfl (.int .i64 d.n) (fun w' hw' => by have q0 := hw'.1; have l0 := lt_cell q0; have q1 := hw'.2.1; have l1 := lt_cell q1; have q2 := hw'.2.2; have l2 := lt_cell q2; clear hw'; unfold RM.valAt; go_simp) ?_
  refine RF.wpFl_readC rfl rfl (.int .i64 ((t : Int) - d.n)) (fun w' hw' => by have q0 := hw'.1; have l0 := lt_cell q0; have q1 := hw'.2.1; have l1 := lt_cell q1; have q2 := hw'.2.2; have l2 := lt_cell q2; clear hw'; unfold RM.valAt; go_simp) ?_
  refine RF.wpFl_doC rfl rfl (fun K hK => ?_)
  go_wp2_with fail
  refine (qa1).mono ?_
  rintro e wb ⟨rfl, hwb⟩
  rw [hwb]
  clear hwb
  go_wp2_with fail
  refine hK _ _ HC.out ?_
  clear hK K
  refine RF.wpFl_readC rfl rfl (.float .f64 x1) (fun w' hw' => by have q0 := hw'.1; have l0 := lt_cell q0; have q1 := hw'.2.1; have l1 := lt_cell q1; have q2 := hw'.2.2; have l2 := lt_cell q2; clear hw'; unfold RM.valAt; go_simp) ?_
  refine RF.wpFl_nil ?_
  go_wp2_with fail
  go_ret
  exact ⟨x1, rfl, HX.out.1, HX.out.2, HB2.out.trans (belN 1 _)⟩
set_option maxRecDepth 40000 in
set_option maxHeartbeats 8000000 in
theorem sample_5 (g : Gr) (go uo : Option Addr) (gc uc : Nat) (pb N : Nat) (P : Nat → List Nat) (V I : Hist) (io : Option Addr) (m ic : Nat) (Q : List (List Nat)) (i t : Nat) (w : World) (h : SmH g go uo gc uc pb N P V I io m ic Q i t w) (hk : (nd g i).kind = 5) :
    Calls Try.prog 19 #[gvg g go uo gc uc, .slice (some ⟨pb, 0, none⟩) N N, .slice io m ic, .int .i64 i, .int .i64 t] w fun e w' => SmQ w (sampD (nd g i) I V i t) e w' := by
  obtain ⟨U, hU⟩ : ∃ U, U = g.outs.length := ⟨_, rfl⟩
  obtain ⟨ins, hins⟩ : ∃ ins, ins = g.ins := ⟨_, rfl⟩
  have hargs : gvg g go uo gc uc = .agg #[.int .i64 ins, .slice go N gc, .slice uo U uc] := by rw [hU, hins, ← h.nN]
  have hgl : N ≤ gc := by rw [← h.nN]; exact h.gh.gl
  rw [hargs]
  have hgi : g.nodes[i]? = some (nd g i) := by unfold nd; rw [List.getD_eq_getElem?_getD, List.getElem?_eq_getElem (by rw [h.nN]; exact h.hi)]; rfl
  have hmy : many (nd g i) := (h.wf.n _ (List.mem_of_getElem? hgi)).1
  have hfr : ∀ k ∈ (nd g i).frm, 0 ≤ k ∧ k < (N : Int) := by have := (h.wf.n _ (List.mem_of_getElem? hgi)).2.1; rw [h.nN] at this; exact this
  have hw1 := (h.wf.n _ (List.mem_of_getElem? hgi)).2.2
  have hnow := h.nw
  obtain ⟨d, hd⟩ : ∃ d, d = nd g i := ⟨_, rfl⟩
  rw [← hd] at hgi hmy hfr hw1 hnow hk ⊢
  obtain ⟨nb, ofn, fo, fc, rfl, _, hlb, hcl, hNA⟩ := h.gh.n.at' i d hgi
  obtain ⟨FL, hFL⟩ : ∃ FL, FL = d.frm.length := ⟨_, rfl⟩
  have n0 : w.cell? ⟨nb, ofn + i * 16, none⟩ = some (.int .i64 5) := by rw [← hk]; exact hcl 0 _ rfl
  have n1 : w.cell? ⟨nb, ofn + i * 16 + 1, none⟩ = some (.slice fo FL fc) := by rw [hFL]; exact hcl 1 _ rfl
  have n2 : w.cell? ⟨nb, ofn + i * 16 + 2, none⟩ = some (.int .i64 d.n) := hcl 2 _ rfl
  have n3 : w.cell? ⟨nb, ofn + i * 16 + 3, none⟩ = some (.float .f64 d.x) := hcl 3 _ rfl
  have n4 : w.cell? ⟨nb, ofn + i * 16 + 4, none⟩ = some (.float .f64 d.c.b0) := hcl 4 _ rfl
  have n5 : w.cell? ⟨nb, ofn + i * 16 + 5, none⟩ = some (.float .f64 d.c.b1) := hcl 5 _ rfl
  have n6 : w.cell? ⟨nb, ofn + i * 16 + 6, none⟩ = some (.float .f64 d.c.b2) := hcl 6 _ rfl
  have n7 : w.cell? ⟨nb, ofn + i * 16 + 7, none⟩ = some (.float .f64 d.c.a1) := hcl 7 _ rfl
  have n8 : w.cell? ⟨nb, ofn + i * 16 + 8, none⟩ = some (.float .f64 d.c.a2) := hcl 8 _ rfl
  have n9 : w.cell? ⟨nb, ofn + i * 16 + 9, none⟩ = some (.int .i64 d.p.shape) := hcl 9 _ rfl
  have n10 : w.cell? ⟨nb, ofn + i * 16 + 10, none⟩ = some (.int .u32 d.p.step) := hcl 10 _ rfl
  have n11 : w.cell? ⟨nb, ofn + i * 16 + 11, none⟩ = some (.float .f64 d.p.gain) := hcl 11 _ rfl
  have n12 : w.cell? ⟨nb, ofn + i * 16 + 12, none⟩ = some (.int .i64 d.p.atk) := hcl 12 _ rfl
  have n13 : w.cell? ⟨nb, ofn + i * 16 + 13, none⟩ = some (.int .i64 d.p.dec) := hcl 13 _ rfl
  have n14 : w.cell? ⟨nb, ofn + i * 16 + 14, none⟩ = some (.int .i64 d.p.rel) := hcl 14 _ rfl
  have n15 : w.cell? ⟨nb, ofn + i * 16 + 15, none⟩ = some (.int .i64 d.p.sus) := hcl 15 _ rfl
  obtain ⟨W2, hW2⟩ : ∃ X, X = (w.alloc (Obj.cells #[.int .i64 ins, .slice (some ⟨nb, ofn, none⟩) N gc, .slice uo U uc] 25)).alloc (Obj.cells #[.int .i64 5, .slice fo FL fc, .int .i64 d.n, .float .f64 d.x, .float .f64 d.c.b0, .float .f64 d.c.b1, .float .f64 d.c.b2, .float .f64 d.c.a1, .float .f64 d.c.a2, .int .i64 d.p.shape, .int .u32 d.p.step, .float .f64 d.p.gain, .int .i64 d.p.atk, .int .i64 d.p.dec, .int .i64 d.p.rel, .int .i64 d.p.sus] 53) := ⟨_, rfl⟩
  have hb2 : Below w.heap.size w W2 := by rw [hW2]; exact ((Below.refl _ _).alloc (Nat.le_refl _) _).alloc (by simp) _
  have z2 : W2.heap.size = w.heap.size + 2 := by rw [hW2]; simp
  have c0 : W2.cell? ⟨w.heap.size + 1, 0, none⟩ = some (.int .i64 5) := by rw [hW2]; simp [go_sem]
  have c1 : W2.cell? ⟨w.heap.size + 1, 1, none⟩ = some (.slice fo FL fc) := by rw [hW2]; simp [go_sem]
  have c2 : W2.cell? ⟨w.heap.size + 1, 2, none⟩ = some (.int .i64 d.n) := by rw [hW2]; simp [go_sem]
  have c3 : W2.cell? ⟨w.heap.size + 1, 3, none⟩ = some (.float .f64 d.x) := by rw [hW2]; simp [go_sem]
  have c4 : W2.cell? ⟨w.heap.size + 1, 4, none⟩ = some (.float .f64 d.c.b0) := by rw [hW2]; simp [go_sem]
  have c5 : W2.cell? ⟨w.heap.size + 1, 5, none⟩ = some (.float .f64 d.c.b1) := by rw [hW2]; simp [go_sem]
  have c6 : W2.cell? ⟨w.heap.size + 1, 6, none⟩ = some (.float .f64 d.c.b2) := by rw [hW2]; simp [go_sem]
  have c7 : W2.cell? ⟨w.heap.size + 1, 7, none⟩ = some (.float .f64 d.c.a1) := by rw [hW2]; simp [go_sem]
  have c8 : W2.cell? ⟨w.heap.size + 1, 8, none⟩ = some (.float .f64 d.c.a2) := by rw [hW2]; simp [go_sem]
  have hi' : (i : Int) < (N : Int) := by have := h.hi; omega
  have HB2 : Hid (Below w.heap.size w W2) := hb2
  have HW2 : Hid ((w.alloc (Obj.cells #[.int .i64 ins, .slice (some ⟨nb, ofn, none⟩) N gc, .slice uo U uc] 25)).alloc (Obj.cells #[.int .i64 5, .slice fo FL fc, .int .i64 d.n, .float .f64 d.x, .float .f64 d.c.b0, .float .f64 d.c.b1, .float .f64 d.c.b2, .float .f64 d.c.a1, .float .f64 d.c.a2, .int .i64 d.p.shape, .int .u32 d.p.step, .float .f64 d.p.gain, .int .i64 d.p.atk, .int .i64 d.p.dec, .int .i64 d.p.rel, .int .i64 d.p.sus] 53) = W2) := hW2.symm
  have lxk : w.heap.size + 1 < W2.heap.size := by omega
  have hZ : ZL W2 (fun b => b < w.heap.size) fo d.frm := hNA.z.bel hb2
  have hP : PA W2 pb N P := h.pa.bel hb2
  have ht := h.ht
  have hfc : FL ≤ fc := by rw [hFL]; exact hNA.c
  have hfm := hNA.cm
  have hfl := hmy.2.1 hk
  obtain ⟨z0, hz0⟩ : ∃ z, d.frm[0]? = some z := ⟨_, List.getElem?_eq_getElem (by rw [hfl]; omega)⟩
  have hzr0 := hfr z0 (List.mem_of_getElem? hz0)
  obtain ⟨y0, rfl⟩ : ∃ y : Nat, z0 = y := ⟨z0.toNat, by omega⟩
  have hy0 : y0 < N := by omega
  have hy0' : (y0 : Int) < (N : Int) := by omega
  obtain ⟨z1, hz1⟩ : ∃ z, d.frm[1]? = some z := ⟨_, List.getElem?_eq_getElem (by rw [hfl]; omega)⟩
  have hzr1 := hfr z1 (List.mem_of_getElem? hz1)
  obtain ⟨y1, rfl⟩ : ∃ y : Nat, z1 = y := ⟨z1.toNat, by omega⟩
  have hy1 : y1 < N := by omega
  have hy1' : (y1 : Int) < (N : Int) := by omega
  obtain ⟨fb, fof, rfl, o1, _, o3⟩ := hZ.at' (by rw [hfl]; omega)
  have v0 := o3 0 _ hz0
  rw [Nat.add_zero] at v0
  have lv0 := lt_cell v0
  have v1 := o3 1 _ hz1
  have hno0 : t < (P y0).length := by
    have := hnow (y0 : Int) (by unfold now; rw [if_neg (by omega)]; exact List.mem_of_getElem? hz0)
    rwa [Int.toNat_natCast] at this
  have hno1 : t < (P y1).length := by
    have := hnow (y1 : Int) (by unfold now; rw [if_neg (by omega)]; exact List.mem_of_getElem? hz1)
    rwa [Int.toNat_natCast] at this
  obtain ⟨x1, lx1, ex1, hx1⟩ := h.at y0 (by omega) ((t : Int)) (.inr ⟨by omega, by rw [Int.toNat_natCast]; exact hno0⟩)
  have qa1 : Calls Try.prog 33 #[.slice (some ⟨pb, 0, none⟩) N N, .int .i64 y0, .int .i64 ((t : Int))] W2.drew fun e w' => e = .returned (.float .f64 x1) ∧ w' = W2.drew := at_any pb N P y0 ((t : Int)) x1 W2.drew (hP.bel (belN 1 _)) (by omega) hx1
  obtain ⟨x2, lx2, ex2, hx2⟩ := h.at y1 (by omega) ((t : Int)) (.inr ⟨by omega, by rw [Int.toNat_natCast]; exact hno1⟩)
  have qa2 : Calls Try.prog 33 #[.slice (some ⟨pb, 0, none⟩) N N, .int .i64 y1, .int .i64 ((t : Int))] W2.drew fun e w' => e = .returned (.float .f64 x2) ∧ w' = W2.drew := at_any pb N P y1 ((t : Int)) x2 W2.drew (hP.bel (belN 1 _)) (by omega) hx2
  have HX : Hid (∀ r, ab r = Fi.fo .mul (ab x1) (ab x2) → ab r = sampD d I V i t) := fun r hr => by
    unfold sampD
    rw [if_neg (by omega), if_neg (by omega), if_neg (by omega), if_neg (by omega), if_pos hk, hr, ex1, ex2, pv_nat, pv_nat]
    unfold f0 f1
    rw [List.getD_eq_getElem?_getD, hz0, List.getD_eq_getElem?_getD, hz1]; rfl
  have hFL1 : FL = 2 := by rw [hFL]; exact hfl
  rw [hFL1] at c1 n1
  have HC : Hid ((fun w' : World => w'.cell? ⟨w.heap.size + 1, 1, none⟩ = some (.slice (some ⟨fb, fof, none⟩) 2 fc) ∧ w'.cell? ⟨fb, fof, none⟩ = some (.int .i64 (y0 : Nat)) ∧ w'.cell? ⟨fb, fof + 1, none⟩ = some (.int .i64 (y1 : Nat))) W2.drew) := ⟨c1, v0, v1⟩
  clear hFL hfl hz0 hzr0 hz1 hzr1 o3 hno0 hno1 ex1 hx1 ex2 hx2 hargs hgi hcl hNA hU hins hW2 hb2 hnow hmy hfr hw1 hd hP hZ h
  subst hFL1
  go_enter Try.func19, Try.ntmps19
  go_wp2_with fail
  rw [HW2.out]
  refine RF.wp_region_floatC (fun w' : World => w'.cell? ⟨w.heap.size + 1, 1, none⟩ = some (.slice (some ⟨fb, fof, none⟩) 2 fc) ∧ w'.cell? ⟨fb, fof, none⟩ = some (.int .i64 (y0 : Nat)) ∧ w'.cell? ⟨fb, fof + 1, none⟩ = some (.int .i64 (y1 : Nat))) (fun k => k != 6 && k != 13 && k != 14) (by kernel_rfl) (by kernel_rfl) (by kernel_rfl) HC.out ?_
  refine RF.wpFl_readC rfl rfl (.slice (some ⟨pb, 0, none⟩) N N) (fun w' hw' => by have q0 := hw'.1; have l0 := lt_cell q0; have q1 := hw'.2.1; have l1 := lt_cell q1; have q2 := hw'.2.2; have l2 := lt_cell q2; clear hw'; unfold RM.valAt; go_simp) ?_
  refine RF.wpFl_readC rfl rfl (.pointer (some ⟨w.heap.size + 1, 1, none⟩)) (fun w' hw' => by have q0 := hw'.1; have l0 := lt_cell q0; have q1 := hw'.2.1; have l1 := lt_cell q1; have q2 := hw'.2.2; have l2 := lt_cell q2; clear hw'; unfold RM.valAt; go_simp) ?_
  refine RF.wpFl_readC rfl rfl (.slice (some ⟨fb, fof, none⟩) 2 fc) (fun w' hw' => by have q0 := hw'.1; have l0 := lt_cell q0; have q1 := hw'.2.1; have l1 := lt_cell q1; have q2 := hw'.2.2; have l2 := lt_cell q2; clear hw'; unfold RM.valAt; go_simp) ?_
  refine RF.wpFl_readC rfl rfl (.pointer (some ⟨fb, fof, none⟩)) (fun w' hw' => by have q0 := hw'.1; have l0 := lt_cell q0; have q1 := hw'.2.1; have l1 := lt_cell q1; have q2 := hw'.2.2; have l2 := lt_cell q2; clear hw'; unfold RM.valAt; go_simp) ?_
  refine RF.wpFl_readC rfl rfl (.int .i64 (y0 : Nat)) (fun w' hw' => by have q0 := hw'.1; have l0 := lt_cell q0; have q1 := hw'.2.1; have l1 := lt_cell q1; have q2 := hw'.2.2; have l2 := lt_cell q2; clear hw'; unfold RM.valAt; go_simp) ?_
  refine RF.wpFl_readC rfl rfl (.int .i64 (t : Nat)) (fun w' hw' => by have q0 := hw'.1; have l0 := lt_cell q0; have q1 := hw'.2.1; have l1 := lt_cell q1; have q2 := hw'.2.2; have l2 := lt_cell q2; clear hw'; unfold RM.valAt; go_simp) ?_
  refine RF.wpFl_doC rfl rfl (fun K hK => ?_)
  go_wp2_with fail
  refine (qa1).mono ?_
  rintro e wb ⟨rfl, hwb⟩
  rw [hwb]
  clear hwb
  go_wp2_with fail
  refine hK _ _ HC.out ?_
  clear hK K
  refine RF.wpFl_readC rfl rfl (.slice (some ⟨pb, 0, none⟩) N N) (fun w' hw' => by have q0 := hw'.1; have l0 := lt_cell q0; have q1 := hw'.2.1; have l1 := lt_cell q1; have q2 := hw'.2.2; have l2 := lt_cell q2; clear hw'; unfold RM.valAt; go_simp) ?_
  refine RF.wpFl_readC rfl rfl (.pointer (some ⟨w.heap.size + 1, 1, none⟩)) (fun w' hw' => by have q0 := hw'.1; have l0 := lt_cell q0; have q1 := hw'.2.1; have l1 := lt_cell q1; have q2 := hw'.2.2; have l2 := lt_cell q2; clear hw'; unfold RM.valAt; go_simp) ?_
  refine RF.wpFl_readC rfl rfl (.slice (some ⟨fb, fof, none⟩) 2 fc) (fun w' hw' => by have q0 := hw'.1; have l0 := lt_cell q0; have q1 := hw'.2.1; have l1 := lt_cell q1; have q2 := hw'.2.2; have l2 := lt_cell q2; clear hw'; unfold RM.valAt; go_simp) ?_
  refine RF.wpFl_readC rfl rfl (.pointer (some ⟨fb, fof + 1, none⟩)) (fun w' hw' => by have q0 := hw'.1; have l0 := lt_cell q0; have q1 := hw'.2.1; have l1 := lt_cell q1; have q2 := hw'.2.2; have l2 := lt_cell q2; clear hw'; unfold RM.valAt; go_simp) ?_
  refine RF.wpFl_readC rfl rfl (.int .i64 (y1 : Nat)) (fun w' hw' => by have q0 := hw'.1; have l0 := lt_cell q0; have q1 := hw'.2.1; have l1 := lt_cell q1; have q2 := hw'.2.2; have l2 := lt_cell q2; clear hw'; unfold RM.valAt; go_simp) ?_
  refine RF.wpFl_readC rfl rfl (.int .i64 (t : Nat)) (fun w' hw' => by have q0 := hw'.1; have l0 := lt_cell q0; have q1 := hw'.2.1; have l1 := lt_cell q1; have q2 := hw'.2.2; have l2 := lt_cell q2; clear hw'; unfold RM.valAt; go_simp) ?_
  refine RF.wpFl_doC rfl rfl (fun K hK => ?_)
  go_wp2_with fail
  refine (qa2).mono ?_
  rintro e wb ⟨rfl, hwb⟩
  rw [hwb]
  clear hwb
  go_wp2_with fail
  refine hK _ _ HC.out ?_
  clear hK K
  refine RF.wpFl_doC rfl rfl (fun K hK => ?_)
  refine Fi.wpList_f rfl .mul (.inr (.inr rfl)) _ _ _ _ rfl x1 x2 rfl rfl ?_
  intro r dr lr er
  refine Fi.wpList_nil' ?_
  refine hK _ _ HC.out ?_
  clear hK K
  refine RF.wpFl_readC rfl rfl (.float .f64 r) (fun w' hw' => by have q0 := hw'.1; have l0 := lt_cell q0; have q1 := hw'.2.1; have l1 := lt_cell q1; have q2 := hw'.2.2; have l2 := lt_cell q2; clear hw'; unfold RM.valAt; go_simp) ?_
  refine RF.wpFl_nil ?_
  go_wp2_with fail
  go_ret
  exact ⟨r, rfl, lr, HX.out r er, HB2.out.trans ((belN 1 _).trans (belN dr _))⟩
end Go.Proofs.Ytjpcebnbkdekkaa.Gh
