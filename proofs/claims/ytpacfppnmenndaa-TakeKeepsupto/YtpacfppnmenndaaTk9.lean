/- put of a history. -/
import Derived.Test.YtpacfppnmenndaaTk8
namespace Go.Proofs.Ytpacfppnmenndaa.Tk
open Go.RowKit Go.Maps Go.Sort Go.Proofs.Ytpacfppnmenndaa.Rg
open Go.Proofs.Ytpacfppnmenndaa.Y (Tn lt okT wr fst cod bfr OkL TL tab tc rows)
set_option linter.unusedVariables false
set_option linter.unusedSimpArgs false

theorem belD {B : Nat} {w w' : World} (h : Below B w w') : Below B w w'.drew := ⟨h.os, h.tape, h.output, h.size, h.block⟩
structure TwoSet (w W : World) (rb : Nat) (a b : Value) : Prop where
  d0 : W.cell? ⟨rb, 0, none⟩ = some a
  d1 : W.cell? ⟨rb, 1, none⟩ = some b
  z : W.heap.size = w.heap.size
  k : ∀ j, j ≠ rb → W.heap[j]? = w.heap[j]?
  b : ∀ B, B ≤ rb → Below B w W
theorem two_set {w : World} {rb : Nat} {u v a b : Value} (y0 : w.cell? ⟨rb, 0, none⟩ = some u) (y1 : w.cell? ⟨rb, 1, none⟩ = some v) : ∃ W, W = (w.setCell ⟨rb, 0, none⟩ a).setCell ⟨rb, 1, none⟩ b ∧ TwoSet w W rb a b := by
  refine ⟨_, rfl, ?_, ?_, by simp [World.setCell], fun j hj => (Below.heap_setCell _ _ _ _ hj).trans (Below.heap_setCell _ _ _ _ hj), fun B hB => ((Below.refl _ _).setCell (p := ⟨rb, 0, none⟩) hB _).setCell (p := ⟨rb, 1, none⟩) hB _⟩
  · rw [World.cell?_setCell_other _ _ _ _ (by simp)]
    exact World.cell?_setCell_same _ _ _ y0
  · exact World.cell?_setCell_same _ _ _ (by rw [World.cell?_setCell_other _ _ _ _ (by simp)]; exact y1)
theorem fz {B b o : Nat} {w w' : World} {v : Bool} (h : Below B w w') (hlt : b < B) (hc : w.frozen? ⟨b, o, none⟩ = v) : w'.frozen? ⟨b, o, none⟩ = v := (World.frozen?_of_block (h.block b hlt)).trans hc
theorem tone_tl {W : World} {nb : Nat} {t : Tn} (hlt : nb < W.heap.size) (h0 : W.cell? ⟨nb, 0, none⟩ = some (.int .i64 t.t)) (h1 : W.cell? ⟨nb, 1, none⟩ = some (.int .i64 t.g)) (h2 : W.cell? ⟨nb, 2, none⟩ = some (.int .i64 t.l)) (h3 : W.cell? ⟨nb, 3, none⟩ = some (.int .i64 t.a)) (h4 : W.cell? ⟨nb, 4, none⟩ = some (.int .i64 t.o)) : TL W (some ⟨nb, 0, none⟩) 1 (fun _ => t) :=
  ⟨fun _ => ⟨nb, 0, rfl, hlt, fun j hj => by obtain rfl : j = 0 := by omega
                                             exact h0, fun j hj => by obtain rfl : j = 0 := by omega
                                                                      exact h1, fun j hj => by obtain rfl : j = 0 := by omega
                                                                                               exact h2, fun j hj => by obtain rfl : j = 0 := by omega
                                                                                                                        exact h3, fun j hj => by obtain rfl : j = 0 := by omega
                                                                                                                                                 exact h4⟩⟩
/-- What put's last statement reads. -/
structure PC (B : Nat) (va : Option Addr) (n vc st : Nat) (t : Tn) (w' : World) : Prop where
  l : B + 2 < w'.heap.size
  c0 : w'.cell? ⟨B, 0, none⟩ = some (.slice va n vc)
  c1 : w'.cell? ⟨B, 1, none⟩ = some (.int .i64 st)
  t0 : w'.cell? ⟨B + 1, 0, none⟩ = some (.int .i64 t.t)
  t1 : w'.cell? ⟨B + 1, 1, none⟩ = some (.int .i64 t.g)
  t2 : w'.cell? ⟨B + 1, 2, none⟩ = some (.int .i64 t.l)
  t3 : w'.cell? ⟨B + 1, 3, none⟩ = some (.int .i64 t.a)
  t4 : w'.cell? ⟨B + 1, 4, none⟩ = some (.int .i64 t.o)
set_option maxRecDepth 20000 in
set_option maxHeartbeats 8000000 in
theorem put_any (S : Nat → Prop) (va : Option Addr) (vc : Nat) (h : Hs) (t : Tn) (w : World) (hV : HV w S va vc h) (hk : HOk h) (hs : h.st ≤ 1024) (hS : ∀ b, w.heap.size ≤ b → S b) :
    Calls Try.prog 35 #[.agg #[.slice va h.vs.length vc, .int .i64 h.st], .agg #[.int .i64 t.t, .int .i64 t.g, .int .i64 t.l, .int .i64 t.a, .int .i64 t.o]] w fun e w' => AfQ w S (if wt t ≠ 0 then wt t else if h.line.length = 1024 then 5 else 0) (h.add (put h.line t)) e w' := by
  obtain ⟨W1, hW1⟩ : ∃ X, X = ((w.alloc (.cells #[.slice va h.vs.length vc, .int .i64 h.st] 70)).alloc (.cells #[.int .i64 t.t, .int .i64 t.g, .int .i64 t.l, .int .i64 t.a, .int .i64 t.o] 38)).alloc (.cells #[.slice none 0 0, .int .i64 0] 70) := ⟨_, rfl⟩
  have hb1 : Below w.heap.size w W1 := by rw [hW1]; exact (((Below.refl _ _).alloc (Nat.le_refl _) _).alloc (by simp) _).alloc (by simp; omega) _
  have z1 : W1.heap.size = w.heap.size + 3 := by rw [hW1]; simp
  have c0 : W1.cell? ⟨w.heap.size, 0, none⟩ = some (.slice va h.vs.length vc) := by rw [hW1]; simp [go_sem]
  have c1 : W1.cell? ⟨w.heap.size, 1, none⟩ = some (.int .i64 h.st) := by rw [hW1]; simp [go_sem]
  have t0 : W1.cell? ⟨w.heap.size + 1, 0, none⟩ = some (.int .i64 t.t) := by rw [hW1]; simp [go_sem]
  have t1 : W1.cell? ⟨w.heap.size + 1, 1, none⟩ = some (.int .i64 t.g) := by rw [hW1]; simp [go_sem]
  have t2 : W1.cell? ⟨w.heap.size + 1, 2, none⟩ = some (.int .i64 t.l) := by rw [hW1]; simp [go_sem]
  have t3 : W1.cell? ⟨w.heap.size + 1, 3, none⟩ = some (.int .i64 t.a) := by rw [hW1]; simp [go_sem]
  have t4 : W1.cell? ⟨w.heap.size + 1, 4, none⟩ = some (.int .i64 t.o) := by rw [hW1]; simp [go_sem]
  have r0 : W1.cell? ⟨w.heap.size + 2, 0, none⟩ = some (.slice none 0 0) := by rw [hW1]; simp [go_sem]
  have r1 : W1.cell? ⟨w.heap.size + 2, 1, none⟩ = some (.int .i64 0) := by rw [hW1]; simp [go_sem]
  have f0 : W1.frozen? ⟨w.heap.size + 2, 0, none⟩ = false := by rw [hW1]; simp [go_sem]
  have f1 : W1.frozen? ⟨w.heap.size + 2, 1, none⟩ = false := by rw [hW1]; simp [go_sem]
  obtain ⟨W2, hW2⟩ : ∃ X, X = W1.alloc (.cells #[.int .i64 t.t, .int .i64 t.g, .int .i64 t.l, .int .i64 t.a, .int .i64 t.o] 38) := ⟨_, rfl⟩
  have hb2 : Below W1.heap.size W1 W2 := by rw [hW2]; exact (Below.refl _ _).alloc (Nat.le_refl _) _
  have z2 : W2.heap.size = w.heap.size + 4 := by rw [hW2]; simp; omega
  have hWr := Y.Wrong_any (some ⟨w.heap.size + 3, 0, none⟩) 1 1 (fun _ => t) W2 (tone_tl (by omega) (by rw [hW2, ← z1]; simp [go_sem]) (by rw [hW2, ← z1]; simp [go_sem]) (by rw [hW2, ← z1]; simp [go_sem]) (by rw [hW2, ← z1]; simp [go_sem]) (by rw [hW2, ← z1]; simp [go_sem])) (Nat.le_refl _)
  rw [wt_is] at hWr
  obtain ⟨Z, hZ⟩ : ∃ Z, Z = (if wt t ≠ 0 then wt t else if h.line.length = 1024 then (5 : Int) else 0) := ⟨_, rfl⟩
  obtain ⟨H', hH⟩ : ∃ H', H' = h.add (put h.line t) := ⟨_, rfl⟩
  rw [← hZ, ← hH]
  have HBad : Hid (∀ w', Z ≠ 0 → Below w.heap.size w w' → AfQ w S Z H' (.returned (.tuple #[.agg #[.slice none 0 0, .int .i64 0], .int .i64 Z])) w') := fun w' hz hb => ⟨hb, fun _ => rfl, fun e => absurd e hz⟩
  have HV1 : Hid (HV w S va vc h ∧ HOk h ∧ h.st ≤ 1024 ∧ ∀ b, w.heap.size ≤ b → S b) := ⟨hV, hk, hs, hS⟩
  have hbw2 : Below w.heap.size w W2 := hb1.trans (hb2.mono hb1.size)
  clear hV hk hs hS
  obtain ⟨n, hn⟩ : ∃ n, n = h.vs.length := ⟨_, rfl⟩
  obtain ⟨st, hst⟩ : ∃ st, st = h.st := ⟨_, rfl⟩
  rw [← hn] at c0 hW1 ⊢
  rw [← hst] at c1 hW1 ⊢
  have HN : Hid (n = h.vs.length ∧ st = h.st) := ⟨hn, hst⟩
  have HH : Hid (H' = h.add (put h.line t)) := hH
  clear hn hst hH
  by_cases hwt : wt t = 0
  · have ht := hwt
    have HZ : Hid (Z = if h.line.length = 1024 then (5 : Int) else 0) := by show Z = _; rw [hZ, if_neg (by simp [hwt])]
    have HTm : Hid (wt t = 0) := hwt
    rw [hwt] at hWr
    clear hwt hZ ht
    go_enter Try.func35, Try.ntmps35
    go_wp2_with fail
    rw [← hW1]
    clear hW1
    go_wp2_with fail
    rw [← hW2]
    clear hW2
    refine hWr.mono ?_
    rintro e w3 ⟨rfl, hb3⟩
    have hb13 : Below W1.heap.size W1 w3 := hb2.trans (hb3.mono hb2.size)
    have hbw3 : Below w.heap.size w w3 := hb1.trans (hb13.mono hb1.size)
    have hz3 := hb13.size
    have C0 := keepC hb13 (show w.heap.size < W1.heap.size by omega) c0
    have C1 := keepC hb13 (show w.heap.size < W1.heap.size by omega) c1
    have T0 := keepC hb13 (show w.heap.size + 1 < W1.heap.size by omega) t0
    have T1 := keepC hb13 (show w.heap.size + 1 < W1.heap.size by omega) t1
    have T2 := keepC hb13 (show w.heap.size + 1 < W1.heap.size by omega) t2
    have T3 := keepC hb13 (show w.heap.size + 1 < W1.heap.size by omega) t3
    have T4 := keepC hb13 (show w.heap.size + 1 < W1.heap.size by omega) t4
    have R0 := keepC hb13 (show w.heap.size + 2 < W1.heap.size by omega) r0
    have R1 := keepC hb13 (show w.heap.size + 2 < W1.heap.size by omega) r1
    have F0 := fz hb13 (show w.heap.size + 2 < W1.heap.size by omega) f0
    have F1 := fz hb13 (show w.heap.size + 2 < W1.heap.size by omega) f1
    have hlt3 : w.heap.size < w3.heap.size := by omega
    have hlt3' : w.heap.size + 1 < w3.heap.size := by omega
    have hlt3'' : w.heap.size + 2 < w3.heap.size := by omega
    have HBw3 : Hid (Below w.heap.size w w3) := hbw3
    have HLn : Hid (∀ W, Below w.heap.size w W → Calls Try.prog 31 #[.agg #[.slice va n vc, .int .i64 st]] W fun e w' => (∃ ao c, e = .returned (.slice ao h.line.length c) ∧ h.line.length ≤ c ∧ c ≤ 9223372036854775807 ∧ (ao = none → c = 0) ∧ LN w' (fun b => S b ∧ (b < w.heap.size)) ao h.line) ∧ Below W.heap.size W w') := fun W hbW => by
      rw [HN.out.1, HN.out.2]
      exact line_any (fun b => S b ∧ b < w.heap.size) va vc h W (HV1.out.1.keep (fun b _ hl => hbW.block b hl) hbW.size (fun b h1 h2 => ⟨h1, h2⟩)) HV1.out.2.1 HV1.out.2.2.1
    have hln := HLn.out w3 hbw3
    clear c0 c1 t0 t1 t2 t3 t4 r0 r1 f0 f1 hWr hb13 hbw3 hb3
    go_wp2_with fail
    refine hln.mono ?_
    rintro e w4 ⟨⟨ao, c, rfl, l1, l2, l3, l4⟩, hb4⟩
    have HB4 : Hid (Below w.heap.size w w4) := HBw3.out.trans (hb4.mono HBw3.out.size)
    have E0 := keepC hb4 hlt3 C0
    have E1 := keepC hb4 hlt3 C1
    have U0 := keepC hb4 hlt3' T0
    have U1 := keepC hb4 hlt3' T1
    have U2 := keepC hb4 hlt3' T2
    have U3 := keepC hb4 hlt3' T3
    have U4 := keepC hb4 hlt3' T4
    have V0 := keepC hb4 hlt3'' R0
    have V1 := keepC hb4 hlt3'' R1
    have G0 := fz hb4 hlt3'' F0
    have G1 := fz hb4 hlt3'' F1
    have hlt4 : w.heap.size + 2 < w4.heap.size := by have := hb4.size; omega
    clear C0 C1 T0 T1 T2 T3 T4 R0 R1 F0 F1 hln l1 l2 l3 l4 hb4
    obtain ⟨ll, hll⟩ : ∃ ll, ll = h.line.length := ⟨_, rfl⟩
    have HLL : Hid (ll = h.line.length) := hll
    rw [← hll]
    by_cases hm : ll = 1024
    · have hz5 : Hid (Z = 5) := by show Z = 5; rw [HZ.out, if_pos (by rw [← hll]; exact hm)]
      subst hm
      obtain ⟨WF, hWF, hF⟩ := two_set (a := .slice none 0 0) (b := .int .i64 0) V0 V1
      have hbF : Below w.heap.size w WF := HB4.out.trans (hF.b _ (by omega))
      have d0 := hF.d0
      have d1 := hF.d1
      have HQ : Hid (AfQ w S Z H' (.returned (.tuple #[.agg #[.slice none 0 0, .int .i64 0], .int .i64 5])) WF) := by
        have := HBad.out WF (by rw [hz5.out]; decide) hbF
        rw [hz5.out] at this ⊢
        exact this
      clear hll hF
      go_wp2_with fail
      rw [← hWF]
      clear hWF
      refine bodyPost_ret (v := .tuple #[.agg #[.slice none 0 0, .int .i64 0], .int .i64 5]) (by simp [results, Try.results35, go_sem, d0, d1]) rfl HQ.out
    · have hz0 : Hid (Z = 0) := by show Z = 0; rw [HZ.out, if_neg (by rw [← hll]; exact hm)]
      have hm2 : ((ll : Int) == 1024) = false := by simp; omega
      have HM : Hid (h.line.length < 1024) := by have := HV1.out.2.1.line.1; show _ < _; omega
      clear hm hll
      go_wp2_with fail
      refine RF.wp_region_floatC (PC w.heap.size va n vc st t) (fun q => q != 2 && q != 4 && q != 5 && q != 6) (by kernel_rfl) (by kernel_rfl) (by kernel_rfl) ⟨hlt4, E0, E1, U0, U1, U2, U3, U4⟩ ?_
      refine RF.wpFl_readC rfl rfl (.agg #[.slice va n vc, .int .i64 st]) (fun w' hw' => by obtain ⟨k0, k1, k2, k3, k4, k5, k6, k7⟩ := hw'; have k8 : w.heap.size < w'.heap.size := (by omega); unfold RM.valAt; go_simp) ?_
      refine RF.wpFl_readC rfl rfl (.agg #[.slice va n vc, .int .i64 st]) (fun w' hw' => by obtain ⟨k0, k1, k2, k3, k4, k5, k6, k7⟩ := hw'; have k8 : w.heap.size < w'.heap.size := (by omega); unfold RM.valAt; go_simp) ?_
      refine RF.wpFl_doC rfl rfl (fun K hK => ?_)
      go_wp2_with fail
      refine (HLn.out _ (belD HB4.out)).mono ?_
      rintro e w5 ⟨⟨bo, d, rfl, m1, m2, m3, m4⟩, hb5⟩
      have hb45 : Below w4.heap.size w4 w5 := ⟨hb5.os, hb5.tape, hb5.output, hb5.size, hb5.block⟩
      have HB5 : Hid (Below w.heap.size w w5) := HB4.out.trans (hb45.mono HB4.out.size)
      have c5 : Hid (PC w.heap.size va n vc st t w5) :=
        ⟨Nat.lt_of_lt_of_le hlt4 hb45.size, keepC hb45 (by omega) E0, keepC hb45 (by omega) E1, keepC hb45 (by omega) U0, keepC hb45 (by omega) U1, keepC hb45 (by omega) U2, keepC hb45 (by omega) U3, keepC hb45 (by omega) U4⟩
      have X0 := keepC hb45 hlt4 V0
      have X1 := keepC hb45 hlt4 V1
      have Y0 := fz hb45 hlt4 G0
      have Y1 := fz hb45 hlt4 G1
      have M4 : Hid (LN w5 (fun b => S b ∧ b < w.heap.size) bo h.line) := m4
      go_wp2_with fail
      refine hK _ _ c5.out ?_
      clear hK K hb5 E0 E1 U0 U1 U2 U3 U4 V0 V1 G0 G1 m4
      refine RF.wpFl_readC rfl rfl (.agg #[.int .i64 t.t, .int .i64 t.g, .int .i64 t.l, .int .i64 t.a, .int .i64 t.o]) (fun w' hw' => by obtain ⟨k0, k1, k2, k3, k4, k5, k6, k7⟩ := hw'; have k8 : w.heap.size + 1 < w'.heap.size := (by omega); unfold RM.valAt; go_simp) ?_
      refine RF.wpFl_doC rfl rfl (fun K hK => ?_)
      go_wp2_with fail
      refine (longer_any (fun b => S b ∧ b < w.heap.size) bo h.line.length d h.line t _ M4.out rfl m1 m2 HV1.out.2.1.line HTm.out HM.out).mono ?_
      rintro e w6 ⟨hb6, g, rfl, l6⟩
      have z5 := hb45.size
      have HB6 : Hid (Below w.heap.size w w6) := HB5.out.trans (hb6.mono HB5.out.size)
      have hlt50 : w.heap.size < w5.heap.size := by have := c5.out.l; omega
      have hlt51 : w.heap.size + 1 < w5.heap.size := by have := c5.out.l; omega
      have c6 : Hid (PC w.heap.size va n vc st t w6) := by
        obtain ⟨e0, e1, e2, e3, e4, e5, e6, e7⟩ := c5.out
        exact ⟨Nat.lt_of_lt_of_le e0 hb6.size, keepC hb6 hlt50 e1, keepC hb6 hlt50 e2, keepC hb6 hlt51 e3, keepC hb6 hlt51 e4, keepC hb6 hlt51 e5, keepC hb6 hlt51 e6, keepC hb6 hlt51 e7⟩
      have hlt5 : w.heap.size + 2 < w5.heap.size := c5.out.l
      have P0 := keepC hb6 hlt5 X0
      have P1 := keepC hb6 hlt5 X1
      have O0 := fz hb6 hlt5 Y0
      have O1 := fz hb6 hlt5 Y1
      have HL6 : Hid (LN w6 (fun b => S b ∧ b ≠ w.heap.size + 2) (some ⟨g, 0, none⟩) (put h.line t)) := l6.keep (fun _ _ _ => rfl) (Nat.le_refl _) (fun b hb _ => ⟨HV1.out.2.2.2 b (by omega), by omega⟩)
      have HPl : Hid ((put h.line t).length ≤ 1024) := by show _ ≤ _; rw [put_len]; have := HM.out; omega
      go_wp2_with fail
      refine hK _ _ c6.out ?_
      clear hK K hb6 c5 X0 X1 Y0 Y1 l6
      refine RF.wpFl_doC rfl rfl (fun K hK => ?_)
      have qw := with_any (fun b => S b ∧ b ≠ w.heap.size + 2) va (some ⟨g, 0, none⟩) vc (put h.line t).length h (put h.line t) w6 (HV1.out.1.keep (fun b _ hl => HB6.out.block b hl) HB6.out.size (fun b h1 h2 => ⟨h1, by omega⟩)) HV1.out.2.1.st HV1.out.2.2.1 HL6.out (Nat.le_refl _) (by have := HPl.out; omega) (fun e => by cases e) (fun b hb => ⟨HV1.out.2.2.2 b (by have := HB6.out.size; omega), by have := c6.out.l; omega⟩)
      rw [← HN.out.1, ← HN.out.2, ← HH.out] at qw
      go_wp2_with fail
      refine qw.mono ?_
      rintro e w7 ⟨⟨va', vc', rfl, v7⟩, hb7⟩
      have HB7 : Hid (Below w.heap.size w w7) := HB6.out.trans (hb7.mono HB6.out.size)
      have hlt6 : w.heap.size + 2 < w6.heap.size := c6.out.l
      have Q0 := keepC hb7 hlt6 P0
      have Q1 := keepC hb7 hlt6 P1
      have K0 := fz hb7 hlt6 O0
      have K1 := fz hb7 hlt6 O1
      have hlt7 : w.heap.size + 2 < w7.heap.size := Nat.lt_of_lt_of_le hlt6 hb7.size
      have hlt60 : w.heap.size < w6.heap.size := by have := c6.out.l; omega
      have hlt61 : w.heap.size + 1 < w6.heap.size := by have := c6.out.l; omega
      have c7 : Hid (PC w.heap.size va n vc st t w7) := by
        obtain ⟨e0, e1, e2, e3, e4, e5, e6, e7⟩ := c6.out
        exact ⟨hlt7, keepC hb7 hlt60 e1, keepC hb7 hlt60 e2, keepC hb7 hlt61 e3, keepC hb7 hlt61 e4, keepC hb7 hlt61 e5, keepC hb7 hlt61 e6, keepC hb7 hlt61 e7⟩
      have V7 : Hid (HV w7 (fun b => S b ∧ b ≠ w.heap.size + 2) va' vc' H') := v7
      go_wp2_with fail
      refine hK _ _ c7.out ?_
      clear hK K hb7 c6 P0 P1 O0 O1 v7 qw
      refine RF.wpFl_doC rfl rfl (fun K hK => ?_)
      obtain ⟨WF, hWF, hF⟩ := two_set (a := .slice va' (st + 1) vc') (b := .int .i64 ((st : Int) + 1)) Q0 Q1
      have hbF : Below w.heap.size w WF := HB7.out.trans (hF.b _ (by omega))
      have d0 := hF.d0
      have d1 := hF.d1
      have c8 : PC w.heap.size va n vc st t WF := by
        obtain ⟨e0, e1, e2, e3, e4, e5, e6, e7⟩ := c7.out
        have h0 : WF.heap[w.heap.size]? = w7.heap[w.heap.size]? := hF.k _ (by omega)
        have h1 : WF.heap[w.heap.size + 1]? = w7.heap[w.heap.size + 1]? := hF.k _ (by omega)
        exact ⟨by have := hF.z; omega, blk h0 e1, blk h0 e2, blk h1 e3, blk h1 e4, blk h1 e5, blk h1 e6, blk h1 e7⟩
      have HQ : Hid (AfQ w S Z H' (.returned (.tuple #[.agg #[.slice va' (st + 1) vc', .int .i64 ((st : Int) + 1)], .int .i64 0])) WF) := by
        refine ⟨hbF, fun e => absurd hz0.out e, fun _ => ⟨va', vc', ?_, V7.out.keep (fun b hb _ => hF.k b hb.2) (by rw [hF.z]; exact Nat.le_refl _) (fun b hb _ => hb.1)⟩⟩
        have e1 : H'.st = st + 1 := by rw [HH.out, HN.out.2]; rfl
        have e2 : H'.vs.length = st + 1 := by
          rw [HH.out, HN.out.2]
          show (h.vs.take h.st ++ [put h.line t]).length = _
          have := HV1.out.2.1.st
          simp; omega
        rw [e1, e2]; push_cast; rfl
      clear hF
      go_wp2_with fail
      rw [← hWF]
      clear hWF
      refine hK _ _ c8 ?_
      clear hK K
      refine RF.wpFl_readC rfl rfl (.int .i64 0) (fun w' hw' => by unfold RM.valAt; go_simp) ?_
      refine RF.wpFl_nil ?_
      go_wp2_with fail
      refine bodyPost_ret (v := .tuple #[.agg #[.slice va' (st + 1) vc', .int .i64 ((st : Int) + 1)], .int .i64 0]) (by simp [results, Try.results35, go_sem, d0, d1]) rfl HQ.out
  · have hz : Z = wt t := by rw [hZ, if_pos hwt]
    rw [← hz] at hwt hWr
    have HZn : Hid (Z ≠ 0) := hwt
    have hd : (Z != 0) = true := by simp [hwt]
    clear hz hZ
    go_enter Try.func35, Try.ntmps35
    go_wp2_with fail
    rw [← hW1]
    clear hW1
    go_wp2_with fail
    rw [← hW2]
    clear hW2
    refine hWr.mono ?_
    rintro e w3 ⟨rfl, hb3⟩
    have hb13 : Below W1.heap.size W1 w3 := hb2.trans (hb3.mono hb2.size)
    have hbw3 : Below w.heap.size w w3 := hb1.trans (hb13.mono hb1.size)
    have y0 := keepC hb13 (show w.heap.size + 2 < W1.heap.size by omega) r0
    have y1 := keepC hb13 (show w.heap.size + 2 < W1.heap.size by omega) r1
    have g0 := fz hb13 (show w.heap.size + 2 < W1.heap.size by omega) f0
    have g1 := fz hb13 (show w.heap.size + 2 < W1.heap.size by omega) f1
    obtain ⟨WF, hWF, hF⟩ := two_set (a := .slice none 0 0) (b := .int .i64 0) y0 y1
    have hbF : Below w.heap.size w WF := hbw3.trans (hF.b _ (by omega))
    have d0 := hF.d0
    have d1 := hF.d1
    have HQ := HBad.out WF HZn.out hbF
    clear c0 c1 t0 t1 t2 t3 t4 r0 r1 f0 f1 hWr hF
    go_wp2_with fail
    rw [← hWF]
    clear hWF
    refine bodyPost_ret (v := .tuple #[.agg #[.slice none 0 0, .int .i64 0], .int .i64 Z]) (by simp [results, Try.results35, go_sem, d0, d1]) rfl HQ
end Go.Proofs.Ytpacfppnmenndaa.Tk
