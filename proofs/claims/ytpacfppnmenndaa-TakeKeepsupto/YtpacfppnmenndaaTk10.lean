/- cut of a history. -/
import Derived.Test.YtpacfppnmenndaaTk9
namespace Go.Proofs.Ytpacfppnmenndaa.Tk
open Go.RowKit Go.Maps Go.Sort Go.Proofs.Ytpacfppnmenndaa.Rg
open Go.Proofs.Ytpacfppnmenndaa.Y (Tn lt okT wr fst cod bfr OkL TL tab tc rows)
set_option linter.unusedVariables false
set_option linter.unusedSimpArgs false

theorem shorter_any2 (S : Nat → Prop) (ao : Option Addr) (c p : Nat) (L : List Tn) (w : World) (hL : LN w S ao L) (hc : L.length ≤ c) (hcm : c ≤ 9223372036854775807) (hm : L.length ≤ 1024) (hp : p < L.length) :
    Calls Try.prog 42 #[.slice ao L.length c, .int .i64 p] w fun e w' => NL w (L.eraseIdx p) e w' := by
  obtain ⟨m, hl⟩ : ∃ m, L.length = m + 1 := ⟨L.length - 1, by omega⟩
  rw [hl]
  exact shorter_any S ao m c p L w hL hl (by omega) hcm (by omega) (by omega)
/-- What cut's last statement reads. -/
structure PD (B : Nat) (va : Option Addr) (n vc st : Nat) (w' : World) : Prop where
  l : B + 1 < w'.heap.size
  c0 : w'.cell? ⟨B, 0, none⟩ = some (.slice va n vc)
  c1 : w'.cell? ⟨B, 1, none⟩ = some (.int .i64 st)
set_option maxRecDepth 20000 in
set_option maxHeartbeats 8000000 in
theorem cut_any (S : Nat → Prop) (va : Option Addr) (vc : Nat) (h : Hs) (i : Int) (w : World) (hV : HV w S va vc h) (hk : HOk h) (hs : h.st ≤ 1024) (hS : ∀ b, w.heap.size ≤ b → S b) :
    Calls Try.prog 36 #[.agg #[.slice va h.vs.length vc, .int .i64 h.st], .int .i64 i] w fun e w' => AfQ w S (if i < 0 ∨ (h.line.length : Int) ≤ i then 3 else 0) (h.add (h.line.eraseIdx i.toNat)) e w' := by
  obtain ⟨W1, hW1⟩ : ∃ X, X = (w.alloc (.cells #[.slice va h.vs.length vc, .int .i64 h.st] 70)).alloc (.cells #[.slice none 0 0, .int .i64 0] 70) := ⟨_, rfl⟩
  have hb1 : Below w.heap.size w W1 := by rw [hW1]; exact ((Below.refl _ _).alloc (Nat.le_refl _) _).alloc (by simp) _
  have z1 : W1.heap.size = w.heap.size + 2 := by rw [hW1]; simp
  have c0 : W1.cell? ⟨w.heap.size, 0, none⟩ = some (.slice va h.vs.length vc) := by rw [hW1]; simp [go_sem]
  have c1 : W1.cell? ⟨w.heap.size, 1, none⟩ = some (.int .i64 h.st) := by rw [hW1]; simp [go_sem]
  have r0 : W1.cell? ⟨w.heap.size + 1, 0, none⟩ = some (.slice none 0 0) := by rw [hW1]; simp [go_sem]
  have r1 : W1.cell? ⟨w.heap.size + 1, 1, none⟩ = some (.int .i64 0) := by rw [hW1]; simp [go_sem]
  have f0 : W1.frozen? ⟨w.heap.size + 1, 0, none⟩ = false := by rw [hW1]; simp [go_sem]
  have f1 : W1.frozen? ⟨w.heap.size + 1, 1, none⟩ = false := by rw [hW1]; simp [go_sem]
  obtain ⟨Z, hZ⟩ : ∃ Z, Z = (if i < 0 ∨ (h.line.length : Int) ≤ i then (3 : Int) else 0) := ⟨_, rfl⟩
  obtain ⟨H', hH⟩ : ∃ H', H' = h.add (h.line.eraseIdx i.toNat) := ⟨_, rfl⟩
  rw [← hZ, ← hH]
  have HBad : Hid (∀ w', Z = 3 → Below w.heap.size w w' → AfQ w S Z H' (.returned (.tuple #[.agg #[.slice none 0 0, .int .i64 0], .int .i64 3])) w') := fun w' hz hb => ⟨hb, fun _ => by rw [hz], fun e => by rw [hz] at e; exact absurd e (by decide)⟩
  have HV1 : Hid (HV w S va vc h ∧ HOk h ∧ h.st ≤ 1024 ∧ ∀ b, w.heap.size ≤ b → S b) := ⟨hV, hk, hs, hS⟩
  clear hV hk hs hS
  obtain ⟨n, hn⟩ : ∃ n, n = h.vs.length := ⟨_, rfl⟩
  obtain ⟨st, hst⟩ : ∃ st, st = h.st := ⟨_, rfl⟩
  rw [← hn] at c0 hW1 ⊢
  rw [← hst] at c1 hW1 ⊢
  have HN : Hid (n = h.vs.length ∧ st = h.st) := ⟨hn, hst⟩
  have HH : Hid (H' = h.add (h.line.eraseIdx i.toNat)) := hH
  have HZ : Hid (Z = if i < 0 ∨ (h.line.length : Int) ≤ i then (3 : Int) else 0) := hZ
  clear hn hst hH hZ
  have l10 : w.heap.size < W1.heap.size := by omega
  have l11 : w.heap.size + 1 < W1.heap.size := by omega
  by_cases hi : i < 0
  · have hz3 : Z = 3 := by rw [HZ.out, if_pos (.inl hi)]
    have HQ : Hid (AfQ w S Z H' (.returned (.tuple #[.agg #[.slice none 0 0, .int .i64 0], .int .i64 3])) W1) := HBad.out W1 hz3 hb1
    clear hz3
    go_enter Try.func36, Try.ntmps36
    go_wp2_with fail
    rw [← hW1]
    clear hW1
    refine bodyPost_ret (v := .tuple #[.agg #[.slice none 0 0, .int .i64 0], .int .i64 3]) (by simp [results, Try.results36, go_sem, r0, r1]) rfl HQ.out
  · have HLn : Hid (∀ W, Below w.heap.size w W → Calls Try.prog 31 #[.agg #[.slice va n vc, .int .i64 st]] W fun e w' => (∃ ao c, e = .returned (.slice ao h.line.length c) ∧ h.line.length ≤ c ∧ c ≤ 9223372036854775807 ∧ (ao = none → c = 0) ∧ LN w' (fun b => S b ∧ (b < w.heap.size)) ao h.line) ∧ Below W.heap.size W w') := fun W hbW => by
      rw [HN.out.1, HN.out.2]
      exact line_any (fun b => S b ∧ b < w.heap.size) va vc h W (HV1.out.1.keep (fun b _ hl => hbW.block b hl) hbW.size (fun b h1 h2 => ⟨h1, h2⟩)) HV1.out.2.1 HV1.out.2.2.1
    have hln := HLn.out W1 hb1
    have HB1 : Hid (Below w.heap.size w W1) := hb1
    clear hb1
    obtain ⟨p, rfl⟩ : ∃ p : Nat, i = p := ⟨i.toNat, by omega⟩
    have hp0 : decide ((p : Int) < 0) = false := by simp
    go_enter Try.func36, Try.ntmps36
    go_wp2_with fail
    rw [← hW1]
    clear hW1
    go_wp2_with fail
    refine hln.mono ?_
    rintro e w4 ⟨⟨ao, c, rfl, l1, l2, l3, l4⟩, hb4⟩
    have HB4 : Hid (Below w.heap.size w w4) := HB1.out.trans (hb4.mono HB1.out.size)
    have E0 := keepC hb4 l10 c0
    have E1 := keepC hb4 l10 c1
    have V0 := keepC hb4 l11 r0
    have V1 := keepC hb4 l11 r1
    have G0 := fz hb4 l11 f0
    have G1 := fz hb4 l11 f1
    have hlt4 : w.heap.size + 1 < w4.heap.size := Nat.lt_of_lt_of_le l11 hb4.size
    clear c0 c1 r0 r1 f0 f1 hln l1 l2 l3 l4 hb4
    obtain ⟨ll, hll⟩ : ∃ ll, ll = h.line.length := ⟨_, rfl⟩
    have HLL : Hid (ll = h.line.length) := hll
    rw [← hll]
    by_cases hm : ll ≤ p
    · have hz3 : Z = 3 := by rw [HZ.out, if_pos (.inr (by omega))]
      obtain ⟨WF, hWF, hF⟩ := two_set (a := .slice none 0 0) (b := .int .i64 0) V0 V1
      have hbF : Below w.heap.size w WF := HB4.out.trans (hF.b _ (by omega))
      have d0 := hF.d0
      have d1 := hF.d1
      have HQ : Hid (AfQ w S Z H' (.returned (.tuple #[.agg #[.slice none 0 0, .int .i64 0], .int .i64 3])) WF) := HBad.out WF hz3 hbF
      have hd : decide ((ll : Int) ≤ (p : Int)) = true := by simp; omega
      clear hll hF hz3
      go_wp2_with fail
      rw [← hWF]
      clear hWF
      refine bodyPost_ret (v := .tuple #[.agg #[.slice none 0 0, .int .i64 0], .int .i64 3]) (by simp [results, Try.results36, go_sem, d0, d1]) rfl HQ.out
    · have hz0 : Hid (Z = 0) := by show Z = 0; rw [HZ.out, if_neg (by omega)]
      have hd : decide ((ll : Int) ≤ (p : Int)) = false := by simp; omega
      have HM : Hid (p < h.line.length ∧ h.line.length ≤ 1024) := ⟨by omega, HV1.out.2.1.line.1⟩
      clear hll
      go_wp2_with fail
      refine RF.wp_region_floatC (PD w.heap.size va n vc st) (fun q => q != 2 && q != 4 && q != 5 && q != 6) (by kernel_rfl) (by kernel_rfl) (by kernel_rfl) ⟨hlt4, E0, E1⟩ ?_
      refine RF.wpFl_readC rfl rfl (.agg #[.slice va n vc, .int .i64 st]) (fun w' hw' => by obtain ⟨k0, k1, k2⟩ := hw'; have k8 : w.heap.size < w'.heap.size := (by omega); unfold RM.valAt; go_simp) ?_
      refine RF.wpFl_readC rfl rfl (.agg #[.slice va n vc, .int .i64 st]) (fun w' hw' => by obtain ⟨k0, k1, k2⟩ := hw'; have k8 : w.heap.size < w'.heap.size := (by omega); unfold RM.valAt; go_simp) ?_
      refine RF.wpFl_doC rfl rfl (fun K hK => ?_)
      go_wp2_with fail
      refine (HLn.out _ (belD HB4.out)).mono ?_
      rintro e w5 ⟨⟨bo, d, rfl, m1, m2, m3, m4⟩, hb5⟩
      have hb45 : Below w4.heap.size w4 w5 := ⟨hb5.os, hb5.tape, hb5.output, hb5.size, hb5.block⟩
      have HB5 : Hid (Below w.heap.size w w5) := HB4.out.trans (hb45.mono HB4.out.size)
      have hlt40 : w.heap.size < w4.heap.size := by omega
      have c5 : Hid (PD w.heap.size va n vc st w5) := ⟨Nat.lt_of_lt_of_le hlt4 hb45.size, keepC hb45 hlt40 E0, keepC hb45 hlt40 E1⟩
      have X0 := keepC hb45 hlt4 V0
      have X1 := keepC hb45 hlt4 V1
      have Y0 := fz hb45 hlt4 G0
      have Y1 := fz hb45 hlt4 G1
      have M4 : Hid (LN w5 (fun b => S b ∧ b < w.heap.size) bo h.line) := m4
      go_wp2_with fail
      refine hK _ _ c5.out ?_
      clear hK K hb5 E0 E1 V0 V1 G0 G1 m4
      refine RF.wpFl_readC rfl rfl (.int .i64 p) (fun w' hw' => by unfold RM.valAt; go_simp) ?_
      refine RF.wpFl_doC rfl rfl (fun K hK => ?_)
      go_wp2_with fail
      refine (shorter_any2 (fun b => S b ∧ b < w.heap.size) bo d p h.line _ M4.out m1 m2 HM.out.2 HM.out.1).mono ?_
      rintro e w6 ⟨hb6, g, rfl, l6⟩
      have z5 := hb45.size
      have HB6 : Hid (Below w.heap.size w w6) := HB5.out.trans (hb6.mono HB5.out.size)
      have hlt50 : w.heap.size < w5.heap.size := by have := c5.out.l; omega
      have hlt51 : w.heap.size + 1 < w5.heap.size := c5.out.l
      have c6 : Hid (PD w.heap.size va n vc st w6) := by
        obtain ⟨e0, e1, e2⟩ := c5.out
        exact ⟨Nat.lt_of_lt_of_le e0 hb6.size, keepC hb6 hlt50 e1, keepC hb6 hlt50 e2⟩
      have P0 := keepC hb6 hlt51 X0
      have P1 := keepC hb6 hlt51 X1
      have O0 := fz hb6 hlt51 Y0
      have O1 := fz hb6 hlt51 Y1
      have HL6 : Hid (LN w6 (fun b => S b ∧ b ≠ w.heap.size + 1) (some ⟨g, 0, none⟩) (h.line.eraseIdx p)) := l6.keep (fun _ _ _ => rfl) (Nat.le_refl _) (fun b hb _ => ⟨HV1.out.2.2.2 b (by omega), by omega⟩)
      have HPl : Hid ((h.line.eraseIdx p).length ≤ 1024) := Nat.le_trans (List.length_eraseIdx_le _ _) HM.out.2
      go_wp2_with fail
      refine hK _ _ c6.out ?_
      clear hK K hb6 c5 X0 X1 Y0 Y1 l6
      refine RF.wpFl_doC rfl rfl (fun K hK => ?_)
      have qw := with_any (fun b => S b ∧ b ≠ w.heap.size + 1) va (some ⟨g, 0, none⟩) vc (h.line.eraseIdx p).length h (h.line.eraseIdx p) w6 (HV1.out.1.keep (fun b _ hl => HB6.out.block b hl) HB6.out.size (fun b h1 h2 => ⟨h1, by omega⟩)) HV1.out.2.1.st HV1.out.2.2.1 HL6.out (Nat.le_refl _) (by have := HPl.out; omega) (fun e => by cases e) (fun b hb => ⟨HV1.out.2.2.2 b (by have := HB6.out.size; omega), by have := c6.out.l; omega⟩)
      rw [← HN.out.1, ← HN.out.2, show h.add (h.line.eraseIdx p) = H' from HH.out.symm] at qw
      go_wp2_with fail
      refine qw.mono ?_
      rintro e w7 ⟨⟨va', vc', rfl, v7⟩, hb7⟩
      have HB7 : Hid (Below w.heap.size w w7) := HB6.out.trans (hb7.mono HB6.out.size)
      have hlt60 : w.heap.size < w6.heap.size := by have := c6.out.l; omega
      have hlt6 : w.heap.size + 1 < w6.heap.size := c6.out.l
      have Q0 := keepC hb7 hlt6 P0
      have Q1 := keepC hb7 hlt6 P1
      have K0 := fz hb7 hlt6 O0
      have K1 := fz hb7 hlt6 O1
      have hlt7 : w.heap.size + 1 < w7.heap.size := Nat.lt_of_lt_of_le hlt6 hb7.size
      have c7 : Hid (PD w.heap.size va n vc st w7) := by
        obtain ⟨e0, e1, e2⟩ := c6.out
        exact ⟨hlt7, keepC hb7 hlt60 e1, keepC hb7 hlt60 e2⟩
      have V7 : Hid (HV w7 (fun b => S b ∧ b ≠ w.heap.size + 1) va' vc' H') := v7
      go_wp2_with fail
      refine hK _ _ c7.out ?_
      clear hK K hb7 c6 P0 P1 O0 O1 v7 qw
      refine RF.wpFl_doC rfl rfl (fun K hK => ?_)
      obtain ⟨WF, hWF, hF⟩ := two_set (a := .slice va' (st + 1) vc') (b := .int .i64 ((st : Int) + 1)) Q0 Q1
      have hbF : Below w.heap.size w WF := HB7.out.trans (hF.b _ (by omega))
      have d0 := hF.d0
      have d1 := hF.d1
      have c8 : PD w.heap.size va n vc st WF := by
        obtain ⟨e0, e1, e2⟩ := c7.out
        have h0 : WF.heap[w.heap.size]? = w7.heap[w.heap.size]? := hF.k _ (by omega)
        exact ⟨by have := hF.z; omega, blk h0 e1, blk h0 e2⟩
      have HQ : Hid (AfQ w S Z H' (.returned (.tuple #[.agg #[.slice va' (st + 1) vc', .int .i64 ((st : Int) + 1)], .int .i64 0])) WF) := by
        refine ⟨hbF, fun e => absurd hz0.out e, fun _ => ⟨va', vc', ?_, V7.out.keep (fun b hb _ => hF.k b hb.2) (by rw [hF.z]; exact Nat.le_refl _) (fun b hb _ => hb.1)⟩⟩
        have e1 : H'.st = st + 1 := by rw [HH.out, HN.out.2]; rfl
        have e2 : H'.vs.length = st + 1 := by
          rw [HH.out, HN.out.2]
          show (h.vs.take h.st ++ [_]).length = _
          have := HV1.out.2.1.st
          simp; omega
        rw [e1, e2]; push_cast; rfl
      clear hF
      go_wp2_with fail
      rw [← hWF]
      clear hWF
      refine hK _ _ c8 ?_
      clear hK K
      refine RF.wpFl_readC rfl rfl (.int .i64 0) (fun w' hw' => by unfold RM.valAt; go_simp) ?_
      refine RF.wpFl_nil ?_
      go_wp2_with fail
      refine bodyPost_ret (v := .tuple #[.agg #[.slice va' (st + 1) vc', .int .i64 ((st : Int) + 1)], .int .i64 0]) (by simp [results, Try.results36, go_sem, d0, d1]) rfl HQ.out
end Go.Proofs.Ytpacfppnmenndaa.Tk
