/- longer. -/
import Derived.Test.YtpacfppnmenndaaTk3
import Derived.Test.YtpacfppnmenndaaRTail
namespace Go.Proofs.Ytpacfppnmenndaa.Tk
open Go.RowKit Go.Maps Go.Sort Go.Proofs.Ytpacfppnmenndaa.Rg
open Go.Proofs.Ytpacfppnmenndaa.Y (Tn lt okT wr fst cod bfr OkL TL tab tc rows)
set_option linter.unusedVariables false
set_option linter.unusedSimpArgs false

theorem lt_cell {w : World} {b o : Nat} {v : Value} (h : w.cell? ⟨b, o, none⟩ = some v) : b < w.heap.size := by
  cases e : w.heap[b]? with
  | none => rw [World.cell?_of_block (w := w) (w' := w) (a := ⟨b, o, none⟩) rfl] at h; simp [World.cell?, e] at h
  | some x => exact (Array.getElem?_eq_some_iff.1 e).1
theorem below_drewN {B : Nat} {w w' : World} (h : Below B w w') (n : Nat) : Below B w (w'.drewN n) := ⟨h.os, h.tape, h.output, h.size, h.block⟩
theorem put_fn {L : List Tn} {n p : Nat} {t z : Tn} (hn : L.length = n) (hp : p ≤ n) (j : Nat) (hj : j < n + 1) : layT (fun j => if j = p then t else layT (fun _ => z) 0 (L.take p) j) (p + 1) (L.drop p) j = fn (L.take p ++ t :: L.drop p) j := by
  have h1 : (L.take p).length = p := by rw [List.length_take]; omega
  have h2 : (L.drop p).length = n - p := by rw [List.length_drop, hn]
  unfold layT
  by_cases c1 : p + 1 ≤ j ∧ j < p + 1 + (L.drop p).length
  · rw [if_pos c1]
    unfold fn
    simp only [List.getD_eq_getElem?_getD]
    rw [List.getElem?_append_right (by omega), h1, show j - p = (j - (p + 1)) + 1 by omega, List.getElem?_cons_succ]
  · rw [if_neg c1]
    have hjp : j ≤ p := by omega
    show (if j = p then t else if 0 ≤ j ∧ j < 0 + (L.take p).length then fn (L.take p) (j - 0) else z) = _
    by_cases c2 : j = p
    · rw [if_pos c2]
      unfold fn
      simp only [List.getD_eq_getElem?_getD]
      rw [List.getElem?_append_right (by omega), h1, c2, Nat.sub_self]; rfl
    · rw [if_neg c2, if_pos (by omega)]
      unfold fn
      simp only [List.getD_eq_getElem?_getD]
      rw [List.getElem?_append_left (by omega), Nat.sub_zero]
set_option maxRecDepth 20000 in
set_option maxHeartbeats 8000000 in
theorem longer_any (S : Nat → Prop) (ao : Option Addr) (n c : Nat) (L : List Tn) (t : Tn) (w : World) (hL : LN w S ao L) (hn : L.length = n) (hc : n ≤ c) (hcm : c ≤ 9223372036854775807) (hr : Rt L) (ht : wt t = 0) (hn3 : n < 1024) :
    Calls Try.prog 41 #[.slice ao n c, .agg #[.int .i64 t.t, .int .i64 t.g, .int .i64 t.l, .int .i64 t.a, .int .i64 t.o]] w fun e w' => NL w (put L t) e w' := by
  obtain ⟨W1, hW1⟩ : ∃ X, X = (w.alloc (.cells #[.slice ao n c] 30)).alloc (.cells #[.int .i64 t.t, .int .i64 t.g, .int .i64 t.l, .int .i64 t.a, .int .i64 t.o] 38) := ⟨_, rfl⟩
  have hb1 : Below w.heap.size w W1 := by rw [hW1]; exact ((Below.refl _ _).alloc (Nat.le_refl _) _).alloc (by simp) _
  have z1 : W1.heap.size = w.heap.size + 2 := by rw [hW1]; simp
  have hx : Bx W1 w.heap.size (w.heap.size + 1) ao n c t := by
    refine ⟨?_, by omega, by omega, ?_, ?_, ?_, ?_, ?_⟩ <;> (rw [hW1]; simp [go_sem])
  have hS := Search_any w.heap.size (w.heap.size + 1) S ao n c L t W1 hx (hL.bel hb1) hn hc hcm hr ht
  have hp := ps_le t L
  rw [hn] at hp
  have HPut : Hid (put L t = L.take (ps t L) ++ t :: L.drop (ps t L)) := rfl
  have HPl : Hid ((put L t).length = n + 1) := by show _ = _; rw [put_len, hn]
  have HL : Hid (LN w S ao L) := hL
  have HLw : Hid (LN w (fun b => b < w.heap.size) ao L) := hL.keep (fun _ _ _ => rfl) (Nat.le_refl _) (fun b _ h => h)
  have HX : Hid (Bx W1 w.heap.size (w.heap.size + 1) ao n c t) := hx
  have HN : Hid (L.length = n) := hn
  have HB1 : Hid (Below w.heap.size w W1) := hb1
  generalize put L t = PL at *
  generalize ps t L = p at *
  clear hr ht hn hx hL hb1
  go_enter Try.func41, Try.ntmps41
  go_wp2_with fail
  rw [← hW1]
  clear hW1
  have cl := HX.out.l
  have lll := HX.out.ll
  go_wp2_with fail
  refine hS.mono ?_
  rintro e w2 ⟨rfl, hb2⟩
  have hx2 := HX.out.bel hb2
  have HX2 : Hid (Bx w2 w.heap.size (w.heap.size + 1) ao n c t) := hx2
  have cl2 := hx2.l
  have ll2 := hx2.ll
  have HB2 : Hid (Below w.heap.size w w2) := HB1.out.trans (hb2.mono HB1.out.size)
  clear cl lll hS hx2 hb2 HX HB1
  have wn : IntKind.i64.wrap ((n : Int) + 1) = (n : Int) + 1 := wid (by omega) (by omega)
  have mk := make_any (n + 1) (by omega)
  have mk2 := mk w2
  obtain ⟨W3, hW3⟩ : ∃ X, X = w2.alloc (.cells (madeCells #[.int .i64 0, .int .i64 0, .int .i64 0, .int .i64 0, .int .i64 0] ((n + 1) * 5)) 38) := ⟨_, rfl⟩
  have HR3 : Hid (Row W3 w2.heap.size (n + 1) (fun _ => ⟨0, 0, 0, 0, 0⟩)) := by rw [hW3]; exact row_made w2 (n + 1)
  have hb3 : Below w2.heap.size w2 W3 := by rw [hW3]; exact (Below.refl _ _).alloc (Nat.le_refl _) _
  have z3 : W3.heap.size = w2.heap.size + 1 := by rw [hW3]; simp
  rw [← hW3, show (((n + 1 : Nat)) : Int) = (n : Int) + 1 by push_cast; rfl] at mk2
  clear hW3 mk
  have hx3 := HX2.out.bel hb3
  have HX3 : Hid (Bx W3 w.heap.size (w.heap.size + 1) ao n c t) := hx3
  have cl3 := hx3.l
  have ll3 := hx3.ll
  have HB3 : Hid (Below w.heap.size w W3) := HB2.out.trans (hb3.mono HB2.out.size)
  have hz2 : w.heap.size + 2 ≤ w2.heap.size := by have := HX2.out.tl; omega
  have HL3 : Hid (LN W3 S ao L) := HL.out.keep (fun b _ hb => HB3.out.block b hb) HB3.out.size (fun _ h _ => h)
  have s1 := run_to5 ao n c p (by omega)
  obtain ⟨mb, hmb⟩ : ∃ mb, mb = w2.heap.size := ⟨_, rfl⟩
  rw [← hmb] at mk2 HR3 z3 hz2
  have Hmb : Hid (mb = w2.heap.size) := hmb
  clear hmb
  clear hx3 HX2 HL hb3
  have HT1 : Hid ((L.take p).length = p) := by show _ = _; rw [List.length_take, HN.out]; omega
  obtain ⟨w4, hcp, hW4⟩ := copy_ex (w := W3) (some ⟨mb, 0, none⟩) ao (n + 1) (n + 1) p c mb 0 (n + 1) _ HR3.out (L.take p) (by rw [HT1.out]; show p = min p (n + 1); omega) (fun h0 => by
    obtain ⟨b, off, e1, _, _, e2⟩ := (HL3.out.take p).cells h0
    exact ⟨by rw [Nat.zero_mul], b, off, e1, e2⟩) (by rw [HT1.out]; omega)
  rw [HT1.out] at hcp
  have b4 := hW4.bel (Nat.le_refl _)
  have hx4 : Bx w4 w.heap.size (w.heap.size + 1) ao n c t := ⟨keepC b4 (by omega) HX3.out.l, by have := hW4.z; omega, by have := hW4.z; omega, keepC b4 (by omega) HX3.out.t0, keepC b4 (by omega) HX3.out.t1, keepC b4 (by omega) HX3.out.t2, keepC b4 (by omega) HX3.out.t3, keepC b4 (by omega) HX3.out.t4⟩
  have HX4 : Hid (Bx w4 w.heap.size (w.heap.size + 1) ao n c t) := hx4
  obtain ⟨x0, x1, x1', x2, x3, x4, x5, x6⟩ := hx4
  have HW4 : Hid (CpW W3 w4 mb (n + 1) 0 (fun _ => ⟨0, 0, 0, 0, 0⟩) (L.take p)) := hW4
  have r0 := hW4.r.c p 0 (by omega) (by omega)
  have r1 := hW4.r.c p 1 (by omega) (by omega)
  have r2 := hW4.r.c p 2 (by omega) (by omega)
  have r3 := hW4.r.c p 3 (by omega) (by omega)
  have r4 := hW4.r.c p 4 (by omega) (by omega)
  have f0 := hW4.r.f p 0 (by omega) (by omega)
  have f1 := hW4.r.f p 1 (by omega) (by omega)
  have f2 := hW4.r.f p 2 (by omega) (by omega)
  have f3 := hW4.r.f p 3 (by omega) (by omega)
  have f4 := hW4.r.f p 4 (by omega) (by omega)
  rw [Nat.add_zero] at r0 f0
  have hpl : (p : Int) < (n : Int) + 1 := by omega
  have hpn : p < n + 1 := by omega
  have z4 := hW4.z
  have zw4 : mb < w4.heap.size := by omega
  obtain ⟨q0, q1, q2, q3, q4, qe⟩ : ∃ q0 q1 q2 q3 q4, (q0 = fld (layT (fun _ => ⟨0, 0, 0, 0, 0⟩) 0 (L.take p) p) 0 ∧ q1 = fld (layT (fun _ => ⟨0, 0, 0, 0, 0⟩) 0 (L.take p) p) 1 ∧ q2 = fld (layT (fun _ => ⟨0, 0, 0, 0, 0⟩) 0 (L.take p) p) 2 ∧ q3 = fld (layT (fun _ => ⟨0, 0, 0, 0, 0⟩) 0 (L.take p) p) 3 ∧ q4 = fld (layT (fun _ => ⟨0, 0, 0, 0, 0⟩) 0 (L.take p) p) 4) := ⟨_, _, _, _, _, rfl, rfl, rfl, rfl, rfl⟩
  rw [← qe.1] at r0
  rw [← qe.2.1] at r1
  rw [← qe.2.2.1] at r2
  rw [← qe.2.2.2.1] at r3
  rw [← qe.2.2.2.2] at r4
  clear qe hW4 b4
  obtain ⟨W5, hW5⟩ : ∃ X, X = (((((w4.setCell ⟨mb, p * 5, none⟩ (.int .i64 t.t)).setCell ⟨mb, p * 5 + 1, none⟩ (.int .i64 t.g)).setCell ⟨mb, p * 5 + 2, none⟩ (.int .i64 t.l)).setCell ⟨mb, p * 5 + 3, none⟩ (.int .i64 t.a)).setCell ⟨mb, p * 5 + 4, none⟩ (.int .i64 t.o)) := ⟨_, rfl⟩
  have HW5 : Hid (W5 = (((((w4.setCell ⟨mb, p * 5, none⟩ (.int .i64 t.t)).setCell ⟨mb, p * 5 + 1, none⟩ (.int .i64 t.g)).setCell ⟨mb, p * 5 + 2, none⟩ (.int .i64 t.l)).setCell ⟨mb, p * 5 + 3, none⟩ (.int .i64 t.a)).setCell ⟨mb, p * 5 + 4, none⟩ (.int .i64 t.o))) := hW5
  have HR5 : Hid (Row W5 mb (n + 1) (fun j => if j = p then t else layT (fun _ => ⟨0, 0, 0, 0, 0⟩) 0 (L.take p) j)) := by rw [hW5]; exact row_put HW4.out.r p (by omega) t
  clear hW5
  have HS5 : Hid (W5.heap.size = w4.heap.size ∧ (∀ j, j ≠ mb → W5.heap[j]? = w4.heap[j]?) ∧ Below mb w4 W5) := by
    rw [HW5.out]
    refine ⟨by simp [World.setCell], fun j hj => ?_, ?_⟩
    · exact (Below.heap_setCell _ _ _ _ hj).trans ((Below.heap_setCell _ _ _ _ hj).trans ((Below.heap_setCell _ _ _ _ hj).trans ((Below.heap_setCell _ _ _ _ hj).trans (Below.heap_setCell _ _ _ _ hj))))
    · exact (((((Below.refl _ _).setCell (p := ⟨mb, p * 5, none⟩) (Nat.le_refl _) _).setCell (p := ⟨mb, p * 5 + 1, none⟩) (Nat.le_refl _) _).setCell (p := ⟨mb, p * 5 + 2, none⟩) (Nat.le_refl _) _).setCell (p := ⟨mb, p * 5 + 3, none⟩) (Nat.le_refl _) _).setCell (p := ⟨mb, p * 5 + 4, none⟩) (Nat.le_refl _) _
  go_wp2_with fail
  rw [← HW5.out]
  clear r0 r1 r2 r3 r4 f0 f1 f2 f3 f4 x0 x1 x1' x2 x3 x4 x5 x6 hcp cl2 ll2 cl3 ll3 mk2 s1
  have c5 : W5.cell? ⟨w.heap.size, 0, none⟩ = some (.slice ao n c) := keepC HS5.out.2.2 (by omega) HX4.out.l
  have l5 : w.heap.size < W5.heap.size := by have := HS5.out.1; omega
  have s2 := run_from5 (some ⟨mb, 0, none⟩) (n + 1) (n + 1) (p + 1) (by omega)
  rw [show (((p + 1 : Nat)) : Int) = (p : Int) + 1 by push_cast; rfl] at s2
  have s3 := run_from5 ao n c p (by omega)
  have wp1 : IntKind.i64.wrap ((p : Int) + 1) = (p : Int) + 1 := wid (by omega) (by omega)
  refine U2.wp_region_tail_read 7 (by decide) (by kernel_rfl) (by kernel_rfl) (by kernel_rfl) (by kernel_rfl) ?_
  dsimp only [List.take, List.drop]
  repeat (quiet_step (fail))
  refine wpQuiet_nil ?_
  rintro w6 ⟨nq, hw6⟩
  have hb6 : Below w.heap.size W5 w6 := by rw [hw6]; exact below_drewN (Below.refl _ _) _
  have HR6 : Hid (Row w6 mb (n + 1) (fun j => if j = p then t else layT (fun _ => ⟨0, 0, 0, 0, 0⟩) 0 (L.take p) j)) := by rw [hw6]; exact ⟨HR5.out.lt, HR5.out.c, HR5.out.f⟩
  have hk6 : ∀ j, j ≠ mb → w6.heap[j]? = W3.heap[j]? := fun j hj => by rw [hw6]; exact (HS5.out.2.1 j hj).trans (HW4.out.k j hj)
  have z6 : w6.heap.size = W3.heap.size := by rw [hw6]; exact HS5.out.1.trans HW4.out.z
  have b6 : Below mb W3 w6 := (HW4.out.bel (Nat.le_refl _)).trans (HS5.out.2.2.trans (by rw [hw6]; exact below_drewN (Below.refl _ _) _))
  clear hw6
  have HT2 : Hid ((L.drop p).length = n - p) := by show _ = _; rw [List.length_drop, HN.out]
  have hfr : frm5 (some (⟨mb, 0, none⟩ : Addr)) (p + 1) (n + 1) = some ⟨mb, (p + 1) * 5, none⟩ ∨ n = p := by
    by_cases e : n = p
    · exact .inr e
    · refine .inl ?_
      unfold frm5
      rw [if_neg (by omega)]
      show some ((⟨mb, 0, none⟩ : Addr).add ((p + 1) * 5)) = _
      unfold Addr.add
      rw [if_neg (by omega), Nat.zero_add]
  have HL6 : Hid (LN w6 (fun b => b < w.heap.size) ao L) := HLw.out.keep (fun b hb _ => by have k1 := HB3.out.block b hb; rw [hk6 b (by omega)]; exact k1) (by have := HB3.out.size; omega) (fun _ h _ => h)
  obtain ⟨w7, hcp, hW7⟩ := copy_ex (w := w6) (frm5 (some ⟨mb, 0, none⟩) (p + 1) (n + 1)) (frm5 ao p c) (n - p) (n - p) (n - p) (c - p) mb (p + 1) (n + 1) _ HR6.out (L.drop p) (by rw [HT2.out]; show n - p = min (n - p) (n - p); omega) (fun h0 => by
    rw [HT2.out] at h0
    obtain ⟨b, off, e1, _, _, e2⟩ := (HL6.out.drop p c (by rw [HN.out]; exact hc)).cells (by rw [HT2.out]; exact h0)
    refine ⟨?_, b, off, e1, e2⟩
    rcases hfr with h | h
    · exact h
    · omega) (by rw [HT2.out]; omega)
  rw [HT2.out] at hcp
  have HQ : Hid (NL w PL (.returned (.slice (some ⟨mb, 0, none⟩) (n + 1) (n + 1))) w7) := by
    refine ⟨HB3.out.trans ((b6.trans (hW7.bel (Nat.le_refl _))).mono (by omega)), mb, by rw [HPl.out], hW7.r.ln (by show w.heap.size ≤ mb; omega) HPl.out (fun j hj => ?_)⟩
    rw [HPut.out]
    exact put_fn HN.out hp j hj
  clear hfr hW7 b6 hk6 hb6
  go_wp2_with fail
  go_ret
  exact HQ.out
end Go.Proofs.Ytpacfppnmenndaa.Tk
