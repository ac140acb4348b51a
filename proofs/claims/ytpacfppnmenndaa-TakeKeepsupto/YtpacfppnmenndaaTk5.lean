/- shorter. -/
import Derived.Test.YtpacfppnmenndaaTk4
namespace Go.Proofs.Ytpacfppnmenndaa.Tk
open Go.RowKit Go.Maps Go.Sort Go.Proofs.Ytpacfppnmenndaa.Rg
open Go.Proofs.Ytpacfppnmenndaa.Y (Tn lt okT wr fst cod bfr OkL TL tab tc rows)
set_option linter.unusedVariables false
set_option linter.unusedSimpArgs false

theorem cut_fn {L : List Tn} {m p : Nat} {z : Tn} (hn : L.length = m + 1) (hp : p ≤ m) (j : Nat) (hj : j < m) : layT (layT (fun _ => z) 0 (L.take p)) p (L.drop (p + 1)) j = fn (L.eraseIdx p) j := by
  have h1 : (L.take p).length = p := by rw [List.length_take]; omega
  have h2 : (L.drop (p + 1)).length = m - p := by rw [List.length_drop, hn]; omega
  rw [List.eraseIdx_eq_take_drop_succ]
  unfold layT
  by_cases c1 : p ≤ j ∧ j < p + (L.drop (p + 1)).length
  · rw [if_pos c1]
    unfold fn
    simp only [List.getD_eq_getElem?_getD]
    rw [List.getElem?_append_right (by omega), h1]
  · rw [if_neg c1, if_pos (by omega)]
    unfold fn
    simp only [List.getD_eq_getElem?_getD]
    rw [List.getElem?_append_left (by omega), Nat.sub_zero]
set_option maxRecDepth 20000 in
set_option maxHeartbeats 8000000 in
theorem shorter_any (S : Nat → Prop) (ao : Option Addr) (m c p : Nat) (L : List Tn) (w : World) (hL : LN w S ao L) (hn : L.length = m + 1) (hc : m + 1 ≤ c) (hcm : c ≤ 9223372036854775807) (hm : m < 1024) (hp : p ≤ m) :
    Calls Try.prog 42 #[.slice ao (m + 1) c, .int .i64 p] w fun e w' => NL w (L.eraseIdx p) e w' := by
  have HPl : Hid ((L.eraseIdx p).length = m) := by show _ = _; rw [List.length_eraseIdx_of_lt (by omega), hn]; rfl
  have HN : Hid (L.length = m + 1) := hn
  have HLw : Hid (LN w (fun b => b < w.heap.size) ao L) := hL.keep (fun _ _ _ => rfl) (Nat.le_refl _) (fun b _ h => h)
  have wn : IntKind.i64.wrap (((m + 1 : Nat) : Int) - 1) = (m : Int) := by rw [wid (by omega) (by omega)]; omega
  have wp1 : IntKind.i64.wrap ((p : Int) + 1) = (p : Int) + 1 := wid (by omega) (by omega)
  have mk2 := make_any m (by omega) w
  obtain ⟨W3, hW3⟩ : ∃ X, X = w.alloc (.cells (madeCells #[.int .i64 0, .int .i64 0, .int .i64 0, .int .i64 0, .int .i64 0] (m * 5)) 38) := ⟨_, rfl⟩
  have HR3 : Hid (Row W3 w.heap.size m (fun _ => ⟨0, 0, 0, 0, 0⟩)) := by rw [hW3]; exact row_made w m
  have HB3 : Hid (Below w.heap.size w W3) := by rw [hW3]; exact (Below.refl _ _).alloc (Nat.le_refl _) _
  have z3 : W3.heap.size = w.heap.size + 1 := by rw [hW3]; simp
  rw [← hW3] at mk2
  clear hW3
  have s1 := run_to5 ao (m + 1) c p (by omega)
  obtain ⟨mb, hmb⟩ : ∃ mb, mb = w.heap.size := ⟨_, rfl⟩
  have Hmb : Hid (mb = w.heap.size) := hmb
  rw [← hmb] at mk2 HR3 z3
  clear hmb hL hn
  have HT1 : Hid ((L.take p).length = p) := by show _ = _; rw [List.length_take, HN.out]; omega
  have HL3 : Hid (LN W3 (fun b => b < w.heap.size) ao L) := HLw.out.keep (fun b hb _ => HB3.out.block b hb) HB3.out.size (fun _ h _ => h)
  obtain ⟨w4, hcp, hW4⟩ := copy_ex (w := W3) (some ⟨mb, 0, none⟩) ao m m p c mb 0 m _ HR3.out (L.take p) (by rw [HT1.out]; show p = min p m; omega) (fun h0 => by
    obtain ⟨b, off, e1, _, _, e2⟩ := (HL3.out.take p).cells h0
    exact ⟨by rw [Nat.zero_mul], b, off, e1, e2⟩) (by rw [HT1.out]; omega)
  rw [HT1.out] at hcp
  have HW4 : Hid (CpW W3 w4 mb m 0 (fun _ => ⟨0, 0, 0, 0, 0⟩) (L.take p)) := hW4
  have s2 := run_from5 (some ⟨mb, 0, none⟩) m m p (by omega)
  have s3 := run_from5 ao (m + 1) c (p + 1) (by omega)
  rw [show (((p + 1 : Nat)) : Int) = (p : Int) + 1 by push_cast; rfl, show m + 1 - (p + 1) = m - p by omega] at s3
  clear hW4
  go_enter Try.func42, Try.ntmps42
  go_wp2_with fail
  refine U2.wp_region_tail_read 7 (by decide) (by kernel_rfl) (by kernel_rfl) (by kernel_rfl) (by kernel_rfl) ?_
  dsimp only [List.take, List.drop]
  repeat (quiet_step (fail))
  refine wpQuiet_nil ?_
  rintro w6 ⟨nq, hw6⟩
  have HR6 : Hid (Row w6 mb m (layT (fun _ => ⟨0, 0, 0, 0, 0⟩) 0 (L.take p))) := by rw [hw6]; exact ⟨HW4.out.r.lt, HW4.out.r.c, HW4.out.r.f⟩
  have hk6 : ∀ j, j ≠ mb → w6.heap[j]? = W3.heap[j]? := fun j hj => by rw [hw6]; exact HW4.out.k j hj
  have z6 : w6.heap.size = W3.heap.size := by rw [hw6]; exact HW4.out.z
  have b6 : Below mb W3 w6 := (HW4.out.bel (Nat.le_refl _)).trans (by rw [hw6]; exact below_drewN (Below.refl _ _) _)
  clear hw6
  have HT2 : Hid ((L.drop (p + 1)).length = m - p) := by show _ = _; rw [List.length_drop, HN.out]; omega
  have hfr : frm5 (some (⟨mb, 0, none⟩ : Addr)) p m = some ⟨mb, p * 5, none⟩ ∨ m = p := by
    by_cases e : m = p
    · exact .inr e
    · refine .inl ?_
      unfold frm5
      rw [if_neg (by omega)]
      show some ((⟨mb, 0, none⟩ : Addr).add (p * 5)) = _
      unfold Addr.add
      by_cases e0 : p * 5 = 0
      · rw [if_pos e0, e0]
      · rw [if_neg e0, Nat.zero_add]
  have HL6 : Hid (LN w6 (fun b => b < w.heap.size) ao L) := HLw.out.keep (fun b hb _ => by have k1 := HB3.out.block b hb; rw [hk6 b (by have := Hmb.out; omega)]; exact k1) (by have := HB3.out.size; omega) (fun _ h _ => h)
  obtain ⟨w7, hcp2, hW7⟩ := copy_ex (w := w6) (frm5 (some ⟨mb, 0, none⟩) p m) (frm5 ao (p + 1) c) (m - p) (m - p) (m - p) (c - (p + 1)) mb p m _ HR6.out (L.drop (p + 1)) (by rw [HT2.out]; show m - p = min (m - p) (m - p); omega) (fun h0 => by
    rw [HT2.out] at h0
    obtain ⟨b, off, e1, _, _, e2⟩ := (HL6.out.drop (p + 1) c (by rw [HN.out]; exact hc)).cells (by rw [HT2.out]; exact h0)
    refine ⟨?_, b, off, e1, e2⟩
    rcases hfr with h | h
    · exact h
    · omega) (by rw [HT2.out]; omega)
  rw [HT2.out] at hcp2
  have HQ : Hid (NL w (L.eraseIdx p) (.returned (.slice (some ⟨mb, 0, none⟩) m m)) w7) := by
    refine ⟨HB3.out.trans ((b6.trans (hW7.bel (Nat.le_refl _))).mono (by rw [Hmb.out]; exact Nat.le_refl _)), mb, by rw [HPl.out], hW7.r.ln (by show w.heap.size ≤ mb; rw [Hmb.out]; exact Nat.le_refl _) HPl.out (fun j hj => ?_)⟩
    exact cut_fn HN.out hp j hj
  clear hfr hW7 b6 hk6 
  go_wp2_with fail
  go_ret
  exact HQ.out
end Go.Proofs.Ytpacfppnmenndaa.Tk
