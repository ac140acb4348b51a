/- read: the edit of the record that lies from a word on. -/
import Derived.Test.YtpacfppnmenndaaTkEq
namespace Go.Proofs.Ytpacfppnmenndaa.Tk
open Go.RowKit Go.Maps Go.Sort Go.Proofs.Ytpacfppnmenndaa.Rg
open Go.Proofs.Ytpacfppnmenndaa.Y (Tn lt okT wr fst cod bfr OkL TL tab tc rows)
set_option linter.unusedVariables false
set_option linter.unusedSimpArgs false

theorem rc_eq (ws : List Int) (a : Nat) (q : Ed) : sl ws a = rc q ↔ (wd ws a = 1 ∧ wd ws (a + 1) = (pe q).k ∧ wd ws (a + 2) = (pe q).n ∧ wd ws (a + 3) = (pe q).t.t ∧ wd ws (a + 4) = (pe q).t.g ∧ wd ws (a + 5) = (pe q).t.l ∧ wd ws (a + 6) = (pe q).t.a ∧ wd ws (a + 7) = (pe q).t.o) := by
  unfold sl rc re
  simp
/-- The record while it is read. -/
def rf (ws : List Int) (a i j : Nat) : Value := .int .i64 (if j < i then wd ws (a + j) else 0)
/-- What read's last statement reads. -/
structure PE (rb tb : Nat) (x0 x1 x2 x3 x4 x5 x6 x7 : Int) (w' : World) : Prop where
  l : rb < w'.heap.size ∧ tb < w'.heap.size
  r0 : w'.cell? ⟨rb, 0, none⟩ = some (.int .i64 x0)
  r1 : w'.cell? ⟨rb, 1, none⟩ = some (.int .i64 x1)
  r2 : w'.cell? ⟨rb, 2, none⟩ = some (.int .i64 x2)
  r3 : w'.cell? ⟨rb, 3, none⟩ = some (.int .i64 x3)
  r4 : w'.cell? ⟨rb, 4, none⟩ = some (.int .i64 x4)
  r5 : w'.cell? ⟨rb, 5, none⟩ = some (.int .i64 x5)
  r6 : w'.cell? ⟨rb, 6, none⟩ = some (.int .i64 x6)
  r7 : w'.cell? ⟨rb, 7, none⟩ = some (.int .i64 x7)
  t1 : w'.cell? ⟨tb, 0, none⟩ = some (.int .i64 x1)
  t2 : w'.cell? ⟨tb, 1, none⟩ = some (.int .i64 x2)
  t3 : w'.cell? ⟨tb, 2, none⟩ = some (.int .i64 x3)
  t4 : w'.cell? ⟨tb, 3, none⟩ = some (.int .i64 x4)
  t5 : w'.cell? ⟨tb, 4, none⟩ = some (.int .i64 x5)
  t6 : w'.cell? ⟨tb, 5, none⟩ = some (.int .i64 x6)
  t7 : w'.cell? ⟨tb, 6, none⟩ = some (.int .i64 x7)
theorem PE.keep {rb tb : Nat} {x0 x1 x2 x3 x4 x5 x6 x7 : Int} {w w' : World} (h : PE rb tb x0 x1 x2 x3 x4 x5 x6 x7 w) (h1 : w'.heap[rb]? = w.heap[rb]?) (h2 : w'.heap[tb]? = w.heap[tb]?) (hz : w.heap.size ≤ w'.heap.size) : PE rb tb x0 x1 x2 x3 x4 x5 x6 x7 w' :=
  ⟨⟨Nat.lt_of_lt_of_le h.l.1 hz, Nat.lt_of_lt_of_le h.l.2 hz⟩, blk h1 h.r0, blk h1 h.r1, blk h1 h.r2, blk h1 h.r3, blk h1 h.r4, blk h1 h.r5, blk h1 h.r6, blk h1 h.r7, blk h2 h.t1, blk h2 h.t2, blk h2 h.t3, blk h2 h.t4, blk h2 h.t5, blk h2 h.t6, blk h2 h.t7⟩
theorem set7 {w : World} {eb : Nat} {f : Nat → Value} (h : w.rowIs eb 40 7 f) (v0 v1 v2 v3 v4 v5 v6 : Value) :
    ∃ W, W = ((((((w.setCell ⟨eb, 0, none⟩ v0).setCell ⟨eb, 1, none⟩ v1).setCell ⟨eb, 2, none⟩ v2).setCell ⟨eb, 3, none⟩ v3).setCell ⟨eb, 4, none⟩ v4).setCell ⟨eb, 5, none⟩ v5).setCell ⟨eb, 6, none⟩ v6 ∧ W.heap.size = w.heap.size ∧ (∀ j, j ≠ eb → W.heap[j]? = w.heap[j]?) ∧ (∀ B, B ≤ eb → Below B w W) ∧ W.cell? ⟨eb, 0, none⟩ = some v0 ∧ W.cell? ⟨eb, 1, none⟩ = some v1 ∧ W.cell? ⟨eb, 2, none⟩ = some v2 ∧ W.cell? ⟨eb, 3, none⟩ = some v3 ∧ W.cell? ⟨eb, 4, none⟩ = some v4 ∧ W.cell? ⟨eb, 5, none⟩ = some v5 ∧ W.cell? ⟨eb, 6, none⟩ = some v6 := by
  have h7 := World.rowIs.set (World.rowIs.set (World.rowIs.set (World.rowIs.set (World.rowIs.set (World.rowIs.set (World.rowIs.set h 0 v0) 1 v1) 2 v2) 3 v3) 4 v4) 5 v5) 6 v6
  refine ⟨_, rfl, by simp [World.setCell], fun j hj => ?_, fun B hB => ?_, ?_, ?_, ?_, ?_, ?_, ?_, ?_⟩
  · exact (Below.heap_setCell _ _ _ _ hj).trans ((Below.heap_setCell _ _ _ _ hj).trans ((Below.heap_setCell _ _ _ _ hj).trans ((Below.heap_setCell _ _ _ _ hj).trans ((Below.heap_setCell _ _ _ _ hj).trans ((Below.heap_setCell _ _ _ _ hj).trans (Below.heap_setCell _ _ _ _ hj))))))
  · exact (((((((Below.refl _ _).setCell (p := ⟨eb, 0, none⟩) hB _).setCell (p := ⟨eb, 1, none⟩) hB _).setCell (p := ⟨eb, 2, none⟩) hB _).setCell (p := ⟨eb, 3, none⟩) hB _).setCell (p := ⟨eb, 4, none⟩) hB _).setCell (p := ⟨eb, 5, none⟩) hB _).setCell (p := ⟨eb, 6, none⟩) hB _
  · exact World.rowIs.cell h7 (i := 0) (by omega)
  · exact World.rowIs.cell h7 (i := 1) (by omega)
  · exact World.rowIs.cell h7 (i := 2) (by omega)
  · exact World.rowIs.cell h7 (i := 3) (by omega)
  · exact World.rowIs.cell h7 (i := 4) (by omega)
  · exact World.rowIs.cell h7 (i := 5) (by omega)
  · exact World.rowIs.cell h7 (i := 6) (by omega)
set_option maxRecDepth 20000 in
set_option maxHeartbeats 8000000 in
theorem read_any (db wb cap a : Nat) (wo : Option Addr) (ws : List Int) (lf : Int) (w : World) (h : DB w db wb wo cap ws lf) (ha : a + 8 ≤ ws.length) (hw : ws.length ≤ 1048576) :
    Calls Try.prog 25 #[.iface 50 (.pointer (some ⟨db, 0, none⟩)), .int .i64 a] w fun e w' => e = .returned (.tuple #[.agg #[.int .i64 (de ws a).k, .int .i64 (de ws a).n, .int .i64 (de ws a).t.t, .int .i64 (de ws a).t.g, .int .i64 (de ws a).t.l, .int .i64 (de ws a).t.a, .int .i64 (de ws a).t.o], .bool (decide (sl ws a = rc (de ws a)))]) ∧ Below w.heap.size w w' := by
  obtain ⟨Rv, hRv⟩ : ∃ Rv, Rv = Value.tuple #[.agg #[.int .i64 (de ws a).k, .int .i64 (de ws a).n, .int .i64 (de ws a).t.t, .int .i64 (de ws a).t.g, .int .i64 (de ws a).t.l, .int .i64 (de ws a).t.a, .int .i64 (de ws a).t.o], .bool (decide (sl ws a = rc (de ws a)))] := ⟨_, rfl⟩
  rw [← hRv]
  have HRv : Hid (Rv = Value.tuple #[.agg #[.int .i64 (de ws a).k, .int .i64 (de ws a).n, .int .i64 (de ws a).t.t, .int .i64 (de ws a).t.g, .int .i64 (de ws a).t.l, .int .i64 (de ws a).t.a, .int .i64 (de ws a).t.o], .bool (decide (sl ws a = rc (de ws a)))]) := hRv
  clear hRv
  obtain ⟨W1, hW1⟩ : ∃ X, X = (w.alloc (.cells #[.int .i64 0, .int .i64 0, .int .i64 0, .int .i64 0, .int .i64 0, .int .i64 0, .int .i64 0] 40)).alloc (.cells #[.int .i64 0, .int .i64 0, .int .i64 0, .int .i64 0, .int .i64 0, .int .i64 0, .int .i64 0, .int .i64 0] 80) := ⟨_, rfl⟩
  have hb1 : Below w.heap.size w W1 := by rw [hW1]; exact ((Below.refl _ _).alloc (Nat.le_refl _) _).alloc (by simp) _
  have z1 : W1.heap.size = w.heap.size + 2 := by rw [hW1]; simp
  have hr0 : W1.rowIs (w.heap.size + 1) 80 8 (rf ws a 0) := by
    have := World.rowIs_alloc (w.alloc (.cells #[.int .i64 0, .int .i64 0, .int .i64 0, .int .i64 0, .int .i64 0, .int .i64 0, .int .i64 0] 40)) #[.int .i64 0, .int .i64 0, .int .i64 0, .int .i64 0, .int .i64 0, .int .i64 0, .int .i64 0, .int .i64 0] 80 (rf ws a 0) (fun i hi => by
      match i, hi with
      | 0, _ | 1, _ | 2, _ | 3, _ | 4, _ | 5, _ | 6, _ | 7, _ => rfl
      | i + 8, hi => exact absurd hi (by show ¬ (i + 8 < 8); omega))
    rw [← hW1, show (w.alloc (.cells #[.int .i64 0, .int .i64 0, .int .i64 0, .int .i64 0, .int .i64 0, .int .i64 0, .int .i64 0] 40)).heap.size = w.heap.size + 1 by simp] at this
    exact this
  have hr1 : W1.rowIs w.heap.size 40 7 (fun _ => .int .i64 0) := by
    have := World.rowIs_alloc w #[.int .i64 0, .int .i64 0, .int .i64 0, .int .i64 0, .int .i64 0, .int .i64 0, .int .i64 0] 40 (fun _ => .int .i64 0) (fun i hi => by
      match i, hi with
      | 0, _ | 1, _ | 2, _ | 3, _ | 4, _ | 5, _ | 6, _ => rfl
      | i + 7, hi => exact absurd hi (by show ¬ (i + 7 < 7); omega))
    rw [hW1]
    exact World.rowIs.alloc this _
  have HD : Hid (DB w db wb wo cap ws lf) := h
  have HR0 : Hid (W1.rowIs (w.heap.size + 1) 80 8 (rf ws a 0)) := hr0
  have HR1 : Hid (W1.rowIs w.heap.size 40 7 (fun _ => .int .i64 0)) := hr1
  have HL : Hid (a + 8 ≤ ws.length ∧ ws.length ≤ 1048576) := ⟨ha, hw⟩
  have ha2 : a ≤ 1048576 := by omega
  obtain ⟨eb, heb⟩ : ∃ x, x = w.heap.size := ⟨_, rfl⟩
  clear h hr0 hr1 ha hw
  go_enter Try.func25, Try.ntmps25
  go_wp2_with fail
  rw [← hW1]
  clear hW1
  go_loopw [9] (fun i ww => ∃ q : Nat, q ≤ 8 ∧ i = .int .i64 q ∧ Hid (ww.rowIs (w.heap.size + 1) 80 8 (rf ws a q)) ∧ Hid (ww.rowIs w.heap.size 40 7 (fun _ => .int .i64 0)) ∧ Hid (Below w.heap.size w ww) ∧ w.heap.size + 2 ≤ ww.heap.size) (fun i _ => 8 - (intOf i).toNat)
  case atStart => exact ⟨0, by omega, rfl, HR0.out, HR1.out, hb1, by omega⟩
  case round =>
    obtain ⟨q, hq, rfl, hR, hE, hB, hZ⟩ := hrel
    by_cases hlt : q < 8
    · have hlt' : (q : Int) < 8 := by omega
      have wq : IntKind.i64.wrap ((q : Int) + 1) = (q : Int) + 1 := wid (by omega) (by omega)
      have wa : IntKind.i64.wrap ((a : Int) + (q : Int)) = ((a + q : Nat) : Int) := by rw [wid (by omega) (by omega)]; push_cast; rfl
      have hG := Get_any db wb cap (a + q) wo ws lf wr (HD.out.keep (hB.out.block db HD.out.ld) (fun hn => hB.out.block wb (HD.out.lw hn).2.1) hB.out.size) (by have := HL.out.1; omega)
      rw [show (((a + q : Nat)) : Int) = (a : Int) + (q : Int) by push_cast; rfl] at wa hG
      have hc := World.rowIs.cell hR.out (i := q) (by omega)
      have hf := World.rowIs.frozen hR.out q
      have lr : w.heap.size + 1 < wr.heap.size := by omega
      have HX : Hid (wd ws (a + q) = wd ws (a + q)) := rfl
      obtain ⟨WF, hWF⟩ : ∃ X, X = wr.setCell ⟨w.heap.size + 1, q, none⟩ (.int .i64 (wd ws (a + q))) := ⟨_, rfl⟩
      have HF : Hid (WF.rowIs (w.heap.size + 1) 80 8 (rf ws a (q + 1)) ∧ WF.rowIs w.heap.size 40 7 (fun _ => .int .i64 0) ∧ Below w.heap.size w WF ∧ w.heap.size + 2 ≤ WF.heap.size) := by
        refine ⟨?_, ?_, ?_, ?_⟩
        · rw [hWF]
          refine World.rowIs.congr (World.rowIs.set hR.out q _) (fun j hj => ?_)
          unfold rf
          by_cases e : j = q
          · subst e; simp
          · simp [e, show (j < q + 1) = (j < q) by simp; omega]
        · rw [hWF]
          exact World.rowIs.of_block hE.out (Below.heap_setCell _ _ _ _ (by simp))
        · rw [hWF]
          exact hB.out.setCell (p := ⟨w.heap.size + 1, q, none⟩) (by show w.heap.size ≤ w.heap.size + 1; omega) _
        · rw [hWF]; simpa [World.setCell] using hZ
      generalize wd ws (a + q) = X at *
      unfold rf at hc
      clear hR hE hB
      go_wp2_with fail
      refine hG.mono ?_
      rintro e w2 ⟨rfl, hw2⟩
      rw [hw2]
      clear hw2 hG
      go_wp2_with fail
      rw [← hWF]
      clear hWF
      exact ⟨⟨q + 1, by omega, by go_num, HF.out.1, HF.out.2.1, HF.out.2.2.1, HF.out.2.2.2⟩, by simp [intOf]; omega⟩
    · obtain rfl : q = 8 := by omega
      have hx : ∀ j, j < 8 → wr.cell? ⟨w.heap.size + 1, j, none⟩ = some (.int .i64 (wd ws (a + j))) := fun j hj => by
        rw [World.rowIs.cell hR.out hj]; unfold rf; rw [if_pos hj]
      have c0 := hx 0 (by omega)
      have c1 := hx 1 (by omega)
      have c2 := hx 2 (by omega)
      have c3 := hx 3 (by omega)
      have c4 := hx 4 (by omega)
      have c5 := hx 5 (by omega)
      have c6 := hx 6 (by omega)
      have c7 := hx 7 (by omega)
      rw [Nat.add_zero] at c0
      have HDe : Hid (de ws a = ⟨wd ws (a + 1), wd ws (a + 2), ⟨wd ws (a + 3), wd ws (a + 4), wd ws (a + 5), wd ws (a + 6), wd ws (a + 7)⟩⟩) := rfl
      have HRc := rc_eq ws a (de ws a)
      obtain ⟨B, hB1⟩ : ∃ B, B = decide (sl ws a = rc (de ws a)) := ⟨_, rfl⟩
      have HRv2 := HRv.out
      rw [← hB1, HDe.out] at HRv2
      simp only at HRv2
      have hRec := recordOf_any (de ws a)
      have HRb : Hid (B = true ↔ (wd ws a = 1 ∧ wd ws (a + 1) = (pe (de ws a)).k ∧ wd ws (a + 2) = (pe (de ws a)).n ∧ wd ws (a + 3) = (pe (de ws a)).t.t ∧ wd ws (a + 4) = (pe (de ws a)).t.g ∧ wd ws (a + 5) = (pe (de ws a)).t.l ∧ wd ws (a + 6) = (pe (de ws a)).t.a ∧ wd ws (a + 7) = (pe (de ws a)).t.o)) := by
        show B = true ↔ _
        rw [hB1, decide_eq_true_iff]; exact HRc
      clear hB1 HRc hx
      rw [HDe.out] at hRec
      simp only at hRec
      rw [HDe.out] at HRb
      generalize pe ⟨wd ws (a + 1), wd ws (a + 2), ⟨wd ws (a + 3), wd ws (a + 4), wd ws (a + 5), wd ws (a + 6), wd ws (a + 7)⟩⟩ = P at *
      obtain ⟨p1, p2, ⟨p3, p4, p5, p6, p7⟩⟩ := P
      simp only at hRec HRb
      have HRv3 : Hid _ := HRv2
      clear HDe HRv HRv2
      generalize wd ws a = x0 at *
      generalize wd ws (a + 1) = x1 at *
      generalize wd ws (a + 2) = x2 at *
      generalize wd ws (a + 3) = x3 at *
      generalize wd ws (a + 4) = x4 at *
      generalize wd ws (a + 5) = x5 at *
      generalize wd ws (a + 6) = x6 at *
      generalize wd ws (a + 7) = x7 at *
      have lr : w.heap.size + 1 < wr.heap.size := by omega
      have hEd := edit_any x0 x1 x2 x3 x4 x5 x6 x7 wr
      go_wp2_with fail
      refine hEd.mono ?_
      rintro e w3 ⟨rfl, hb3⟩
      have C0 := keepC hb3 lr c0
      have C1 := keepC hb3 lr c1
      have C2 := keepC hb3 lr c2
      have C3 := keepC hb3 lr c3
      have C4 := keepC hb3 lr c4
      have C5 := keepC hb3 lr c5
      have C6 := keepC hb3 lr c6
      have C7 := keepC hb3 lr c7
      have l3 : w.heap.size + 1 < w3.heap.size := Nat.lt_of_lt_of_le lr hb3.size
      have HB3 : Hid (Below w.heap.size w w3) := hB.out.trans (hb3.mono hB.out.size)
      have HE3 : Hid (w3.rowIs w.heap.size 40 7 (fun _ => .int .i64 0)) := World.rowIs.of_block hE.out (hb3.block _ (by omega))
      obtain ⟨W4, hW4⟩ : ∃ X, X = w3.alloc (.cells #[.int .i64 x1, .int .i64 x2, .int .i64 x3, .int .i64 x4, .int .i64 x5, .int .i64 x6, .int .i64 x7] 40) := ⟨_, rfl⟩
      have hb4 : Below w3.heap.size w3 W4 := by rw [hW4]; exact (Below.refl _ _).alloc (Nat.le_refl _) _
      have z4 : W4.heap.size = w3.heap.size + 1 := by rw [hW4]; simp
      have hPE : PE (w.heap.size + 1) w3.heap.size x0 x1 x2 x3 x4 x5 x6 x7 W4 := ⟨⟨by omega, by omega⟩, keepC hb4 l3 C0, keepC hb4 l3 C1, keepC hb4 l3 C2, keepC hb4 l3 C3, keepC hb4 l3 C4, keepC hb4 l3 C5, keepC hb4 l3 C6, keepC hb4 l3 C7, by rw [hW4]; simp [go_sem], by rw [hW4]; simp [go_sem], by rw [hW4]; simp [go_sem], by rw [hW4]; simp [go_sem], by rw [hW4]; simp [go_sem], by rw [hW4]; simp [go_sem], by rw [hW4]; simp [go_sem]⟩
      have HB4 : Hid (Below w.heap.size w W4) := HB3.out.trans (hb4.mono HB3.out.size)
      have HE4 : Hid (W4.rowIs w.heap.size 40 7 (fun _ => .int .i64 0)) := World.rowIs.of_block HE3.out (hb4.block _ (by omega))
      clear c0 c1 c2 c3 c4 c5 c6 c7 hR hE hB hEd hb3 C0 C1 C2 C3 C4 C5 C6 C7 hb4
      go_wp2_with fail
      rw [← hW4]
      clear hW4
      refine RF.wp_region_floatC (PE (w.heap.size + 1) w3.heap.size x0 x1 x2 x3 x4 x5 x6 x7) (fun q => q != 3 && q != 5) (by kernel_rfl) (by kernel_rfl) (by kernel_rfl) (hPE.keep rfl rfl (Nat.le_refl _)) ?_
      refine RF.wpFl_readC rfl rfl (.agg #[.int .i64 x1, .int .i64 x2, .int .i64 x3, .int .i64 x4, .int .i64 x5, .int .i64 x6, .int .i64 x7]) (fun w' hw' => by obtain ⟨⟨k0, k0'⟩, k1, k2, k3, k4, k5, k6, k7, k8, k9, k10, k11, k12, k13, k14, k15⟩ := hw'; unfold RM.valAt; go_simp) ?_
      refine RF.wpFl_readC rfl rfl (.agg #[.int .i64 x0, .int .i64 x1, .int .i64 x2, .int .i64 x3, .int .i64 x4, .int .i64 x5, .int .i64 x6, .int .i64 x7]) (fun w' hw' => by obtain ⟨⟨k0, k0'⟩, k1, k2, k3, k4, k5, k6, k7, k8, k9, k10, k11, k12, k13, k14, k15⟩ := hw'; unfold RM.valAt; go_simp) ?_
      refine RF.wpFl_readC rfl rfl (.agg #[.int .i64 x1, .int .i64 x2, .int .i64 x3, .int .i64 x4, .int .i64 x5, .int .i64 x6, .int .i64 x7]) (fun w' hw' => by obtain ⟨⟨k0, k0'⟩, k1, k2, k3, k4, k5, k6, k7, k8, k9, k10, k11, k12, k13, k14, k15⟩ := hw'; unfold RM.valAt; go_simp) ?_
      refine RF.wpFl_doC rfl rfl (fun K hK => ?_)
      go_wp2_with fail
      refine (hRec _).mono ?_
      rintro e w5 ⟨rfl, hb5⟩
      have hb45 : Below W4.heap.size W4 w5 := ⟨hb5.os, hb5.tape, hb5.output, hb5.size, hb5.block⟩
      have hPE5 : PE (w.heap.size + 1) w3.heap.size x0 x1 x2 x3 x4 x5 x6 x7 w5 := hPE.keep (hb45.block _ hPE.l.1) (hb45.block _ hPE.l.2) hb45.size
      have HE5 : Hid (w5.rowIs w.heap.size 40 7 (fun _ => .int .i64 0)) := World.rowIs.of_block HE4.out (hb45.block _ (by omega))
      have HB5 : Hid (Below w.heap.size w w5) := HB4.out.trans (hb45.mono HB4.out.size)
      have HPE5 : Hid (PE (w.heap.size + 1) w3.heap.size x0 x1 x2 x3 x4 x5 x6 x7 w5) := hPE5
      go_wp2_with fail
      refine hK _ _ hPE5 ?_
      clear hK K hb5 hPE hRec hPE5
      refine RF.wpFl_readC rfl rfl (.bool B) (fun w' hw' => by have heq := eq8 x0 x1 x2 x3 x4 x5 x6 x7 1 p1 p2 p3 p4 p5 p6 p7 B HRb.out w'; clear hw'; unfold RM.valAt; go_simp) ?_
      refine RF.wpFl_doC rfl rfl (fun K hK => ?_)
      obtain ⟨WF, hWF, zF, kF, bF, d0, d1, d2, d3, d4, d5, d6⟩ := set7 HE5.out (.int .i64 x1) (.int .i64 x2) (.int .i64 x3) (.int .i64 x4) (.int .i64 x5) (.int .i64 x6) (.int .i64 x7)
      have hPF : PE (w.heap.size + 1) w3.heap.size x0 x1 x2 x3 x4 x5 x6 x7 WF := HPE5.out.keep (kF _ (by omega)) (kF _ (by omega)) (by rw [zF]; exact Nat.le_refl _)
      have HBF : Hid (Below w.heap.size w WF) := HB5.out.trans (bF _ (Nat.le_refl _))
      have y0 := World.rowIs.cell HE5.out (i := 0) (by omega)
      have y1 := World.rowIs.cell HE5.out (i := 1) (by omega)
      have y2 := World.rowIs.cell HE5.out (i := 2) (by omega)
      have y3 := World.rowIs.cell HE5.out (i := 3) (by omega)
      have y4 := World.rowIs.cell HE5.out (i := 4) (by omega)
      have y5 := World.rowIs.cell HE5.out (i := 5) (by omega)
      have y6 := World.rowIs.cell HE5.out (i := 6) (by omega)
      have yf : ∀ i, w5.frozen? ⟨w.heap.size, i, none⟩ = false := fun i => World.rowIs.frozen HE5.out i
      have ly : w.heap.size < w5.heap.size := by have := HB5.out.size; have := HPE5.out.l.1; omega
      have HPF : Hid (PE (w.heap.size + 1) w3.heap.size x0 x1 x2 x3 x4 x5 x6 x7 WF) := hPF
      clear kF bF zF hPF
      go_wp2_with fail
      rw [← hWF]
      clear hWF
      refine hK _ _ HPF.out ?_
      clear hK K y0 y1 y2 y3 y4 y5 y6 yf ly
      refine RF.wpFl_readC rfl rfl (.bool B) (fun w' hw' => by clear hw'; unfold RM.valAt; go_simp) ?_
      refine RF.wpFl_nil ?_
      go_wp2_with fail
      refine bodyPost_ret (v := .tuple #[.agg #[.int .i64 x1, .int .i64 x2, .int .i64 x3, .int .i64 x4, .int .i64 x5, .int .i64 x6, .int .i64 x7], .bool B]) (by simp [results, Try.results25, go_sem, d0, d1, d2, d3, d4, d5, d6]) rfl ⟨by rw [HRv3.out], HBF.out⟩
end Go.Proofs.Ytpacfppnmenndaa.Tk
