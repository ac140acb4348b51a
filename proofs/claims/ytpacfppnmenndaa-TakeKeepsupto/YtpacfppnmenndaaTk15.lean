/- write: a record is put. -/
import Derived.Test.YtpacfppnmenndaaTk14
namespace Go.Proofs.Ytpacfppnmenndaa.Tk
open Go.RowKit Go.Maps Go.Sort Go.Proofs.Ytpacfppnmenndaa.Rg
open Go.Proofs.Ytpacfppnmenndaa.Y (Tn lt okT wr fst cod bfr OkL TL tab tc rows)
set_option linter.unusedVariables false
set_option linter.unusedSimpArgs false

/-- What is left to be put from word i on. -/
def rs (a : Nat) (R : Nat → Int) (i : Nat) : List (Nat × Int) := ((List.range (8 - i)).map fun j => (a + (i + j), R (i + j))) ++ [(a, R 0)]
theorem rs_step (a : Nat) (R : Nat → Int) {i : Nat} (h : i < 8) : rs a R i = (a + i, R i) :: rs a R (i + 1) := by
  unfold rs
  have e : ((List.range (8 - (i + 1))).map ((fun j => (a + (i + j), R (i + j))) ∘ Nat.succ)) = (List.range (8 - (i + 1))).map (fun j => (a + (i + 1 + j), R (i + 1 + j))) := List.map_congr_left (fun j _ => by
    show (a + (i + (j + 1)), R (i + (j + 1))) = _
    rw [show i + (j + 1) = i + 1 + j by omega])
  rw [show 8 - i = (8 - (i + 1)) + 1 by omega, List.range_succ_eq_map, List.map_cons, List.map_map, List.cons_append, e]
  rfl
theorem rs_end (a : Nat) (R : Nat → Int) : rs a R 8 = [(a, R 0)] := rfl
theorem pl_rs (a : Nat) (r : List Int) : pl a r = (a, 0) :: rs a (fun i => r.getD i 0) 1 := by
  have e : ((List.range 7).map fun j => (a + (j + 1), r.getD (j + 1) 0)) = (List.range (8 - 1)).map (fun j => (a + (1 + j), r.getD (1 + j) 0)) := List.map_congr_left (fun j _ => by rw [Nat.add_comm j 1])
  unfold pl rs
  rw [e]; rfl
theorem pts_cons (x : Nat × Int) (p : List (Nat × Int)) (ws : List Int) (lf : Int) : pts (x :: p) ws lf = if lf = 0 then ((ws, lf), false) else pts p (ws.set x.1 x.2) (if 0 < lf then lf - 1 else lf) := rfl
/-- What a record's writing leaves. -/
structure WrQ (w : World) (db wb : Nat) (wo : Option Addr) (cap : Nat) (r : (List Int × Int) × Bool) (e : Ending) (w' : World) : Prop where
  e : e = .returned (.bool r.2)
  d : DB w' db wb wo cap r.1.1 r.1.2
  k : KD db wb w w'
theorem nil_put (db : Nat) (w : World) : (nilAhead 221 50 (.pointer (some ⟨db, 0, none⟩)) "Put").run Try.prog w = .ok (some false) w := by kernel_rfl
/-- What write's loop reads. -/
structure PW (rb q : Nat) (X : Int) (w' : World) : Prop where
  l : rb < w'.heap.size
  c : w'.cell? ⟨rb, q, none⟩ = some (.int .i64 X)
set_option maxRecDepth 20000 in
set_option maxHeartbeats 8000000 in
theorem write_any (db wb cap a : Nat) (wo : Option Addr) (ws : List Int) (lf : Int) (R : Nat → Int) (w : World) (h : DB w db wb wo cap ws lf) (ha : a + 8 ≤ ws.length) (hw : ws.length ≤ 1048576) (hlf : -9223372036854775808 ≤ lf ∧ lf ≤ 9223372036854775807) :
    Calls Try.prog 30 #[.agg #[.int .i64 (R 0), .int .i64 (R 1), .int .i64 (R 2), .int .i64 (R 3), .int .i64 (R 4), .int .i64 (R 5), .int .i64 (R 6), .int .i64 (R 7)], .iface 50 (.pointer (some ⟨db, 0, none⟩)), .int .i64 a] w fun e w' => WrQ w db wb wo cap (pts ((a, 0) :: rs a R 1) ws lf) e w' := by
  obtain ⟨W1, hW1⟩ : ∃ X, X = w.alloc (.cells #[.int .i64 (R 0), .int .i64 (R 1), .int .i64 (R 2), .int .i64 (R 3), .int .i64 (R 4), .int .i64 (R 5), .int .i64 (R 6), .int .i64 (R 7)] 80) := ⟨_, rfl⟩
  have hb1 : Below w.heap.size w W1 := by rw [hW1]; exact (Below.refl _ _).alloc (Nat.le_refl _) _
  have z1 : W1.heap.size = w.heap.size + 1 := by rw [hW1]; simp
  have hr0 : W1.rowIs w.heap.size 80 8 (fun j => .int .i64 (R j)) := by
    rw [hW1]
    exact World.rowIs_alloc w #[.int .i64 (R 0), .int .i64 (R 1), .int .i64 (R 2), .int .i64 (R 3), .int .i64 (R 4), .int .i64 (R 5), .int .i64 (R 6), .int .i64 (R 7)] 80 (fun j => .int .i64 (R j)) (fun i hi => by
      match i, hi with
      | 0, _ | 1, _ | 2, _ | 3, _ | 4, _ | 5, _ | 6, _ | 7, _ => rfl
      | i + 8, hi => exact absurd hi (by show ¬ (i + 8 < 8); omega))
  have HX : Hid (db < w.heap.size ∧ wb < w.heap.size) := ⟨h.ld, (h.lw (by omega)).2.1⟩
  have hD1 : DB W1 db wb wo cap ws lf := h.bel hb1
  have hP := Put_any db wb cap a wo ws lf 0 W1 hD1 (by omega) hlf
  obtain ⟨Q, hQ⟩ : ∃ Q, Q = WrQ w db wb wo cap (pts ((a, 0) :: rs a R 1) ws lf) := ⟨_, rfl⟩
  rw [← hQ]
  have HQ : Hid (Q = WrQ w db wb wo cap (pts ((a, 0) :: rs a R 1) ws lf)) := hQ
  have HL : Hid (a + 8 ≤ ws.length ∧ ws.length ≤ 1048576) := ⟨ha, hw⟩
  have ha2 : a ≤ 1048576 := by omega
  have HK1 : Hid (KD db wb w W1) := KD.of hb1
  have HR1 : Hid (W1.rowIs w.heap.size 80 8 (fun j => .int .i64 (R j))) := hr0
  clear hQ h ha hw hr0 hb1 hD1
  go_enter Try.func30, Try.ntmps30
  go_wp2_with fail
  rw [← hW1]
  clear hW1
  refine hP.mono ?_
  rintro e w2 ⟨rfl, hd2, hk2, hz2⟩
  have HR2 : Hid (w2.rowIs w.heap.size 80 8 (fun j => .int .i64 (R j))) := World.rowIs.of_block HR1.out (hk2.k _ (by omega) (by have := HX.out.1; omega) (by have := HX.out.2; omega))
  have HK2 : Hid (KD db wb w w2) := HK1.out.trans hk2
  by_cases hz : lf = 0
  · have hq : Q (.returned (.bool false)) w2 := by
      rw [HQ.out]
      rw [if_pos hz] at hd2
      refine ⟨by rw [pts_cons, if_pos hz], ?_, HK2.out⟩
      rw [pts_cons, if_pos hz]
      rw [if_neg (by omega)] at hd2
      exact hd2
    have hd : decide (lf ≠ 0) = false := by simp [hz]
    rw [hd]
    clear hd2 hk2 hP
    go_wp2_with fail
    exact hq
  · have hd : decide (lf ≠ 0) = true := by simp [hz]
    rw [hd]
    rw [if_neg hz] at hd2
    have HD2 : Hid (DB w2 db wb wo cap (ws.set a 0) (if 0 < lf then lf - 1 else lf)) := hd2
    have HP2 : Hid (pts (rs a R 1) (ws.set a 0) (if 0 < lf then lf - 1 else lf) = pts ((a, 0) :: rs a R 1) ws lf) := by
      show _ = _
      rw [pts_cons, if_neg hz]
    have HF2 : Hid (-9223372036854775808 ≤ (if 0 < lf then lf - 1 else lf) ∧ (if 0 < lf then lf - 1 else lf) ≤ 9223372036854775807) := by
      unfold Hid
      split <;> omega
    have zz2 : w.heap.size + 1 ≤ w2.heap.size := by omega
    clear hd2 hk2 hP
    go_wp2_with fail
    go_loopw [7] (fun i ww => ∃ q : Nat, 1 ≤ q ∧ q ≤ 8 ∧ i = .int .i64 q ∧ Hid (∃ ws' lf', DB ww db wb wo cap ws' lf' ∧ ws'.length = ws.length ∧ pts (rs a R q) ws' lf' = pts ((a, 0) :: rs a R 1) ws lf ∧ -9223372036854775808 ≤ lf' ∧ lf' ≤ 9223372036854775807) ∧ Hid (KD db wb w ww) ∧ Hid (ww.rowIs w.heap.size 80 8 (fun j => .int .i64 (R j))) ∧ w.heap.size + 1 ≤ ww.heap.size) (fun i _ => 8 - (intOf i).toNat)
    case atStart => exact ⟨1, by omega, by omega, rfl, ⟨_, _, HD2.out, List.length_set, HP2.out, HF2.out.1, HF2.out.2⟩, HK2.out, HR2.out, zz2⟩
    case round =>
      obtain ⟨q, hq1, hq, rfl, hS, hKK, hR, hZ⟩ := hrel
      obtain ⟨ws', lf', hD, hl, hpt, f1, f2⟩ := hS.out
      by_cases hlt : q < 8
      · have hlt' : (q : Int) < 8 := by omega
        have wq : IntKind.i64.wrap ((q : Int) + 1) = (q : Int) + 1 := wid (by omega) (by omega)
        have wa : IntKind.i64.wrap ((a : Int) + (q : Int)) = (a : Int) + (q : Int) := wid (by omega) (by omega)
        have hc := World.rowIs.cell hR.out (i := q) (by omega)
        have lr : w.heap.size < wr.heap.size := by omega
        have HPt : Hid (pts (rs a R q) ws' lf' = pts ((a, 0) :: rs a R 1) ws lf) := hpt
        have HDl : Hid (DB wr db wb wo cap ws' lf' ∧ ws'.length = ws.length) := ⟨hD, hl⟩
        have HPut : Hid (∀ W, DB W db wb wo cap ws' lf' → Calls Try.prog 69 #[.pointer (some ⟨db, 0, none⟩), .int .i64 ((a : Int) + (q : Int)), .int .i64 (R q)] W fun e w' => PuQ W db wb wo cap ws' lf' (a + q) (R q) e w') := fun W hW => by
          have := Put_any db wb cap (a + q) wo ws' lf' (R q) W hW (by rw [hl]; have := HL.out.1; omega) ⟨f1, f2⟩
          rw [show (((a + q : Nat)) : Int) = (a : Int) + (q : Int) by push_cast; rfl] at this
          exact this
        have HRs : Hid (rs a R q = (a + q, R q) :: rs a R (q + 1)) := rs_step a R hlt
        clear hS hD hl hpt
        obtain ⟨X, hX⟩ : ∃ X, X = R q := ⟨_, rfl⟩
        have HX2 : Hid (X = R q) := hX
        rw [← hX] at hc HPut HRs
        clear hX
        go_wp2_with fail
        refine RF.wp_region_floatC (PW w.heap.size q X) (fun k => k != 7 && k != 10) (by kernel_rfl) (by kernel_rfl) (by kernel_rfl) ⟨lr, hc⟩ ?_
        refine RF.wpFl_readC rfl rfl (.iface 50 (.pointer (some ⟨db, 0, none⟩))) (fun w' hw' => by clear hw'; unfold RM.valAt; go_simp) ?_
        refine RF.wpFl_readC rfl rfl (.int .i64 a) (fun w' hw' => by clear hw'; unfold RM.valAt; go_simp) ?_
        refine RF.wpFl_readC rfl rfl (.int .i64 q) (fun w' hw' => by clear hw'; unfold RM.valAt; go_simp) ?_
        refine RF.wpFl_readC rfl rfl (.int .i64 ((a : Int) + (q : Int))) (fun w' hw' => by clear hw'; unfold RM.valAt; go_simp) ?_
        refine RF.wpFl_readC rfl rfl (.int .i64 q) (fun w' hw' => by clear hw'; unfold RM.valAt; go_simp) ?_
        refine RF.wpFl_readC rfl rfl (.pointer (some ⟨w.heap.size, q, none⟩)) (fun w' hw' => by obtain ⟨k0, k1⟩ := hw'; unfold RM.valAt; go_simp) ?_
        refine RF.wpFl_readC rfl rfl (.int .i64 X) (fun w' hw' => by obtain ⟨k0, k1⟩ := hw'; unfold RM.valAt; go_simp) ?_
        refine RF.wpFl_doC rfl rfl (fun K hK => ?_)
        go_wp2_with fail
        refine hK _ _ (show PW w.heap.size q X wr.drew from ⟨lr, hc⟩) ?_
        clear hK K
        refine RF.wpFl_readC rfl rfl (.func (Fn.method "Put") #[.iface 50 (.pointer (some ⟨db, 0, none⟩))] #[]) (fun w' hw' => by have hnp := nil_put db w'; clear hw'; unfold RM.valAt; go_simp) ?_
        refine RF.wpFl_readC rfl rfl (.iface 50 (.pointer (some ⟨db, 0, none⟩))) (fun w' hw' => by clear hw'; unfold RM.valAt; go_simp) ?_
        refine RF.wpFl_doC rfl rfl (fun K hK => ?_)
        go_wp2_with fail
        refine (HPut.out wr.drew (HDl.out.1.keep rfl (fun _ => rfl) (Nat.le_refl _))).mono ?_
        rintro e w3 ⟨rfl, hd3, hk3, hz3⟩
        have hrb : w3.heap[w.heap.size]? = wr.heap[w.heap.size]? := hk3.k _ lr (by have := HX.out.1; omega) (by have := HX.out.2; omega)
        have hz3' : w3.heap.size = wr.heap.size := hz3
        have HR3 : Hid (w3.rowIs w.heap.size 80 8 (fun j => .int .i64 (R j))) := World.rowIs.of_block hR.out hrb
        have HK3 : Hid (KD db wb w w3) := hKK.out.trans ⟨hk3.os, hk3.tp, hk3.op, hk3.z, hk3.k⟩
        have C3 : PW w.heap.size q X w3 := ⟨by omega, blk hrb hc⟩
        obtain ⟨B, hB⟩ : ∃ B, B = decide (lf' ≠ 0) := ⟨_, rfl⟩
        rw [← hB]
        have HB : Hid (B = decide (lf' ≠ 0)) := hB
        have HD3 : Hid (DB w3 db wb wo cap (if lf' = 0 then ws' else ws'.set (a + q) X) (if 0 < lf' then lf' - 1 else lf')) := hd3
        clear hd3 hk3 hz3 hB hrb
        go_wp2_with fail
        refine hK _ _ C3 ?_
        clear hK K C3
        refine RF.wpFl_readC rfl rfl (.bool (!B)) (fun w' hw' => by clear hw'; unfold RM.valAt; go_simp) ?_
        refine RF.wpFl_nil ?_
        cases B
        · have hl0 : lf' = 0 := by
            by_cases c : lf' = 0
            · exact c
            · have := HB.out; rw [decide_eq_true c] at this; cases this
          have hq : Q (.returned (.bool false)) w3 := by
            have h1 := HPt.out
            rw [HRs.out, pts_cons, if_pos hl0] at h1
            have h2 := HD3.out
            rw [if_pos hl0, if_neg (by omega)] at h2
            rw [HQ.out, ← h1]
            exact ⟨rfl, h2, HK3.out⟩
          go_wp2_with fail
          exact hq
        · have hl0 : ¬ lf' = 0 := by
            intro c
            have := HB.out; rw [decide_eq_false (by simp [c])] at this; cases this
          have HN : Hid (∃ ws'' lf'', DB w3 db wb wo cap ws'' lf'' ∧ ws''.length = ws.length ∧ pts (rs a R (q + 1)) ws'' lf'' = pts ((a, 0) :: rs a R 1) ws lf ∧ -9223372036854775808 ≤ lf'' ∧ lf'' ≤ 9223372036854775807) := by
            have h1 := HPt.out
            rw [HRs.out, pts_cons, if_neg hl0] at h1
            have h2 := HD3.out
            rw [if_neg hl0] at h2
            refine ⟨_, _, h2, by rw [List.length_set]; exact HDl.out.2, h1, ?_, ?_⟩ <;> split <;> omega
          go_wp2_with fail
          exact ⟨⟨q + 1, by omega, by omega, by go_num, HN.out, HK3.out, HR3.out, by omega⟩, by simp [intOf]; omega⟩
      · obtain rfl : q = 8 := by omega
        have hP3 := Put_any db wb cap a wo ws' lf' (R 0) wr hD (by rw [hl]; have := HL.out.1; omega) ⟨f1, f2⟩
        have hc := World.rowIs.cell hR.out (i := 0) (by omega)
        have lr : w.heap.size < wr.heap.size := by omega
        have HPt : Hid (pts [(a, R 0)] ws' lf' = pts ((a, 0) :: rs a R 1) ws lf) := hpt
        clear hS hD hl hpt
        go_wp2_with fail
        refine hP3.mono ?_
        rintro e w3 ⟨rfl, hd3, hk3, hz3⟩
        have hq : Q (.returned (.bool (decide (lf' ≠ 0)))) w3 := by
          have h1 := HPt.out
          rw [HQ.out, ← h1, pts_cons]
          by_cases c : lf' = 0
          · rw [if_pos c] at hd3
            rw [if_neg (by omega)] at hd3
            rw [if_pos c]
            exact ⟨by simp [c], hd3, hKK.out.trans hk3⟩
          · rw [if_neg c] at hd3
            rw [if_neg c]
            exact ⟨by simp [c, pts], hd3, hKK.out.trans hk3⟩
        clear hd3 hk3 hz3 hP3
        generalize decide (lf' ≠ 0) = B at *
        go_wp2_with fail
        exact hq
end Go.Proofs.Ytpacfppnmenndaa.Tk
