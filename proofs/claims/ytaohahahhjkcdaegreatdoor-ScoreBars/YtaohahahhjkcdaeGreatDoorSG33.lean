/- What the program's chord comes to. -/
import Derived.Test.YtaohahahhjkcdaeGreatDoorSG32
import Derived.Deep.DeepCutAuto
import Derived.Deep.RegionLaw
namespace Go.Proofs.YtaohahahhjkcdaeGreatDoor.G
open Go.RowKit
set_option linter.unusedVariables false
set_option linter.unusedSimpArgs false

theorem CdI.step {w wr w' : World} {q B : Nat} {ns : List M.Nt} {vo au ad : Int} {tm : List F.M.Sp} {mv : List (Int × Int)} {hd : Nat} {vN vM vT : Value} {R : Nat → (Int × Int × Int) × Int} {f : Int × Int × Int → M.Nt} {V : Value} {su sd lu ld : Int} {j : Nat} {vN' : Value}
    (h : CdI w q B ns vo au ad tm mv hd vN vM vT R f V su sd lu ld j vN' wr) (hz : B ≤ wr.heap.size) (hb : Below wr.heap.size wr w') : CdI w q B ns vo au ad tm mv hd vN vM vT R f V su sd lu ld j vN' w' := by
  have lz := h.lz
  have := hb.size
  exact ⟨h.e, h.s.step hb, h.k.trans (Kp.below hb), h.b.trans (hb.mono hz), by omega, F.keepC hb (by omega) h.i2, F.keepC hb (by omega) h.s0, F.keepC hb (by omega) h.s1, F.keepC hb (by omega) h.l0, F.keepC hb (by omega) h.l1, h.ow⟩

set_option maxRecDepth 20000 in
set_option maxHeartbeats 4000000 in
theorem chord_any (k s b1 b2 : Int) (pa ka : Option Addr) (np pc n kc : Nat) (pl pl2 pl3 : Nat → Int) (ly : ByteArray) (st lg : Int × Int) (w : World) (q B : Nat) (ns : List M.Nt) (vo au ad : Int) (tm : List F.M.Sp) (mv : List (Int × Int)) (hd : Nat) (vN vM vT : Value)
    (hB : B ≤ q) (hS : Sg w q ns vo au ad tm mv hd vN vM vT) (hp : PS w B pa np pl pl2 pl3) (hg : GT w B) (hpc : np ≤ pc) (hpm : pc ≤ 9223372036854775807) (hly : ly.size ≤ 140737488355328) (hlen : ns.length + np < 1099511627776) :
    Calls Tryz.prog 64 #[.pointer (some ⟨q, 0, none⟩), .agg #[.int .i64 k, .int .i64 s, .slice pa np pc, .int .i64 b1, .int .i64 b2, .string ly, .slice ka n kc], .agg #[.int .i64 st.1, .int .i64 st.2], .agg #[.int .i64 lg.1, .int .i64 lg.2]] w
      fun e w' => e = .returned (.int .i64 (M.cdl (fun j => M.mvp mv (pl j, pl2 j, pl3 j)) (fun p => ⟨vo, st, lg, p.1, p.2.1, p.2.2, ly⟩) np).2) ∧ ((M.cdl (fun j => M.mvp mv (pl j, pl2 j, pl3 j)) (fun p => ⟨vo, st, lg, p.1, p.2.1, p.2.2, ly⟩) np).2 = 0 → ∃ vN', Sg w' q (ns ++ (M.cdl (fun j => M.mvp mv (pl j, pl2 j, pl3 j)) (fun p => ⟨vo, st, lg, p.1, p.2.1, p.2.2, ly⟩) np).1) vo au ad tm mv np vN' vM vT ∧ Kp w q vN vM w' vN' vM) ∧ Below B w w' ∧ Mq w' q mv.length := by
  obtain ⟨R, hR⟩ : ∃ R, R = fun j => M.mvp mv (pl j, pl2 j, pl3 j) := ⟨_, rfl⟩
  obtain ⟨f, hf⟩ : ∃ f : Int × Int × Int → M.Nt, f = fun p => ⟨vo, st, lg, p.1, p.2.1, p.2.2, ly⟩ := ⟨_, rfl⟩
  rw [← hR, ← hf]
  have lt := hS.lt
  have nlt := F.own_lt hS.n
  have I0 : CdI w q B ns vo au ad tm mv hd vN vM vT R f (.slice pa np pc) st.1 st.2 lg.1 lg.2 0 vN (((w.alloc (Obj.cells #[.int .i64 k, .int .i64 s, .slice pa np pc, .int .i64 b1, .int .i64 b2, .string ly, .slice ka n kc] 61)).alloc (Obj.cells #[.int .i64 st.1, .int .i64 st.2] 36)).alloc (Obj.cells #[.int .i64 lg.1, .int .i64 lg.2] 36)) :=
    ⟨rfl, by show Sg _ _ (ns ++ []) _ _ _ _ _ _ _ _ _; rw [List.append_nil]; exact hS.step (by go_grown), Kp.below (by go_grown), Below.mono (B := w.heap.size) (by go_grown) (by omega), by simp, by simp [go_sem], by simp [go_sem], by simp [go_sem], by simp [go_sem], by simp [go_sem], fun k e => .inl (nlt k e)⟩
  have HC := fun W => Clone_any ly W (by omega)
  obtain ⟨i0, hi, hz0, hz1, hz2⟩ := info_parts infoNt
  obtain ⟨ma, mc, hvM⟩ := F.own_form hS.m
  subst hvM
  have hmc : mv.length ≤ mc ∧ mc ≤ 9223372036854775807 := by
    rcases hS.m.2 with ⟨e, h0⟩ | ⟨g, cap, cur, e, h1, h2, h3, h4, h5⟩
    · simp only [Value.slice.injEq] at e; omega
    · cases e; unfold maxLen at h4; omega
  have HCI : Hid (∀ W, Below (w.heap.size + 3) (((w.alloc (Obj.cells #[.int .i64 k, .int .i64 s, .slice pa np pc, .int .i64 b1, .int .i64 b2, .string ly, .slice ka n kc] 61)).alloc (Obj.cells #[.int .i64 st.1, .int .i64 st.2] 36)).alloc (Obj.cells #[.int .i64 lg.1, .int .i64 lg.2] 36)) W → CdI w q B ns vo au ad tm mv hd vN (.slice ma mv.length mc) vT R f (.slice pa np pc) st.1 st.2 lg.1 lg.2 0 vN W) := fun W hb => I0.step (by simp; omega) (hb.mono (by simp))
  have HM : Hid (∀ (j : Nat) (vN' : Value) (wr W : World), CdI w q B ns vo au ad tm mv hd vN (.slice ma mv.length mc) vT R f (.slice pa np pc) st.1 st.2 lg.1 lg.2 j vN' wr → Below wr.heap.size wr W → Calls Tryz.prog 84 #[.pointer (some ⟨q, 0, none⟩), .agg #[.int .i64 (pl j), .int .i64 (pl2 j), .int .i64 (pl3 j)]] W fun e w' => e = .returned (.tuple #[.agg #[.int .i64 (R j).1.1, .int .i64 (R j).1.2.1, .int .i64 (R j).1.2.2], .int .i64 (R j).2]) ∧ Below W.heap.size W w') := fun j vN' wr W hI hb => by
    have hW := hI.step (by have := hI.lz; omega) hb
    rw [hR]
    exact moved_any (pl j) (pl2 j) (pl3 j) mv.length _ _ q ma mc W (hg W (hW.b)).1 hW.s.lt hW.s.c5 hmc.1 hmc.2 (mvl_of hW.s.m)
  have HF : Hid (∀ p, ntC (f p) = [.int .i64 vo, .int .i64 st.1, .int .i64 st.2, .int .i64 lg.1, .int .i64 lg.2, .int .i64 p.1, .int .i64 p.2.1, .int .i64 p.2.2, .string ly]) := fun p => by rw [hf]; rfl
  have HP : Hid (∀ W, Below B w W → PS W B pa np pl pl2 pl3) := fun W hb => hp.step hb
  have HN : Hid (∀ k, vN.ownBlock = some k → k < w.heap.size) := nlt
  clear I0 hR hf hp hg hS nlt
  generalize st.1 = su at *
  generalize st.2 = sd at *
  generalize lg.1 = lu at *
  generalize lg.2 = ld at *
  go_enter Tryz.func64, Tryz.ntmps64
  go_wp2_with fail
  refine (HC _).mono ?_
  rintro e w1 ⟨rfl, hb1⟩
  have hI1 := HCI.out w1 (hb1.mono (by simp))
  have lz1 := hI1.lz
  have i21 := hI1.i2
  have HI1 : Hid (CdI w q B ns vo au ad tm mv hd vN (.slice ma mv.length mc) vT R f (.slice pa np pc) su sd lu ld 0 vN w1) := hI1
  clear hI1 HCI hb1 HC
  have l0 : w.heap.size < w1.heap.size := by omega
  go_wp2_with fail
  go_loopw [20] (fun i wr => ∃ (j : Nat) (vN' : Value), i = .int .i64 j ∧ j ≤ np ∧ CdI w q B ns vo au ad tm mv hd vN (.slice ma mv.length mc) vT R f (.slice pa np pc) su sd lu ld j vN' wr) (fun i _ => np - (intOf i).toNat)
  case atStart => exact ⟨0, vN, rfl, Nat.zero_le _, HI1.out⟩
  case round =>
    obtain ⟨j, vN', rfl, hj, hI⟩ := hrel
    have lz := hI.lz
    have HA : Hid (CdI w q B ns vo au ad tm mv hd vN (.slice ma mv.length mc) vT R f (.slice pa np pc) su sd lu ld j vN' wr) := hI
    have lq := hI.s.lt
    by_cases hlt : j < np
    · obtain ⟨b, off, hpa, hbB, hp0, hp1, hp2⟩ := (HP.out wr hI.b).at' (by omega)
      subst hpa
      have r0 := hp0 j hlt
      have r1 := hp1 j hlt
      have r2 := hp2 j hlt
      have bz : b < wr.heap.size := by omega
      have hbB' : B ≤ wr.heap.size := by omega
      have HMj := fun W hb => HM.out j vN' wr W hI hb
      have hlt' : (j : Int) < np := by omega
      clear hI hp0 hp1 hp2 HP HM HI1
      have HR : Hid (∀ er, (R j).2 = er → er ≠ 0 → (M.cdl R f np).2 = er) := fun er h1 h2 => (M.cdl_stop HA.out.e (by rw [h1]; exact h2) np hlt).trans h1
      obtain ⟨RP, hRP⟩ : ∃ RP, R j = RP := ⟨_, rfl⟩
      obtain ⟨⟨ra, rb, rc⟩, er⟩ := RP
      rw [hRP] at HMj
      have HRj : Hid (R j = ((ra, rb, rc), er)) := hRP
      clear hRP
      go_wp2_with fail
      refine (HMj _ (by go_grown)).mono ?_
      rintro e w5 ⟨rfl, hb5⟩
      have h5 : Below wr.heap.size wr w5 := Below.trans (by go_grown) (hb5.mono (by simp))
      have z5 := h5.size
      clear HMj hb5
      by_cases her : er = 0
      · subst her
        have hI5 := HA.out.step hbB' h5
        have i20 := hI5.i2
        have i30 := hI5.s0
        have i31 := hI5.s1
        have i40 := hI5.l0
        have i41 := hI5.l1
        have cN := hI5.s.c0
        have cV := hI5.s.c1
        have fq := hI5.s.fz 0
        have own5 := hI5.s.n
        obtain ⟨na, nc, hvN⟩ := F.own_form own5
        subst hvN
        have lq5 : q < w5.heap.size := by omega
        have e0 : w.heap.size < w5.heap.size := by omega
        have e1 : w.heap.size + 1 < w5.heap.size := by omega
        have e2 : w.heap.size + 2 < w5.heap.size := by omega
        have hl5 : (ns ++ (M.cdl R f j).1).length = ns.length + j := by simp [M.cdl_len HA.out.e]
        clear hI5
        go_wp2_with fail
        rw [hl5] at own5 cN
        have HL5 : Hid ((ns ++ (M.cdl R f j).1).length = ns.length + j) := hl5
        clear hl5
        have nge : Hid (∀ k, _ → _) := F.own_block own5
        have own6 : (w5.alloc (Obj.cells #[.int .i64 ra, .int .i64 rb, .int .i64 rc] 41)).drew.ownsRow (q + 1) 43 9 (.slice na (ns.length + j) nc) (ns.length + j) (ntL (ns ++ (M.cdl R f j).1)) := (own5.alloc _).drew
        have hnb : Hid (((w5.alloc (Obj.cells #[.int .i64 ra, .int .i64 rb, .int .i64 rc] 41)).alloc (Obj.cells #[.int .i64 vo, .int .i64 su, .int .i64 sd, .int .i64 lu, .int .i64 ld, .int .i64 ra, .int .i64 rb, .int .i64 rc, .string ly] 43)).heap[w5.heap.size + 1]? = some (Obj.cells #[.int .i64 vo, .int .i64 su, .int .i64 sd, .int .i64 lu, .int .i64 ld, .int .i64 ra, .int .i64 rb, .int .i64 rc, .string ly] 43)) := by
          show _ = _
          have h := heap_alloc_new (w5.alloc (Obj.cells #[.int .i64 ra, .int .i64 rb, .int .i64 rc] 41)) (Obj.cells #[.int .i64 vo, .int .i64 su, .int .i64 sd, .int .i64 lu, .int .i64 ld, .int .i64 ra, .int .i64 rb, .int .i64 rc, .string ly] 43)
          have e : (w5.alloc (Obj.cells #[.int .i64 ra, .int .i64 rb, .int .i64 rc] 41)).heap.size = w5.heap.size + 1 := by simp
          rw [e] at h; exact h
        have hw6 : Hid (Below w5.heap.size w5 ((w5.alloc (Obj.cells #[.int .i64 ra, .int .i64 rb, .int .i64 rc] 41)).alloc (Obj.cells #[.int .i64 vo, .int .i64 su, .int .i64 sd, .int .i64 lu, .int .i64 ld, .int .i64 ra, .int .i64 rb, .int .i64 rc, .string ly] 43)).drew) := by
          show Below _ _ _
          go_grown
        have olt := F.own_lt own5
        have how : ∀ b, (Value.slice na (ns.length + j) nc).ownBlock = some b → b < w.heap.size ∨ w.heap.size + 2 < b := fun b e => HA.out.ow b (by rw [HL5.out]; exact e)
        have mkS : Hid (∀ w' : World, (∀ b, b < w5.heap.size + 1 → (Value.slice na (ns.length + j) nc).ownBlock ≠ some b → w'.heap[b]? = (w5.alloc (Obj.cells #[.int .i64 ra, .int .i64 rb, .int .i64 rc] 41)).heap[b]?) → (fun w' => w'.cell? ⟨q, 0, none⟩ = some (.slice na (ns.length + j) nc) ∧ w'.cell? ⟨q, 1, none⟩ = some (.int .i64 vo) ∧ w'.cell? ⟨w.heap.size + 1, 0, none⟩ = some (.int .i64 su) ∧ w'.cell? ⟨w.heap.size + 1, 1, none⟩ = some (.int .i64 sd) ∧ w'.cell? ⟨w.heap.size + 1 + 1, 0, none⟩ = some (.int .i64 lu) ∧ w'.cell? ⟨w.heap.size + 1 + 1, 1, none⟩ = some (.int .i64 ld) ∧ w'.cell? ⟨w5.heap.size, 0, none⟩ = some (.int .i64 ra) ∧ w'.cell? ⟨w5.heap.size, 1, none⟩ = some (.int .i64 rb) ∧ w'.cell? ⟨w5.heap.size, 2, none⟩ = some (.int .i64 rc)) w') := fun w' hw => by
          have hq := hw q (by omega) (fun e => by have := nge.out q e; omega)
          have hb1 := hw (w.heap.size + 1) (by omega) (fun e => by have := how _ e; omega)
          have hb2 := hw (w.heap.size + 2) (by omega) (fun e => by have := how _ e; omega)
          have hb5 := hw w5.heap.size (by omega) (fun e => by have := olt _ e; omega)
          refine ⟨?_, ?_, ?_, ?_, ?_, ?_, ?_, ?_, ?_⟩
          · rw [cell_of hq]; simp [go_sem, cN, lq5]
          · rw [cell_of hq]; simp [go_sem, cV, lq5]
          · rw [cell_of hb1]; simp [go_sem, i30, e1]
          · rw [cell_of hb1]; simp [go_sem, i31, e1]
          · rw [cell_of hb2]; simp [go_sem, i40, e2]
          · rw [cell_of hb2]; simp [go_sem, i41, e2]
          · rw [cell_of hb5]; simp [go_sem]
          · rw [cell_of hb5]; simp [go_sem]
          · rw [cell_of hb5]; simp [go_sem]
        have kd : Hid (∀ W : World, (W = (w5.alloc (Obj.cells #[.int .i64 ra, .int .i64 rb, .int .i64 rc] 41)).drew ∨ W = (w5.alloc (Obj.cells #[.int .i64 ra, .int .i64 rb, .int .i64 rc] 41)).drew.alloc (Obj.cells #[.int .i64 vo, .int .i64 su, .int .i64 sd, .int .i64 lu, .int .i64 ld, .int .i64 ra, .int .i64 rb, .int .i64 rc, .string ly] 43)) → _) := fun W hW => mkS.out W (by
          rcases hW with rfl | rfl
          · exact fun b _ _ => rfl
          · exact fun b hb _ => Below.heap_alloc _ _ _ (by simpa using hb))
        have hstt : Hid (∀ W, ((w5.alloc (Obj.cells #[.int .i64 ra, .int .i64 rb, .int .i64 rc] 41)).drew.alloc (Obj.cells #[.int .i64 vo, .int .i64 su, .int .i64 sd, .int .i64 lu, .int .i64 ld, .int .i64 ra, .int .i64 rb, .int .i64 rc, .string ly] 43)).grownBy W (Value.slice na (ns.length + j) nc).ownBlock → W.cell? ⟨q, 0, none⟩ = some (.slice na (ns.length + j) nc) ∧ W.frozen? ⟨q, 0, none⟩ = false ∧ q < W.heap.size) := fun W hgrow => by
          have hbz : Below (q + 1) w5 W := (hw6.out.mono (by omega)).grown hgrow (by have := hw6.out.size; omega) nge.out
          have := hbz.size
          exact ⟨F.keepC hbz (show q < q + 1 by omega) cN, F.keepF hbz (show q < q + 1 by omega) fq, by omega⟩
        refine chord_region q (ns.length + j) nc w.heap.size w5.heap.size na vo su sd lu ld ra rb rc ly (ntL (ns ++ (M.cdl R f j).1)) (w5.alloc (Obj.cells #[.int .i64 ra, .int .i64 rb, .int .i64 rc] 41)).drew _ _ _ _ _ _ _ _ _ _ _ _ _ _ _ _ _ _ _ _ _ _ _ _ _ _ _ _ _ _ _ _ _ _ _ _ _ _ _ _ _ _ _ _ _ _ _ _ _ _ _ _ _ (w5.alloc (Obj.cells #[.int .i64 ra, .int .i64 rb, .int .i64 rc] 41)) i0 hi hz0 hz1 hz2 rfl (by omega) kd.out (own6.alloc _) (World.news_of_block (cs := #[.int .i64 vo, .int .i64 su, .int .i64 sd, .int .i64 lu, .int .i64 ld, .int .i64 ra, .int .i64 rb, .int .i64 rc, .string ly]) (t := 43) (fr := (0, 0)) hnb.out) (by simp) (by omega) hstt.out ?_
        rintro v W7 ⟨gg, cap, rfl, hown7, hgrow, hat⟩
        have HM2 : Hid (CdI w q B ns vo au ad tm mv hd vN (.slice ma mv.length mc) vT R f (.slice (some ⟨b, off, none⟩) np pc) su sd lu ld (j + 1) (.slice (some ⟨gg, 0, none⟩) (ns.length + j + 1) cap) (W7.setCell ⟨q, 0, none⟩ (.slice (some ⟨gg, 0, none⟩) (ns.length + j + 1) cap))) := by
          have h := HA.out
          rw [HL5.out] at h
          have hRe : R j = ((ra, rb, rc), 0) := HRj.out
          refine h.more hB lt HN.out (by rw [hRe]) (h5.trans (hw6.out.mono h5.size)) hgrow ?_ ?_
          · rw [HL5.out, HF.out, hRe]; exact hown7
          · rcases hat with x | x
            · exact .inl x.symm
            · exact .inr ⟨gg, rfl, by rw [x]; simp⟩
        clear hown7 hgrow hat kd hstt mkS hnb hw6
        go_wp2_with fail
        go_roundw
        case rel => exact ⟨j + 1, _, by simp, by omega, HM2.out⟩
        case measure => simp [intOf]; omega
      · have HE : Hid ((M.cdl R f np).2 = er) := HR.out er (by rw [HRj.out]) her
        have HB : Hid (Below B w wr) := HA.out.b
        clear HR
        go_wp2_with fail
        go_ret
        refine ⟨by rw [HE.out]; rfl, fun h => absurd (HE.out.symm.trans h) her, ?_, (HA.out.step hbB' h5).s.mq.step (by go_grown)⟩
        exact Below.trans (HB.out.trans (h5.mono hbB')) (Below.mono (B := w5.heap.size) (by go_grown) (by omega))
    · have hjn : j = np := by omega
      subst hjn
      have i20 := hI.i2
      have c6 := hI.s.c6
      have f6 := hI.s.fz 6
      have l0' : w.heap.size < wr.heap.size := by omega
      have HE : Hid ((M.cdl R f j).2 = 0) := hI.e
      clear hI HP HM HI1
      go_wp2_with fail
      go_ret
      have h := HA.out
      obtain ⟨x1, x2⟩ := h.s.notes (w' := wr.setCell ⟨q, 6, none⟩ (.int .i64 j)) (hd' := j) (by simp) (fun b b1 b2 _ => heap_setCell_other _ _ _ _ (by show b ≠ q; exact b2)) (own_of h.s.n (fun b e => heap_setCell_other _ _ _ _ (by show b ≠ q; have := F.own_block h.s.n b e; omega))) (fun k e => .inl e) (fun i _ i6 => by simp [go_sem, i6, Ne.symm i6]) (by simp [go_sem, h.s.c0]) (by simp [go_sem, h.s.c6]) (fun i => by simp [go_sem])
      exact ⟨by rw [HE.out]; rfl, fun _ => ⟨vN', x1, h.k.trans x2⟩, HA.out.b.setCell (p := ⟨q, 6, none⟩) hB _, x1.mq⟩

end Go.Proofs.YtaohahahhjkcdaeGreatDoor.G

/- The next span of a singer's bar is taken. -/
namespace Go.Proofs.YtaohahahhjkcdaeGreatDoor.G
open Go.RowKit
set_option linter.unusedVariables false
set_option linter.unusedSimpArgs false

/-- The spans that are left are others now. -/
theorem Sg.retime {w w' : World} {q : Nat} {ns : List M.Nt} {vo au ad : Int} {tm tm' : List F.M.Sp} {mv : List (Int × Int)} {hd hd' : Nat} {vN vM vT vT' : Value} (h : Sg w q ns vo au ad tm mv hd vN vM vT)
    (hz : w.heap.size ≤ w'.heap.size) (hb : ∀ b, b < w.heap.size → b ≠ q → w'.heap[b]? = w.heap[b]?) (c0 : w'.cell? ⟨q, 0, none⟩ = some vN) (c1 : w'.cell? ⟨q, 1, none⟩ = some (.int .i64 vo)) (c2 : w'.cell? ⟨q, 2, none⟩ = some (.int .i64 au)) (c3 : w'.cell? ⟨q, 3, none⟩ = some (.int .i64 ad))
    (c4 : w'.cell? ⟨q, 4, none⟩ = some vT') (c5 : w'.cell? ⟨q, 5, none⟩ = some vM) (c6 : w'.cell? ⟨q, 6, none⟩ = some (.int .i64 hd')) (hf : ∀ i, w'.frozen? ⟨q, i, none⟩ = false) (ht : TmL w q vN vM vT' tm') : Sg w' q ns vo au ad tm' mv hd' vN vM vT' ∧ Kp w q vN vM w' vN vM := by
  have l := h.lt
  have mlt := F.own_lt h.m
  have mge := F.own_block h.m
  have nlt := F.own_lt h.n
  have nge := F.own_block h.n
  refine ⟨⟨by omega, c0, c1, c2, c3, c4, c5, c6, hf, own_of h.n (fun b e => hb b (nlt b e) (by have := nge b e; omega)), own_of h.m (fun b e => hb b (mlt b e) (by have := mge b e; omega)), h.ap, ht.of hz (fun b b1 b2 _ _ => hb b b1 b2) (fun k e => .inl e) (fun k e => .inl e)⟩, ⟨hz, fun b b1 b2 _ _ => hb b b1 b2, fun k e => .inl e, fun k e => .inl e⟩⟩

/-- Behind the first span come the others. -/
theorem TmL.tail {w : World} {q : Nat} {vN vM : Value} {sp : F.M.Sp} {tm : List F.M.Sp} {b off tc : Nat} (h : TmL w q vN vM (.slice (some ⟨b, off, none⟩) (sp :: tm).length tc) (sp :: tm)) :
    TmL w q vN vM (if tc = 1 then .slice (some ⟨b, off, none⟩) tm.length 0 else .slice (some ⟨b, off + 5, none⟩) tm.length (tc - 1)) tm := by
  obtain ⟨ta, tc', h1, h2, h3, h4⟩ := h
  simp only [Value.slice.injEq] at h1
  obtain ⟨rfl, _, rfl⟩ := h1
  obtain ⟨b', off', g1, g2, g3, g4, g5, g6⟩ := h4 (by simp)
  simp only [Option.some.injEq, Addr.mk.injEq] at g1
  obtain ⟨rfl, rfl, _⟩ := g1
  simp only [List.length_cons] at h2
  by_cases hc : tc = 1
  · rw [if_pos hc]
    refine ⟨_, 0, rfl, by omega, by omega, fun hn => by omega⟩
  · rw [if_neg hc]
    refine ⟨_, tc - 1, rfl, by omega, by omega, fun hn => ⟨b, off + 5, rfl, g2, g3, g4, g5, fun j u hj => ?_⟩⟩
    have := g6 (5 + j) u (by
      rw [F.spL]
      rw [List.getElem?_append_right (by simp [F.spC])]
      simpa [F.spC] using hj)
    rw [← Nat.add_assoc] at this
    exact this
theorem TmL.head {w : World} {q : Nat} {vN vM vT : Value} {sp : F.M.Sp} {tm : List F.M.Sp} (h : TmL w q vN vM vT (sp :: tm)) : ∃ b off tc, vT = .slice (some ⟨b, off, none⟩) (tm.length + 1) tc ∧ tm.length + 1 ≤ tc ∧ tc ≤ 9223372036854775807 ∧ q < b ∧ b < w.heap.size ∧
    w.cell? ⟨b, off, none⟩ = some (.int .i64 sp.1.1) ∧ w.cell? ⟨b, off + 1, none⟩ = some (.int .i64 sp.1.2) ∧ w.cell? ⟨b, off + 2, none⟩ = some (.int .i64 sp.2.1.1) ∧ w.cell? ⟨b, off + 3, none⟩ = some (.int .i64 sp.2.1.2) ∧ w.cell? ⟨b, off + 4, none⟩ = some (.bool sp.2.2) := by
  obtain ⟨ta, tc', h1, h2, h3, h4⟩ := h
  obtain ⟨b', off', g1, g2, g3, g4, g5, g6⟩ := h4 (by simp)
  subst g1
  exact ⟨b', off', tc', h1, h2, h3, g2, g3, g6 0 _ rfl, g6 1 _ rfl, g6 2 _ rfl, g6 3 _ rfl, g6 4 _ rfl⟩

end Go.Proofs.YtaohahahhjkcdaeGreatDoor.G

/- What the program's leaf comes to. -/
namespace Go.Proofs.YtaohahahhjkcdaeGreatDoor.G
open Go.RowKit
set_option linter.unusedVariables false
set_option linter.unusedSimpArgs false

set_option maxRecDepth 20000 in
set_option maxHeartbeats 4000000 in
theorem leaf_none (s b1 b2 : Int) (pa ka : Option Addr) (np pc n kc : Nat) (pl pl2 pl3 : Nat → Int) (ly : ByteArray) (x1 x2 x3 x4 : Int) (x5 : Bool) (w : World) (q B : Nat) (ns : List M.Nt) (vo au ad : Int) (tm : List F.M.Sp) (mv : List (Int × Int)) (hd : Nat) (vN vM vT : Value) (hB : B ≤ q) (hS : Sg w q ns vo au ad (((x1, x2), (x3, x4), x5) :: tm) mv hd vN vM vT) (hOa : F.M.Ok (au, ad)) (hOs : F.M.Ok (x1, x2)) (k : Int) (hPl : F.M.pl (au, ad) (x1, x2) = none) :
    Calls Tryz.prog 52 #[.pointer (some ⟨q, 0, none⟩), .agg #[.int .i64 k, .int .i64 s, .slice pa np pc, .int .i64 b1, .int .i64 b2, .string ly, .slice ka n kc]] w fun e w' => e = .returned (.int .i64 4) ∧ Below B w w' ∧ Mq w' q mv.length := by
  have lt := hS.lt
  obtain ⟨b, off, tc, rfl, t1, t2, t3, t4, d0, d1, d2, d3, d4⟩ := hS.t.head
  have HP := fun W => F.Plus_o (au, ad) (x1, x2) W hOa hOs
  rw [hPl] at HP
  have c2 := hS.c2
  have c3 := hS.c3
  have c4 := hS.c4
  have c6 := hS.c6
  have f4 := hS.fz 4
  have hTt := hS.t.tail
  by_cases htc : tc = 1
  · rw [if_pos htc] at hTt
    have H2 : Sg (w.setCell ⟨q, 4, none⟩ (.slice (some ⟨b, off, none⟩) tm.length 0)) q ns vo au ad tm mv hd vN vM (.slice (some ⟨b, off, none⟩) tm.length 0) ∧ Kp w q vN vM (w.setCell ⟨q, 4, none⟩ (.slice (some ⟨b, off, none⟩) tm.length 0)) vN vM := hS.retime (w' := (w.setCell ⟨q, 4, none⟩ (.slice (some ⟨b, off, none⟩) tm.length 0))) (hd' := hd) (by simp) (fun b _ b2 => heap_setCell_other _ _ _ _ (by show b ≠ q; exact b2)) (by simp [go_sem, hS.c0]) (by simp [go_sem, hS.c1]) (by simp [go_sem, hS.c2]) (by simp [go_sem, hS.c3]) (by simp [go_sem, hS.c4]) (by simp [go_sem, hS.c5]) (by simp [go_sem, hS.c6]) (fun i => by simp [go_sem, hS.fz i]) hTt
    have hq1 : Below (w.setCell ⟨q, 4, none⟩ (.slice (some ⟨b, off, none⟩) tm.length 0)).heap.size (w.setCell ⟨q, 4, none⟩ (.slice (some ⟨b, off, none⟩) tm.length 0)) (((w.setCell ⟨q, 4, none⟩ (.slice (some ⟨b, off, none⟩) tm.length 0)).alloc (Obj.cells #[.int .i64 k, .int .i64 s, .slice pa np pc, .int .i64 b1, .int .i64 b2, .string ly, .slice ka n kc] 61)).alloc (Obj.cells #[.int .i64 x1, .int .i64 x2, .int .i64 x3, .int .i64 x4, .bool x5] 89)) := by go_grown
    have HB2 : Hid (Below B w (((w.setCell ⟨q, 4, none⟩ (.slice (some ⟨b, off, none⟩) tm.length 0)).alloc (Obj.cells #[.int .i64 k, .int .i64 s, .slice pa np pc, .int .i64 b1, .int .i64 b2, .string ly, .slice ka n kc] 61)).alloc (Obj.cells #[.int .i64 x1, .int .i64 x2, .int .i64 x3, .int .i64 x4, .bool x5] 89))) := ((Below.refl _ _).setCell (p := ⟨q, 4, none⟩) hB _).trans (hq1.mono (by simp; omega))
    have HK1 : Hid (Kp w q vN vM (((w.setCell ⟨q, 4, none⟩ (.slice (some ⟨b, off, none⟩) tm.length 0)).alloc (Obj.cells #[.int .i64 k, .int .i64 s, .slice pa np pc, .int .i64 b1, .int .i64 b2, .string ly, .slice ka n kc] 61)).alloc (Obj.cells #[.int .i64 x1, .int .i64 x2, .int .i64 x3, .int .i64 x4, .bool x5] 89)) vN vM) := H2.2.trans (Kp.below hq1)
    have HS2 : Hid (Sg (((w.setCell ⟨q, 4, none⟩ (.slice (some ⟨b, off, none⟩) tm.length 0)).alloc (Obj.cells #[.int .i64 k, .int .i64 s, .slice pa np pc, .int .i64 b1, .int .i64 b2, .string ly, .slice ka n kc] 61)).alloc (Obj.cells #[.int .i64 x1, .int .i64 x2, .int .i64 x3, .int .i64 x4, .bool x5] 89)) q ns vo au ad tm mv hd vN vM (.slice (some ⟨b, off, none⟩) tm.length 0)) := H2.1.step hq1
    clear H2 hS hTt hq1
    have n1 : ¬ tc = 0 := by omega
    have n2 : 0 < tc := by omega
    have n3 : 1 ≤ tc := by omega
    have qi : q < w.heap.size + 1 := by omega
    go_enter Tryz.func52, Tryz.ntmps52
    go_wp2_with fail
    try subst htc
    obtain ⟨W2, hW2⟩ : ∃ W2, W2 = (((w.setCell ⟨q, 4, none⟩ (.slice (some ⟨b, off, none⟩) tm.length 0)).alloc (Obj.cells #[.int .i64 k, .int .i64 s, .slice pa np pc, .int .i64 b1, .int .i64 b2, .string ly, .slice ka n kc] 61)).alloc (Obj.cells #[.int .i64 x1, .int .i64 x2, .int .i64 x3, .int .i64 x4, .bool x5] 89)) := ⟨_, rfl⟩
    have a0 : W2.cell? ⟨q, 2, none⟩ = some (.int .i64 au) := by rw [hW2]; simp [go_sem, c2, lt, qi]
    have a1 : W2.cell? ⟨q, 3, none⟩ = some (.int .i64 ad) := by rw [hW2]; simp [go_sem, c3, lt, qi]
    have a2 : W2.cell? ⟨w.heap.size + 1, 0, none⟩ = some (.int .i64 x1) := by rw [hW2]; simp [go_sem]
    have a3 : W2.cell? ⟨w.heap.size + 1, 1, none⟩ = some (.int .i64 x2) := by rw [hW2]; simp [go_sem]
    have a4 : W2.cell? ⟨w.heap.size + 1, 2, none⟩ = some (.int .i64 x3) := by rw [hW2]; simp [go_sem]
    have a5 : W2.cell? ⟨w.heap.size + 1, 3, none⟩ = some (.int .i64 x4) := by rw [hW2]; simp [go_sem]
    have i0 : W2.cell? ⟨w.heap.size, 0, none⟩ = some (.int .i64 k) := by rw [hW2]; simp [go_sem]
    have i1 : W2.cell? ⟨w.heap.size, 1, none⟩ = some (.int .i64 s) := by rw [hW2]; simp [go_sem]
    have i2 : W2.cell? ⟨w.heap.size, 2, none⟩ = some (.slice pa np pc) := by rw [hW2]; simp [go_sem]
    have i3 : W2.cell? ⟨w.heap.size, 3, none⟩ = some (.int .i64 b1) := by rw [hW2]; simp [go_sem]
    have i4 : W2.cell? ⟨w.heap.size, 4, none⟩ = some (.int .i64 b2) := by rw [hW2]; simp [go_sem]
    have i5 : W2.cell? ⟨w.heap.size, 5, none⟩ = some (.string ly) := by rw [hW2]; simp [go_sem]
    have i6 : W2.cell? ⟨w.heap.size, 6, none⟩ = some (.slice ka n kc) := by rw [hW2]; simp [go_sem]
    have z2 : W2.heap.size = w.heap.size + 2 := by rw [hW2]; simp
    rw [← hW2] at HB2 HK1 HS2 ⊢
    clear hW2
    have z3 : w.heap.size < W2.heap.size := by omega
    have z4 : w.heap.size + 1 < W2.heap.size := by omega
    have z5 : q < W2.heap.size := by omega
    go_cut [6, 7] (fun p e wx => ∃ pb : Nat, p = .pointer (some ⟨pb, 0, none⟩) ∧ e = .int .i64 4 ∧ Below W2.heap.size W2 wx ∧ W2.heap.size ≤ pb ∧ pb < wx.heap.size ∧ wx.cell? ⟨pb, 0, none⟩ = some (.int .i64 0) ∧ wx.cell? ⟨pb, 1, none⟩ = some (.int .i64 0))
    case first =>
      go_region_law (first
        | (go_simp; go_at_call 24; refine (HP _).mono ?_; rintro e w5 ⟨rfl, hb5⟩; have h5 : Below W2.heap.size W2 w5 := (by first | exact ((Below.refl _ _).drew).trans hb5 | exact Below.trans (by go_grown) (hb5.mono (by simp))); have zz := h5.size; try (have q0 : w5.cell? ⟨w.heap.size + 2, 0, none⟩ = some (.int .i64 0) := (by rw [← z2]; exact F.keepC hb5 (by simp) (by simp [go_sem])); have q1 : w5.cell? ⟨w.heap.size + 2, 1, none⟩ = some (.int .i64 0) := (by rw [← z2]; exact F.keepC hb5 (by simp) (by simp [go_sem])); have q2 : w5.frozen? ⟨w.heap.size + 2, 0, none⟩ = false := (by rw [← z2]; exact F.keepF hb5 (by simp) (by simp [go_sem])); have q3 : w5.frozen? ⟨w.heap.size + 2, 1, none⟩ = false := (by rw [← z2]; exact F.keepF hb5 (by simp) (by simp [go_sem])); have q4 : w.heap.size + 2 < w5.heap.size := (by have := hb5.size; simp at this; omega))))
      all_goals
        go_wp2_with fail
        go_meet
        case rel => first | exact ⟨_, rfl, rfl, h5.alloc h5.size _, h5.size, by simp, by simp [go_sem, F.M.tU], by simp [go_sem, F.M.tD]⟩ | exact ⟨_, rfl, rfl, (h5.setCell (by simp; omega) _).setCell (by simp; omega) _, by omega, by simp; omega, by simp [go_sem, q0, q1, F.M.tU], by simp [go_sem, q0, q1, F.M.tD]⟩
    case rest =>
      obtain ⟨pb, rfl, rfl, h5, u1, u2, u3, u4⟩ := hcut
      have zz := h5.size
      have i0 := F.keepC h5 z3 i0
      have i1 := F.keepC h5 z3 i1
      have i2 := F.keepC h5 z3 i2
      have i3 := F.keepC h5 z3 i3
      have i4 := F.keepC h5 z3 i4
      have i5 := F.keepC h5 z3 i5
      have i6 := F.keepC h5 z3 i6
      have a4 := F.keepC h5 z4 a4
      have a5 := F.keepC h5 z4 a5
      have y3 : w.heap.size < wc.heap.size := by omega
      have y4 : w.heap.size + 1 < wc.heap.size := by omega
      have y5 : q < wc.heap.size := by omega
      all_goals
        go_wp2_with fail
        go_ret
        exact ⟨rfl, HB2.out.trans (h5.mono (by omega)), (HS2.out.step h5).mq⟩
  · rw [if_neg htc] at hTt
    have H2 : Sg (w.setCell ⟨q, 4, none⟩ (.slice (some ⟨b, off + 5, none⟩) tm.length (tc - 1))) q ns vo au ad tm mv hd vN vM (.slice (some ⟨b, off + 5, none⟩) tm.length (tc - 1)) ∧ Kp w q vN vM (w.setCell ⟨q, 4, none⟩ (.slice (some ⟨b, off + 5, none⟩) tm.length (tc - 1))) vN vM := hS.retime (w' := (w.setCell ⟨q, 4, none⟩ (.slice (some ⟨b, off + 5, none⟩) tm.length (tc - 1)))) (hd' := hd) (by simp) (fun b _ b2 => heap_setCell_other _ _ _ _ (by show b ≠ q; exact b2)) (by simp [go_sem, hS.c0]) (by simp [go_sem, hS.c1]) (by simp [go_sem, hS.c2]) (by simp [go_sem, hS.c3]) (by simp [go_sem, hS.c4]) (by simp [go_sem, hS.c5]) (by simp [go_sem, hS.c6]) (fun i => by simp [go_sem, hS.fz i]) hTt
    have hq1 : Below (w.setCell ⟨q, 4, none⟩ (.slice (some ⟨b, off + 5, none⟩) tm.length (tc - 1))).heap.size (w.setCell ⟨q, 4, none⟩ (.slice (some ⟨b, off + 5, none⟩) tm.length (tc - 1))) (((w.setCell ⟨q, 4, none⟩ (.slice (some ⟨b, off + 5, none⟩) tm.length (tc - 1))).alloc (Obj.cells #[.int .i64 k, .int .i64 s, .slice pa np pc, .int .i64 b1, .int .i64 b2, .string ly, .slice ka n kc] 61)).alloc (Obj.cells #[.int .i64 x1, .int .i64 x2, .int .i64 x3, .int .i64 x4, .bool x5] 89)) := by go_grown
    have HB2 : Hid (Below B w (((w.setCell ⟨q, 4, none⟩ (.slice (some ⟨b, off + 5, none⟩) tm.length (tc - 1))).alloc (Obj.cells #[.int .i64 k, .int .i64 s, .slice pa np pc, .int .i64 b1, .int .i64 b2, .string ly, .slice ka n kc] 61)).alloc (Obj.cells #[.int .i64 x1, .int .i64 x2, .int .i64 x3, .int .i64 x4, .bool x5] 89))) := ((Below.refl _ _).setCell (p := ⟨q, 4, none⟩) hB _).trans (hq1.mono (by simp; omega))
    have HK1 : Hid (Kp w q vN vM (((w.setCell ⟨q, 4, none⟩ (.slice (some ⟨b, off + 5, none⟩) tm.length (tc - 1))).alloc (Obj.cells #[.int .i64 k, .int .i64 s, .slice pa np pc, .int .i64 b1, .int .i64 b2, .string ly, .slice ka n kc] 61)).alloc (Obj.cells #[.int .i64 x1, .int .i64 x2, .int .i64 x3, .int .i64 x4, .bool x5] 89)) vN vM) := H2.2.trans (Kp.below hq1)
    have HS2 : Hid (Sg (((w.setCell ⟨q, 4, none⟩ (.slice (some ⟨b, off + 5, none⟩) tm.length (tc - 1))).alloc (Obj.cells #[.int .i64 k, .int .i64 s, .slice pa np pc, .int .i64 b1, .int .i64 b2, .string ly, .slice ka n kc] 61)).alloc (Obj.cells #[.int .i64 x1, .int .i64 x2, .int .i64 x3, .int .i64 x4, .bool x5] 89)) q ns vo au ad tm mv hd vN vM (.slice (some ⟨b, off + 5, none⟩) tm.length (tc - 1))) := H2.1.step hq1
    clear H2 hS hTt hq1
    have n1 : ¬ tc = 0 := by omega
    have n2 : 0 < tc := by omega
    have n3 : 1 ≤ tc := by omega
    have qi : q < w.heap.size + 1 := by omega
    go_enter Tryz.func52, Tryz.ntmps52
    go_wp2_with fail
    try subst htc
    obtain ⟨W2, hW2⟩ : ∃ W2, W2 = (((w.setCell ⟨q, 4, none⟩ (.slice (some ⟨b, off + 5, none⟩) tm.length (tc - 1))).alloc (Obj.cells #[.int .i64 k, .int .i64 s, .slice pa np pc, .int .i64 b1, .int .i64 b2, .string ly, .slice ka n kc] 61)).alloc (Obj.cells #[.int .i64 x1, .int .i64 x2, .int .i64 x3, .int .i64 x4, .bool x5] 89)) := ⟨_, rfl⟩
    have a0 : W2.cell? ⟨q, 2, none⟩ = some (.int .i64 au) := by rw [hW2]; simp [go_sem, c2, lt, qi]
    have a1 : W2.cell? ⟨q, 3, none⟩ = some (.int .i64 ad) := by rw [hW2]; simp [go_sem, c3, lt, qi]
    have a2 : W2.cell? ⟨w.heap.size + 1, 0, none⟩ = some (.int .i64 x1) := by rw [hW2]; simp [go_sem]
    have a3 : W2.cell? ⟨w.heap.size + 1, 1, none⟩ = some (.int .i64 x2) := by rw [hW2]; simp [go_sem]
    have a4 : W2.cell? ⟨w.heap.size + 1, 2, none⟩ = some (.int .i64 x3) := by rw [hW2]; simp [go_sem]
    have a5 : W2.cell? ⟨w.heap.size + 1, 3, none⟩ = some (.int .i64 x4) := by rw [hW2]; simp [go_sem]
    have i0 : W2.cell? ⟨w.heap.size, 0, none⟩ = some (.int .i64 k) := by rw [hW2]; simp [go_sem]
    have i1 : W2.cell? ⟨w.heap.size, 1, none⟩ = some (.int .i64 s) := by rw [hW2]; simp [go_sem]
    have i2 : W2.cell? ⟨w.heap.size, 2, none⟩ = some (.slice pa np pc) := by rw [hW2]; simp [go_sem]
    have i3 : W2.cell? ⟨w.heap.size, 3, none⟩ = some (.int .i64 b1) := by rw [hW2]; simp [go_sem]
    have i4 : W2.cell? ⟨w.heap.size, 4, none⟩ = some (.int .i64 b2) := by rw [hW2]; simp [go_sem]
    have i5 : W2.cell? ⟨w.heap.size, 5, none⟩ = some (.string ly) := by rw [hW2]; simp [go_sem]
    have i6 : W2.cell? ⟨w.heap.size, 6, none⟩ = some (.slice ka n kc) := by rw [hW2]; simp [go_sem]
    have z2 : W2.heap.size = w.heap.size + 2 := by rw [hW2]; simp
    rw [← hW2] at HB2 HK1 HS2 ⊢
    clear hW2
    have z3 : w.heap.size < W2.heap.size := by omega
    have z4 : w.heap.size + 1 < W2.heap.size := by omega
    have z5 : q < W2.heap.size := by omega
    go_cut [6, 7] (fun p e wx => ∃ pb : Nat, p = .pointer (some ⟨pb, 0, none⟩) ∧ e = .int .i64 4 ∧ Below W2.heap.size W2 wx ∧ W2.heap.size ≤ pb ∧ pb < wx.heap.size ∧ wx.cell? ⟨pb, 0, none⟩ = some (.int .i64 0) ∧ wx.cell? ⟨pb, 1, none⟩ = some (.int .i64 0))
    case first =>
      go_region_law (first
        | (go_simp; go_at_call 24; refine (HP _).mono ?_; rintro e w5 ⟨rfl, hb5⟩; have h5 : Below W2.heap.size W2 w5 := (by first | exact ((Below.refl _ _).drew).trans hb5 | exact Below.trans (by go_grown) (hb5.mono (by simp))); have zz := h5.size; try (have q0 : w5.cell? ⟨w.heap.size + 2, 0, none⟩ = some (.int .i64 0) := (by rw [← z2]; exact F.keepC hb5 (by simp) (by simp [go_sem])); have q1 : w5.cell? ⟨w.heap.size + 2, 1, none⟩ = some (.int .i64 0) := (by rw [← z2]; exact F.keepC hb5 (by simp) (by simp [go_sem])); have q2 : w5.frozen? ⟨w.heap.size + 2, 0, none⟩ = false := (by rw [← z2]; exact F.keepF hb5 (by simp) (by simp [go_sem])); have q3 : w5.frozen? ⟨w.heap.size + 2, 1, none⟩ = false := (by rw [← z2]; exact F.keepF hb5 (by simp) (by simp [go_sem])); have q4 : w.heap.size + 2 < w5.heap.size := (by have := hb5.size; simp at this; omega))))
      all_goals
        go_wp2_with fail
        go_meet
        case rel => first | exact ⟨_, rfl, rfl, h5.alloc h5.size _, h5.size, by simp, by simp [go_sem, F.M.tU], by simp [go_sem, F.M.tD]⟩ | exact ⟨_, rfl, rfl, (h5.setCell (by simp; omega) _).setCell (by simp; omega) _, by omega, by simp; omega, by simp [go_sem, q0, q1, F.M.tU], by simp [go_sem, q0, q1, F.M.tD]⟩
    case rest =>
      obtain ⟨pb, rfl, rfl, h5, u1, u2, u3, u4⟩ := hcut
      have zz := h5.size
      have i0 := F.keepC h5 z3 i0
      have i1 := F.keepC h5 z3 i1
      have i2 := F.keepC h5 z3 i2
      have i3 := F.keepC h5 z3 i3
      have i4 := F.keepC h5 z3 i4
      have i5 := F.keepC h5 z3 i5
      have i6 := F.keepC h5 z3 i6
      have a4 := F.keepC h5 z4 a4
      have a5 := F.keepC h5 z4 a5
      have y3 : w.heap.size < wc.heap.size := by omega
      have y4 : w.heap.size + 1 < wc.heap.size := by omega
      have y5 : q < wc.heap.size := by omega
      all_goals
        go_wp2_with fail
        go_ret
        exact ⟨rfl, HB2.out.trans (h5.mono (by omega)), (HS2.out.step h5).mq⟩

end Go.Proofs.YtaohahahhjkcdaeGreatDoor.G

/- What the program's leaf comes to. -/
namespace Go.Proofs.YtaohahahhjkcdaeGreatDoor.G
open Go.RowKit
set_option linter.unusedVariables false
set_option linter.unusedSimpArgs false

set_option maxRecDepth 20000 in
set_option maxHeartbeats 4000000 in
theorem leaf_rest (s b1 b2 : Int) (pa ka : Option Addr) (np pc n kc : Nat) (pl pl2 pl3 : Nat → Int) (ly : ByteArray) (x1 x2 x3 x4 : Int) (x5 : Bool) (w : World) (q B : Nat) (ns : List M.Nt) (vo au ad : Int) (tm : List F.M.Sp) (mv : List (Int × Int)) (hd : Nat) (vN vM vT : Value) (hB : B ≤ q) (hS : Sg w q ns vo au ad (((x1, x2), (x3, x4), x5) :: tm) mv hd vN vM vT) (hOa : F.M.Ok (au, ad)) (hOs : F.M.Ok (x1, x2)) (k : Int) (st : Int × Int) (hPl : F.M.pl (au, ad) (x1, x2) = some st) (hk1 : ¬ k = 1) (hk3 : ¬ k = 3) :
    Calls Tryz.prog 52 #[.pointer (some ⟨q, 0, none⟩), .agg #[.int .i64 k, .int .i64 s, .slice pa np pc, .int .i64 b1, .int .i64 b2, .string ly, .slice ka n kc]] w fun e w' => e = .returned (.int .i64 0) ∧ (∃ vT', Sg w' q ns vo au ad tm mv 0 vN vM vT' ∧ Kp w q vN vM w' vN vM) ∧ Below B w w' ∧ Mq w' q mv.length := by
  have lt := hS.lt
  obtain ⟨b, off, tc, rfl, t1, t2, t3, t4, d0, d1, d2, d3, d4⟩ := hS.t.head
  have HP := fun W => F.Plus_o (au, ad) (x1, x2) W hOa hOs
  rw [hPl] at HP
  have c2 := hS.c2
  have c3 := hS.c3
  have c4 := hS.c4
  have c6 := hS.c6
  have f4 := hS.fz 4
  have hTt := hS.t.tail
  by_cases htc : tc = 1
  · rw [if_pos htc] at hTt
    have H2 : Sg (w.setCell ⟨q, 4, none⟩ (.slice (some ⟨b, off, none⟩) tm.length 0)) q ns vo au ad tm mv hd vN vM (.slice (some ⟨b, off, none⟩) tm.length 0) ∧ Kp w q vN vM (w.setCell ⟨q, 4, none⟩ (.slice (some ⟨b, off, none⟩) tm.length 0)) vN vM := hS.retime (w' := (w.setCell ⟨q, 4, none⟩ (.slice (some ⟨b, off, none⟩) tm.length 0))) (hd' := hd) (by simp) (fun b _ b2 => heap_setCell_other _ _ _ _ (by show b ≠ q; exact b2)) (by simp [go_sem, hS.c0]) (by simp [go_sem, hS.c1]) (by simp [go_sem, hS.c2]) (by simp [go_sem, hS.c3]) (by simp [go_sem, hS.c4]) (by simp [go_sem, hS.c5]) (by simp [go_sem, hS.c6]) (fun i => by simp [go_sem, hS.fz i]) hTt
    have hq1 : Below (w.setCell ⟨q, 4, none⟩ (.slice (some ⟨b, off, none⟩) tm.length 0)).heap.size (w.setCell ⟨q, 4, none⟩ (.slice (some ⟨b, off, none⟩) tm.length 0)) (((w.setCell ⟨q, 4, none⟩ (.slice (some ⟨b, off, none⟩) tm.length 0)).alloc (Obj.cells #[.int .i64 k, .int .i64 s, .slice pa np pc, .int .i64 b1, .int .i64 b2, .string ly, .slice ka n kc] 61)).alloc (Obj.cells #[.int .i64 x1, .int .i64 x2, .int .i64 x3, .int .i64 x4, .bool x5] 89)) := by go_grown
    have HB2 : Hid (Below B w (((w.setCell ⟨q, 4, none⟩ (.slice (some ⟨b, off, none⟩) tm.length 0)).alloc (Obj.cells #[.int .i64 k, .int .i64 s, .slice pa np pc, .int .i64 b1, .int .i64 b2, .string ly, .slice ka n kc] 61)).alloc (Obj.cells #[.int .i64 x1, .int .i64 x2, .int .i64 x3, .int .i64 x4, .bool x5] 89))) := ((Below.refl _ _).setCell (p := ⟨q, 4, none⟩) hB _).trans (hq1.mono (by simp; omega))
    have HK1 : Hid (Kp w q vN vM (((w.setCell ⟨q, 4, none⟩ (.slice (some ⟨b, off, none⟩) tm.length 0)).alloc (Obj.cells #[.int .i64 k, .int .i64 s, .slice pa np pc, .int .i64 b1, .int .i64 b2, .string ly, .slice ka n kc] 61)).alloc (Obj.cells #[.int .i64 x1, .int .i64 x2, .int .i64 x3, .int .i64 x4, .bool x5] 89)) vN vM) := H2.2.trans (Kp.below hq1)
    have HS2 : Hid (Sg (((w.setCell ⟨q, 4, none⟩ (.slice (some ⟨b, off, none⟩) tm.length 0)).alloc (Obj.cells #[.int .i64 k, .int .i64 s, .slice pa np pc, .int .i64 b1, .int .i64 b2, .string ly, .slice ka n kc] 61)).alloc (Obj.cells #[.int .i64 x1, .int .i64 x2, .int .i64 x3, .int .i64 x4, .bool x5] 89)) q ns vo au ad tm mv hd vN vM (.slice (some ⟨b, off, none⟩) tm.length 0)) := H2.1.step hq1
    clear H2 hS hTt hq1
    have n1 : ¬ tc = 0 := by omega
    have n2 : 0 < tc := by omega
    have n3 : 1 ≤ tc := by omega
    have qi : q < w.heap.size + 1 := by omega
    go_enter Tryz.func52, Tryz.ntmps52
    go_wp2_with fail
    try subst htc
    obtain ⟨W2, hW2⟩ : ∃ W2, W2 = (((w.setCell ⟨q, 4, none⟩ (.slice (some ⟨b, off, none⟩) tm.length 0)).alloc (Obj.cells #[.int .i64 k, .int .i64 s, .slice pa np pc, .int .i64 b1, .int .i64 b2, .string ly, .slice ka n kc] 61)).alloc (Obj.cells #[.int .i64 x1, .int .i64 x2, .int .i64 x3, .int .i64 x4, .bool x5] 89)) := ⟨_, rfl⟩
    have a0 : W2.cell? ⟨q, 2, none⟩ = some (.int .i64 au) := by rw [hW2]; simp [go_sem, c2, lt, qi]
    have a1 : W2.cell? ⟨q, 3, none⟩ = some (.int .i64 ad) := by rw [hW2]; simp [go_sem, c3, lt, qi]
    have a2 : W2.cell? ⟨w.heap.size + 1, 0, none⟩ = some (.int .i64 x1) := by rw [hW2]; simp [go_sem]
    have a3 : W2.cell? ⟨w.heap.size + 1, 1, none⟩ = some (.int .i64 x2) := by rw [hW2]; simp [go_sem]
    have a4 : W2.cell? ⟨w.heap.size + 1, 2, none⟩ = some (.int .i64 x3) := by rw [hW2]; simp [go_sem]
    have a5 : W2.cell? ⟨w.heap.size + 1, 3, none⟩ = some (.int .i64 x4) := by rw [hW2]; simp [go_sem]
    have i0 : W2.cell? ⟨w.heap.size, 0, none⟩ = some (.int .i64 k) := by rw [hW2]; simp [go_sem]
    have i1 : W2.cell? ⟨w.heap.size, 1, none⟩ = some (.int .i64 s) := by rw [hW2]; simp [go_sem]
    have i2 : W2.cell? ⟨w.heap.size, 2, none⟩ = some (.slice pa np pc) := by rw [hW2]; simp [go_sem]
    have i3 : W2.cell? ⟨w.heap.size, 3, none⟩ = some (.int .i64 b1) := by rw [hW2]; simp [go_sem]
    have i4 : W2.cell? ⟨w.heap.size, 4, none⟩ = some (.int .i64 b2) := by rw [hW2]; simp [go_sem]
    have i5 : W2.cell? ⟨w.heap.size, 5, none⟩ = some (.string ly) := by rw [hW2]; simp [go_sem]
    have i6 : W2.cell? ⟨w.heap.size, 6, none⟩ = some (.slice ka n kc) := by rw [hW2]; simp [go_sem]
    have z2 : W2.heap.size = w.heap.size + 2 := by rw [hW2]; simp
    rw [← hW2] at HB2 HK1 HS2 ⊢
    clear hW2
    have z3 : w.heap.size < W2.heap.size := by omega
    have z4 : w.heap.size + 1 < W2.heap.size := by omega
    have z5 : q < W2.heap.size := by omega
    go_cut [6, 7] (fun p e wx => ∃ pb : Nat, p = .pointer (some ⟨pb, 0, none⟩) ∧ e = .int .i64 0 ∧ Below W2.heap.size W2 wx ∧ W2.heap.size ≤ pb ∧ pb < wx.heap.size ∧ wx.cell? ⟨pb, 0, none⟩ = some (.int .i64 st.1) ∧ wx.cell? ⟨pb, 1, none⟩ = some (.int .i64 st.2))
    case first =>
      go_region_law (first
        | (go_simp; go_at_call 24; refine (HP _).mono ?_; rintro e w5 ⟨rfl, hb5⟩; have h5 : Below W2.heap.size W2 w5 := (by first | exact ((Below.refl _ _).drew).trans hb5 | exact Below.trans (by go_grown) (hb5.mono (by simp))); have zz := h5.size; try (have q0 : w5.cell? ⟨w.heap.size + 2, 0, none⟩ = some (.int .i64 0) := (by rw [← z2]; exact F.keepC hb5 (by simp) (by simp [go_sem])); have q1 : w5.cell? ⟨w.heap.size + 2, 1, none⟩ = some (.int .i64 0) := (by rw [← z2]; exact F.keepC hb5 (by simp) (by simp [go_sem])); have q2 : w5.frozen? ⟨w.heap.size + 2, 0, none⟩ = false := (by rw [← z2]; exact F.keepF hb5 (by simp) (by simp [go_sem])); have q3 : w5.frozen? ⟨w.heap.size + 2, 1, none⟩ = false := (by rw [← z2]; exact F.keepF hb5 (by simp) (by simp [go_sem])); have q4 : w.heap.size + 2 < w5.heap.size := (by have := hb5.size; simp at this; omega))))
      all_goals
        go_wp2_with fail
        go_meet
        case rel => first | exact ⟨_, rfl, rfl, h5.alloc h5.size _, h5.size, by simp, by simp [go_sem, F.M.tU], by simp [go_sem, F.M.tD]⟩ | exact ⟨_, rfl, rfl, (h5.setCell (by simp; omega) _).setCell (by simp; omega) _, by omega, by simp; omega, by simp [go_sem, q0, q1, F.M.tU], by simp [go_sem, q0, q1, F.M.tD]⟩
    case rest =>
      obtain ⟨pb, rfl, rfl, h5, u1, u2, u3, u4⟩ := hcut
      have zz := h5.size
      have i0 := F.keepC h5 z3 i0
      have i1 := F.keepC h5 z3 i1
      have i2 := F.keepC h5 z3 i2
      have i3 := F.keepC h5 z3 i3
      have i4 := F.keepC h5 z3 i4
      have i5 := F.keepC h5 z3 i5
      have i6 := F.keepC h5 z3 i6
      have a4 := F.keepC h5 z4 a4
      have a5 := F.keepC h5 z4 a5
      have y3 : w.heap.size < wc.heap.size := by omega
      have y4 : w.heap.size + 1 < wc.heap.size := by omega
      have y5 : q < wc.heap.size := by omega
      all_goals
        have hB5 : Hid (Below B w wc) := HB2.out.trans (h5.mono (by omega))
        have hs4 := HS2.out.step h5
        have HK4 : Hid (Kp w q vN vM wc vN vM) := HK1.out.trans (Kp.below h5)
        have c6' := hs4.c6
        have f6' := hs4.fz 6
        have HS4 : Hid (Sg wc q ns vo au ad tm mv hd vN vM (.slice (some ⟨b, off, none⟩) tm.length 0)) := hs4
        clear hs4
        go_wp2_with fail
        go_ret
        have h := HS4.out
        obtain ⟨y1, y2⟩ := h.numbers (w' := wc.setCell ⟨q, 6, none⟩ (.int .i64 0)) (vo' := vo) (au' := au) (ad' := ad) (hd' := 0) (by simp) (fun b _ b2 => heap_setCell_other _ _ _ _ (by show b ≠ q; exact b2)) (by simp [go_sem, h.c0]) (by simp [go_sem, h.c1]) (by simp [go_sem, h.c2]) (by simp [go_sem, h.c3]) (by simp [go_sem, h.c4]) (by simp [go_sem, h.c5]) (by simp [go_sem, h.c6]) (fun i => by simp [go_sem, h.fz i])
        exact ⟨rfl, ⟨_, y1, HK4.out.trans y2⟩, hB5.out.setCell (p := ⟨q, 6, none⟩) hB _, y1.mq⟩
  · rw [if_neg htc] at hTt
    have H2 : Sg (w.setCell ⟨q, 4, none⟩ (.slice (some ⟨b, off + 5, none⟩) tm.length (tc - 1))) q ns vo au ad tm mv hd vN vM (.slice (some ⟨b, off + 5, none⟩) tm.length (tc - 1)) ∧ Kp w q vN vM (w.setCell ⟨q, 4, none⟩ (.slice (some ⟨b, off + 5, none⟩) tm.length (tc - 1))) vN vM := hS.retime (w' := (w.setCell ⟨q, 4, none⟩ (.slice (some ⟨b, off + 5, none⟩) tm.length (tc - 1)))) (hd' := hd) (by simp) (fun b _ b2 => heap_setCell_other _ _ _ _ (by show b ≠ q; exact b2)) (by simp [go_sem, hS.c0]) (by simp [go_sem, hS.c1]) (by simp [go_sem, hS.c2]) (by simp [go_sem, hS.c3]) (by simp [go_sem, hS.c4]) (by simp [go_sem, hS.c5]) (by simp [go_sem, hS.c6]) (fun i => by simp [go_sem, hS.fz i]) hTt
    have hq1 : Below (w.setCell ⟨q, 4, none⟩ (.slice (some ⟨b, off + 5, none⟩) tm.length (tc - 1))).heap.size (w.setCell ⟨q, 4, none⟩ (.slice (some ⟨b, off + 5, none⟩) tm.length (tc - 1))) (((w.setCell ⟨q, 4, none⟩ (.slice (some ⟨b, off + 5, none⟩) tm.length (tc - 1))).alloc (Obj.cells #[.int .i64 k, .int .i64 s, .slice pa np pc, .int .i64 b1, .int .i64 b2, .string ly, .slice ka n kc] 61)).alloc (Obj.cells #[.int .i64 x1, .int .i64 x2, .int .i64 x3, .int .i64 x4, .bool x5] 89)) := by go_grown
    have HB2 : Hid (Below B w (((w.setCell ⟨q, 4, none⟩ (.slice (some ⟨b, off + 5, none⟩) tm.length (tc - 1))).alloc (Obj.cells #[.int .i64 k, .int .i64 s, .slice pa np pc, .int .i64 b1, .int .i64 b2, .string ly, .slice ka n kc] 61)).alloc (Obj.cells #[.int .i64 x1, .int .i64 x2, .int .i64 x3, .int .i64 x4, .bool x5] 89))) := ((Below.refl _ _).setCell (p := ⟨q, 4, none⟩) hB _).trans (hq1.mono (by simp; omega))
    have HK1 : Hid (Kp w q vN vM (((w.setCell ⟨q, 4, none⟩ (.slice (some ⟨b, off + 5, none⟩) tm.length (tc - 1))).alloc (Obj.cells #[.int .i64 k, .int .i64 s, .slice pa np pc, .int .i64 b1, .int .i64 b2, .string ly, .slice ka n kc] 61)).alloc (Obj.cells #[.int .i64 x1, .int .i64 x2, .int .i64 x3, .int .i64 x4, .bool x5] 89)) vN vM) := H2.2.trans (Kp.below hq1)
    have HS2 : Hid (Sg (((w.setCell ⟨q, 4, none⟩ (.slice (some ⟨b, off + 5, none⟩) tm.length (tc - 1))).alloc (Obj.cells #[.int .i64 k, .int .i64 s, .slice pa np pc, .int .i64 b1, .int .i64 b2, .string ly, .slice ka n kc] 61)).alloc (Obj.cells #[.int .i64 x1, .int .i64 x2, .int .i64 x3, .int .i64 x4, .bool x5] 89)) q ns vo au ad tm mv hd vN vM (.slice (some ⟨b, off + 5, none⟩) tm.length (tc - 1))) := H2.1.step hq1
    clear H2 hS hTt hq1
    have n1 : ¬ tc = 0 := by omega
    have n2 : 0 < tc := by omega
    have n3 : 1 ≤ tc := by omega
    have qi : q < w.heap.size + 1 := by omega
    go_enter Tryz.func52, Tryz.ntmps52
    go_wp2_with fail
    try subst htc
    obtain ⟨W2, hW2⟩ : ∃ W2, W2 = (((w.setCell ⟨q, 4, none⟩ (.slice (some ⟨b, off + 5, none⟩) tm.length (tc - 1))).alloc (Obj.cells #[.int .i64 k, .int .i64 s, .slice pa np pc, .int .i64 b1, .int .i64 b2, .string ly, .slice ka n kc] 61)).alloc (Obj.cells #[.int .i64 x1, .int .i64 x2, .int .i64 x3, .int .i64 x4, .bool x5] 89)) := ⟨_, rfl⟩
    have a0 : W2.cell? ⟨q, 2, none⟩ = some (.int .i64 au) := by rw [hW2]; simp [go_sem, c2, lt, qi]
    have a1 : W2.cell? ⟨q, 3, none⟩ = some (.int .i64 ad) := by rw [hW2]; simp [go_sem, c3, lt, qi]
    have a2 : W2.cell? ⟨w.heap.size + 1, 0, none⟩ = some (.int .i64 x1) := by rw [hW2]; simp [go_sem]
    have a3 : W2.cell? ⟨w.heap.size + 1, 1, none⟩ = some (.int .i64 x2) := by rw [hW2]; simp [go_sem]
    have a4 : W2.cell? ⟨w.heap.size + 1, 2, none⟩ = some (.int .i64 x3) := by rw [hW2]; simp [go_sem]
    have a5 : W2.cell? ⟨w.heap.size + 1, 3, none⟩ = some (.int .i64 x4) := by rw [hW2]; simp [go_sem]
    have i0 : W2.cell? ⟨w.heap.size, 0, none⟩ = some (.int .i64 k) := by rw [hW2]; simp [go_sem]
    have i1 : W2.cell? ⟨w.heap.size, 1, none⟩ = some (.int .i64 s) := by rw [hW2]; simp [go_sem]
    have i2 : W2.cell? ⟨w.heap.size, 2, none⟩ = some (.slice pa np pc) := by rw [hW2]; simp [go_sem]
    have i3 : W2.cell? ⟨w.heap.size, 3, none⟩ = some (.int .i64 b1) := by rw [hW2]; simp [go_sem]
    have i4 : W2.cell? ⟨w.heap.size, 4, none⟩ = some (.int .i64 b2) := by rw [hW2]; simp [go_sem]
    have i5 : W2.cell? ⟨w.heap.size, 5, none⟩ = some (.string ly) := by rw [hW2]; simp [go_sem]
    have i6 : W2.cell? ⟨w.heap.size, 6, none⟩ = some (.slice ka n kc) := by rw [hW2]; simp [go_sem]
    have z2 : W2.heap.size = w.heap.size + 2 := by rw [hW2]; simp
    rw [← hW2] at HB2 HK1 HS2 ⊢
    clear hW2
    have z3 : w.heap.size < W2.heap.size := by omega
    have z4 : w.heap.size + 1 < W2.heap.size := by omega
    have z5 : q < W2.heap.size := by omega
    go_cut [6, 7] (fun p e wx => ∃ pb : Nat, p = .pointer (some ⟨pb, 0, none⟩) ∧ e = .int .i64 0 ∧ Below W2.heap.size W2 wx ∧ W2.heap.size ≤ pb ∧ pb < wx.heap.size ∧ wx.cell? ⟨pb, 0, none⟩ = some (.int .i64 st.1) ∧ wx.cell? ⟨pb, 1, none⟩ = some (.int .i64 st.2))
    case first =>
      go_region_law (first
        | (go_simp; go_at_call 24; refine (HP _).mono ?_; rintro e w5 ⟨rfl, hb5⟩; have h5 : Below W2.heap.size W2 w5 := (by first | exact ((Below.refl _ _).drew).trans hb5 | exact Below.trans (by go_grown) (hb5.mono (by simp))); have zz := h5.size; try (have q0 : w5.cell? ⟨w.heap.size + 2, 0, none⟩ = some (.int .i64 0) := (by rw [← z2]; exact F.keepC hb5 (by simp) (by simp [go_sem])); have q1 : w5.cell? ⟨w.heap.size + 2, 1, none⟩ = some (.int .i64 0) := (by rw [← z2]; exact F.keepC hb5 (by simp) (by simp [go_sem])); have q2 : w5.frozen? ⟨w.heap.size + 2, 0, none⟩ = false := (by rw [← z2]; exact F.keepF hb5 (by simp) (by simp [go_sem])); have q3 : w5.frozen? ⟨w.heap.size + 2, 1, none⟩ = false := (by rw [← z2]; exact F.keepF hb5 (by simp) (by simp [go_sem])); have q4 : w.heap.size + 2 < w5.heap.size := (by have := hb5.size; simp at this; omega))))
      all_goals
        go_wp2_with fail
        go_meet
        case rel => first | exact ⟨_, rfl, rfl, h5.alloc h5.size _, h5.size, by simp, by simp [go_sem, F.M.tU], by simp [go_sem, F.M.tD]⟩ | exact ⟨_, rfl, rfl, (h5.setCell (by simp; omega) _).setCell (by simp; omega) _, by omega, by simp; omega, by simp [go_sem, q0, q1, F.M.tU], by simp [go_sem, q0, q1, F.M.tD]⟩
    case rest =>
      obtain ⟨pb, rfl, rfl, h5, u1, u2, u3, u4⟩ := hcut
      have zz := h5.size
      have i0 := F.keepC h5 z3 i0
      have i1 := F.keepC h5 z3 i1
      have i2 := F.keepC h5 z3 i2
      have i3 := F.keepC h5 z3 i3
      have i4 := F.keepC h5 z3 i4
      have i5 := F.keepC h5 z3 i5
      have i6 := F.keepC h5 z3 i6
      have a4 := F.keepC h5 z4 a4
      have a5 := F.keepC h5 z4 a5
      have y3 : w.heap.size < wc.heap.size := by omega
      have y4 : w.heap.size + 1 < wc.heap.size := by omega
      have y5 : q < wc.heap.size := by omega
      all_goals
        have hB5 : Hid (Below B w wc) := HB2.out.trans (h5.mono (by omega))
        have hs4 := HS2.out.step h5
        have HK4 : Hid (Kp w q vN vM wc vN vM) := HK1.out.trans (Kp.below h5)
        have c6' := hs4.c6
        have f6' := hs4.fz 6
        have HS4 : Hid (Sg wc q ns vo au ad tm mv hd vN vM (.slice (some ⟨b, off + 5, none⟩) tm.length (tc - 1))) := hs4
        clear hs4
        go_wp2_with fail
        go_ret
        have h := HS4.out
        obtain ⟨y1, y2⟩ := h.numbers (w' := wc.setCell ⟨q, 6, none⟩ (.int .i64 0)) (vo' := vo) (au' := au) (ad' := ad) (hd' := 0) (by simp) (fun b _ b2 => heap_setCell_other _ _ _ _ (by show b ≠ q; exact b2)) (by simp [go_sem, h.c0]) (by simp [go_sem, h.c1]) (by simp [go_sem, h.c2]) (by simp [go_sem, h.c3]) (by simp [go_sem, h.c4]) (by simp [go_sem, h.c5]) (by simp [go_sem, h.c6]) (fun i => by simp [go_sem, h.fz i])
        exact ⟨rfl, ⟨_, y1, HK4.out.trans y2⟩, hB5.out.setCell (p := ⟨q, 6, none⟩) hB _, y1.mq⟩

end Go.Proofs.YtaohahahhjkcdaeGreatDoor.G

/- What the program's leaf comes to. -/
namespace Go.Proofs.YtaohahahhjkcdaeGreatDoor.G
open Go.RowKit
set_option linter.unusedVariables false
set_option linter.unusedSimpArgs false

set_option maxRecDepth 20000 in
set_option maxHeartbeats 4000000 in
theorem leaf_note (s b1 b2 : Int) (pa ka : Option Addr) (np pc n kc : Nat) (pl pl2 pl3 : Nat → Int) (ly : ByteArray) (x1 x2 x3 x4 : Int) (x5 : Bool) (w : World) (q B : Nat) (ns : List M.Nt) (vo au ad : Int) (tm : List F.M.Sp) (mv : List (Int × Int)) (hd : Nat) (vN vM vT : Value) (hB : B ≤ q) (hS : Sg w q ns vo au ad (((x1, x2), (x3, x4), x5) :: tm) mv hd vN vM vT) (hOa : F.M.Ok (au, ad)) (hOs : F.M.Ok (x1, x2)) (st : Int × Int) (hPl : F.M.pl (au, ad) (x1, x2) = some st) (hp : PS w B pa np pl pl2 pl3) (hg : GT w B) (hpc : np ≤ pc) (hpm : pc ≤ 9223372036854775807) (hly : ly.size ≤ 140737488355328) (hlen : ns.length + np < 1099511627776) :
    Calls Tryz.prog 52 #[.pointer (some ⟨q, 0, none⟩), .agg #[.int .i64 1, .int .i64 s, .slice pa np pc, .int .i64 b1, .int .i64 b2, .string ly, .slice ka n kc]] w fun e w' => e = .returned (.int .i64 (M.cdl (fun j => M.mvp mv (pl j, pl2 j, pl3 j)) (fun p => ⟨vo, st, (x3, x4), p.1, p.2.1, p.2.2, ly⟩) np).2) ∧ ((M.cdl (fun j => M.mvp mv (pl j, pl2 j, pl3 j)) (fun p => ⟨vo, st, (x3, x4), p.1, p.2.1, p.2.2, ly⟩) np).2 = 0 → ∃ vN' vT', Sg w' q (ns ++ (M.cdl (fun j => M.mvp mv (pl j, pl2 j, pl3 j)) (fun p => ⟨vo, st, (x3, x4), p.1, p.2.1, p.2.2, ly⟩) np).1) vo au ad tm mv np vN' vM vT' ∧ Kp w q vN vM w' vN' vM) ∧ Below B w w' ∧ Mq w' q mv.length := by
  have lt := hS.lt
  obtain ⟨b, off, tc, rfl, t1, t2, t3, t4, d0, d1, d2, d3, d4⟩ := hS.t.head
  have HP := fun W => F.Plus_o (au, ad) (x1, x2) W hOa hOs
  rw [hPl] at HP
  have c2 := hS.c2
  have c3 := hS.c3
  have c4 := hS.c4
  have c6 := hS.c6
  have f4 := hS.fz 4
  have hTt := hS.t.tail
  by_cases htc : tc = 1
  · rw [if_pos htc] at hTt
    have H2 : Sg (w.setCell ⟨q, 4, none⟩ (.slice (some ⟨b, off, none⟩) tm.length 0)) q ns vo au ad tm mv hd vN vM (.slice (some ⟨b, off, none⟩) tm.length 0) ∧ Kp w q vN vM (w.setCell ⟨q, 4, none⟩ (.slice (some ⟨b, off, none⟩) tm.length 0)) vN vM := hS.retime (w' := (w.setCell ⟨q, 4, none⟩ (.slice (some ⟨b, off, none⟩) tm.length 0))) (hd' := hd) (by simp) (fun b _ b2 => heap_setCell_other _ _ _ _ (by show b ≠ q; exact b2)) (by simp [go_sem, hS.c0]) (by simp [go_sem, hS.c1]) (by simp [go_sem, hS.c2]) (by simp [go_sem, hS.c3]) (by simp [go_sem, hS.c4]) (by simp [go_sem, hS.c5]) (by simp [go_sem, hS.c6]) (fun i => by simp [go_sem, hS.fz i]) hTt
    have hq1 : Below (w.setCell ⟨q, 4, none⟩ (.slice (some ⟨b, off, none⟩) tm.length 0)).heap.size (w.setCell ⟨q, 4, none⟩ (.slice (some ⟨b, off, none⟩) tm.length 0)) (((w.setCell ⟨q, 4, none⟩ (.slice (some ⟨b, off, none⟩) tm.length 0)).alloc (Obj.cells #[.int .i64 1, .int .i64 s, .slice pa np pc, .int .i64 b1, .int .i64 b2, .string ly, .slice ka n kc] 61)).alloc (Obj.cells #[.int .i64 x1, .int .i64 x2, .int .i64 x3, .int .i64 x4, .bool x5] 89)) := by go_grown
    have HB2 : Hid (Below B w (((w.setCell ⟨q, 4, none⟩ (.slice (some ⟨b, off, none⟩) tm.length 0)).alloc (Obj.cells #[.int .i64 1, .int .i64 s, .slice pa np pc, .int .i64 b1, .int .i64 b2, .string ly, .slice ka n kc] 61)).alloc (Obj.cells #[.int .i64 x1, .int .i64 x2, .int .i64 x3, .int .i64 x4, .bool x5] 89))) := ((Below.refl _ _).setCell (p := ⟨q, 4, none⟩) hB _).trans (hq1.mono (by simp; omega))
    have HK1 : Hid (Kp w q vN vM (((w.setCell ⟨q, 4, none⟩ (.slice (some ⟨b, off, none⟩) tm.length 0)).alloc (Obj.cells #[.int .i64 1, .int .i64 s, .slice pa np pc, .int .i64 b1, .int .i64 b2, .string ly, .slice ka n kc] 61)).alloc (Obj.cells #[.int .i64 x1, .int .i64 x2, .int .i64 x3, .int .i64 x4, .bool x5] 89)) vN vM) := H2.2.trans (Kp.below hq1)
    have HS2 : Hid (Sg (((w.setCell ⟨q, 4, none⟩ (.slice (some ⟨b, off, none⟩) tm.length 0)).alloc (Obj.cells #[.int .i64 1, .int .i64 s, .slice pa np pc, .int .i64 b1, .int .i64 b2, .string ly, .slice ka n kc] 61)).alloc (Obj.cells #[.int .i64 x1, .int .i64 x2, .int .i64 x3, .int .i64 x4, .bool x5] 89)) q ns vo au ad tm mv hd vN vM (.slice (some ⟨b, off, none⟩) tm.length 0)) := H2.1.step hq1
    clear H2 hS hTt hq1
    have n1 : ¬ tc = 0 := by omega
    have n2 : 0 < tc := by omega
    have n3 : 1 ≤ tc := by omega
    have qi : q < w.heap.size + 1 := by omega
    go_enter Tryz.func52, Tryz.ntmps52
    go_wp2_with fail
    try subst htc
    obtain ⟨W2, hW2⟩ : ∃ W2, W2 = (((w.setCell ⟨q, 4, none⟩ (.slice (some ⟨b, off, none⟩) tm.length 0)).alloc (Obj.cells #[.int .i64 1, .int .i64 s, .slice pa np pc, .int .i64 b1, .int .i64 b2, .string ly, .slice ka n kc] 61)).alloc (Obj.cells #[.int .i64 x1, .int .i64 x2, .int .i64 x3, .int .i64 x4, .bool x5] 89)) := ⟨_, rfl⟩
    have a0 : W2.cell? ⟨q, 2, none⟩ = some (.int .i64 au) := by rw [hW2]; simp [go_sem, c2, lt, qi]
    have a1 : W2.cell? ⟨q, 3, none⟩ = some (.int .i64 ad) := by rw [hW2]; simp [go_sem, c3, lt, qi]
    have a2 : W2.cell? ⟨w.heap.size + 1, 0, none⟩ = some (.int .i64 x1) := by rw [hW2]; simp [go_sem]
    have a3 : W2.cell? ⟨w.heap.size + 1, 1, none⟩ = some (.int .i64 x2) := by rw [hW2]; simp [go_sem]
    have a4 : W2.cell? ⟨w.heap.size + 1, 2, none⟩ = some (.int .i64 x3) := by rw [hW2]; simp [go_sem]
    have a5 : W2.cell? ⟨w.heap.size + 1, 3, none⟩ = some (.int .i64 x4) := by rw [hW2]; simp [go_sem]
    have i0 : W2.cell? ⟨w.heap.size, 0, none⟩ = some (.int .i64 1) := by rw [hW2]; simp [go_sem]
    have i1 : W2.cell? ⟨w.heap.size, 1, none⟩ = some (.int .i64 s) := by rw [hW2]; simp [go_sem]
    have i2 : W2.cell? ⟨w.heap.size, 2, none⟩ = some (.slice pa np pc) := by rw [hW2]; simp [go_sem]
    have i3 : W2.cell? ⟨w.heap.size, 3, none⟩ = some (.int .i64 b1) := by rw [hW2]; simp [go_sem]
    have i4 : W2.cell? ⟨w.heap.size, 4, none⟩ = some (.int .i64 b2) := by rw [hW2]; simp [go_sem]
    have i5 : W2.cell? ⟨w.heap.size, 5, none⟩ = some (.string ly) := by rw [hW2]; simp [go_sem]
    have i6 : W2.cell? ⟨w.heap.size, 6, none⟩ = some (.slice ka n kc) := by rw [hW2]; simp [go_sem]
    have z2 : W2.heap.size = w.heap.size + 2 := by rw [hW2]; simp
    rw [← hW2] at HB2 HK1 HS2 ⊢
    clear hW2
    have z3 : w.heap.size < W2.heap.size := by omega
    have z4 : w.heap.size + 1 < W2.heap.size := by omega
    have z5 : q < W2.heap.size := by omega
    go_cut [6, 7] (fun p e wx => ∃ pb : Nat, p = .pointer (some ⟨pb, 0, none⟩) ∧ e = .int .i64 0 ∧ Below W2.heap.size W2 wx ∧ W2.heap.size ≤ pb ∧ pb < wx.heap.size ∧ wx.cell? ⟨pb, 0, none⟩ = some (.int .i64 st.1) ∧ wx.cell? ⟨pb, 1, none⟩ = some (.int .i64 st.2))
    case first =>
      go_region_law (first
        | (go_simp; go_at_call 24; refine (HP _).mono ?_; rintro e w5 ⟨rfl, hb5⟩; have h5 : Below W2.heap.size W2 w5 := (by first | exact ((Below.refl _ _).drew).trans hb5 | exact Below.trans (by go_grown) (hb5.mono (by simp))); have zz := h5.size; try (have q0 : w5.cell? ⟨w.heap.size + 2, 0, none⟩ = some (.int .i64 0) := (by rw [← z2]; exact F.keepC hb5 (by simp) (by simp [go_sem])); have q1 : w5.cell? ⟨w.heap.size + 2, 1, none⟩ = some (.int .i64 0) := (by rw [← z2]; exact F.keepC hb5 (by simp) (by simp [go_sem])); have q2 : w5.frozen? ⟨w.heap.size + 2, 0, none⟩ = false := (by rw [← z2]; exact F.keepF hb5 (by simp) (by simp [go_sem])); have q3 : w5.frozen? ⟨w.heap.size + 2, 1, none⟩ = false := (by rw [← z2]; exact F.keepF hb5 (by simp) (by simp [go_sem])); have q4 : w.heap.size + 2 < w5.heap.size := (by have := hb5.size; simp at this; omega))))
      all_goals
        go_wp2_with fail
        go_meet
        case rel => first | exact ⟨_, rfl, rfl, h5.alloc h5.size _, h5.size, by simp, by simp [go_sem, F.M.tU], by simp [go_sem, F.M.tD]⟩ | exact ⟨_, rfl, rfl, (h5.setCell (by simp; omega) _).setCell (by simp; omega) _, by omega, by simp; omega, by simp [go_sem, q0, q1, F.M.tU], by simp [go_sem, q0, q1, F.M.tD]⟩
    case rest =>
      obtain ⟨pb, rfl, rfl, h5, u1, u2, u3, u4⟩ := hcut
      have zz := h5.size
      have i0 := F.keepC h5 z3 i0
      have i1 := F.keepC h5 z3 i1
      have i2 := F.keepC h5 z3 i2
      have i3 := F.keepC h5 z3 i3
      have i4 := F.keepC h5 z3 i4
      have i5 := F.keepC h5 z3 i5
      have i6 := F.keepC h5 z3 i6
      have a4 := F.keepC h5 z4 a4
      have a5 := F.keepC h5 z4 a5
      have y3 : w.heap.size < wc.heap.size := by omega
      have y4 : w.heap.size + 1 < wc.heap.size := by omega
      have y5 : q < wc.heap.size := by omega
      all_goals
        have hB5 : Below B w wc := HB2.out.trans (h5.mono (by omega))
        have HB5 : Hid (Below B w wc) := hB5
        have HCh := chord_any 1 s b1 b2 pa ka np pc n kc pl pl2 pl3 ly st (x3, x4) wc q B ns vo au ad tm mv hd vN vM (.slice (some ⟨b, off, none⟩) tm.length 0) hB (HS2.out.step h5) (hp.step hB5) (hg.step hB5) hpc hpm hly hlen
        have HK4 : Hid (Kp w q vN vM wc vN vM) := HK1.out.trans (Kp.below h5)
        clear hB5 hp hg
        go_wp2_with fail
        refine HCh.mono ?_
        rintro e w6 ⟨rfl, g1, g2, g3⟩
        have G1 : Hid _ := g1
        clear g1
        go_wp2_with fail
        go_ret
        refine ⟨rfl, fun h0 => ?_, HB5.out.trans g2, g3⟩
        obtain ⟨vN', y1, y2⟩ := G1.out h0
        exact ⟨vN', _, y1, HK4.out.trans y2⟩
  · rw [if_neg htc] at hTt
    have H2 : Sg (w.setCell ⟨q, 4, none⟩ (.slice (some ⟨b, off + 5, none⟩) tm.length (tc - 1))) q ns vo au ad tm mv hd vN vM (.slice (some ⟨b, off + 5, none⟩) tm.length (tc - 1)) ∧ Kp w q vN vM (w.setCell ⟨q, 4, none⟩ (.slice (some ⟨b, off + 5, none⟩) tm.length (tc - 1))) vN vM := hS.retime (w' := (w.setCell ⟨q, 4, none⟩ (.slice (some ⟨b, off + 5, none⟩) tm.length (tc - 1)))) (hd' := hd) (by simp) (fun b _ b2 => heap_setCell_other _ _ _ _ (by show b ≠ q; exact b2)) (by simp [go_sem, hS.c0]) (by simp [go_sem, hS.c1]) (by simp [go_sem, hS.c2]) (by simp [go_sem, hS.c3]) (by simp [go_sem, hS.c4]) (by simp [go_sem, hS.c5]) (by simp [go_sem, hS.c6]) (fun i => by simp [go_sem, hS.fz i]) hTt
    have hq1 : Below (w.setCell ⟨q, 4, none⟩ (.slice (some ⟨b, off + 5, none⟩) tm.length (tc - 1))).heap.size (w.setCell ⟨q, 4, none⟩ (.slice (some ⟨b, off + 5, none⟩) tm.length (tc - 1))) (((w.setCell ⟨q, 4, none⟩ (.slice (some ⟨b, off + 5, none⟩) tm.length (tc - 1))).alloc (Obj.cells #[.int .i64 1, .int .i64 s, .slice pa np pc, .int .i64 b1, .int .i64 b2, .string ly, .slice ka n kc] 61)).alloc (Obj.cells #[.int .i64 x1, .int .i64 x2, .int .i64 x3, .int .i64 x4, .bool x5] 89)) := by go_grown
    have HB2 : Hid (Below B w (((w.setCell ⟨q, 4, none⟩ (.slice (some ⟨b, off + 5, none⟩) tm.length (tc - 1))).alloc (Obj.cells #[.int .i64 1, .int .i64 s, .slice pa np pc, .int .i64 b1, .int .i64 b2, .string ly, .slice ka n kc] 61)).alloc (Obj.cells #[.int .i64 x1, .int .i64 x2, .int .i64 x3, .int .i64 x4, .bool x5] 89))) := ((Below.refl _ _).setCell (p := ⟨q, 4, none⟩) hB _).trans (hq1.mono (by simp; omega))
    have HK1 : Hid (Kp w q vN vM (((w.setCell ⟨q, 4, none⟩ (.slice (some ⟨b, off + 5, none⟩) tm.length (tc - 1))).alloc (Obj.cells #[.int .i64 1, .int .i64 s, .slice pa np pc, .int .i64 b1, .int .i64 b2, .string ly, .slice ka n kc] 61)).alloc (Obj.cells #[.int .i64 x1, .int .i64 x2, .int .i64 x3, .int .i64 x4, .bool x5] 89)) vN vM) := H2.2.trans (Kp.below hq1)
    have HS2 : Hid (Sg (((w.setCell ⟨q, 4, none⟩ (.slice (some ⟨b, off + 5, none⟩) tm.length (tc - 1))).alloc (Obj.cells #[.int .i64 1, .int .i64 s, .slice pa np pc, .int .i64 b1, .int .i64 b2, .string ly, .slice ka n kc] 61)).alloc (Obj.cells #[.int .i64 x1, .int .i64 x2, .int .i64 x3, .int .i64 x4, .bool x5] 89)) q ns vo au ad tm mv hd vN vM (.slice (some ⟨b, off + 5, none⟩) tm.length (tc - 1))) := H2.1.step hq1
    clear H2 hS hTt hq1
    have n1 : ¬ tc = 0 := by omega
    have n2 : 0 < tc := by omega
    have n3 : 1 ≤ tc := by omega
    have qi : q < w.heap.size + 1 := by omega
    go_enter Tryz.func52, Tryz.ntmps52
    go_wp2_with fail
    try subst htc
    obtain ⟨W2, hW2⟩ : ∃ W2, W2 = (((w.setCell ⟨q, 4, none⟩ (.slice (some ⟨b, off + 5, none⟩) tm.length (tc - 1))).alloc (Obj.cells #[.int .i64 1, .int .i64 s, .slice pa np pc, .int .i64 b1, .int .i64 b2, .string ly, .slice ka n kc] 61)).alloc (Obj.cells #[.int .i64 x1, .int .i64 x2, .int .i64 x3, .int .i64 x4, .bool x5] 89)) := ⟨_, rfl⟩
    have a0 : W2.cell? ⟨q, 2, none⟩ = some (.int .i64 au) := by rw [hW2]; simp [go_sem, c2, lt, qi]
    have a1 : W2.cell? ⟨q, 3, none⟩ = some (.int .i64 ad) := by rw [hW2]; simp [go_sem, c3, lt, qi]
    have a2 : W2.cell? ⟨w.heap.size + 1, 0, none⟩ = some (.int .i64 x1) := by rw [hW2]; simp [go_sem]
    have a3 : W2.cell? ⟨w.heap.size + 1, 1, none⟩ = some (.int .i64 x2) := by rw [hW2]; simp [go_sem]
    have a4 : W2.cell? ⟨w.heap.size + 1, 2, none⟩ = some (.int .i64 x3) := by rw [hW2]; simp [go_sem]
    have a5 : W2.cell? ⟨w.heap.size + 1, 3, none⟩ = some (.int .i64 x4) := by rw [hW2]; simp [go_sem]
    have i0 : W2.cell? ⟨w.heap.size, 0, none⟩ = some (.int .i64 1) := by rw [hW2]; simp [go_sem]
    have i1 : W2.cell? ⟨w.heap.size, 1, none⟩ = some (.int .i64 s) := by rw [hW2]; simp [go_sem]
    have i2 : W2.cell? ⟨w.heap.size, 2, none⟩ = some (.slice pa np pc) := by rw [hW2]; simp [go_sem]
    have i3 : W2.cell? ⟨w.heap.size, 3, none⟩ = some (.int .i64 b1) := by rw [hW2]; simp [go_sem]
    have i4 : W2.cell? ⟨w.heap.size, 4, none⟩ = some (.int .i64 b2) := by rw [hW2]; simp [go_sem]
    have i5 : W2.cell? ⟨w.heap.size, 5, none⟩ = some (.string ly) := by rw [hW2]; simp [go_sem]
    have i6 : W2.cell? ⟨w.heap.size, 6, none⟩ = some (.slice ka n kc) := by rw [hW2]; simp [go_sem]
    have z2 : W2.heap.size = w.heap.size + 2 := by rw [hW2]; simp
    rw [← hW2] at HB2 HK1 HS2 ⊢
    clear hW2
    have z3 : w.heap.size < W2.heap.size := by omega
    have z4 : w.heap.size + 1 < W2.heap.size := by omega
    have z5 : q < W2.heap.size := by omega
    go_cut [6, 7] (fun p e wx => ∃ pb : Nat, p = .pointer (some ⟨pb, 0, none⟩) ∧ e = .int .i64 0 ∧ Below W2.heap.size W2 wx ∧ W2.heap.size ≤ pb ∧ pb < wx.heap.size ∧ wx.cell? ⟨pb, 0, none⟩ = some (.int .i64 st.1) ∧ wx.cell? ⟨pb, 1, none⟩ = some (.int .i64 st.2))
    case first =>
      go_region_law (first
        | (go_simp; go_at_call 24; refine (HP _).mono ?_; rintro e w5 ⟨rfl, hb5⟩; have h5 : Below W2.heap.size W2 w5 := (by first | exact ((Below.refl _ _).drew).trans hb5 | exact Below.trans (by go_grown) (hb5.mono (by simp))); have zz := h5.size; try (have q0 : w5.cell? ⟨w.heap.size + 2, 0, none⟩ = some (.int .i64 0) := (by rw [← z2]; exact F.keepC hb5 (by simp) (by simp [go_sem])); have q1 : w5.cell? ⟨w.heap.size + 2, 1, none⟩ = some (.int .i64 0) := (by rw [← z2]; exact F.keepC hb5 (by simp) (by simp [go_sem])); have q2 : w5.frozen? ⟨w.heap.size + 2, 0, none⟩ = false := (by rw [← z2]; exact F.keepF hb5 (by simp) (by simp [go_sem])); have q3 : w5.frozen? ⟨w.heap.size + 2, 1, none⟩ = false := (by rw [← z2]; exact F.keepF hb5 (by simp) (by simp [go_sem])); have q4 : w.heap.size + 2 < w5.heap.size := (by have := hb5.size; simp at this; omega))))
      all_goals
        go_wp2_with fail
        go_meet
        case rel => first | exact ⟨_, rfl, rfl, h5.alloc h5.size _, h5.size, by simp, by simp [go_sem, F.M.tU], by simp [go_sem, F.M.tD]⟩ | exact ⟨_, rfl, rfl, (h5.setCell (by simp; omega) _).setCell (by simp; omega) _, by omega, by simp; omega, by simp [go_sem, q0, q1, F.M.tU], by simp [go_sem, q0, q1, F.M.tD]⟩
    case rest =>
      obtain ⟨pb, rfl, rfl, h5, u1, u2, u3, u4⟩ := hcut
      have zz := h5.size
      have i0 := F.keepC h5 z3 i0
      have i1 := F.keepC h5 z3 i1
      have i2 := F.keepC h5 z3 i2
      have i3 := F.keepC h5 z3 i3
      have i4 := F.keepC h5 z3 i4
      have i5 := F.keepC h5 z3 i5
      have i6 := F.keepC h5 z3 i6
      have a4 := F.keepC h5 z4 a4
      have a5 := F.keepC h5 z4 a5
      have y3 : w.heap.size < wc.heap.size := by omega
      have y4 : w.heap.size + 1 < wc.heap.size := by omega
      have y5 : q < wc.heap.size := by omega
      all_goals
        have hB5 : Below B w wc := HB2.out.trans (h5.mono (by omega))
        have HB5 : Hid (Below B w wc) := hB5
        have HCh := chord_any 1 s b1 b2 pa ka np pc n kc pl pl2 pl3 ly st (x3, x4) wc q B ns vo au ad tm mv hd vN vM (.slice (some ⟨b, off + 5, none⟩) tm.length (tc - 1)) hB (HS2.out.step h5) (hp.step hB5) (hg.step hB5) hpc hpm hly hlen
        have HK4 : Hid (Kp w q vN vM wc vN vM) := HK1.out.trans (Kp.below h5)
        clear hB5 hp hg
        go_wp2_with fail
        refine HCh.mono ?_
        rintro e w6 ⟨rfl, g1, g2, g3⟩
        have G1 : Hid _ := g1
        clear g1
        go_wp2_with fail
        go_ret
        refine ⟨rfl, fun h0 => ?_, HB5.out.trans g2, g3⟩
        obtain ⟨vN', y1, y2⟩ := G1.out h0
        exact ⟨vN', _, y1, HK4.out.trans y2⟩

end Go.Proofs.YtaohahahhjkcdaeGreatDoor.G

/- What the program's leaf comes to. -/
namespace Go.Proofs.YtaohahahhjkcdaeGreatDoor.G
open Go.RowKit
set_option linter.unusedVariables false
set_option linter.unusedSimpArgs false

set_option maxRecDepth 20000 in
set_option maxHeartbeats 4000000 in
theorem leaf_tie (s b1 b2 : Int) (pa ka : Option Addr) (np pc n kc : Nat) (pl pl2 pl3 : Nat → Int) (ly : ByteArray) (x1 x2 x3 x4 : Int) (x5 : Bool) (w : World) (q B : Nat) (a l : List M.Nt) (vo au ad : Int) (tm : List F.M.Sp) (mv : List (Int × Int)) (vN vM vT : Value) (hB : B ≤ q) (hS : Sg w q (a ++ l) vo au ad (((x1, x2), (x3, x4), x5) :: tm) mv l.length vN vM vT) (hOa : F.M.Ok (au, ad)) (hOs : F.M.Ok (x1, x2)) (st : Int × Int) (hPl : F.M.pl (au, ad) (x1, x2) = some st) (hOl : F.M.Ok (x3, x4)) (hok : ∀ x ∈ l, F.M.Ok x.lg) (hlen : (a ++ l).length < 1099511627776) :
    Calls Tryz.prog 52 #[.pointer (some ⟨q, 0, none⟩), .agg #[.int .i64 3, .int .i64 s, .slice pa np pc, .int .i64 b1, .int .i64 b2, .string ly, .slice ka n kc]] w fun e w' => e = .returned (.int .i64 (M.tlE (M.tl (x3, x4) l))) ∧ (∀ l', M.tl (x3, x4) l = some l' → ∃ vT', Sg w' q (a ++ l') vo au ad tm mv l.length vN vM vT' ∧ Kp w q vN vM w' vN vM) ∧ Below B w w' ∧ Mq w' q mv.length := by
  have lt := hS.lt
  obtain ⟨b, off, tc, rfl, t1, t2, t3, t4, d0, d1, d2, d3, d4⟩ := hS.t.head
  have HP := fun W => F.Plus_o (au, ad) (x1, x2) W hOa hOs
  rw [hPl] at HP
  have c2 := hS.c2
  have c3 := hS.c3
  have c4 := hS.c4
  have c6 := hS.c6
  have f4 := hS.fz 4
  have hTt := hS.t.tail
  by_cases htc : tc = 1
  · rw [if_pos htc] at hTt
    have H2 : Sg (w.setCell ⟨q, 4, none⟩ (.slice (some ⟨b, off, none⟩) tm.length 0)) q (a ++ l) vo au ad tm mv l.length vN vM (.slice (some ⟨b, off, none⟩) tm.length 0) ∧ Kp w q vN vM (w.setCell ⟨q, 4, none⟩ (.slice (some ⟨b, off, none⟩) tm.length 0)) vN vM := hS.retime (w' := (w.setCell ⟨q, 4, none⟩ (.slice (some ⟨b, off, none⟩) tm.length 0))) (hd' := l.length) (by simp) (fun b _ b2 => heap_setCell_other _ _ _ _ (by show b ≠ q; exact b2)) (by simp [go_sem, hS.c0]) (by simp [go_sem, hS.c1]) (by simp [go_sem, hS.c2]) (by simp [go_sem, hS.c3]) (by simp [go_sem, hS.c4]) (by simp [go_sem, hS.c5]) (by simp [go_sem, hS.c6]) (fun i => by simp [go_sem, hS.fz i]) hTt
    have hq1 : Below (w.setCell ⟨q, 4, none⟩ (.slice (some ⟨b, off, none⟩) tm.length 0)).heap.size (w.setCell ⟨q, 4, none⟩ (.slice (some ⟨b, off, none⟩) tm.length 0)) (((w.setCell ⟨q, 4, none⟩ (.slice (some ⟨b, off, none⟩) tm.length 0)).alloc (Obj.cells #[.int .i64 3, .int .i64 s, .slice pa np pc, .int .i64 b1, .int .i64 b2, .string ly, .slice ka n kc] 61)).alloc (Obj.cells #[.int .i64 x1, .int .i64 x2, .int .i64 x3, .int .i64 x4, .bool x5] 89)) := by go_grown
    have HB2 : Hid (Below B w (((w.setCell ⟨q, 4, none⟩ (.slice (some ⟨b, off, none⟩) tm.length 0)).alloc (Obj.cells #[.int .i64 3, .int .i64 s, .slice pa np pc, .int .i64 b1, .int .i64 b2, .string ly, .slice ka n kc] 61)).alloc (Obj.cells #[.int .i64 x1, .int .i64 x2, .int .i64 x3, .int .i64 x4, .bool x5] 89))) := ((Below.refl _ _).setCell (p := ⟨q, 4, none⟩) hB _).trans (hq1.mono (by simp; omega))
    have HK1 : Hid (Kp w q vN vM (((w.setCell ⟨q, 4, none⟩ (.slice (some ⟨b, off, none⟩) tm.length 0)).alloc (Obj.cells #[.int .i64 3, .int .i64 s, .slice pa np pc, .int .i64 b1, .int .i64 b2, .string ly, .slice ka n kc] 61)).alloc (Obj.cells #[.int .i64 x1, .int .i64 x2, .int .i64 x3, .int .i64 x4, .bool x5] 89)) vN vM) := H2.2.trans (Kp.below hq1)
    have HS2 : Hid (Sg (((w.setCell ⟨q, 4, none⟩ (.slice (some ⟨b, off, none⟩) tm.length 0)).alloc (Obj.cells #[.int .i64 3, .int .i64 s, .slice pa np pc, .int .i64 b1, .int .i64 b2, .string ly, .slice ka n kc] 61)).alloc (Obj.cells #[.int .i64 x1, .int .i64 x2, .int .i64 x3, .int .i64 x4, .bool x5] 89)) q (a ++ l) vo au ad tm mv l.length vN vM (.slice (some ⟨b, off, none⟩) tm.length 0)) := H2.1.step hq1
    clear H2 hS hTt hq1
    have n1 : ¬ tc = 0 := by omega
    have n2 : 0 < tc := by omega
    have n3 : 1 ≤ tc := by omega
    have qi : q < w.heap.size + 1 := by omega
    go_enter Tryz.func52, Tryz.ntmps52
    go_wp2_with fail
    try subst htc
    obtain ⟨W2, hW2⟩ : ∃ W2, W2 = (((w.setCell ⟨q, 4, none⟩ (.slice (some ⟨b, off, none⟩) tm.length 0)).alloc (Obj.cells #[.int .i64 3, .int .i64 s, .slice pa np pc, .int .i64 b1, .int .i64 b2, .string ly, .slice ka n kc] 61)).alloc (Obj.cells #[.int .i64 x1, .int .i64 x2, .int .i64 x3, .int .i64 x4, .bool x5] 89)) := ⟨_, rfl⟩
    have a0 : W2.cell? ⟨q, 2, none⟩ = some (.int .i64 au) := by rw [hW2]; simp [go_sem, c2, lt, qi]
    have a1 : W2.cell? ⟨q, 3, none⟩ = some (.int .i64 ad) := by rw [hW2]; simp [go_sem, c3, lt, qi]
    have a2 : W2.cell? ⟨w.heap.size + 1, 0, none⟩ = some (.int .i64 x1) := by rw [hW2]; simp [go_sem]
    have a3 : W2.cell? ⟨w.heap.size + 1, 1, none⟩ = some (.int .i64 x2) := by rw [hW2]; simp [go_sem]
    have a4 : W2.cell? ⟨w.heap.size + 1, 2, none⟩ = some (.int .i64 x3) := by rw [hW2]; simp [go_sem]
    have a5 : W2.cell? ⟨w.heap.size + 1, 3, none⟩ = some (.int .i64 x4) := by rw [hW2]; simp [go_sem]
    have i0 : W2.cell? ⟨w.heap.size, 0, none⟩ = some (.int .i64 3) := by rw [hW2]; simp [go_sem]
    have i1 : W2.cell? ⟨w.heap.size, 1, none⟩ = some (.int .i64 s) := by rw [hW2]; simp [go_sem]
    have i2 : W2.cell? ⟨w.heap.size, 2, none⟩ = some (.slice pa np pc) := by rw [hW2]; simp [go_sem]
    have i3 : W2.cell? ⟨w.heap.size, 3, none⟩ = some (.int .i64 b1) := by rw [hW2]; simp [go_sem]
    have i4 : W2.cell? ⟨w.heap.size, 4, none⟩ = some (.int .i64 b2) := by rw [hW2]; simp [go_sem]
    have i5 : W2.cell? ⟨w.heap.size, 5, none⟩ = some (.string ly) := by rw [hW2]; simp [go_sem]
    have i6 : W2.cell? ⟨w.heap.size, 6, none⟩ = some (.slice ka n kc) := by rw [hW2]; simp [go_sem]
    have z2 : W2.heap.size = w.heap.size + 2 := by rw [hW2]; simp
    rw [← hW2] at HB2 HK1 HS2 ⊢
    clear hW2
    have z3 : w.heap.size < W2.heap.size := by omega
    have z4 : w.heap.size + 1 < W2.heap.size := by omega
    have z5 : q < W2.heap.size := by omega
    go_cut [6, 7] (fun p e wx => ∃ pb : Nat, p = .pointer (some ⟨pb, 0, none⟩) ∧ e = .int .i64 0 ∧ Below W2.heap.size W2 wx ∧ W2.heap.size ≤ pb ∧ pb < wx.heap.size ∧ wx.cell? ⟨pb, 0, none⟩ = some (.int .i64 st.1) ∧ wx.cell? ⟨pb, 1, none⟩ = some (.int .i64 st.2))
    case first =>
      go_region_law (first
        | (go_simp; go_at_call 24; refine (HP _).mono ?_; rintro e w5 ⟨rfl, hb5⟩; have h5 : Below W2.heap.size W2 w5 := (by first | exact ((Below.refl _ _).drew).trans hb5 | exact Below.trans (by go_grown) (hb5.mono (by simp))); have zz := h5.size; try (have q0 : w5.cell? ⟨w.heap.size + 2, 0, none⟩ = some (.int .i64 0) := (by rw [← z2]; exact F.keepC hb5 (by simp) (by simp [go_sem])); have q1 : w5.cell? ⟨w.heap.size + 2, 1, none⟩ = some (.int .i64 0) := (by rw [← z2]; exact F.keepC hb5 (by simp) (by simp [go_sem])); have q2 : w5.frozen? ⟨w.heap.size + 2, 0, none⟩ = false := (by rw [← z2]; exact F.keepF hb5 (by simp) (by simp [go_sem])); have q3 : w5.frozen? ⟨w.heap.size + 2, 1, none⟩ = false := (by rw [← z2]; exact F.keepF hb5 (by simp) (by simp [go_sem])); have q4 : w.heap.size + 2 < w5.heap.size := (by have := hb5.size; simp at this; omega))))
      all_goals
        go_wp2_with fail
        go_meet
        case rel => first | exact ⟨_, rfl, rfl, h5.alloc h5.size _, h5.size, by simp, by simp [go_sem, F.M.tU], by simp [go_sem, F.M.tD]⟩ | exact ⟨_, rfl, rfl, (h5.setCell (by simp; omega) _).setCell (by simp; omega) _, by omega, by simp; omega, by simp [go_sem, q0, q1, F.M.tU], by simp [go_sem, q0, q1, F.M.tD]⟩
    case rest =>
      obtain ⟨pb, rfl, rfl, h5, u1, u2, u3, u4⟩ := hcut
      have zz := h5.size
      have i0 := F.keepC h5 z3 i0
      have i1 := F.keepC h5 z3 i1
      have i2 := F.keepC h5 z3 i2
      have i3 := F.keepC h5 z3 i3
      have i4 := F.keepC h5 z3 i4
      have i5 := F.keepC h5 z3 i5
      have i6 := F.keepC h5 z3 i6
      have a4 := F.keepC h5 z4 a4
      have a5 := F.keepC h5 z4 a5
      have y3 : w.heap.size < wc.heap.size := by omega
      have y4 : w.heap.size + 1 < wc.heap.size := by omega
      have y5 : q < wc.heap.size := by omega
      all_goals
        have HB5 : Hid (Below B w wc) := HB2.out.trans (h5.mono (by omega))
        have HCh := tie_any (x3, x4) hOl a l wc q B vo au ad tm mv vN vM (.slice (some ⟨b, off, none⟩) tm.length 0) hB (HS2.out.step h5) hok hlen
        have HK4 : Hid (Kp w q vN vM wc vN vM) := HK1.out.trans (Kp.below h5)
        go_wp2_with fail
        refine HCh.mono ?_
        rintro e w6 ⟨rfl, g1, g2, g3⟩
        have G1 : Hid _ := g1
        clear g1
        go_wp2_with fail
        go_ret
        refine ⟨rfl, fun l' h0 => ?_, HB5.out.trans g2, g3⟩
        obtain ⟨y1, y2⟩ := G1.out l' h0
        exact ⟨_, y1, HK4.out.trans y2⟩
  · rw [if_neg htc] at hTt
    have H2 : Sg (w.setCell ⟨q, 4, none⟩ (.slice (some ⟨b, off + 5, none⟩) tm.length (tc - 1))) q (a ++ l) vo au ad tm mv l.length vN vM (.slice (some ⟨b, off + 5, none⟩) tm.length (tc - 1)) ∧ Kp w q vN vM (w.setCell ⟨q, 4, none⟩ (.slice (some ⟨b, off + 5, none⟩) tm.length (tc - 1))) vN vM := hS.retime (w' := (w.setCell ⟨q, 4, none⟩ (.slice (some ⟨b, off + 5, none⟩) tm.length (tc - 1)))) (hd' := l.length) (by simp) (fun b _ b2 => heap_setCell_other _ _ _ _ (by show b ≠ q; exact b2)) (by simp [go_sem, hS.c0]) (by simp [go_sem, hS.c1]) (by simp [go_sem, hS.c2]) (by simp [go_sem, hS.c3]) (by simp [go_sem, hS.c4]) (by simp [go_sem, hS.c5]) (by simp [go_sem, hS.c6]) (fun i => by simp [go_sem, hS.fz i]) hTt
    have hq1 : Below (w.setCell ⟨q, 4, none⟩ (.slice (some ⟨b, off + 5, none⟩) tm.length (tc - 1))).heap.size (w.setCell ⟨q, 4, none⟩ (.slice (some ⟨b, off + 5, none⟩) tm.length (tc - 1))) (((w.setCell ⟨q, 4, none⟩ (.slice (some ⟨b, off + 5, none⟩) tm.length (tc - 1))).alloc (Obj.cells #[.int .i64 3, .int .i64 s, .slice pa np pc, .int .i64 b1, .int .i64 b2, .string ly, .slice ka n kc] 61)).alloc (Obj.cells #[.int .i64 x1, .int .i64 x2, .int .i64 x3, .int .i64 x4, .bool x5] 89)) := by go_grown
    have HB2 : Hid (Below B w (((w.setCell ⟨q, 4, none⟩ (.slice (some ⟨b, off + 5, none⟩) tm.length (tc - 1))).alloc (Obj.cells #[.int .i64 3, .int .i64 s, .slice pa np pc, .int .i64 b1, .int .i64 b2, .string ly, .slice ka n kc] 61)).alloc (Obj.cells #[.int .i64 x1, .int .i64 x2, .int .i64 x3, .int .i64 x4, .bool x5] 89))) := ((Below.refl _ _).setCell (p := ⟨q, 4, none⟩) hB _).trans (hq1.mono (by simp; omega))
    have HK1 : Hid (Kp w q vN vM (((w.setCell ⟨q, 4, none⟩ (.slice (some ⟨b, off + 5, none⟩) tm.length (tc - 1))).alloc (Obj.cells #[.int .i64 3, .int .i64 s, .slice pa np pc, .int .i64 b1, .int .i64 b2, .string ly, .slice ka n kc] 61)).alloc (Obj.cells #[.int .i64 x1, .int .i64 x2, .int .i64 x3, .int .i64 x4, .bool x5] 89)) vN vM) := H2.2.trans (Kp.below hq1)
    have HS2 : Hid (Sg (((w.setCell ⟨q, 4, none⟩ (.slice (some ⟨b, off + 5, none⟩) tm.length (tc - 1))).alloc (Obj.cells #[.int .i64 3, .int .i64 s, .slice pa np pc, .int .i64 b1, .int .i64 b2, .string ly, .slice ka n kc] 61)).alloc (Obj.cells #[.int .i64 x1, .int .i64 x2, .int .i64 x3, .int .i64 x4, .bool x5] 89)) q (a ++ l) vo au ad tm mv l.length vN vM (.slice (some ⟨b, off + 5, none⟩) tm.length (tc - 1))) := H2.1.step hq1
    clear H2 hS hTt hq1
    have n1 : ¬ tc = 0 := by omega
    have n2 : 0 < tc := by omega
    have n3 : 1 ≤ tc := by omega
    have qi : q < w.heap.size + 1 := by omega
    go_enter Tryz.func52, Tryz.ntmps52
    go_wp2_with fail
    try subst htc
    obtain ⟨W2, hW2⟩ : ∃ W2, W2 = (((w.setCell ⟨q, 4, none⟩ (.slice (some ⟨b, off + 5, none⟩) tm.length (tc - 1))).alloc (Obj.cells #[.int .i64 3, .int .i64 s, .slice pa np pc, .int .i64 b1, .int .i64 b2, .string ly, .slice ka n kc] 61)).alloc (Obj.cells #[.int .i64 x1, .int .i64 x2, .int .i64 x3, .int .i64 x4, .bool x5] 89)) := ⟨_, rfl⟩
    have a0 : W2.cell? ⟨q, 2, none⟩ = some (.int .i64 au) := by rw [hW2]; simp [go_sem, c2, lt, qi]
    have a1 : W2.cell? ⟨q, 3, none⟩ = some (.int .i64 ad) := by rw [hW2]; simp [go_sem, c3, lt, qi]
    have a2 : W2.cell? ⟨w.heap.size + 1, 0, none⟩ = some (.int .i64 x1) := by rw [hW2]; simp [go_sem]
    have a3 : W2.cell? ⟨w.heap.size + 1, 1, none⟩ = some (.int .i64 x2) := by rw [hW2]; simp [go_sem]
    have a4 : W2.cell? ⟨w.heap.size + 1, 2, none⟩ = some (.int .i64 x3) := by rw [hW2]; simp [go_sem]
    have a5 : W2.cell? ⟨w.heap.size + 1, 3, none⟩ = some (.int .i64 x4) := by rw [hW2]; simp [go_sem]
    have i0 : W2.cell? ⟨w.heap.size, 0, none⟩ = some (.int .i64 3) := by rw [hW2]; simp [go_sem]
    have i1 : W2.cell? ⟨w.heap.size, 1, none⟩ = some (.int .i64 s) := by rw [hW2]; simp [go_sem]
    have i2 : W2.cell? ⟨w.heap.size, 2, none⟩ = some (.slice pa np pc) := by rw [hW2]; simp [go_sem]
    have i3 : W2.cell? ⟨w.heap.size, 3, none⟩ = some (.int .i64 b1) := by rw [hW2]; simp [go_sem]
    have i4 : W2.cell? ⟨w.heap.size, 4, none⟩ = some (.int .i64 b2) := by rw [hW2]; simp [go_sem]
    have i5 : W2.cell? ⟨w.heap.size, 5, none⟩ = some (.string ly) := by rw [hW2]; simp [go_sem]
    have i6 : W2.cell? ⟨w.heap.size, 6, none⟩ = some (.slice ka n kc) := by rw [hW2]; simp [go_sem]
    have z2 : W2.heap.size = w.heap.size + 2 := by rw [hW2]; simp
    rw [← hW2] at HB2 HK1 HS2 ⊢
    clear hW2
    have z3 : w.heap.size < W2.heap.size := by omega
    have z4 : w.heap.size + 1 < W2.heap.size := by omega
    have z5 : q < W2.heap.size := by omega
    go_cut [6, 7] (fun p e wx => ∃ pb : Nat, p = .pointer (some ⟨pb, 0, none⟩) ∧ e = .int .i64 0 ∧ Below W2.heap.size W2 wx ∧ W2.heap.size ≤ pb ∧ pb < wx.heap.size ∧ wx.cell? ⟨pb, 0, none⟩ = some (.int .i64 st.1) ∧ wx.cell? ⟨pb, 1, none⟩ = some (.int .i64 st.2))
    case first =>
      go_region_law (first
        | (go_simp; go_at_call 24; refine (HP _).mono ?_; rintro e w5 ⟨rfl, hb5⟩; have h5 : Below W2.heap.size W2 w5 := (by first | exact ((Below.refl _ _).drew).trans hb5 | exact Below.trans (by go_grown) (hb5.mono (by simp))); have zz := h5.size; try (have q0 : w5.cell? ⟨w.heap.size + 2, 0, none⟩ = some (.int .i64 0) := (by rw [← z2]; exact F.keepC hb5 (by simp) (by simp [go_sem])); have q1 : w5.cell? ⟨w.heap.size + 2, 1, none⟩ = some (.int .i64 0) := (by rw [← z2]; exact F.keepC hb5 (by simp) (by simp [go_sem])); have q2 : w5.frozen? ⟨w.heap.size + 2, 0, none⟩ = false := (by rw [← z2]; exact F.keepF hb5 (by simp) (by simp [go_sem])); have q3 : w5.frozen? ⟨w.heap.size + 2, 1, none⟩ = false := (by rw [← z2]; exact F.keepF hb5 (by simp) (by simp [go_sem])); have q4 : w.heap.size + 2 < w5.heap.size := (by have := hb5.size; simp at this; omega))))
      all_goals
        go_wp2_with fail
        go_meet
        case rel => first | exact ⟨_, rfl, rfl, h5.alloc h5.size _, h5.size, by simp, by simp [go_sem, F.M.tU], by simp [go_sem, F.M.tD]⟩ | exact ⟨_, rfl, rfl, (h5.setCell (by simp; omega) _).setCell (by simp; omega) _, by omega, by simp; omega, by simp [go_sem, q0, q1, F.M.tU], by simp [go_sem, q0, q1, F.M.tD]⟩
    case rest =>
      obtain ⟨pb, rfl, rfl, h5, u1, u2, u3, u4⟩ := hcut
      have zz := h5.size
      have i0 := F.keepC h5 z3 i0
      have i1 := F.keepC h5 z3 i1
      have i2 := F.keepC h5 z3 i2
      have i3 := F.keepC h5 z3 i3
      have i4 := F.keepC h5 z3 i4
      have i5 := F.keepC h5 z3 i5
      have i6 := F.keepC h5 z3 i6
      have a4 := F.keepC h5 z4 a4
      have a5 := F.keepC h5 z4 a5
      have y3 : w.heap.size < wc.heap.size := by omega
      have y4 : w.heap.size + 1 < wc.heap.size := by omega
      have y5 : q < wc.heap.size := by omega
      all_goals
        have HB5 : Hid (Below B w wc) := HB2.out.trans (h5.mono (by omega))
        have HCh := tie_any (x3, x4) hOl a l wc q B vo au ad tm mv vN vM (.slice (some ⟨b, off + 5, none⟩) tm.length (tc - 1)) hB (HS2.out.step h5) hok hlen
        have HK4 : Hid (Kp w q vN vM wc vN vM) := HK1.out.trans (Kp.below h5)
        go_wp2_with fail
        refine HCh.mono ?_
        rintro e w6 ⟨rfl, g1, g2, g3⟩
        have G1 : Hid _ := g1
        clear g1
        go_wp2_with fail
        go_ret
        refine ⟨rfl, fun l' h0 => ?_, HB5.out.trans g2, g3⟩
        obtain ⟨y1, y2⟩ := G1.out l' h0
        exact ⟨_, y1, HK4.out.trans y2⟩

end Go.Proofs.YtaohahahhjkcdaeGreatDoor.G
