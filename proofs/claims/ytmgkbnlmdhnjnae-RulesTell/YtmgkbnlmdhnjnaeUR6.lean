/- The document's Ways: its walk. -/
import Derived.Test.YtmgkbnlmdhnjnaeUR5
import Derived.Test.YtmgkbnlmdhnjnaeRPush
namespace Go.Proofs.Ytmgkbnlmdhnjnae.U
open Go.RowKit Go.Maps Go.Sort
set_option linter.unusedVariables false
set_option linter.unusedSimpArgs false

theorem infoS : (Try.prog.info? 39).map (fun i => (i.zero, i.size, i.bytes)) = some (some (.slice none 0 0), 1, 24) := by kernel_rfl
set_option maxRecDepth 100000 in
theorem Ways_full (r : M.Ru) (ao : Option Addr) (n c : Nat) (g : Nat → Int) (bo : Option Addr) (d : Nat) (w : World) :
    Calls Try.prog 42 #[.agg #[.int .i64 r.low, .int .i64 r.high, .bool r.above, .int .i64 r.leap, .int .i64 r.classes], .slice ao n c, .slice bo n d] w fun e w' => e = .returned (.int .i64 1) ∧ Below w.heap.size w w' := by
  go_enter Try.func42, Try.ntmps42
  go_wp2_with fail
  go_returns
  exact ⟨rfl, by go_grown⟩

set_option maxRecDepth 100000 in
set_option maxHeartbeats 16000000 in
theorem Ways_less (r : M.Ru) (ao : Option Addr) (n c : Nat) (g : Nat → Int) (bo : Option Addr) (l d : Nat) (x : Nat → Int) (w : World) (hp : LI w ao n g) (hc : n ≤ c) (hcm : c ≤ 9223372036854775807) (hq : LI w bo l x) (hd : l ≤ d) (hdm : d ≤ 9223372036854775807)
    (hr : r.Ok) (hn : n ≤ 64) (hg : ∀ j, j < n → 0 ≤ g j ∧ g j ≤ 127) (hl : l < n) (hx : ∀ j, j < l → 0 ≤ x j ∧ x j ≤ 127) :
    Calls Try.prog 42 #[.agg #[.int .i64 r.low, .int .i64 r.high, .bool r.above, .int .i64 r.leap, .int .i64 r.classes], .slice ao n c, .slice bo l d] w fun e w' => e = .returned (.int .i64 (M.ct r g n (n - l) (M.stk x l) (M.sta x l))) ∧ Below w.heap.size w w' := by
  have hne : ((l : Int) == (n : Int)) = false := by simp; omega
  have hmk : ∀ w : World, _ := run_make_row' (P := Try.prog) 79 39 (.slice none 0 0) 24 Try.underlying79 infoS rfl .i64 .i64 128 (by omega) (by omega)
  have e128 : ((128 : Nat) : Int) = 128 := rfl
  rw [e128] at hmk
  generalize hRES : M.ct r g n (n - l) (M.stk x l) (M.sta x l) = RES at *
  go_enter Try.func42, Try.ntmps42
  go_wp2_with fail
  obtain ⟨W, hW⟩ : ∃ y, y = w.alloc (.cells #[.int .i64 r.low, .int .i64 r.high, .bool r.above, .int .i64 r.leap, .int .i64 r.classes] 38) := ⟨_, rfl⟩
  have hK0 : WK w W r := by
    refine ⟨by rw [hW]; go_grown, by rw [hW]; simp, ?_, ?_, ?_, ?_, ?_⟩ <;> rw [hW] <;> simp [go_sem]
  have sW : W.heap.size = w.heap.size + 1 := by rw [hW]; simp
  have hP0 : Mp (W.alloc (.cells (madeCells #[.slice none 0 0] 128) 39)) W.heap.size 0 := ⟨World.rowIs_made W _ _ _, fun k hk => by omega, by simp⟩
  rw [← hW]
  clear hW
  have hB := fun i bo l d x w hp hq hd hdm hi hil hk hpk => Breaks_any r ao n c i g bo l d x w hp hc hcm hq hd hdm hr hi hil hn hg hk hpk
  have HMK : Hid (∀ w : World, _) := hmk
  clear hmk
  go_loopw [27] (fun s wr => ∃ m : Nat, m ≤ 128 ∧ s = .int .i64 (m : Int) ∧ Mp wr (w.heap.size + 1) m ∧ WK w wr r) (fun s _ => 128 - (intOf s).toNat)
  case atStart => exact ⟨0, by omega, rfl, by rw [← sW]; exact hP0, hK0.step (by go_grown)⟩
  case round =>
    obtain ⟨m, hm, rfl, hP, hK⟩ := hrel
    by_cases hm2 : m < 128
    · have c0 := hP.row.cell (i := m) hm2
      have f0 := hP.row.frozen m
      have hPn := hP.next
      have zr := hP.row.lt
      have hrs := hK.rs
      have wm1 : IntKind.i64.wrap ((m : Int) + 1) = (m : Int) + 1 := wid (by omega) (by omega)
      have hKn := (hK.step (show Below wr.heap.size wr (wr.alloc (.cells #[.int .i64 0, .int .i64 0] 3)) by go_grown)).set (b := w.heap.size + 1) (o := m) (v := .slice (some ⟨wr.heap.size, 0, none⟩) 2 2) (by omega)
      have es := World.setCell_alloc_past (w := wr) (.cells #[.int .i64 0, .int .i64 0] 3) (w.heap.size + 1) m (.slice (some ⟨wr.heap.size, 0, none⟩) 2 2) zr
      rw [es] at hPn hKn
      clear es
      clear hB hP hK hP0 hK0
      go_wp2_with fail
      go_roundw
      case rel => exact ⟨m + 1, by omega, by push_cast; rfl, hPn, hKn⟩
      case measure => simp [intOf]; omega
    · have hme : m = 128 := by omega
      subst hme
      have hM := hP.done
      rw [e128]
      obtain ⟨wa, hwa⟩ : ∃ y, y = wr := ⟨wr, rfl⟩
      subst hwa
      clear hP hP0 hK0
      go_upto_if 38 with fail
      obtain ⟨p0, F, hS, hcase⟩ : ∃ p0 F, WS r g n l x p0 F ∧ ((l = 0 ∧ p0 = 1 ∧ F = M.f0 r g n) ∨ (1 ≤ l ∧ p0 = l ∧ ∃ k a : Nat, k < 128 ∧ a < 2 ∧ x (l - 1) = (k : Int) ∧ (a = 1 ↔ (1 < l ∧ x (l - 1) = x (l - 2))) ∧ F = M.fu (2 * k + a))) := by
        by_cases h0 : l = 0
        · subst h0
          exact ⟨1, _, WS.first r g n x (by omega), Or.inl ⟨rfl, rfl, rfl⟩⟩
        · have hxl := hx (l - 1) (by omega)
          have hk : x (l - 1) = ((x (l - 1)).toNat : Int) := by omega
          by_cases h1 : 1 < l ∧ x (l - 1) = x (l - 2)
          · exact ⟨l, _, WS.behind r g n l (x (l - 1)).toNat x 1 (by omega) hl (by omega) (by omega) hk (fun j hj => (hx j hj).1) ⟨fun _ => h1, fun _ => rfl⟩, Or.inr ⟨by omega, rfl, _, 1, by omega, by omega, hk, ⟨fun _ => h1, fun _ => rfl⟩, rfl⟩⟩
          · exact ⟨l, _, WS.behind r g n l (x (l - 1)).toNat x 0 (by omega) hl (by omega) (by omega) hk (fun j hj => (hx j hj).1) ⟨fun h => by omega, fun h => absurd h h1⟩, Or.inr ⟨by omega, rfl, _, 0, by omega, by omega, hk, ⟨fun h => by omega, fun h => absurd h h1⟩, rfl⟩⟩
      go_cut [9] (fun s wx => s = .int .i64 (p0 : Int) ∧ Mx wx (w.heap.size + 1) F ∧ WK w wx r)
      case first =>
        rcases hcase with ⟨hl0, hp0, hF0⟩ | ⟨hl1, hp0, k, a, hk, ha, hxk, hxa, hF0⟩ <;> subst p0 <;> subst F
        · have hl0' : ((l : Int) == 0) = true := by simp [hl0]
          clear hl0
          have h10 : Hid (∀ k : Nat, M.ba r g n 0 (k : Int) = 0 → (fun j => if j = 2 * k + 0 then (1 : Int) else M.f0k r g n (k : Int) j) = M.f0k r g n ((k : Int) + 1)) := fun k => M.f0_put k
          have h11 : Hid (∀ k : Nat, M.ba r g n 0 (k : Int) ≠ 0 → M.f0k r g n (k : Int) = M.f0k r g n ((k : Int) + 1)) := fun k => M.f0_skip k
          have h12 : Hid (∀ j, j < 256 → M.f0k r g n 128 j = M.f0 r g n j) := fun j hj => M.f0_all j hj
          have hM0 : Mx wa (w.heap.size + 1) (M.f0k r g n 0) := hM.congr (fun j hj => (M.f0_none j).symm)
          generalize M.f0k r g n = FK at *
          generalize M.f0 r g n = FN at *
          clear hM hS
          rw [hl0']
          go_wp2_with fail
          go_loopw [10] (fun s wr => ∃ k : Nat, k ≤ 128 ∧ s = .int .i64 (k : Int) ∧ Mx wr (w.heap.size + 1) (FK (k : Int)) ∧ WK w wr r) (fun s _ => 128 - (intOf s).toNat)
          case atStart => exact ⟨0, by omega, rfl, hM0, hK⟩
          case round =>
            obtain ⟨k, hk, rfl, hM1, hK1⟩ := hrel
            by_cases hk2 : k < 128
            · have hb1 : Below wr.heap.size wr (wr.alloc (.cells #[.int .i64 (k : Int)] 3)) := by go_grown
              have hK2 := hK1.step hb1
              have hli : LI (wr.alloc (.cells #[.int .i64 (k : Int)] 3)) (some ⟨wr.heap.size, 0, none⟩) 1 (fun _ => (k : Int)) := ⟨fun _ => ⟨_, 0, rfl, by simp, fun j hj => by
                have : j = 0 := by omega
                subst this; simp [go_sem]⟩⟩
              have HB1 := hB 0 (some ⟨wr.heap.size, 0, none⟩) 1 1 (fun _ => (k : Int)) _ (hp.step hK2.bel) hli (by omega) (by omega) (by omega) (by omega) (by omega) (fun h => by omega)
              have hz : M.bq r g n 0 (k : Int) (k : Int) (decide (1 < 0 ∧ (k : Int) = (k : Int))) = M.ba r g n 0 (k : Int) := bq_first
              rw [hz] at HB1
              clear hz
              have e0 : ((0 : Nat) : Int) = 0 := rfl
              rw [e0] at HB1
              have y0 := hK1.r0
              have y1 := hK1.r1
              have y2 := hK1.r2
              have y3 := hK1.r3
              have y4 := hK1.r4
              have ys := hK1.rs
              have wk1 : IntKind.i64.wrap ((k : Int) + 1) = (k : Int) + 1 := wid (by omega) (by omega)
              have hkI : (k : Int) < 128 := by omega
              by_cases hb : M.ba r g n 0 (k : Int) = 0
              · have h2 := h10.out k hb
                rw [hb] at HB1
                clear hB h10 h11 hM0
                go_wp2_with fail
                refine HB1.mono ?_
                rintro e w2 ⟨rfl, hb2⟩
                have hbw : Below wr.heap.size wr w2 := hb1.trans (hb2.mono (by simp))
                have hM2 := hM1.step hbw
                have hK3 := hK1.step hbw
                have m1 := hM2.row.cell (i := k) hk2
                have m2 := hM2.row.lt
                have m3 := (hM2.cells k hk2).cell (i := 0) (by omega)
                have m4 := (hM2.cells k hk2).frozen 0
                have m5 := (hM2.cells k hk2).lt
                have hset := hM2.set (k := k) (a := 0) hk2 (by omega) 1
                rw [h2] at hset
                have hKF := hK3.set (b := w.heap.size + 1 + 1 + k) (o := 0) (v := .int .i64 1) (by omega)
                clear hb2 hbw hM2 hM1 hK1 hK2 hK3 HB1 h2
                go_wp2_with fail
                go_roundw
                case rel => exact ⟨k + 1, by omega, by push_cast; rfl, by push_cast; exact hset, hKF⟩
                case measure => simp [intOf]; omega
              · have h2 := h11.out k hb
                have hb' : (M.ba r g n 0 (k : Int) == 0) = false := by simp [hb]
                rw [h2] at hM1
                generalize M.ba r g n 0 (k : Int) = BA at *
                clear hB h10 h11 hM0 hb
                go_wp2_with fail
                refine HB1.mono ?_
                rintro e w2 ⟨rfl, hb2⟩
                have hbw : Below wr.heap.size wr w2 := hb1.trans (hb2.mono (by simp))
                have hM2 := hM1.step hbw
                have hK3 := hK1.step hbw
                clear hb2 hbw hM1 hK1 hK2 HB1 h2
                go_wp2_with fail
                go_roundw
                case rel => exact ⟨k + 1, by omega, by push_cast; rfl, by push_cast; exact hM2, hK3⟩
                case measure => simp [intOf]; omega
            · have hke : k = 128 := by omega
              subst hke
              have hMF := hM1.congr (V' := FN) (fun j hj => h12.out j hj)
              clear hB h10 h11 hM0 hM1
              go_wp2_with fail
              go_meet
              case rel => exact ⟨rfl, hMF, hK1⟩
        · have hl0 : ((l : Int) == 0) = false := by simp; omega
          obtain ⟨b2, off2, rfl, hbl2, q2⟩ := hq.at' (by omega)
          have x1 := keepC hK.bel hbl2 (q2 (l - 1) (by omega))
          rw [hxk] at x1
          have zb2 : b2 < wa.heap.size := by have := hK.rs; omega
          have k3 : IntKind.i64.wrap ((l : Int) - 1) = ((l - 1 : Nat) : Int) := by rw [wid (by omega) (by omega)]; omega
          have k4 : ((l - 1 : Nat) : Int) < l := by omega
          have k6 : l - 1 < l := by omega
          have m1 := hM.row.cell (i := k) hk
          have m2 := hM.row.lt
          have hkI : (k : Int) < 128 := by omega
          have hset := hM.set (k := k) (a := a) hk ha 1
          have m3 := (hM.cells k hk).cell (i := a) ha
          have m4 := (hM.cells k hk).frozen a
          have m5 := (hM.cells k hk).lt
          have hMF : Hid (Mx (wa.setCell ⟨w.heap.size + 1 + 1 + k, a, none⟩ (.int .i64 1)) (w.heap.size + 1) (M.fu (2 * k + a))) := hset.congr (fun j hj => by unfold M.fu; rfl)
          have hKF := hK.set (b := w.heap.size + 1 + 1 + k) (o := a) (v := .int .i64 1) (by omega)
          clear hset hB hS hM
          by_cases h1 : 1 < l
          · have h1' : (1 : Int) < (l : Int) := by omega
            have x2 := keepC hK.bel hbl2 (q2 (l - 2) (by omega))
            have k9 : IntKind.i64.wrap ((l : Int) - 2) = ((l - 2 : Nat) : Int) := by rw [wid (by omega) (by omega)]; omega
            have k10 : ((l - 2 : Nat) : Int) < l := by omega
            have k11 : l - 2 < l := by omega
            by_cases he : x (l - 1) = x (l - 2)
            · have ha1 : a = 1 := hxa.2 ⟨h1, he⟩
              have he' : ((k : Int) == x (l - 2)) = true := by rw [← he, hxk]; simp
              subst ha1
              clear hxa he q2 hK
              go_wp2_with fail
              go_region
              go_wp2_with fail
              go_meet
              case rel => exact ⟨rfl, hMF.out.step (by go_grown), hKF.step (by go_grown)⟩
            · have ha0 : a = 0 := by
                by_cases e : a = 1
                · exact absurd (hxa.1 e).2 he
                · omega
              have he' : ((k : Int) == x (l - 2)) = false := by rw [← hxk]; simp [he]
              subst ha0
              clear hxa he q2 hK
              go_wp2_with fail
              go_region
              go_wp2_with fail
              go_meet
              case rel => exact ⟨rfl, hMF.out.step (by go_grown), hKF.step (by go_grown)⟩
          · have h1' : ¬ (1 : Int) < (l : Int) := by omega
            have ha0 : a = 0 := by
              by_cases e : a = 1
              · exact absurd (hxa.1 e).1 h1
              · omega
            subst ha0
            have h1d : decide ((1 : Int) < (l : Int)) = false := decide_eq_false h1'
            clear hxa q2 hK
            go_wp2_with fail
            go_quiet (fail)
            go_wp2_with fail
            go_meet
            case rel => exact ⟨rfl, hMF.out.step (below_drewN (Below.refl _ _) _), hKF.step (below_drewN (Below.refl _ _) _)⟩
      case rest =>
        obtain ⟨rfl, hM1, hK1⟩ := hcut
        have hF0 : M.fs r g n p0 F 0 = F := by funext j; exact fs_zero hS j
        have hp1 := hS.p1
        have hpn := hS.pn
        have HFb : Hid (∀ m j, 0 ≤ M.fs r g n p0 F m j ∧ M.fs r g n p0 F m j ≤ 1000000000) := fun m j => M.fs_bd r g n p0 F hS.fz m j
        have HFe : Hid (∀ m, M.nx (M.fs r g n p0 F m) (M.tr r g n (p0 + m)) 256 r.low = M.fs r g n p0 F (m + 1)) := fun m => M.nx_end hr hS.fz
        have HFr : Hid (min (M.sm (fun j => M.fs r g n p0 F (n - p0) j) 256) M.top = RES) := by show _ = _; rw [hS.res, hRES]
        have HFo : Hid (∀ m, p0 + m = 1 → ∀ k, M.fs r g n p0 F m (2 * k + 1) = 0) := fun m hm k => by
          have h0 : m = 0 := by omega
          subst h0
          rw [hF0]; exact hS.odd (by omega) k
        rw [← hF0] at hM1
        generalize M.fs r g n p0 F = Fq at *
        clear hS hF0 hcase hM hK hRES hq hx
        rename World => wb0
        go_wp2_with fail
        go_loopw [7, 9] (fun v s wr => ∃ m b : Nat, p0 + m ≤ n ∧ v = .slice (some ⟨b, 0, none⟩) 128 128 ∧ s = .int .i64 ((p0 + m : Nat) : Int) ∧ Mx wr b (Fq m) ∧ WK w wr r ∧ w.heap.size < b) (fun _ s _ => n - (intOf s).toNat)
        case atStart => exact ⟨0, w.heap.size + 1, by omega, rfl, rfl, hM1, hK1, by omega⟩
        case round =>
          obtain ⟨m, b, hmn, rfl, rfl, hM2, hK2, hwb⟩ := hrel
          by_cases hpm : p0 + m < n
          · have t1 : ((p0 + m : Nat) : Int) < (n : Int) := by omega
            obtain ⟨wx, hwx⟩ : ∃ y, y = wr := ⟨wr, rfl⟩
            subst hwx
            have hmk := HMK.out
            have hP0 : Mp (wx.alloc (.cells (madeCells #[.slice none 0 0] 128) 39)) wx.heap.size 0 := ⟨World.rowIs_made wx _ _ _, fun k hk => by omega, by simp⟩
            have hM3 := hM2.step (show Below wx.heap.size wx (wx.alloc (.cells (madeCells #[.slice none 0 0] 128) 39)) by go_grown)
            have hK3 := hK2.step (show Below wx.heap.size wx (wx.alloc (.cells (madeCells #[.slice none 0 0] 128) 39)) by go_grown)
            have hbx := hM2.lt
            clear hM1 hK1
            go_wp2_with fail
            go_loopw [96] (fun s wr => ∃ q : Nat, q ≤ 128 ∧ s = .int .i64 (q : Int) ∧ Mp wr wx.heap.size q ∧ Mx wr b (Fq m) ∧ WK w wr r) (fun s _ => 128 - (intOf s).toNat)
            case atStart => exact ⟨0, by omega, rfl, hP0, hM3, hK3⟩
            case round =>
              obtain ⟨q, hq, rfl, hP, hM, hK⟩ := hrel
              by_cases hq2 : q < 128
              · have c0 := hP.row.cell (i := q) hq2
                have f0 := hP.row.frozen q
                have hPn := hP.next
                have zr := hP.row.lt
                have wq1 : IntKind.i64.wrap ((q : Int) + 1) = (q : Int) + 1 := wid (by omega) (by omega)
                have hbe : Below wr.heap.size wr (wr.alloc (.cells #[.int .i64 0, .int .i64 0] 3)) := by go_grown
                have hKn := (hK.step hbe).set (b := wx.heap.size) (o := q) (v := .slice (some ⟨wr.heap.size, 0, none⟩) 2 2) (by omega)
                have hMn := (hM.step hbe).other (a := ⟨wx.heap.size, q, none⟩) (Or.inr (by simp; omega)) (.slice (some ⟨wr.heap.size, 0, none⟩) 2 2)
                have es := World.setCell_alloc_past (w := wr) (.cells #[.int .i64 0, .int .i64 0] 3) wx.heap.size q (.slice (some ⟨wr.heap.size, 0, none⟩) 2 2) zr
                rw [es] at hPn hKn hMn
                clear es hbe hB hP hK hM hP0 hM3 hK3 hM2 hK2
                go_wp2_with fail
                go_roundw
                case rel => exact ⟨q + 1, by omega, by push_cast; rfl, hPn, hMn, hKn⟩
                case measure => simp [intOf]; omega
              · have hqe : q = 128 := by omega
                subst hqe
                have hN := hP.done
                rw [e128]
                obtain ⟨wy, hwy⟩ : ∃ y, y = wr := ⟨wr, rfl⟩
                subst hwy
                have hU : ∀ j, 0 ≤ Fq m j ∧ Fq m j ≤ 1000000000 := HFb.out m
                have HO : Hid (p0 + m = 1 → ∀ k, Fq m (2 * k + 1) = 0) := HFo.out m
                have HE : Hid (M.nx (Fq m) (M.tr r g n (p0 + m)) 256 r.low = Fq (m + 1)) := HFe.out m
                have N0 : Mx wy wx.heap.size (M.nx (Fq m) (M.tr r g n (p0 + m)) 0 r.low) := hN.congr (fun j hj => (M.nx_start hr).symm)
                have HNb : Hid (∀ i kk j, 0 ≤ M.nx (Fq m) (M.tr r g n (p0 + m)) i kk j ∧ M.nx (Fq m) (M.tr r g n (p0 + m)) i kk j ≤ 1000000000) := fun i kk j => M.nx_bd (fun i => (hU i).1) (fun i j => M.tr_01 r g n (p0 + m) i j) i kk j
                have HNs : Hid (∀ i, Fq m i = 0 → M.nx (Fq m) (M.tr r g n (p0 + m)) i r.low = M.nx (Fq m) (M.tr r g n (p0 + m)) (i + 1) r.low) := fun i h => M.nx_skip hr h
                have HNn : Hid (∀ i, M.nx (Fq m) (M.tr r g n (p0 + m)) i (r.high + 1) = M.nx (Fq m) (M.tr r g n (p0 + m)) (i + 1) r.low) := fun i => M.nx_next hr
                have HNo : Hid (∀ i k, M.bq r g n (p0 + m) k (M.ck i) (M.ca i) ≠ 0 → M.nx (Fq m) (M.tr r g n (p0 + m)) i k = M.nx (Fq m) (M.tr r g n (p0 + m)) i (k + 1)) := fun i k h => M.nx_no h
                have HNy : Hid (∀ i j0 k, M.bq r g n (p0 + m) k (M.ck i) (M.ca i) = 0 → M.ck j0 = k → M.ca j0 = (k == M.ck i) → (fun j => if j = j0 then min (M.nx (Fq m) (M.tr r g n (p0 + m)) i k j0 + Fq m i) 1000000000 else M.nx (Fq m) (M.tr r g n (p0 + m)) i k j) = M.nx (Fq m) (M.tr r g n (p0 + m)) i (k + 1)) := fun i j0 k h h1 h2 => M.nx_yes (hU i).1 h h1 h2
                generalize M.nx (Fq m) (M.tr r g n (p0 + m)) = NX at *
                have rl0 := hr.l0
                have rlh := hr.lh
                have rhm := hr.hm
                clear hN hP hP0 hM3 hK3 hM2 hK2
                go_wp2_with fail
                go_loopw [13] (fun s wr => ∃ la : Nat, la ≤ 128 ∧ s = .int .i64 (la : Int) ∧ Mx wr b (Fq m) ∧ Mx wr wx.heap.size (NX (2 * la) r.low) ∧ WK w wr r) (fun s _ => 128 - (intOf s).toNat)
                case atStart => exact ⟨0, by omega, rfl, hM, N0, hK⟩
                case round =>
                  obtain ⟨la, hla, rfl, hMa, hNa, hKa⟩ := hrel
                  by_cases hla2 : la < 128
                  · obtain ⟨wz, hwz⟩ : ∃ y, y = wr := ⟨wr, rfl⟩
                    subst hwz
                    have hlaI : (la : Int) < 128 := by omega
                    have wl1 : IntKind.i64.wrap ((la : Int) + 1) = (la : Int) + 1 := wid (by omega) (by omega)
                    clear hM N0 hK
                    go_wp2_with fail
                    go_loopw [14] (fun s wr => ∃ sa : Nat, sa ≤ 2 ∧ s = .int .i64 (sa : Int) ∧ Mx wr b (Fq m) ∧ Mx wr wx.heap.size (NX (2 * la + sa) r.low) ∧ WK w wr r) (fun s _ => 2 - (intOf s).toNat)
                    case atStart => exact ⟨0, by omega, rfl, hMa, hNa, hKa⟩
                    case round =>
                      obtain ⟨sa, hsa, rfl, hMb, hNb, hKb⟩ := hrel
                      by_cases hsa2 : sa < 2
                      · have hsaI : (sa : Int) < 2 := by omega
                        have ws1 : IntKind.i64.wrap ((sa : Int) + 1) = (sa : Int) + 1 := wid (by omega) (by omega)
                        have d1 := hMb.row.cell (i := la) hla2
                        have d2 := hMb.row.lt
                        have d3 := (hMb.cells la hla2).cell (i := sa) hsa2
                        have d4 := (hMb.cells la hla2).lt
                        have hUi := hU (2 * la + sa)
                        have e0 := hKb.r0
                        have e1 := hKb.r1
                        have es := hKb.rs
                        by_cases hz : Fq m (2 * la + sa) = 0
                        · have hz' : (Fq m (2 * la + sa) == 0) = true := by simp [hz]
                          have hnn : Hid (NX (2 * la + sa) r.low = NX (2 * la + (sa + 1)) r.low) := HNs.out _ hz
                          rw [hnn.out] at hNb
                          clear hB HNs HNn HNo HNy HNb HE HO HFb HFe HFr HFo HMK hMa hNa hKa
                          go_wp2_with fail
                          go_roundw
                          case rel => exact ⟨sa + 1, by omega, by push_cast; rfl, hMb, hNb, hKb⟩
                          case measure => simp [intOf]; omega
                        · have hz' : (Fq m (2 * la + sa) == 0) = false := by simp [hz]
                          obtain ⟨wu, hwu⟩ : ∃ y, y = wr := ⟨wr, rfl⟩
                          subst hwu
                          clear hMa hNa hKa
                          go_wp2_with fail
                          go_loopw [15] (fun s wr => ∃ k : Nat, r.low ≤ (k : Int) ∧ (k : Int) ≤ r.high + 1 ∧ s = .int .i64 (k : Int) ∧ Mx wr b (Fq m) ∧ Mx wr wx.heap.size (NX (2 * la + sa) (k : Int)) ∧ WK w wr r) (fun s _ => (r.high + 1 - intOf s).toNat)
                          case atStart => exact ⟨r.low.toNat, by omega, by omega, by congr 1; omega, hMb, by rw [show ((r.low.toNat : Nat) : Int) = r.low by omega]; exact hNb, hKb⟩
                          case round =>
                            obtain ⟨k, hk0, hk1, rfl, hMc, hNc, hKc⟩ := hrel
                            have f0 := hKc.r0
                            have f1 := hKc.r1
                            have f2 := hKc.r2
                            have f3 := hKc.r3
                            have f4 := hKc.r4
                            have fs := hKc.rs
                            by_cases hkh : (k : Int) ≤ r.high
                            · have HEn := fun w => ended_any (p0 + m) (la : Int) sa (k : Int) w (by omega) (by omega) (by omega) (by omega) hsa2
                              have hBk : ∀ wv bq, Below wr.heap.size wr wv → EnQ wv bq (p0 + m) (la : Int) sa (k : Int) → Calls Try.prog 39 #[.agg #[.int .i64 r.low, .int .i64 r.high, .bool r.above, .int .i64 r.leap, .int .i64 r.classes], .slice ao n c, .slice (some ⟨bq, 0, none⟩) (p0 + m + 1) (p0 + m + 1), .int .i64 ((p0 + m : Nat) : Int)] wv fun e w' => e = .returned (.int .i64 (M.bq r g n (p0 + m) (k : Int) (M.ck (2 * la + sa)) (M.ca (2 * la + sa)))) ∧ Below wv.heap.size wv w' := fun wv bq hbv hq => by
                                obtain ⟨y, hy1, hy2, hy3, hy4⟩ := hq
                                have hcc := M.code_k la sa hsa2
                                have hpa : (decide (1 < p0 + m ∧ y (p0 + m - 2) = y (p0 + m - 1))) = M.ca (2 * la + sa) := by
                                  rw [hcc.2, hy3]
                                  by_cases h1 : 1 < p0 + m
                                  · by_cases h2 : sa = 1
                                    · have h3 := (hy4 h1).2 h2
                                      rw [h2, h3]; simp [h1]
                                    · have h3 : ¬ y (p0 + m - 2) = (la : Int) := fun h => h2 ((hy4 h1).1 h)
                                      have h4 : (sa == 1) = false := beq_eq_false_iff_ne.2 h2
                                      rw [h4]; simp [h3]
                                  · have h2 : sa = 0 := by
                                      by_cases h3 : sa = 1
                                      · exact absurd (by rw [h3]; exact HO.out (by omega) la) hz
                                      · omega
                                    rw [h2]; simp [h1]
                                have := hB (p0 + m) (some ⟨bq, 0, none⟩) (p0 + m + 1) (p0 + m + 1) y wv (hp.step (hKc.bel.trans (hbv.mono (Nat.le_of_lt hKc.rs)))) hy1 (by omega) (by omega) hpm (by omega) (by rw [hy2]; omega) (fun _ => by rw [hy3]; omega)
                                rw [hy2, hpa, hy3, ← hcc.1] at this
                                exact this
                              have wk1 : IntKind.i64.wrap ((k : Int) + 1) = (k : Int) + 1 := wid (by omega) (by omega)
                              have hcl := M.code_k la sa hsa2
                              have hk128 : k < 128 := by omega
                              have HNoK : Hid (M.bq r g n (p0 + m) (k : Int) (M.ck (2 * la + sa)) (M.ca (2 * la + sa)) ≠ 0 → NX (2 * la + sa) (k : Int) = NX (2 * la + sa) ((k : Int) + 1)) := HNo.out _ _
                              have HNyK : Hid (∀ j0, M.bq r g n (p0 + m) (k : Int) (M.ck (2 * la + sa)) (M.ca (2 * la + sa)) = 0 → M.ck j0 = (k : Int) → M.ca j0 = ((k : Int) == M.ck (2 * la + sa)) → (fun j => if j = j0 then min (NX (2 * la + sa) (k : Int) j0 + Fq m (2 * la + sa)) 1000000000 else NX (2 * la + sa) (k : Int) j) = NX (2 * la + sa) ((k : Int) + 1)) := fun j0 => HNy.out _ j0 _
                              have HNbK := HNb.out (2 * la + sa) (k : Int)
                              generalize M.bq r g n (p0 + m) (k : Int) (M.ck (2 * la + sa)) (M.ca (2 * la + sa)) = BQ at *
                              clear hB HNs HNn HNo HNy HNb HE HO HFb HFe HFr HFo HMK hMb hNb hKb
                              go_wp2_with fail
                              go_region_with (first
                                | (go_at_call 57; refine (HEn _).mono ?_; rintro e we ⟨rfl, hen, hbe⟩; have hwe : Below wr.heap.size wr we := Below.trans (by go_grown) (hbe.mono (by simp)); have g0 := keepC hwe fs f0; have g1 := keepC hwe fs f1; have g2 := keepC hwe fs f2; have g3 := keepC hwe fs f3; have g4 := keepC hwe fs f4; have gs : w.heap.size < we.heap.size := (by have := hwe.size; omega))
                                | (go_at_call 39; refine (hBk _ _ (hwe.trans (by go_grown)) hen).mono ?_; rintro e wf ⟨rfl, hbf⟩; have hwf : Below wr.heap.size wr wf := hwe.trans (Below.mono (by first | exact hbf | exact Below.trans (by go_grown) (hbf.mono (by simp))) hwe.size)))
                              all_goals
                                have hMd := hMc.step hwf
                                have hNd := hNc.step hwf
                                have hKd := hKc.step hwf
                                clear hBk HEn hen hbe hbf g0 g1 g2 g3 g4 gs hwe
                                by_cases hbq : BQ = 0
                                rotate_left
                                · have hbq' : (BQ != 0) = true := by simp [hbq]
                                  have hno : Hid (NX (2 * la + sa) (k : Int) = NX (2 * la + sa) ((k : Int) + 1)) := HNoK.out hbq
                                  rw [hno.out] at hNd
                                  clear HNoK HNyK hbq hno
                                  go_wp2_with fail
                                  have hdec : decide ((p0 : Int) + (m : Int) < (n : Int)) = true := decide_eq_true (by omega)
                                  refine ⟨?inv, ?measure⟩
                                  case inv =>
                                    rw [hdec]
                                    (repeat apply Exists.intro)
                                    refine ⟨?rel, ?eq⟩
                                    case eq => first | rfl | (rw [Int.natCast_add]; rfl)
                                    case rel => exact ⟨k + 1, by omega, by omega, by push_cast; rfl, hMd, by push_cast; exact hNd, hKd⟩
                                  case measure => simp [intOf]; omega
                                · have hbq' : (BQ != 0) = false := by simp [hbq]
                                  by_cases hkl : k = la
                                  · subst hkl
                                    have hkl' : ((k : Int) == (k : Int)) = true := by simp
                                    have hy : Hid ((fun j => if j = 2 * k + 1 then min (NX (2 * k + sa) (k : Int) (2 * k + 1) + Fq m (2 * k + sa)) 1000000000 else NX (2 * k + sa) (k : Int) j) = NX (2 * k + sa) ((k : Int) + 1)) := HNyK.out (2 * k + 1) hbq (M.code_k k 1 (by omega)).1 (by rw [(M.code_k k 1 (by omega)).2, hcl.1, hkl']; rfl)
                                    have nb0 := HNbK (2 * k + 1)
                                    have m1 := hNd.row.cell (i := k) hk128
                                    have m2 := hNd.row.lt
                                    have m3 := (hNd.cells k hk128).cell (i := 1) (by omega)
                                    have m4 := (hNd.cells k hk128).frozen 1
                                    have m5 := (hNd.cells k hk128).lt
                                    have v1 := hMd.row.cell (i := k) hla2
                                    have v2 := hMd.row.lt
                                    have v3 := (hMd.cells k hla2).cell (i := sa) hsa2
                                    have v4 := (hMd.cells k hla2).lt
                                    replace m3 := m3.trans (show _ = some (Value.int .i64 (NX (2 * k + sa) (k : Int) (2 * k + 1))) from rfl)
                                    replace v3 := v3.trans (show _ = some (Value.int .i64 (Fq m (2 * k + sa))) from rfl)
                                    have hkI : (k : Int) < 128 := by omega
                                    have HMo := fun w => most_any (NX (2 * k + sa) (k : Int) (2 * k + 1) + Fq m (2 * k + sa)) w
                                    have wsum : IntKind.i64.wrap (NX (2 * k + sa) (k : Int) (2 * k + 1) + Fq m (2 * k + sa)) = NX (2 * k + sa) (k : Int) (2 * k + 1) + Fq m (2 * k + sa) := wid (by omega) (by omega)
                                    clear HNoK HNyK HNbK hMc hNc hKc
                                    generalize min (NX (2 * k + sa) (k : Int) (2 * k + 1) + Fq m (2 * k + sa)) 1000000000 = MV at *
                                    generalize NX (2 * k + sa) (k : Int) (2 * k + 1) = NV at *
                                    generalize hFV : Fq m (2 * k + sa) = FV at *
                                    have hFW : Hid (Fq m (2 * k + sa) = FV) := hFV
                                    clear hFV
                                    go_wp2_with fail
                                    refine wp_region_quiet_last 22 _ rfl (by kernel_rfl) (by kernel_rfl) (by kernel_rfl) (by kernel_rfl) ?_
                                    dsimp only [List.take]
                                    repeat (quiet_step (first | (go_at_call 58; exact Calls.quiet_of_same (HMo _))))
                                    refine wpQuiet_nil ?_
                                    intro _ hw'
                                    obtain ⟨nq, hw''⟩ := hw'
                                    subst hw''
                                    have hbd : Below wf.heap.size wf (wf.drewN nq) := below_drewN (Below.refl _ _) _
                                    have hNe := hNd.step hbd
                                    have hMe := hMd.step hbd
                                    have hKe := hKd.step hbd
                                    obtain ⟨wd, hwd⟩ : ∃ x, x = wf.drewN nq := ⟨_, rfl⟩
                                    rw [← hwd] at hNe hMe hKe ⊢
                                    clear hwd hbd m1 m2 m3 m4 m5 v1 v2 v3 v4 HMo hNd hMd hKd
                                    have m3 := (hNe.cells k hk128).cell (i := 1) (by omega)
                                    have m4 := (hNe.cells k hk128).frozen 1
                                    have m5 := (hNe.cells k hk128).lt
                                    have hset := hNe.set (k := k) (a := 1) hk128 (by omega) MV
                                    rw [hy.out] at hset
                                    have hMo := hMe.other (a := ⟨wx.heap.size + 1 + k, 1, none⟩) (Or.inr (by simp; omega)) (.int .i64 MV)
                                    have hKo := hKe.set (b := wx.heap.size + 1 + k) (o := 1) (v := .int .i64 MV) (by omega)
                                    go_wp2_with fail
                                    have hdec : decide ((p0 : Int) + (m : Int) < (n : Int)) = true := decide_eq_true (by omega)
                                    refine ⟨?inv, ?measure⟩
                                    case inv =>
                                      rw [hdec, hFW.out]
                                      (repeat apply Exists.intro)
                                      refine ⟨?rel, ?eq⟩
                                      case eq => first | rfl | (rw [Int.natCast_add]; rfl)
                                      case rel => exact ⟨k + 1, by omega, by omega, by push_cast; rfl, hMo, by push_cast; exact hset, hKo⟩
                                    case measure => simp [intOf]; omega
                                  · have hkl' : ((k : Int) == (la : Int)) = false := by simp; omega
                                    have hy : Hid ((fun j => if j = 2 * k + 0 then min (NX (2 * la + sa) (k : Int) (2 * k + 0) + Fq m (2 * la + sa)) 1000000000 else NX (2 * la + sa) (k : Int) j) = NX (2 * la + sa) ((k : Int) + 1)) := HNyK.out (2 * k + 0) hbq (M.code_k k 0 (by omega)).1 (by rw [(M.code_k k 0 (by omega)).2, hcl.1, hkl']; rfl)
                                    have nb0 := HNbK (2 * k + 0)
                                    have m1 := hNd.row.cell (i := k) hk128
                                    have m2 := hNd.row.lt
                                    have m3 := (hNd.cells k hk128).cell (i := 0) (by omega)
                                    have m4 := (hNd.cells k hk128).frozen 0
                                    have m5 := (hNd.cells k hk128).lt
                                    have v1 := hMd.row.cell (i := la) hla2
                                    have v2 := hMd.row.lt
                                    have v3 := (hMd.cells la hla2).cell (i := sa) hsa2
                                    have v4 := (hMd.cells la hla2).lt
                                    replace m3 := m3.trans (show _ = some (Value.int .i64 (NX (2 * la + sa) (k : Int) (2 * k + 0))) from rfl)
                                    replace v3 := v3.trans (show _ = some (Value.int .i64 (Fq m (2 * la + sa))) from rfl)
                                    have hkI : (k : Int) < 128 := by omega
                                    have HMo := fun w => most_any (NX (2 * la + sa) (k : Int) (2 * k + 0) + Fq m (2 * la + sa)) w
                                    have wsum : IntKind.i64.wrap (NX (2 * la + sa) (k : Int) (2 * k + 0) + Fq m (2 * la + sa)) = NX (2 * la + sa) (k : Int) (2 * k + 0) + Fq m (2 * la + sa) := wid (by omega) (by omega)
                                    clear HNoK HNyK HNbK hMc hNc hKc
                                    generalize min (NX (2 * la + sa) (k : Int) (2 * k + 0) + Fq m (2 * la + sa)) 1000000000 = MV at *
                                    generalize NX (2 * la + sa) (k : Int) (2 * k + 0) = NV at *
                                    generalize hFV : Fq m (2 * la + sa) = FV at *
                                    have hFW : Hid (Fq m (2 * la + sa) = FV) := hFV
                                    clear hFV
                                    go_wp2_with fail
                                    refine wp_region_quiet_last 22 _ rfl (by kernel_rfl) (by kernel_rfl) (by kernel_rfl) (by kernel_rfl) ?_
                                    dsimp only [List.take]
                                    repeat (quiet_step (first | (go_at_call 58; exact Calls.quiet_of_same (HMo _))))
                                    refine wpQuiet_nil ?_
                                    intro _ hw'
                                    obtain ⟨nq, hw''⟩ := hw'
                                    subst hw''
                                    have hbd : Below wf.heap.size wf (wf.drewN nq) := below_drewN (Below.refl _ _) _
                                    have hNe := hNd.step hbd
                                    have hMe := hMd.step hbd
                                    have hKe := hKd.step hbd
                                    obtain ⟨wd, hwd⟩ : ∃ x, x = wf.drewN nq := ⟨_, rfl⟩
                                    rw [← hwd] at hNe hMe hKe ⊢
                                    clear hwd hbd m1 m2 m3 m4 m5 v1 v2 v3 v4 HMo hNd hMd hKd
                                    have m3 := (hNe.cells k hk128).cell (i := 0) (by omega)
                                    have m4 := (hNe.cells k hk128).frozen 0
                                    have m5 := (hNe.cells k hk128).lt
                                    have hset := hNe.set (k := k) (a := 0) hk128 (by omega) MV
                                    rw [hy.out] at hset
                                    have hMo := hMe.other (a := ⟨wx.heap.size + 1 + k, 0, none⟩) (Or.inr (by simp; omega)) (.int .i64 MV)
                                    have hKo := hKe.set (b := wx.heap.size + 1 + k) (o := 0) (v := .int .i64 MV) (by omega)
                                    go_wp2_with fail
                                    have hdec : decide ((p0 : Int) + (m : Int) < (n : Int)) = true := decide_eq_true (by omega)
                                    refine ⟨?inv, ?measure⟩
                                    case inv =>
                                      rw [hdec, hFW.out]
                                      (repeat apply Exists.intro)
                                      refine ⟨?rel, ?eq⟩
                                      case eq => first | rfl | (rw [Int.natCast_add]; rfl)
                                      case rel => exact ⟨k + 1, by omega, by omega, by push_cast; rfl, hMo, by push_cast; exact hset, hKo⟩
                                    case measure => simp [intOf]; omega
                            · have hke : (k : Int) = r.high + 1 := by omega
                              have hnn : Hid (NX (2 * la + sa) (k : Int) = NX (2 * la + (sa + 1)) r.low) := by show _ = _; rw [hke]; exact HNn.out _
                              rw [hnn.out] at hNc
                              clear hB HNs HNn HNo HNy HNb HE HO HFb HFe HFr HFo HMK hke
                              go_wp2_with fail
                              go_roundw
                              case rel => exact ⟨sa + 1, by omega, by push_cast; rfl, hMc, hNc, hKc⟩
                              case measure => simp [intOf]; omega
                      · have hse : sa = 2 := by omega
                        subst hse
                        have hnn : 2 * la + 2 = 2 * (la + 1) := by omega
                        rw [hnn] at hNb
                        clear hB HNs HNn HNo HNy HNb HE HO HFb HFe HFr HFo HMK hMa hNa hKa
                        go_wp2_with fail
                        go_roundw
                        case rel => exact ⟨la + 1, by omega, by push_cast; rfl, hMb, hNb, hKb⟩
                        case measure => simp [intOf]; omega
                  · have hle : la = 128 := by omega
                    subst hle
                    have hNe : Mx wr wx.heap.size (Fq (m + 1)) := by rw [← HE.out]; exact hNa
                    have wp1 : IntKind.i64.wrap (((p0 + m : Nat) : Int) + 1) = ((p0 + m : Nat) : Int) + 1 := wid (by omega) (by omega)
                    clear hB HNs HNn HNo HNy HNb HE HO HFb HFe HFr HFo HMK hM N0 hK hNa
                    go_wp2_with fail
                    go_roundw
                    case rel => exact ⟨m + 1, wx.heap.size, by omega, rfl, by push_cast; first | rfl | congr 1, hNe, hKa, by omega⟩
                    case measure => simp [intOf]; omega
          · have t1 : ¬ ((p0 + m : Nat) : Int) < (n : Int) := by omega
            have hme : m = n - p0 := by omega
            have hU : ∀ j, 0 ≤ Fq m j ∧ Fq m j ≤ 1000000000 := HFb.out m
            have HR : Hid (min (M.sm (Fq m) 256) 1000000000 = RES) := by show _ = _; rw [hme]; exact HFr.out
            have HSp : Hid (∀ q, 0 ≤ M.sm (Fq m) q) := fun q => M.sm_pos (fun j _ => (hU j).1)
            have HSs : Hid (∀ q, M.sm (Fq m) (q + 1) = M.sm (Fq m) q + Fq m q) := fun q => rfl
            have HS0 : Hid (M.sm (Fq m) 0 = 0) := rfl
            generalize M.sm (Fq m) = SM at *
            obtain ⟨wx, hwx⟩ : ∃ y, y = wr := ⟨wr, rfl⟩
            subst hwx
            clear hB HFb HFe HFr HFo HMK hM1 hK1 hme
            go_wp2_with fail
            go_loopw [17, 166] (fun t s wr => ∃ q : Nat, q ≤ 128 ∧ s = .int .i64 (q : Int) ∧ t = .int .i64 (min (SM (2 * q)) 1000000000) ∧ wr = wx) (fun _ s _ => 128 - (intOf s).toNat)
            case atStart => exact ⟨0, by omega, rfl, by rw [show 2 * 0 = 0 from rfl, HS0.out]; rfl, rfl⟩
            case round =>
              obtain ⟨q, hq, rfl, rfl, hwr⟩ := hrel
              subst hwr
              by_cases hq2 : q < 128
              · have hqI : (q : Int) < 128 := by omega
                have wq1 : IntKind.i64.wrap ((q : Int) + 1) = (q : Int) + 1 := wid (by omega) (by omega)
                have d1 := hM2.row.cell (i := q) hq2
                have d2 := hM2.row.lt
                have d3 := (hM2.cells q hq2).cell (i := 0) (by omega)
                have d5 := (hM2.cells q hq2).cell (i := 1) (by omega)
                have d4 := (hM2.cells q hq2).lt
                have hu0 := hU (2 * q + 0)
                have hu1 := hU (2 * q + 1)
                have hs0 := HSp.out (2 * q)
                have hs1 : Hid (SM (2 * q + 1) = SM (2 * q) + Fq m (2 * q + 0)) := HSs.out (2 * q)
                have hs2 : Hid (SM (2 * (q + 1)) = SM (2 * q + 1) + Fq m (2 * q + 1)) := HSs.out (2 * q + 1)
                have HM1 := fun w => most_any (min (SM (2 * q)) 1000000000 + Fq m (2 * q + 0)) w
                have e1 : min (min (SM (2 * q)) 1000000000 + Fq m (2 * q + 0)) 1000000000 = min (SM (2 * q + 1)) 1000000000 := by rw [hs1.out]; omega
                rw [e1] at HM1
                have hs3 : 0 ≤ SM (2 * q + 1) := HSp.out _
                have HM2 := fun w => most_any (min (SM (2 * q + 1)) 1000000000 + Fq m (2 * q + 1)) w
                have e2 : min (min (SM (2 * q + 1)) 1000000000 + Fq m (2 * q + 1)) 1000000000 = min (SM (2 * (q + 1))) 1000000000 := by rw [hs2.out]; omega
                rw [e2] at HM2
                clear e1 e2 hs1 hs2
                obtain ⟨s0, es0⟩ : ∃ y, y = min (SM (2 * q)) 1000000000 := ⟨_, rfl⟩
                obtain ⟨s1, es1⟩ : ∃ y, y = min (SM (2 * q + 1)) 1000000000 := ⟨_, rfl⟩
                obtain ⟨s2, es2⟩ : ∃ y, y = min (SM (2 * (q + 1))) 1000000000 := ⟨_, rfl⟩
                have b0 : 0 ≤ s0 ∧ s0 ≤ 1000000000 := by omega
                have b1 : 0 ≤ s1 ∧ s1 ≤ 1000000000 := by omega
                rw [← es0, ← es1] at HM1
                rw [← es1, ← es2] at HM2
                rw [← es0]
                have ES2 : Hid (s2 = min (SM (2 * (q + 1))) 1000000000) := es2
                clear es0 es1 es2 HSp HSs HS0 HR
                generalize Fq m (2 * q + 0) = u0 at *
                generalize Fq m (2 * q + 1) = u1 at *
                go_wp2_with fail
                refine (HM1 _).mono ?_
                rintro e w1 ⟨rfl, hw⟩
                rw [hw]
                clear hw
                go_wp2_with fail
                refine (HM2 _).mono ?_
                rintro e w1 ⟨rfl, hw⟩
                rw [hw]
                clear hw
                go_wp2_with fail
                go_roundw
                case rel => exact ⟨q + 1, by omega, by push_cast; rfl, by rw [ES2.out], by first | rfl | trivial⟩
                case measure => simp [intOf]; omega
              · have hqe : q = 128 := by omega
                subst hqe
                have hres := HR.out
                rw [show 2 * 128 = 256 from rfl, hres]
                clear HSp HSs HS0 HR hres
                go_wp2_with fail
                go_returns
                exact ⟨rfl, hK2.bel⟩
end Go.Proofs.Ytmgkbnlmdhnjnae.U
