/- The law ScoreMoved: its walk up to the moved piece, and behind it. -/
import Derived.Test.YthfjbjcdhgajfadGreatDoorSM40
import Derived.Test.YthfjbjcdhgajfadGreatDoorSM39
import Derived.Test.YthfjbjcdhgajfadGreatDoorSM38
import Derived.Deep.DeepCutAuto
namespace Go.Proofs.YthfjbjcdhgajfadGreatDoor.G
open Go.RowKit Go.Maps
set_option linter.unusedVariables false
set_option linter.unusedSimpArgs false

set_option maxRecDepth 20000 in
set_option maxHeartbeats 16000000 in
theorem moved_walk (ao : Option Addr) (nv vc B : Nat) (s : Nat → ByteArray) (n : Nat → Nat) (up dn : Nat → Nat → Int) (t : Nat → Nat → M.It) (i1 i2 : Int) (w : World) (hV : VL w B ao nv s n up dn t) (hg : GT w B) (hBs : B ≤ w.heap.size) (hn : nv ≤ vc) (hvc : vc ≤ 9223372036854775807) :
    Calls Tryz.prog 6 #[.slice ao nv vc, .agg #[.int .i64 i1, .int .i64 i2]] w fun e w' => e = .returned (.bool true) ∧ Below w.heap.size w w' := by
  have HRT : Hid ((M.nts nv s n up dn t).2 = 0 → M.RtN (M.nts nv s n up dn t).1) := fun h => M.nts_rt h
  have HN := fun w hV hg hBs => Notes_any ao nv vc B s n up dn t w hV hg hBs hn hvc
  have HR0 : Hid ((M.nts nv s n up dn t).2 = 0 → nv ≤ 64 ∧ ∀ k, k < nv → n k ≤ 1024) := fun h => by
    obtain ⟨a, b⟩ := M.pw_ok (M.pw_of h)
    exact ⟨a, fun k hk => (b k hk).1⟩
  have HRW : Hid ((M.nts nv s n up dn t).2 = 0 → M.pw nv s n up dn (fun a b => M.wr2 (i1, i2) (t a b)) = 0 → (M.Mv i1 i2 (M.nts nv s n up dn t).1 → M.nts nv s n up dn (fun a b => M.wr2 (i1, i2) (t a b)) = ((M.nts nv s n up dn t).1.map (M.nmv i1 i2), 0)) ∧ (¬ M.Mv i1 i2 (M.nts nv s n up dn t).1 → (M.nts nv s n up dn (fun a b => M.wr2 (i1, i2) (t a b))).2 ≠ 0)) := fun h h2 => M.nts_wr (i := (i1, i2)) h h2
  generalize M.nts nv s n up dn t = R at *
  obtain ⟨ns, er⟩ := R
  simp only at HR0 HRW HRT
  go_enter Tryz.func6, Tryz.ntmps6
  go_wp2_with fail
  have hb0 : ∀ os, Below w.heap.size w (w.alloc os) := fun os => by go_grown
  refine (J.alive_any _).mono ?_
  rintro e w1 ⟨rfl, hb1⟩
  have k1 : Below w.heap.size w w1 := (hb0 _).trans (hb1.mono (by simp))
  have z1 := hb1.size
  simp at z1
  have p0 : w1.cell? ⟨w.heap.size, 0, none⟩ = some (.int .i64 i1) := F.keepC hb1 (by simp) (by simp [go_sem])
  have p1 : w1.cell? ⟨w.heap.size, 1, none⟩ = some (.int .i64 i2) := F.keepC hb1 (by simp) (by simp [go_sem])
  clear hb1 hb0
  go_wp2_with fail
  refine (HN _ (hV.step (k1.mono hBs)) (hg.step (k1.mono hBs)) (by omega)).mono ?_
  rintro e w2 ⟨v, rfl, hown, hb2⟩
  have k2 : Below w.heap.size w w2 := k1.trans (hb2.mono k1.size)
  have z2 := hb2.size
  have r0 : w2.cell? ⟨w.heap.size, 0, none⟩ = some (.int .i64 i1) := F.keepC hb2 (by omega) p0
  have r1 : w2.cell? ⟨w.heap.size, 1, none⟩ = some (.int .i64 i2) := F.keepC hb2 (by omega) p1
  have zw : w.heap.size < w2.heap.size := by omega
  have zw1 : w.heap.size < w1.heap.size := by omega
  have z12 : w1.heap.size ≤ w2.heap.size := z2
  clear HN hb2 p0 p1
  by_cases her : er = 0
  · subst her
    obtain ⟨hnv, hnk⟩ := HR0.out rfl
    have HRW2 : Hid _ := HRW.out rfl
    have HRT2 : Hid _ := HRT.out rfl
    clear HRW HRT
    have hV2 : VL w2 B ao nv s n up dn t := hV.step (k2.mono hBs)
    have hg2 : GT w2 B := hg.step (k2.mono hBs)
    have hB2 : B ≤ w2.heap.size := by omega
    clear HR0 z1 z2
    go_wp2_with fail
    go_loopw [28, 7] (fun ix u wr => ∃ k, k ≤ nv ∧ ix = .int .i64 (k : Int) ∧ UpI wr w2.heap.size wr.heap.size (i1, i2) s n up dn t k u ∧ Below w2.heap.size w2 wr) (fun ix _ _ => nv - (intOf ix).toNat)
    case atStart => exact ⟨0, by omega, rfl, ⟨⟨fun _ => [.bool false, .bool false], World.ownsRow_nil _ _ _ _, fun _ => rfl, fun a ha => by omega⟩⟩, Below.refl _ _⟩
    case round =>
      obtain ⟨k, hkn, rfl, hup, hbr⟩ := hrel
      obtain ⟨WR, hWR⟩ : ∃ x, x = wr := ⟨wr, rfl⟩
      subst hWR
      by_cases hlt : k < nv
      · have hlt' : (k : Int) < nv := by omega
        obtain ⟨b, off, ba, bc, rfl, hbB, c0, c1, c2, c3, hBL⟩ := (hV2.step (hbr.mono hB2)).voice hlt
        have hnk' := hnk k hlt
        have zr := hbr.size
        have w3 : IntKind.i64.wrap ((k : Int) + 1) = (k : Int) + 1 := F.wid (by omega) (by omega)
        have hbW : b < WR.heap.size := by omega
        go_wp2_with fail
        have hbI : Below WR.heap.size WR ((WR.alloc (.cells #[.string (s k), .slice ba (n k) bc] 44)).alloc (.cells #[.string (s k), .slice none 0 0] 44)) := by go_grown
        have y0 : ((WR.alloc (.cells #[.string (s k), .slice ba (n k) bc] 44)).alloc (.cells #[.string (s k), .slice none 0 0] 44)).cell? ⟨WR.heap.size + 1, 0, none⟩ = some (.string (s k)) := by simp [go_sem]
        have y1 : ((WR.alloc (.cells #[.string (s k), .slice ba (n k) bc] 44)).alloc (.cells #[.string (s k), .slice none 0 0] 44)).cell? ⟨WR.heap.size + 1, 1, none⟩ = some (.slice none 0 0) := by simp [go_sem]
        have yf : ((WR.alloc (.cells #[.string (s k), .slice ba (n k) bc] 44)).alloc (.cells #[.string (s k), .slice none 0 0] 44)).frozen? ⟨WR.heap.size + 1, 1, none⟩ = false := by simp [go_sem]
        have yz : ((WR.alloc (.cells #[.string (s k), .slice ba (n k) bc] 44)).alloc (.cells #[.string (s k), .slice none 0 0] 44)).heap.size = WR.heap.size + 1 + 1 := by simp
        generalize (WR.alloc (.cells #[.string (s k), .slice ba (n k) bc] 44)).alloc (.cells #[.string (s k), .slice none 0 0] 44) = WI at *
        go_loopw [38] (fun jx wq => ∃ (j : Nat) (vB : Value) (Rw : Nat → List Value), j ≤ n k ∧ jx = .int .i64 (j : Int) ∧ wq.cell? ⟨WR.heap.size + 1, 0, none⟩ = some (.string (s k)) ∧ wq.cell? ⟨WR.heap.size + 1, 1, none⟩ = some vB ∧ wq.frozen? ⟨WR.heap.size + 1, 1, none⟩ = false ∧ wq.ownsRow (WR.heap.size + 1 + 1) 47 3 vB j (F.rows Rw j) ∧ (∀ m, (Rw m).length = 3) ∧ (∀ m, m < j → BarI wq w2.heap.size (WR.heap.size + 1) wq.heap.size (i1, i2) (up k m) (dn k m) (t k m) (Rw m)) ∧ Below (WR.heap.size + 1) WI wq) (fun jx _ => n k - (intOf jx).toNat)
        case atStart => exact ⟨0, _, fun _ => [.bool false, .bool false, .bool false], by omega, rfl, y0, y1, yf, World.ownsRow_nil _ _ _ _, fun _ => rfl, fun m hm => by omega, Below.refl _ _⟩
        case round =>
          obtain ⟨j, vB, Rw, hjn, rfl, d0, d1, df, hob, hRl, hBI, hbq⟩ := hrel
          have zq := hbq.size
          have hb2q : Below w2.heap.size w2 wr := (hbr.trans (hbI.mono hbr.size)).trans (hbq.mono (by omega))
          obtain ⟨va, vcap, rfl, va1, va2⟩ := own_form hob
          clear y0 y1 yf
          by_cases hlj : j < n k
          · have hlj' : (j : Int) < n k := by omega
            have hBq : Below B WR wr := (hbI.mono (by omega)).trans (hbq.mono (by omega))
            obtain ⟨b', off', ia, ic, rfl, hb', e0, e1, e2, e3, e4, e5⟩ := (hBL.step hBq).bar hlj
            have g0 : wr.cell? ⟨w.heap.size, 0, none⟩ = some (.int .i64 i1) := F.keepC hb2q zw r0
            have g1 : wr.cell? ⟨w.heap.size, 1, none⟩ = some (.int .i64 i2) := F.keepC hb2q zw r1
            have w4 : IntKind.i64.wrap ((j : Int) + 1) = (j : Int) + 1 := F.wid (by omega) (by omega)
            have l1 : WR.heap.size + 1 < wr.heap.size := by omega
            have l2 : b' < wr.heap.size := by omega
            have l3 : w.heap.size < wr.heap.size := by omega
            have hb3 : ∀ o1 o2 o3, Below wr.heap.size wr (((wr.alloc o1).alloc o2).alloc o3) := fun o1 o2 o3 => by go_grown
            have hI : ∀ o1 o3, (((wr.alloc o1).alloc (.cells #[.int .i64 5, .int .i64 1, .slice none 0 0, .int .i64 i1, .int .i64 i2, .string ⟨#[]⟩, .slice ia (t k j).n ic] 50)).alloc o3).heap[wr.heap.size + 1]? = some (.cells #[.int .i64 5, .int .i64 1, .slice none 0 0, .int .i64 i1, .int .i64 i2, .string ⟨#[]⟩, .slice ia (t k j).n ic] 50) := fun o1 o3 => by
              rw [heap_alloc_old _ _ (by simp)]
              have := heap_alloc_new (wr.alloc o1) (.cells #[.int .i64 5, .int .i64 1, .slice none 0 0, .int .i64 i1, .int .i64 i2, .string ⟨#[]⟩, .slice ia (t k j).n ic] 50)
              rw [World.size_alloc] at this
              exact this
            have hLL : Hid (LL wr B (t k j) ia) := e5
            have HBI : Hid (∀ m, m < j → BarI wr w2.heap.size (WR.heap.size + 1) wr.heap.size (i1, i2) (up k m) (dn k m) (t k m) (Rw m)) := hBI
            clear e5 hBI hBL hup hnk hV2 hg2 hV hg hown HRW2
            go_wp2_with (at_builtin; refine wpList_append_bar rfl (.tmp 43) (.tmp 54) rfl (WR.heap.size + 1 + 1) _ j (F.rows Rw j) rfl (F.own_step hob (hb3 _ _ _)) (wr.heap.size + 1 + 1) (up k j) (dn k j) (some ⟨wr.heap.size + 1, 0, none⟩) 1 1 rfl (by simp [go_sem]) (by simp [go_sem]) (by simp [go_sem]) (by omega) ?c2 ?_)
            case c2 => simp; omega
            intro v' w5 ho5 hg5
            have hne : ∀ g, (Value.slice va j vcap).ownBlock = some g → WR.heap.size + 1 + 1 ≤ g ∧ g < wr.heap.size := fun g hg => ⟨F.own_block hob g hg, own_lt hob g hg⟩
            have hz5 := hg5.size
            simp only [World.size_alloc] at hz5
            have hX : ∀ o, World.cell? w5 ⟨WR.heap.size + 1, o, none⟩ = World.cell? wr ⟨WR.heap.size + 1, o, none⟩ := fun o => (World.cell?_of_block (hg5.block (WR.heap.size + 1) (by simp; omega) (fun q => by have := hne _ q.symm; omega))).trans ((hb3 _ _ _).cell (p := ⟨WR.heap.size + 1, o, none⟩) l1)
            have hXf : World.frozen? w5 ⟨WR.heap.size + 1, 1, none⟩ = World.frozen? wr ⟨WR.heap.size + 1, 1, none⟩ := (World.frozen?_of_block (hg5.block (WR.heap.size + 1) (by simp; omega) (fun q => by have := hne _ q.symm; omega))).trans ((hb3 _ _ _).frozen (p := ⟨WR.heap.size + 1, 1, none⟩) l1)
            have x0 := (hX 0).trans d0
            have x1 := (hX 1).trans d1
            have xf := hXf.trans df
            have xI : w5.heap[wr.heap.size + 1]? = some (.cells #[.int .i64 5, .int .i64 1, .slice none 0 0, .int .i64 i1, .int .i64 i2, .string ⟨#[]⟩, .slice ia (t k j).n ic] 50) := (hg5.block (wr.heap.size + 1) (by simp) (fun q => by have := hne _ q.symm; omega)).trans (hI _ _)
            have xB : Below (WR.heap.size + 1) wr w5 := ((hb3 _ _ _).mono (by omega)).trans ⟨hg5.os, hg5.tape, hg5.output, hg5.size, fun b hb => hg5.block b (by simp; omega) (fun q => by have := hne _ q.symm; omega)⟩
            have xK : KT wr w5 (WR.heap.size + 1) wr.heap.size 50 := (KT.below (hb3 _ _ _)).trans (KT.grown hg5 (F.own_step hob (hb3 _ _ _)) (by decide) (by simp; omega))
            obtain ⟨xa, xc, rfl, y1, y2⟩ := own_form ho5
            have hown5 := F.own_block ho5
            have ltX : WR.heap.size + 1 < w5.heap.size := by omega
            clear hX hXf hne hg5 hb3 hI d0 d1 df
            go_wp2_with fail
            go_roundw
            case rel =>
              have xS : Below (WR.heap.size + 1) w5 (w5.setCell ⟨WR.heap.size + 1, 1, none⟩ (.slice xa (j + 1) xc)) := (Below.refl _ _).setCell (by simp) _
              have xA : Below (WR.heap.size + 1) wr (w5.setCell ⟨WR.heap.size + 1, 1, none⟩ (.slice xa (j + 1) xc)) := xB.trans xS
              refine ⟨j + 1, .slice xa (j + 1) xc, ex3 Rw j [.int .i64 (up k j), .int .i64 (dn k j), .slice (some ⟨wr.heap.size + 1, 0, none⟩) 1 1], by omega, by go_num, ?_, World.cell?_setCell_same _ _ _ x1, (World.frozen?_setCell _ _ _ _).trans xf, ?_, ex3_len hRl rfl, fun m hm => ?_, hbq.trans xA⟩
              · exact (World.cell?_setCell_other _ _ _ _ (by intro e; cases e)).trans x0
              · rw [ex3_rows]
                exact own_keep ho5 (fun g hg => heap_setCell_other _ _ _ _ (by show g ≠ WR.heap.size + 1; have := hown5 g hg; omega))
              · by_cases hmj : m = j
                · subst hmj
                  rw [ex3_same]
                  refine ⟨⟨wr.heap.size + 1, ia, ic, rfl, by omega, by simp; omega, (heap_setCell_other _ _ _ _ (by show wr.heap.size + 1 ≠ WR.heap.size + 1; omega)).trans xI, e3, e4, ?_⟩⟩
                  exact LL.mono hB2 _ _ (LL.step _ _ hLL.out (xA.mono (by omega)))
                · rw [ex3_less hmj]
                  refine ((HBI.out m (by omega)).keep (xA.mono (by omega)) (xK.trans (KT.set (Or.inl (Nat.le_refl _))))).mono (Nat.le_refl _) ?_
                  simp; omega
            case measure => simp [intOf]; omega
          · obtain rfl : j = n k := by omega
            have hlj' : ¬ ((n k : Nat) : Int) < n k := by omega
            obtain ⟨C, eU, hCl, hVo⟩ := hup.at'
            have hbW2 : Below WR.heap.size WR wr := hbI.trans (hbq.mono (by omega))
            obtain ⟨ua, uc, hua, u1, u2⟩ := own_form eU
            have eU2 := F.own_step eU hbW2
            have hb3 : ∀ os, Below wr.heap.size wr (wr.alloc os) := fun os => by go_grown
            have l1 : WR.heap.size + 1 < wr.heap.size := by omega
            clear hBL hnk hV2 hg2 hV hg hown HRW2 hup
            subst hua
            go_wp2_with (at_builtin; refine wpList_append_voice rfl (.tmp 58) (.tmp 60) rfl w2.heap.size _ k (F.rows C k) rfl (F.own_step eU2 (hb3 _)) wr.heap.size (s k) va (n k) vcap rfl (by simp [go_sem]) (by simp [go_sem]) (by omega) ?c2 ?_)
            case c2 => first | omega | (simp; omega)
            intro v' w5 ho5 hg5
            have hz5 := hg5.size
            simp only [World.size_alloc] at hz5
            have hK : ∀ tg, tg ≠ 44 → ∀ lo, KT wr w5 lo wr.heap.size tg := fun tg htg lo => (KT.below (hb3 _)).trans (KT.grown hg5 (F.own_step eU2 (hb3 _)) (fun e => htg e.symm) (by simp))
            have hKW : ∀ tg, tg ≠ 44 → ∀ lo, KT WR w5 lo WR.heap.size tg := fun tg htg lo => (KT.below hbW2).trans (fun b cs b1 b2 hb => hK tg htg lo b cs b1 (by omega) hb)
            have hne : ∀ g, (Value.slice ua k uc).ownBlock = some g → w2.heap.size ≤ g := fun g hg => F.own_block eU g hg
            have hbZ : Below w2.heap.size wr w5 := ((hb3 _).mono (by omega)).trans ⟨hg5.os, hg5.tape, hg5.output, hg5.size, fun b hb => hg5.block b (by simp; omega) (fun q => by have := hne _ q.symm; omega)⟩
            have hownB := own_lt hob
            have hbaseB := F.own_block hob
            have hob5 : w5.ownsRow (WR.heap.size + 1 + 1) 47 3 (.slice va (n k) vcap) (n k) (F.rows Rw (n k)) := by
              refine own_keep hob (fun g hg => ?_)
              rcases hob.2 with ⟨hn0, _⟩ | ⟨g', cap', cur, hsl, _, h2, _⟩
              · rw [hn0] at hg; simp [Value.ownBlock] at hg
              · have hgg : g' = g := by rw [hsl] at hg; simpa [Value.ownBlock] using hg
                subst hgg
                exact hK 47 (by decide) 0 g' cur (by have := hbaseB g' hg; omega) (hownB g' hg) h2
            have hVo5 : ∀ a, a < k → VoI w5 w2.heap.size w5.heap.size (i1, i2) (s a) (n a) (up a) (dn a) (t a) (C a) := fun a ha =>
              ((hVo a ha).keep ((hbW2.mono zr).trans hbZ) (hKW 50 (by decide) _) (fun b cs b1 b2 hb => (hKW 47 (by decide) 0) b cs (by omega) b2 hb)).mono (by omega)
            have hVk : VoI w5 w2.heap.size w5.heap.size (i1, i2) (s k) (n k) (up k) (dn k) (t k) [.string (s k), .slice va (n k) vcap] :=
              ⟨⟨_, WR.heap.size + 1 + 1, Rw, rfl, by omega, hob5, fun g hg => by have := hownB g hg; omega, hRl, fun m hm => ((hBI m hm).keep hbZ (hK 50 (by decide) _)).mono (by omega) (by omega)⟩⟩
            have hU5 : Hid (UpI w5 w2.heap.size w5.heap.size (i1, i2) s n up dn t (k + 1) v') := by
              refine ⟨⟨ex3 C k [.string (s k), .slice va (n k) vcap], by rw [ex3_rows]; exact ho5, ex3_len hCl rfl, fun a ha => ?_⟩⟩
              by_cases hak : a = k
              · subst hak; rw [ex3_same]; exact hVk
              · rw [ex3_less hak]; exact hVo5 a (by omega)
            have hb5 : Below w2.heap.size w2 w5 := hb2q.trans hbZ
            clear hK hKW hne hbZ hownB hbaseB hob5 hVo5 hVk hg5 hb3 ho5 eU eU2 hVo hBI hob
            go_wp2_with fail
            go_roundw
            case rel => first | exact ⟨k + 1, by omega, by go_num, hU5.out, hb5⟩ | ((repeat apply Exists.intro); exact ⟨⟨k + 1, by omega, by go_num, hU5.out, hb5⟩, rfl⟩)
            case measure => simp only [intOf]; omega
      · obtain rfl : k = nv := by omega
        have hlt' : ¬ (k : Int) < (k : Int) := by omega
        have zr := hbr.size
        obtain ⟨ua, uc, rfl, u1, u2, hVL⟩ := hup.VL (B := WR.heap.size) zr (Nat.le_refl _) (Nat.le_refl _)
        have hgW : GT WR WR.heap.size := (hg2.step (hbr.mono hB2)).mono (by omega)
        have HWr := Wrong_any ua k uc WR.heap.size s n up dn _ WR hVL hgW (Nat.le_refl _) u1 u2
        have HNt := fun w hV hg hBs => Notes_any ua k uc WR.heap.size s n up dn (fun a b => M.wr2 (i1, i2) (t a b)) w hV hg hBs u1 u2
        have hkW : Below w.heap.size w WR := k2.trans (hbr.mono (by omega))
        have HRX := HRW2.out
        generalize M.pw k s n up dn (fun a b => M.wr2 (i1, i2) (t a b)) = PW at *
        generalize M.nts k s n up dn (fun a b => M.wr2 (i1, i2) (t a b)) = RX at *
        have HRX' : Hid (PW = 0 → (M.Mv i1 i2 ns → RX = (ns.map (M.nmv i1 i2), 0)) ∧ (¬ M.Mv i1 i2 ns → RX.2 ≠ 0)) := HRX
        clear HRX HRW2 hup hV2 hg2 hnk
        go_wp2_with fail
        refine HWr.mono ?_
        rintro e w6 ⟨rfl, hb6⟩
        have k6 : Below w.heap.size w w6 := hkW.trans (hb6.mono hkW.size)
        by_cases hPW : PW = 0
        · subst hPW
          obtain ⟨HY, HNo⟩ := HRX'.out rfl
          have HY' : Hid (M.Mv i1 i2 ns → RX = (ns.map (M.nmv i1 i2), 0)) := HY
          have HNo' : Hid (¬ M.Mv i1 i2 ns → RX.2 ≠ 0) := HNo
          clear HY HNo HRX' HWr
          go_wp2_with fail
          refine (HNt _ (hVL.step hb6) (hgW.step hb6) hb6.size).mono ?_
          rintro e w7 ⟨vN, rfl, hownN, hb7⟩
          have k7 : Below w.heap.size w w7 := k6.trans (hb7.mono k6.size)
          obtain ⟨ns2, er2⟩ := RX
          have hb66 := hb6.size
          have hb77 := hb7.size
          have hbA : Below w2.heap.size w2 w7 := hbr.trans ((hb6.mono zr).trans (hb7.mono (by omega)))
          have hown7 := F.own_step hown hbA
          have r07 := F.keepC hbA zw r0
          have r17 := F.keepC hbA zw r1
          have z17 : w1.heap.size ≤ w7.heap.size := by omega
          have z67 : w6.heap.size ≤ w7.heap.size := hb77
          have z26 : w2.heap.size ≤ w6.heap.size := by omega
          have hlt2 : ∀ g, v.ownBlock = some g → g < w2.heap.size := own_lt hown
          obtain ⟨va, vcap, rfl, v1, v2, vg⟩ := note_form hown7
          obtain ⟨na, ncap, rfl, n1, n2, ng⟩ := note_form hownN
          clear hown hbA hb6 hb7 hbr hVL hgW HNt hkW k6 hg hV r0 r1
          go_wp2_with fail
          go_loopw [73] (fun ix wq => ∃ kk : Nat, kk ≤ ns.length ∧ ix = .int .i64 (kk : Int) ∧ wq.ownsRow w1.heap.size 58 9 (.slice va ns.length vcap) ns.length (ntL (mvL i1 i2 ns kk)) ∧ Hid (M.Mv i1 i2 (ns.take kk)) ∧ wq.ownsRow w6.heap.size 58 9 (.slice na ns2.length ncap) ns2.length (ntL ns2) ∧ Below w1.heap.size w7 wq) (fun ix _ => ns.length - (intOf ix).toNat)
          case atStart => exact ⟨0, by omega, rfl, by rw [mvL_zero]; exact hown7, fun x hx => by simp at hx, hownN, Below.refl _ _⟩
          case round =>
            obtain ⟨kk, hkk, rfl, hA, hMv, hN, hbq⟩ := hrel
            have zq := hbq.size
            have g0 := F.keepC hbq zw1 r07
            have g1 := F.keepC hbq zw1 r17
            clear hown7 hownN r07 r17
            by_cases hlk : kk < ns.length
            · have hlk' : (kk : Int) < ns.length := by omega
              obtain ⟨x, hx⟩ : ∃ e, ns[kk]? = some e := ⟨_, List.getElem?_eq_getElem hlk⟩
              obtain ⟨g, rfl, gb, gl⟩ := vg (by omega)
              have hg2 : g < w2.heap.size := hlt2 g rfl
              obtain ⟨_, _, _, _, _, c5, c6, c7, _⟩ := own_N9' (mvL_len i1 i2 ns kk) hA (mvL_get hx)
              have hrt := Proofs.YthfjbjcdhgajfadGreatDoor.M.rt_yes (HRT2.out x (List.mem_of_getElem? hx))
              have HM := fun W => refMove_one x.pl x.pa x.po i1 i2 W (by omega) (by omega)
              obtain ⟨l3, a3, o3, er3, hmv⟩ : ∃ l1 a1 o1 er, M.mv1 (x.pl, x.pa, x.po) i1 i2 = ((l1, a1, o1), er) := ⟨_, _, _, _, rfl⟩
              rw [hmv] at HM
              have hnm : Hid ((M.nmv i1 i2 x).pl = l3 ∧ (M.nmv i1 i2 x).pa = a3 ∧ (M.nmv i1 i2 x).po = o3) := ⟨by show (M.mv1 (x.pl, x.pa, x.po) i1 i2).1.1 = _; rw [hmv], by show (M.mv1 (x.pl, x.pa, x.po) i1 i2).1.2.1 = _; rw [hmv], by show (M.mv1 (x.pl, x.pa, x.po) i1 i2).1.2.2 = _; rw [hmv]⟩
              have HMv2 : Hid (er3 = 0 → M.Mv i1 i2 (ns.take (kk + 1))) := fun h => by
                intro y hy
                rw [List.take_add_one, hx] at hy
                rcases List.mem_append.1 hy with hy | hy
                · exact hMv.out y hy
                · simp at hy; subst hy; rw [hmv]; exact h
              have HNe : Hid (er3 ≠ 0 → ¬ M.Mv i1 i2 ns) := fun h q => h (by have := q x (List.mem_of_getElem? hx); rw [hmv] at this; exact this)
              have HX : Hid (ns[kk]? = some x) := hx
              have w9 : IntKind.i64.wrap ((kk : Int) + 1) = (kk : Int) + 1 := F.wid (by omega) (by omega)
              have l1' : g < wr.heap.size := by omega
              have l2' : w.heap.size < wr.heap.size := by omega
              have HAo : Hid (wr.ownsRow w1.heap.size 58 9 (.slice (some ⟨g, 0, none⟩) ns.length vcap) ns.length (ntL (mvL i1 i2 ns kk))) := hA
              have HNo2 : Hid (wr.ownsRow w6.heap.size 58 9 (.slice na ns2.length ncap) ns2.length (ntL ns2)) := hN
              clear hA hN hmv hrt hx vg ng hMv hlt2
              generalize x.pl = xl at *
              generalize x.pa = xa at *
              generalize x.po = xo at *
              go_wp2_with fail
              go_cut [15, 16] (fun p e wx => ∃ pb : Nat, p = .pointer (some ⟨pb, 0, none⟩) ∧ e = .int .i64 er3 ∧ Below wr.heap.size wr wx ∧ wr.heap.size ≤ pb ∧ pb < wx.heap.size ∧ wx.cell? ⟨pb, 0, none⟩ = some (.int .i64 l3) ∧ wx.cell? ⟨pb, 1, none⟩ = some (.int .i64 a3) ∧ wx.cell? ⟨pb, 2, none⟩ = some (.int .i64 o3))
              case first =>
                go_region_law (first
                  | (go_simp; go_at_call 18; refine (HM _).mono ?_; rintro e w5 ⟨rfl, hb5⟩; have h5 : Below wr.heap.size wr w5 := (by first | exact ((Below.refl _ _).drew).trans hb5 | exact Below.trans (by go_grown) (hb5.mono (by simp))); have zz := h5.size; try (have q0 : w5.cell? ⟨wr.heap.size, 0, none⟩ = some (.int .i64 0) := F.keepC hb5 (by simp) (by simp [go_sem]); have q1 : w5.cell? ⟨wr.heap.size, 1, none⟩ = some (.int .i64 0) := F.keepC hb5 (by simp) (by simp [go_sem]); have q2 : w5.cell? ⟨wr.heap.size, 2, none⟩ = some (.int .i64 0) := F.keepC hb5 (by simp) (by simp [go_sem]); have q3 : w5.frozen? ⟨wr.heap.size, 0, none⟩ = false := F.keepF hb5 (by simp) (by simp [go_sem]); have q4 : w5.frozen? ⟨wr.heap.size, 1, none⟩ = false := F.keepF hb5 (by simp) (by simp [go_sem]); have q5 : w5.frozen? ⟨wr.heap.size, 2, none⟩ = false := F.keepF hb5 (by simp) (by simp [go_sem]); have q6 : wr.heap.size < w5.heap.size := (by have := hb5.size; simp at this; omega))))
                all_goals
                  go_wp2_with fail
                  go_meet
                  case rel => first | exact ⟨_, rfl, rfl, h5.alloc h5.size _, h5.size, by simp, by simp [go_sem], by simp [go_sem], by simp [go_sem]⟩ | exact ⟨_, rfl, rfl, ((h5.setCell (by simp) _).setCell (by simp) _).setCell (by simp) _, Nat.le_refl _, by simp; omega, by simp [go_sem, q0, q1, q2], by simp [go_sem, q0, q1, q2], by simp [go_sem, q0, q1, q2]⟩
              case rest =>
                obtain ⟨pb, rfl, rfl, h5, u1, u2, u3, u4, u5⟩ := hcut
                have zz := h5.size
                rename World => W8
                have hA8 := F.own_step HAo.out h5
                have hN8 := F.own_step HNo2.out h5
                have d5 := F.keepC h5 l1' c5
                have d6 := F.keepC h5 l1' c6
                have d7 := F.keepC h5 l1' c7
                have e5 := World.ownsRow.frozenAt hA8 (kk * 9 + 5)
                have e6 := World.ownsRow.frozenAt hA8 (kk * 9 + 6)
                have e7 := World.ownsRow.frozenAt hA8 (kk * 9 + 7)
                have hb8 : Below w1.heap.size w7 W8 := hbq.trans (h5.mono (by omega))
                have l8 : g < W8.heap.size := by omega
                by_cases her3 : er3 = 0
                · subst her3
                  have hMv3 : Hid (M.Mv i1 i2 (ns.take (kk + 1))) := HMv2.out rfl
                  have hP := mvL_put rfl hA8 HX.out
                  obtain ⟨m1, m2, m3⟩ := hnm.out
                  rw [m1, m2, m3] at hP
                  have HP' : Hid _ := hP
                  have HN8 : Hid (W8.ownsRow w6.heap.size 58 9 (.slice na ns2.length ncap) ns2.length (ntL ns2)) := hN8
                  clear HM HMv2 HNe hnm hP hA8 hN8 m1 m2 m3 HAo HNo2 c5 c6 c7
                  go_wp2_with fail
                  go_roundw
                  case rel =>
                    have hrel9 : ∃ kk' : Nat, kk' ≤ ns.length ∧ Value.int IntKind.i64 ((kk : Int) + 1) = .int .i64 (kk' : Int) ∧ (((W8.setCell ⟨g, kk * 9 + 5, none⟩ (.int .i64 l3)).setCell ⟨g, kk * 9 + 6, none⟩ (.int .i64 a3)).setCell ⟨g, kk * 9 + 7, none⟩ (.int .i64 o3)).ownsRow w1.heap.size 58 9 (.slice (some ⟨g, 0, none⟩) ns.length vcap) ns.length (ntL (mvL i1 i2 ns kk')) ∧ Hid (M.Mv i1 i2 (ns.take kk')) ∧ (((W8.setCell ⟨g, kk * 9 + 5, none⟩ (.int .i64 l3)).setCell ⟨g, kk * 9 + 6, none⟩ (.int .i64 a3)).setCell ⟨g, kk * 9 + 7, none⟩ (.int .i64 o3)).ownsRow w6.heap.size 58 9 (.slice na ns2.length ncap) ns2.length (ntL ns2) ∧ Below w1.heap.size w7 (((W8.setCell ⟨g, kk * 9 + 5, none⟩ (.int .i64 l3)).setCell ⟨g, kk * 9 + 6, none⟩ (.int .i64 a3)).setCell ⟨g, kk * 9 + 7, none⟩ (.int .i64 o3)) := by
                      refine ⟨kk + 1, by omega, by go_num, HP'.out, hMv3, ?_, ((hb8.setCell (by simp; omega) _).setCell (by simp; omega) _).setCell (by simp; omega) _⟩
                      have K : ∀ (W : World) o u, W.ownsRow w6.heap.size 58 9 (.slice na ns2.length ncap) ns2.length (ntL ns2) → (W.setCell ⟨g, o, none⟩ u).ownsRow w6.heap.size 58 9 (.slice na ns2.length ncap) ns2.length (ntL ns2) := fun W o u h => own_keep h (fun b hb => heap_setCell_other _ _ _ _ (by show b ≠ g; have := F.own_block h b hb; omega))
                      exact K _ _ _ (K _ _ _ (K _ _ _ HN8.out))
                    first
                      | exact hrel9
                      | ((repeat apply Exists.intro); exact ⟨hrel9, rfl⟩)
                  case measure => simp only [intOf]; omega
                · have hx3 : (er3 != 0) = true := by simp [her3]
                  have hx2 : (er2 != 0) = true := by have := HNo'.out (HNe.out her3); simpa using this
                  clear HM HMv2 HNe hnm hA8 hN8 HAo HNo2 c5 c6 c7 her3 HY' HNo'
                  go_wp2_with fail
                  go_ret
                  exact ⟨rfl, k7.trans (hb8.mono (by omega))⟩
            · obtain rfl : kk = ns.length := by omega
              have hlk' : ¬ ((ns.length : Nat) : Int) < ns.length := by omega
              have hq := HY'.out (by have := hMv.out; rw [List.take_length] at this; exact this)
              simp only [Prod.mk.injEq] at hq
              obtain ⟨hq1, hq2⟩ := hq
              subst hq2
              rw [mvL_end] at hA
              have hA9 : wr.ownsRow w1.heap.size 58 9 (.slice va ns.length vcap) ns2.length (ntL ns2) := by rw [hq1, List.length_map]; exact hA
              have HSm := SameNotes_own ns2 _ _ _ _ wr hA9 hN
              have k9 : Below w.heap.size w wr := k7.trans (hbq.mono (by omega))
              clear hA hA9 hN hMv HY' HNo' hq1 vg ng
              go_wp2_with fail
              refine HSm.mono ?_
              rintro e w9 ⟨rfl, hb9⟩
              go_wp2_with fail
              go_ret
              exact ⟨rfl, k9.trans (hb9.mono k9.size)⟩
        · have hx : (PW != 0) = true := by simp [hPW]
          clear HRX' HWr HNt hPW
          go_wp2_with fail
          go_ret
          exact ⟨rfl, k6⟩
  · have her' : (er != 0) = true := by simp [her]
    clear HR0 HRW her HRT
    obtain ⟨va, vcap, rfl, _, _⟩ := own_form hown
    go_wp2_with fail
    go_ret
    exact ⟨rfl, k2⟩
end Go.Proofs.YthfjbjcdhgajfadGreatDoor.G
