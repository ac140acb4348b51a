/- What the program's asGroup makes, at every tree of right items. -/
import Derived.Test.YtaohahahhjkcdaeGreatDoorSG27
import Derived.Test.YtaohahahhjkcdaeGreatDoorSG23
import Derived.Test.YtaohahahhjkcdaeGreatDoorSG29
import Derived.Test.YtaohahahhjkcdaeGreatDoorSG15
import Derived.Deep.RegionHeld3
import Derived.Deep.AppendLies
import Derived.Deep.RegionLaw
import Derived.Deep.DeepCutAuto
import Derived.BigQuiet
namespace Go.Proofs.YtaohahahhjkcdaeGreatDoor.F
open Go.RowKit
set_option linter.unusedVariables false
set_option linter.unusedSimpArgs false

def AGC (t : G.M.It) : Prop := ∀ (sh lev m : Int) (w : World) (B : Nat) (ka : Option Addr) (kc : Nat), G.LL w B t ka → B ≤ w.heap.size → t.n ≤ kc → kc ≤ 9223372036854775807 → 0 ≤ m → m ≤ 4095 → (G.M.ri t lev m).1 = true →
  Calls Tryz.prog 22 #[.int .i64 sh, .slice ka t.n kc] w fun e w' => ∃ v', e = .returned v' ∧ LiesP w' (fun b => w.heap.size ≤ b ∧ b < w'.heap.size) (G.M.bt t sh) v' ∧ Below w.heap.size w w'

set_option maxRecDepth 20000 in
set_option maxHeartbeats 4000000 in
theorem asGroup_any (t : G.M.It) : AGC t := by
  induction t using G.M.It.ind with
  | nil => intro sh lev m w B ka kc h; exact False.elim h
  | mk k s np pl pa po b1 b2 ly n kid ih =>
    intro sh lev m w B ka kc hl hB hn hkc m1 m2 hri
    show Calls Tryz.prog 22 #[.int .i64 sh, .slice ka n kc] w _
    obtain ⟨n1, n2, hks⟩ := G.M.ri_kids _ _ _ _ _ _ _ _ _ _ _ lev m m1 m2 hri
    obtain ⟨b, off, rfl, hbl, hcl⟩ := hl (by omega)
    have hbt : G.M.bt (.mk k s np pl pa po b1 b2 ly n kid) sh = M.Bt.mk 4 sh n (fun j => if (kid j).k = 4 ∨ (kid j).k = 5 then G.M.bt (kid j) (kid j).s else M.Bt.mk 1 (kid j).s 0 (fun _ => M.Bt.nil)) := by rw [G.M.bt]
    rw [hbt]
    clear hbt hri hl
    have HK : Hid (∀ j, j < n → _) := hks
    have HC : Hid (∀ j, j < n → _) := hcl
    have HI : Hid (∀ j, AGC (kid j)) := ih
    clear hks hcl ih
    obtain ⟨K, hK⟩ : ∃ K : Nat → M.Bt, K = (fun j => if (kid j).k = 4 ∨ (kid j).k = 5 then G.M.bt (kid j) (kid j).s else M.Bt.mk 1 (kid j).s 0 (fun _ => M.Bt.nil)) := ⟨_, rfl⟩
    rw [← hK]
    have HKe : Hid (∀ j, ((kid j).k = 4 ∨ (kid j).k = 5 → K j = G.M.bt (kid j) (kid j).s) ∧ (¬ ((kid j).k = 4 ∨ (kid j).k = 5) → K j = M.Bt.mk 1 (kid j).s 0 (fun _ => M.Bt.nil))) := fun j => by
      rw [hK]; exact ⟨fun h => if_pos h, fun h => if_neg h⟩
    clear hK
    obtain ⟨i0, hi, hz0, hz1, hz2⟩ := info_parts infoBt
    have I0 : AgI w 4 sh K [] none 0 ((w.alloc (Obj.cells #[.int .i64 0, .int .i64 0, .slice none 0 0] 76)).alloc (Obj.cells #[.int .i64 4, .int .i64 sh, .slice none 0 0] 76)) :=
      ⟨by go_grown, ⟨by simp [kL], .inl ⟨rfl, rfl⟩⟩, by simp [go_sem], by simp [go_sem], by simp [go_sem], by simp [go_sem], by simp [go_sem], by simp [go_sem], by simp [go_sem], by simp [go_sem], by simp [go_sem], by simp [go_sem], by simp, fun i f h => by simp at h⟩
    go_enter Tryz.func22, Tryz.ntmps22
    go_wp2_with fail
    go_loopw [12] (fun i wr => ∃ (fs : List (Option Addr × Nat)) (xa : Option Addr) (xc : Nat), i = .int .i64 fs.length ∧ fs.length ≤ n ∧ AgI w 4 sh K fs xa xc wr) (fun i _ => n - (intOf i).toNat)
    case atStart => exact ⟨[], none, 0, rfl, by simp, I0⟩
    case round =>
      obtain ⟨fs, xa, xc, rfl, hj, hI⟩ := hrel
      have lz := hI.lz
      by_cases hlt : fs.length < n
      · obtain ⟨pa', pc', ka', kc', c0, c1, c2, c3, c4, c5, c6, d1, d2, d3, d4, d5, d6, d7⟩ := HC.out fs.length hlt
        have hbw : b < w.heap.size := by omega
        have r0 := keepC hI.b hbw c0
        have r1 := keepC hI.b hbw c1
        have r2 := keepC hI.b hbw c2
        have r3 := keepC hI.b hbw c3
        have r4 := keepC hI.b hbw c4
        have r5 := keepC hI.b hbw c5
        have r6 := keepC hI.b hbw c6
        have bz : b < wr.heap.size := by omega
        have HH := fun W => G.hasKids_any (kid fs.length).k (kid fs.length).s (kid fs.length).b1 (kid fs.length).b2 (.slice pa' (kid fs.length).np pc') (.slice ka' (kid fs.length).n kc') (kid fs.length).ly W
        have HA : Hid (AgI w 4 sh K fs xa xc wr) := hI
        have s2 := hI.c2
        have sf := hI.cf
        by_cases hkk : (kid fs.length).k = 4 ∨ (kid fs.length).k = 5
        · rw [decide_eq_true hkk] at HH
          obtain ⟨m', x1, x2, x3⟩ := (HK.out fs.length hlt).2 hkk
          have hKj := (HKe.out fs.length).1 hkk
          have HG := fun (X : World) (hb : Below w.heap.size w X) => HI.out fs.length (kid fs.length).s (lev + 1) m' X B ka' kc' (G.LL.step _ _ d7 (hb.mono hB)) (by have := hb.size; omega) d3 d4 x1 x2 x3
          clear HI HK HC HKe d7 d6 hkk hI
          go_wp2_with fail
          refine (HH _).mono ?_
          rintro e w2 ⟨rfl, hb2⟩
          have k2 : Below wr.heap.size wr w2 := Below.trans (by go_grown) (hb2.mono (by simp))
          have z2 := hb2.size
          simp at z2
          have p0 : w2.cell? ⟨wr.heap.size, 0, none⟩ = some (.int .i64 (kid fs.length).k) := keepC hb2 (by simp) (by simp [go_sem])
          have p1 : w2.cell? ⟨wr.heap.size, 1, none⟩ = some (.int .i64 (kid fs.length).s) := keepC hb2 (by simp) (by simp [go_sem])
          have p2 : w2.cell? ⟨wr.heap.size, 2, none⟩ = some (.slice pa' (kid fs.length).np pc') := keepC hb2 (by simp) (by simp [go_sem])
          have p3 : w2.cell? ⟨wr.heap.size, 3, none⟩ = some (.int .i64 (kid fs.length).b1) := keepC hb2 (by simp) (by simp [go_sem])
          have p4 : w2.cell? ⟨wr.heap.size, 4, none⟩ = some (.int .i64 (kid fs.length).b2) := keepC hb2 (by simp) (by simp [go_sem])
          have p5 : w2.cell? ⟨wr.heap.size, 5, none⟩ = some (.string (kid fs.length).ly) := keepC hb2 (by simp) (by simp [go_sem])
          have p6 : w2.cell? ⟨wr.heap.size, 6, none⟩ = some (.slice ka' (kid fs.length).n kc') := keepC hb2 (by simp) (by simp [go_sem])
          have s2' := keepC k2 lz s2
          have sf' := keepF k2 lz sf
          have lw : wr.heap.size < w2.heap.size := by omega
          have l2 : w.heap.size + 1 < w2.heap.size := by omega
          have hb02 : Below w.heap.size w w2 := HA.out.b.trans (k2.mono (by omega))
          have own2 := own_step HA.out.r k2
          clear hb2
          generalize hss : (kid fs.length).s = ss at *
          generalize hnn : (kid fs.length).n = nn at *
          go_wp2_with fail
          go_cut [26] (fun _ wx => ∃ f a2 c2', AgI w 4 sh K (fs ++ [f]) a2 c2' wx)
          case first =>
            go_region_law (first
              | (go_simp; go_at_call 22; refine (HG _ ?_).mono ?_; (exact hb02.drew); rintro e w5 ⟨v5, rfl, hl5, hb5⟩; obtain ⟨ao2, cap2, rfl⟩ := hl5.form; have h25 : Below w2.heap.size w2 w5 := ((Below.refl _ _).drew).trans hb5; have s5 := keepC h25 l2 s2'; have sf5 := keepF h25 l2 sf'; have z5 := h25.size; have l5 : w.heap.size + 1 < w5.heap.size := (by omega); have own5 := own_step own2 h25)
              | (refine step_append_lies _ (by rfl) _ _ _ (by rfl) (w.heap.size + 2) 76 i0 _ 3 40 Tryz.underlying74 hi hz0 hz1 hz2 rfl (by omega) (.slice xa fs.length xc) fs.length (kL K fs 0) (by rfl) (own5.alloc _) ⟨w5.heap.size, 0, none⟩ 1 1 [.int .i64 (G.M.bt (kid fs.length) ss).k, .int .i64 (G.M.bt (kid fs.length) ss).s, .slice ao2 (G.M.bt (kid fs.length) ss).n cap2] (by rfl) (by rfl) (World.news_of_block (cs := #[.int .i64 (G.M.bt (kid fs.length) ss).k, .int .i64 (G.M.bt (kid fs.length) ss).s, .slice ao2 (G.M.bt (kid fs.length) ss).n cap2]) (t := 76) (fr := (0, 0)) (heap_alloc_new w5 _)) (by simp [Value.oneCell']) (by omega) (by unfold maxLen; omega) (by omega) (by simp; omega) (w5.heap.size + 1) (by simp) ?_; intro gg cap w7 hown7 hgrow hat hlt7; have hw6 : Below wr.heap.size wr (w5.alloc (Obj.cells #[.int .i64 (G.M.bt (kid fs.length) ss).k, .int .i64 (G.M.bt (kid fs.length) ss).s, .slice ao2 (G.M.bt (kid fs.length) ss).n cap2] 76)) := (k2.trans (h25.mono k2.size)).alloc (by omega) _; have hbz : Below (w.heap.size + 2) wr w7 := (hw6.mono (by omega)).grown hgrow (by have := hw6.size; omega) (own_block own2); have C2 := keepC hbz (show w.heap.size + 1 < w.heap.size + 2 by omega) HA.out.c2; have F2 := keepF hbz (show w.heap.size + 1 < w.heap.size + 2 by omega) HA.out.cf; have z7 := hbz.size; have l7 : w.heap.size + 1 < w7.heap.size := (by omega)))
            all_goals
              go_wp2_with fail
              go_meet
              case rel =>
                refine ⟨(ao2, cap2), some ⟨gg, 0, none⟩, cap, HA.out.more hw6 hgrow ?_ ?_ ?_⟩
                · rw [hKj]; exact hown7
                · rcases hat with q | q
                  · exact .inl q.symm
                  · exact .inr ⟨gg, rfl, by rw [q]; simp⟩
                · rw [hKj]
                  refine LiesP.step (fun b hb => ?_) (fun b hb => ?_) _ _ hl5
                  · rw [Below.heap_alloc _ _ _ hb.2]
                  · have h1 : w2.heap.size ≤ b := hb.1
                    exact ⟨by omega, by have := hb.2; simp; omega⟩
          case rest =>
            obtain ⟨f, a2, c2', hmore⟩ := hcut
            have HM : Hid (AgI w 4 sh K (fs ++ [f]) a2 c2' _) := hmore
            clear hmore
            go_wp2_with fail
            go_roundw
            case rel => exact ⟨fs ++ [f], a2, c2', by simp, by simp; omega, HM.out⟩
            case measure => simp [intOf]; omega
        · rw [decide_eq_false hkk] at HH
          have hKj := (HKe.out fs.length).2 hkk
          clear HI HK HC HKe d7 d6 hkk hI
          go_wp2_with fail
          refine (HH _).mono ?_
          rintro e w2 ⟨rfl, hb2⟩
          have k2 : Below wr.heap.size wr w2 := Below.trans (by go_grown) (hb2.mono (by simp))
          have z2 := hb2.size
          simp at z2
          have p0 : w2.cell? ⟨wr.heap.size, 0, none⟩ = some (.int .i64 (kid fs.length).k) := keepC hb2 (by simp) (by simp [go_sem])
          have p1 : w2.cell? ⟨wr.heap.size, 1, none⟩ = some (.int .i64 (kid fs.length).s) := keepC hb2 (by simp) (by simp [go_sem])
          have p2 : w2.cell? ⟨wr.heap.size, 2, none⟩ = some (.slice pa' (kid fs.length).np pc') := keepC hb2 (by simp) (by simp [go_sem])
          have p3 : w2.cell? ⟨wr.heap.size, 3, none⟩ = some (.int .i64 (kid fs.length).b1) := keepC hb2 (by simp) (by simp [go_sem])
          have p4 : w2.cell? ⟨wr.heap.size, 4, none⟩ = some (.int .i64 (kid fs.length).b2) := keepC hb2 (by simp) (by simp [go_sem])
          have p5 : w2.cell? ⟨wr.heap.size, 5, none⟩ = some (.string (kid fs.length).ly) := keepC hb2 (by simp) (by simp [go_sem])
          have p6 : w2.cell? ⟨wr.heap.size, 6, none⟩ = some (.slice ka' (kid fs.length).n kc') := keepC hb2 (by simp) (by simp [go_sem])
          have s2' := keepC k2 lz s2
          have sf' := keepF k2 lz sf
          have lw : wr.heap.size < w2.heap.size := by omega
          have l2 : w.heap.size + 1 < w2.heap.size := by omega
          have own2 : (w2.alloc (Obj.cells #[.int .i64 1, .int .i64 (kid fs.length).s, .slice none 0 0] 76)).ownsRow (w.heap.size + 2) 76 3 (.slice xa fs.length xc) fs.length (kL K fs 0) := (own_step HA.out.r k2).alloc _
          have hw6 : Below wr.heap.size wr (w2.alloc (Obj.cells #[.int .i64 1, .int .i64 (kid fs.length).s, .slice none 0 0] 76)) := k2.alloc k2.size _
          have HCc : Hid ([.int .i64 1, .int .i64 (kid fs.length).s, .slice none 0 0] = kC (K fs.length) (none, 0)) := by
            show _ = [_, _, _]
            rw [hKj]
          have hl6 : Hid (LiesP (w2.alloc (Obj.cells #[.int .i64 1, .int .i64 (kid fs.length).s, .slice none 0 0] 76)) (fun b => wr.heap.size ≤ b ∧ b < (w2.alloc (Obj.cells #[.int .i64 1, .int .i64 (kid fs.length).s, .slice none 0 0] 76)).heap.size) (K fs.length) (.agg #[.int .i64 (K fs.length).k, .int .i64 (K fs.length).s, .slice none (K fs.length).n 0])) := by
            show LiesP _ _ _ _
            rw [hKj]
            exact ⟨none, 0, rfl, by omega, fun h => by omega⟩
          clear hb2 hKj
          generalize (kid fs.length).s = ss at *
          go_wp2_with (at_builtin; refine wpList_append_keep _ rfl (.tmp 29) (.tmp 33) 74 rfl (w.heap.size + 2) 76 i0 (.agg #[.int .i64 0, .int .i64 0, .slice none 0 0]) 3 40 Tryz.underlying74 hi hz0 hz1 hz2 rfl (by decide) _ fs.length (kL K fs 0) rfl own2 ⟨w2.heap.size, 0, none⟩ 1 1 [.int .i64 1, .int .i64 ss, .slice none 0 0] rfl rfl ?c1 ?c2 ?c3 ?c4 ?c5 (by omega) ?_)
          try (case c1 =>
            intro i u hi
            match i, hi with
            | 0, hi => simp at hi; subst hi; simp [Addr.add, go_sem]
            | 1, hi => simp at hi; subst hi; simp [Addr.add, go_sem]
            | 2, hi => simp at hi; subst hi; simp [Addr.add, go_sem])
          case c2 => first | exact ⟨rfl, rfl, rfl⟩ | (intro u hu; simp at hu; rcases hu with rfl | rfl | rfl <;> rfl)
          case c3 => unfold maxLen; omega
          case c4 => omega
          case c5 => first | omega | (simp; omega)
          intro v' w7 hown' hgrow hkp
          rw [HCc.out] at hown'
          obtain ⟨a2, c2', rfl⟩ := own_form hown'
          have hmore : Hid (AgI w 4 sh K (fs ++ [(none, 0)]) a2 c2' (w7.setCell ⟨w.heap.size + 1, 2, none⟩ (.slice a2 (fs.length + 1) c2'))) := HA.out.more hw6 hgrow hown' (by rcases hkp with q | ⟨g, q1, q2⟩; exact .inl q; exact .inr ⟨g, q1, by simpa using q2⟩) hl6.out
          have hbz : Below (w.heap.size + 2) wr w7 := (hw6.mono (by omega)).grown hgrow (by have := hw6.size; omega) (own_block own2)
          have C2 := keepC hbz (show w.heap.size + 1 < w.heap.size + 2 by omega) HA.out.c2
          have F2 := keepF hbz (show w.heap.size + 1 < w.heap.size + 2 by omega) HA.out.cf
          have z7 := hbz.size
          have l7 : w.heap.size + 1 < w7.heap.size := by omega
          clear hgrow hkp own2 hown' hl6 HCc hbz hw6 HA
          go_wp2_with fail
          go_roundw
          case rel => exact ⟨fs ++ [(none, 0)], a2, c2', by simp, by simp; omega, hmore.out⟩
          case measure => simp [intOf]; omega
      · obtain rfl : n = fs.length := by omega
        have c0 := hI.c0
        have c1 := hI.c1
        have c2 := hI.c2
        have r0 := hI.r0
        have r1 := hI.r1
        have r2 := hI.r2
        have g0 := hI.f0
        have g1 := hI.f1
        have g2 := hI.f2
        have lz1 : w.heap.size < wr.heap.size := by omega
        have blk : ∀ b, w.heap.size + 2 ≤ b → (((wr.setCell ⟨w.heap.size, 0, none⟩ (.int .i64 4)).setCell ⟨w.heap.size, 1, none⟩ (.int .i64 sh)).setCell ⟨w.heap.size, 2, none⟩ (.slice xa fs.length xc)).heap[b]? = wr.heap[b]? := fun b hb => by
          rw [heap_setCell_other _ _ _ _ (by show b ≠ w.heap.size; omega), heap_setCell_other _ _ _ _ (by show b ≠ w.heap.size; omega), heap_setCell_other _ _ _ _ (by show b ≠ w.heap.size; omega)]
        have HR : Hid (LiesP (((wr.setCell ⟨w.heap.size, 0, none⟩ (.int .i64 4)).setCell ⟨w.heap.size, 1, none⟩ (.int .i64 sh)).setCell ⟨w.heap.size, 2, none⟩ (.slice xa fs.length xc)) (fun b => w.heap.size ≤ b ∧ b < (((wr.setCell ⟨w.heap.size, 0, none⟩ (.int .i64 4)).setCell ⟨w.heap.size, 1, none⟩ (.int .i64 sh)).setCell ⟨w.heap.size, 2, none⟩ (.slice xa fs.length xc)).heap.size) (.mk 4 sh fs.length K) (.agg #[.int .i64 4, .int .i64 sh, .slice xa fs.length xc])) := by
          refine ⟨xa, xc, rfl, by omega, fun h0 => ?_⟩
          obtain ⟨g, cp, hv, d1, d2, d3, d4⟩ := own_cells hI.r h0
          obtain ⟨rfl, rfl⟩ : xa = some ⟨g, 0, none⟩ ∧ xc = cp := by simpa using hv
          refine ⟨g, 0, rfl, ⟨by omega, by simpa using d2⟩, fun j hj => ?_⟩
          obtain ⟨x, hx⟩ : ∃ x, fs[j]? = some x := ⟨fs[j], List.getElem?_eq_getElem hj⟩
          have e0 := kL_get K fs 0 j 0 x hx (by omega)
          have e1 := kL_get K fs 0 j 1 x hx (by omega)
          have e2 := kL_get K fs 0 j 2 x hx (by omega)
          rw [Nat.zero_add] at e0 e1 e2
          have hc : ∀ i, (((wr.setCell ⟨w.heap.size, 0, none⟩ (.int .i64 4)).setCell ⟨w.heap.size, 1, none⟩ (.int .i64 sh)).setCell ⟨w.heap.size, 2, none⟩ (.slice (some ⟨g, 0, none⟩) fs.length xc)).cell? ⟨g, i, none⟩ = wr.cell? ⟨g, i, none⟩ := fun i => World.cell?_of_block (w := wr) (blk g d1)
          refine ⟨x.1, x.2, ?_, ?_, ?_, ?_⟩
          · rw [hc, Nat.zero_add]; exact (d4 (j * 3 + 0) (by omega)).trans e0
          · rw [hc, Nat.zero_add]; exact (d4 _ (by omega)).trans e1
          · rw [hc, Nat.zero_add]; exact (d4 _ (by omega)).trans e2
          · exact LiesP.step (fun b hb => blk b hb.1) (fun b hb => ⟨by omega, by simpa using hb.2.1⟩) _ _ (hI.kd j x hx)
        have hbf := ((hI.b.setCell (p := ⟨w.heap.size, 0, none⟩) (Nat.le_refl _) (.int .i64 4)).setCell (p := ⟨w.heap.size, 1, none⟩) (Nat.le_refl _) (.int .i64 sh)).setCell (p := ⟨w.heap.size, 2, none⟩) (Nat.le_refl _) (.slice xa fs.length xc)
        clear blk HI HK HC HKe
        go_wp2_with fail
        refine bodyPost_ret (v := .agg #[.int .i64 4, .int .i64 sh, .slice xa fs.length xc]) (by simp [results, Tryz.results22, go_sem, r0, r1, r2]) rfl ⟨_, rfl, HR.out, hbf⟩
end Go.Proofs.YtaohahahhjkcdaeGreatDoor.F

/- What the program's moved comes to. -/
namespace Go.Proofs.YtaohahahhjkcdaeGreatDoor.G
open Go.RowKit
set_option linter.unusedVariables false
set_option linter.unusedSimpArgs false

theorem Move_one (l a o s h : Int) (w : World) (ht : Tab w) :
    Calls Tryz.prog 107 #[.agg #[.int .i64 l, .int .i64 a, .int .i64 o], .agg #[.int .i64 s, .int .i64 h]] w fun e w' => e = .returned (.tuple #[.agg #[.int .i64 (M.mv1 (l, a, o) s h).1.1, .int .i64 (M.mv1 (l, a, o) s h).1.2.1, .int .i64 (M.mv1 (l, a, o) s h).1.2.2], .int .i64 (M.mv1 (l, a, o) s h).2]) ∧ Below w.heap.size w w' := by
  cases hr : Proofs.YtaohahahhjkcdaeGreatDoor.M.rt l a o
  · have e : M.mv1 (l, a, o) s h = ((0, 0, 0), 2) := by unfold M.mv1; rw [if_pos hr]
    rw [e]; exact Move_form l a o s h w hr
  cases hi : Proofs.YtaohahahhjkcdaeGreatDoor.M.inb s h
  · have e : M.mv1 (l, a, o) s h = ((0, 0, 0), 3) := by unfold M.mv1; rw [if_neg (by simp only [hr]; simp), if_pos hi]
    rw [e]; exact Move_range l a o s h w hr hi
  · have e : M.mv1 (l, a, o) s h = ((Proofs.YtaohahahhjkcdaeGreatDoor.M.ml l a o s h, Proofs.YtaohahahhjkcdaeGreatDoor.M.ma l a o s h, Proofs.YtaohahahhjkcdaeGreatDoor.M.mo l a o s h), Proofs.YtaohahahhjkcdaeGreatDoor.M.me l a o s h) := by unfold M.mv1; rw [if_neg (by simp only [hr]; simp), if_neg (by simp only [hi]; simp)]
    rw [e]; exact Move_in l a o s h w ht hr hi

/-- How a singer's moves lie. -/
def MvL (w : World) (ma : Option Addr) (n : Nat) (ms mh : Nat → Int) : Prop := 0 < n → ∃ b, ma = some ⟨b, 0, none⟩ ∧ b < w.heap.size ∧ ∀ j, j < n → w.cell? ⟨b, j * 2, none⟩ = some (.int .i64 (ms j)) ∧ w.cell? ⟨b, j * 2 + 1, none⟩ = some (.int .i64 (mh j))

/-- What moved keeps from round to round. -/
structure MvI (w : World) (ms mh : Nat → Int) (R : (Int × Int × Int) × Int) (k : Nat) (l a o : Int) (wr : World) : Prop where
  b : Below w.heap.size w wr
  p0 : wr.cell? ⟨w.heap.size, 0, none⟩ = some (.int .i64 l)
  p1 : wr.cell? ⟨w.heap.size, 1, none⟩ = some (.int .i64 a)
  p2 : wr.cell? ⟨w.heap.size, 2, none⟩ = some (.int .i64 o)
  f0 : wr.frozen? ⟨w.heap.size, 0, none⟩ = false
  f1 : wr.frozen? ⟨w.heap.size, 1, none⟩ = false
  f2 : wr.frozen? ⟨w.heap.size, 2, none⟩ = false
  r0 : wr.cell? ⟨w.heap.size + 1, 0, none⟩ = some (.int .i64 0)
  r1 : wr.cell? ⟨w.heap.size + 1, 1, none⟩ = some (.int .i64 0)
  r2 : wr.cell? ⟨w.heap.size + 1, 2, none⟩ = some (.int .i64 0)
  g0 : wr.frozen? ⟨w.heap.size + 1, 0, none⟩ = false
  g1 : wr.frozen? ⟨w.heap.size + 1, 1, none⟩ = false
  g2 : wr.frozen? ⟨w.heap.size + 1, 2, none⟩ = false
  lz : w.heap.size + 1 < wr.heap.size
  e : M.mvd ms mh k (l, a, o) = R

/-- A move more. -/
theorem MvI.more {w wr w5 : World} {ms mh : Nat → Int} {R : (Int × Int × Int) × Int} {k : Nat} {l a o l' a' o' : Int} (h : MvI w ms mh R (k + 1) l a o wr) (hb : Below wr.heap.size wr w5) (h0 : (M.mv1 (l, a, o) (ms k) (mh k)).2 = 0) (h1 : (M.mv1 (l, a, o) (ms k) (mh k)).1 = (l', a', o')) :
    MvI w ms mh R k l' a' o' (((w5.setCell ⟨w.heap.size, 0, none⟩ (.int .i64 l')).setCell ⟨w.heap.size, 1, none⟩ (.int .i64 a')).setCell ⟨w.heap.size, 2, none⟩ (.int .i64 o')) := by
  have lz := h.lz
  have z5 := hb.size
  have q0 := F.keepC hb (show w.heap.size < wr.heap.size by omega) h.p0
  have q1 := F.keepC hb (show w.heap.size < wr.heap.size by omega) h.p1
  have q2 := F.keepC hb (show w.heap.size < wr.heap.size by omega) h.p2
  have e0 := F.keepF hb (show w.heap.size < wr.heap.size by omega) h.f0
  have e1 := F.keepF hb (show w.heap.size < wr.heap.size by omega) h.f1
  have e2 := F.keepF hb (show w.heap.size < wr.heap.size by omega) h.f2
  have t0 := F.keepC hb (show w.heap.size + 1 < wr.heap.size by omega) h.r0
  have t1 := F.keepC hb (show w.heap.size + 1 < wr.heap.size by omega) h.r1
  have t2 := F.keepC hb (show w.heap.size + 1 < wr.heap.size by omega) h.r2
  have u0 := F.keepF hb (show w.heap.size + 1 < wr.heap.size by omega) h.g0
  have u1 := F.keepF hb (show w.heap.size + 1 < wr.heap.size by omega) h.g1
  have u2 := F.keepF hb (show w.heap.size + 1 < wr.heap.size by omega) h.g2
  refine ⟨?_, by simp [go_sem, q0], by simp [go_sem, q1], by simp [go_sem, q2], by simp [go_sem, e0], by simp [go_sem, e1], by simp [go_sem, e2], by simp [go_sem, t0], by simp [go_sem, t1], by simp [go_sem, t2], by simp [go_sem, u0], by simp [go_sem, u1], by simp [go_sem, u2], by simp; omega, ?_⟩
  · exact (((h.b.trans (hb.mono (by omega))).setCell (by simp) _).setCell (by simp) _).setCell (by simp) _
  · rw [← h1, ← M.mvd_on h0]; exact h.e

set_option maxRecDepth 20000 in
set_option maxHeartbeats 4000000 in
theorem moved_any (l a o : Int) (n : Nat) (ms mh : Nat → Int) (q : Nat) (ma : Option Addr) (mc : Nat) (w : World) (ht : Tab w) (hq : q < w.heap.size) (hc : w.cell? ⟨q, 5, none⟩ = some (.slice ma n mc)) (hn : n ≤ mc) (hmc : mc ≤ 9223372036854775807) (hm : MvL w ma n ms mh) :
    Calls Tryz.prog 84 #[.pointer (some ⟨q, 0, none⟩), .agg #[.int .i64 l, .int .i64 a, .int .i64 o]] w fun e w' => e = .returned (.tuple #[.agg #[.int .i64 (M.mvd ms mh n (l, a, o)).1.1, .int .i64 (M.mvd ms mh n (l, a, o)).1.2.1, .int .i64 (M.mvd ms mh n (l, a, o)).1.2.2], .int .i64 (M.mvd ms mh n (l, a, o)).2]) ∧ Below w.heap.size w w' := by
  obtain ⟨R, hR⟩ : ∃ R, M.mvd ms mh n (l, a, o) = R := ⟨_, rfl⟩
  rw [hR]
  obtain ⟨R0, R1⟩ := R
  obtain ⟨Ra, Rb, Rc⟩ := R0
  have I0 : MvI w ms mh ((Ra, Rb, Rc), R1) n l a o ((w.alloc (Obj.cells #[.int .i64 l, .int .i64 a, .int .i64 o] 41)).alloc (Obj.cells #[.int .i64 0, .int .i64 0, .int .i64 0] 41)) :=
    ⟨by go_grown, by simp [go_sem], by simp [go_sem], by simp [go_sem], by simp [go_sem], by simp [go_sem], by simp [go_sem], by simp [go_sem], by simp [go_sem], by simp [go_sem], by simp [go_sem], by simp [go_sem], by simp [go_sem], by simp, hR⟩
  have HL : Hid (MvL w ma n ms mh) := hm
  have HT : Hid (Tab w) := ht
  clear hR hm ht
  go_enter Tryz.func84, Tryz.ntmps84
  go_wp2_with fail
  go_loopw [6] (fun i wr => ∃ (k : Nat) (l' a' o' : Int), i = .int .i64 ((k : Int) - 1) ∧ k ≤ n ∧ MvI w ms mh ((Ra, Rb, Rc), R1) k l' a' o' wr) (fun i _ => (intOf i + 1).toNat)
  case atStart => exact ⟨n, l, a, o, rfl, Nat.le_refl _, I0⟩
  case round =>
    obtain ⟨k, l', a', o', rfl, hk, hI⟩ := hrel
    have lz := hI.lz
    have HA : Hid (MvI w ms mh ((Ra, Rb, Rc), R1) k l' a' o' wr) := hI
    have p0 := hI.p0
    have p1 := hI.p1
    have p2 := hI.p2
    have f0 := hI.f0
    have f1 := hI.f1
    have f2 := hI.f2
    have r0 := hI.r0
    have r1 := hI.r1
    have r2 := hI.r2
    have g0 := hI.g0
    have g1 := hI.g1
    have g2 := hI.g2
    have l0 : w.heap.size < wr.heap.size := by omega
    have hq2 : q < wr.heap.size := by omega
    have cq := F.keepC hI.b hq hc
    cases k with
    | zero =>
      have he : Hid (M.mvd ms mh 0 (l', a', o') = _) := hI.e
      clear hI
      go_wp2_with fail
      have he2 := he.out
      rw [M.mvd] at he2
      simp only [Prod.mk.injEq] at he2
      obtain ⟨⟨rfl, rfl, rfl⟩, rfl⟩ := he2
      refine bodyPost_ret (v := .tuple #[.agg #[.int .i64 l', .int .i64 a', .int .i64 o'], .int .i64 0]) (by simp [results, Tryz.results84, go_sem, r0, r1, r2]) rfl ⟨rfl, ?_⟩
      exact (((HA.out.b.setCell (by simp) _).setCell (by simp) _).setCell (by simp) _)
    | succ k =>
      obtain ⟨b, rfl, hb, hj⟩ := HL.out (by omega)
      obtain ⟨m0, m1⟩ := hj k (by omega)
      have m0 := F.keepC hI.b hb m0
      have m1 := F.keepC hI.b hb m1
      have hb2 : b < wr.heap.size := by omega
      have HM := fun (W : World) (h : Tab W) => Move_one l' a' o' (ms k) (mh k) W h
      have hbI := hI.b
      clear hI hj
      obtain ⟨l1, a1, o1, er, hmv⟩ : ∃ l1 a1 o1 er, M.mv1 (l', a', o') (ms k) (mh k) = ((l1, a1, o1), er) := ⟨_, _, _, _, rfl⟩
      rw [hmv] at HM
      have HV : Hid (M.mv1 (l', a', o') (ms k) (mh k) = ((l1, a1, o1), er)) := hmv
      clear hmv
      have hk1 : (k : Int) < n := by omega
      have hk2 : k < n := by omega
      have hk3 : ((k + 1 : Nat) : Int) - 1 = (k : Int) := by omega
      simp only [hk3]
      have hbT : Tab w := HT.out
      go_wp2_with fail
      go_cut [7] (fun e wx => e = .int .i64 er ∧ ∃ w5, Below wr.heap.size wr w5 ∧ wx = ((w5.setCell ⟨w.heap.size, 0, none⟩ (.int .i64 l1)).setCell ⟨w.heap.size, 1, none⟩ (.int .i64 a1)).setCell ⟨w.heap.size, 2, none⟩ (.int .i64 o1))
      case first =>
        go_region_law (first
          | (go_simp; go_at_call 107; refine (HM _ ?_).mono ?_; (exact Tab.step hbT (hbI.drew)); rintro e w5 ⟨rfl, hb5⟩; have h5 : Below wr.heap.size wr w5 := ((Below.refl _ _).drew).trans hb5; have z5 := h5.size; have P0 := F.keepC h5 l0 p0; have P1 := F.keepC h5 l0 p1; have P2 := F.keepC h5 l0 p2; have F0 := F.keepF h5 l0 f0; have F1 := F.keepF h5 l0 f1; have F2 := F.keepF h5 l0 f2; have Z5 : w.heap.size < w5.heap.size := (by omega)))
        all_goals
          go_wp2_with fail
          go_meet
          case rel => exact ⟨rfl, w5, h5, rfl⟩
      case rest =>
        obtain ⟨rfl, w5, h5, rfl⟩ := hcut
        have z5 := h5.size
        have Z5 : w.heap.size < w5.heap.size := by omega
        have Z6 : w.heap.size + 1 < w5.heap.size := by omega
        have R0 := F.keepC h5 lz r0
        have R1' := F.keepC h5 lz r1
        have R2 := F.keepC h5 lz r2
        have G0 := F.keepF h5 lz g0
        have G1 := F.keepF h5 lz g1
        have G2 := F.keepF h5 lz g2
        by_cases her : er = 0
        · subst her
          have HM2 : Hid (MvI w ms mh ((Ra, Rb, Rc), R1) k l1 a1 o1 _) := HA.out.more h5 (by rw [HV.out]) (by rw [HV.out])
          clear HM
          go_wp2_with fail
          go_roundw
          case rel => exact ⟨k, l1, a1, o1, rfl, by omega, HM2.out⟩
          case measure => simp [intOf]
        · have he := HA.out.e
          rw [M.mvd_stop (by rw [HV.out]; exact her), HV.out] at he
          simp only [Prod.mk.injEq] at he
          obtain ⟨⟨rfl, rfl, rfl⟩, rfl⟩ := he
          clear HM
          go_wp2_with fail
          refine bodyPost_ret (v := .tuple #[.agg #[.int .i64 0, .int .i64 0, .int .i64 0], .int .i64 er]) (by simp [results, Tryz.results84, go_sem, R0, R1', R2]) rfl ⟨rfl, ?_⟩
          have hw5 := hbI.trans (h5.mono (by omega))
          exact ((((((hw5.setCell (by simp) _).setCell (by simp) _).setCell (by simp) _).setCell (by simp) _).setCell (by simp) _).setCell (by simp) _)
    

end Go.Proofs.YtaohahahhjkcdaeGreatDoor.G

/- How the program's singer lies in memory. -/
namespace Go.Proofs.YtaohahahhjkcdaeGreatDoor.G
open Go.RowKit
set_option linter.unusedVariables false
set_option linter.unusedSimpArgs false

def ntC (x : M.Nt) : List Value := [.int .i64 x.vo, .int .i64 x.st.1, .int .i64 x.st.2, .int .i64 x.lg.1, .int .i64 x.lg.2, .int .i64 x.pl, .int .i64 x.pa, .int .i64 x.po, .string x.ly]
def ntL : List M.Nt → List Value
  | [] => []
  | x :: l => ntC x ++ ntL l
theorem ntL_app (l r : List M.Nt) : ntL (l ++ r) = ntL l ++ ntL r := by
  induction l with
  | nil => rfl
  | cons x l ih => simp [ntL, ih]
theorem ntL_len (l : List M.Nt) : (ntL l).length = l.length * 9 := by
  induction l with
  | nil => rfl
  | cons x l ih => simp [ntL, ih, ntC, Nat.succ_mul]
theorem ntL_at (o r : List M.Nt) (x : M.Nt) (i : Nat) (hi : i < 9) : (ntL (o ++ x :: r))[o.length * 9 + i]? = (ntC x)[i]? := by
  rw [ntL_app, List.getElem?_append_right (by rw [ntL_len]; omega), ntL_len, show o.length * 9 + i - o.length * 9 = i by omega, ntL, List.getElem?_append_left (by simp [ntC]; omega)]
theorem ntL_set (o r : List M.Nt) (x : M.Nt) (f : Int × Int) : ((ntL (o ++ x :: r)).set (o.length * 9 + 3) (.int .i64 f.1)).set (o.length * 9 + 3 + 1) (.int .i64 f.2) = ntL (o ++ { x with lg := f } :: r) := by
  rw [ntL_app, ntL_app, List.set_append_right _ _ (by rw [ntL_len]; omega), List.set_append_right _ _ (by rw [ntL_len]; omega), ntL_len, show o.length * 9 + 3 - o.length * 9 = 3 by omega, show o.length * 9 + 3 + 1 - o.length * 9 = 4 by omega]
  simp [ntL, ntC]
def ivL : List (Int × Int) → List Value
  | [] => []
  | x :: l => [.int .i64 x.1, .int .i64 x.2] ++ ivL l

/-- The spans that are left. -/
def TmL (w : World) (q : Nat) (vN vM vT : Value) (tm : List F.M.Sp) : Prop := ∃ ta tc, vT = .slice ta tm.length tc ∧ tm.length ≤ tc ∧ tc ≤ 9223372036854775807 ∧ (0 < tm.length → ∃ b off, ta = some ⟨b, off, none⟩ ∧ q < b ∧ b < w.heap.size ∧ vN.ownBlock ≠ some b ∧ vM.ownBlock ≠ some b ∧ ∀ j u, (F.spL tm)[j]? = some u → w.cell? ⟨b, off + j, none⟩ = some u)

/-- A singer. -/
structure Sg (w : World) (q : Nat) (ns : List M.Nt) (vo au ad : Int) (tm : List F.M.Sp) (mv : List (Int × Int)) (hd : Nat) (vN vM vT : Value) : Prop where
  lt : q < w.heap.size
  c0 : w.cell? ⟨q, 0, none⟩ = some vN
  c1 : w.cell? ⟨q, 1, none⟩ = some (.int .i64 vo)
  c2 : w.cell? ⟨q, 2, none⟩ = some (.int .i64 au)
  c3 : w.cell? ⟨q, 3, none⟩ = some (.int .i64 ad)
  c4 : w.cell? ⟨q, 4, none⟩ = some vT
  c5 : w.cell? ⟨q, 5, none⟩ = some vM
  c6 : w.cell? ⟨q, 6, none⟩ = some (.int .i64 hd)
  fz : ∀ i, w.frozen? ⟨q, i, none⟩ = false
  n : w.ownsRow (q + 1) 43 9 vN ns.length (ntL ns)
  m : w.ownsRow (q + 1) 59 2 vM mv.length (ivL mv)
  ap : ∀ b, vN.ownBlock = some b → vM.ownBlock ≠ some b
  t : TmL w q vN vM vT tm

/-- What a singer's function keeps. -/
structure Kp (w : World) (q : Nat) (vN vM : Value) (w' : World) (vN' vM' : Value) : Prop where
  sz : w.heap.size ≤ w'.heap.size
  blk : ∀ b, b < w.heap.size → b ≠ q → vN.ownBlock ≠ some b → vM.ownBlock ≠ some b → w'.heap[b]? = w.heap[b]?
  oN : ∀ k, vN'.ownBlock = some k → vN.ownBlock = some k ∨ w.heap.size ≤ k
  oM : ∀ k, vM'.ownBlock = some k → vM.ownBlock = some k ∨ w.heap.size ≤ k
theorem Kp.below {w w' : World} {q : Nat} {vN vM : Value} (hb : Below w.heap.size w w') : Kp w q vN vM w' vN vM :=
  ⟨hb.size, fun b h _ _ _ => hb.block b h, fun k h => .inl h, fun k h => .inl h⟩
theorem Kp.trans {w w1 w2 : World} {q : Nat} {vN vM vN1 vM1 vN2 vM2 : Value} (h : Kp w q vN vM w1 vN1 vM1) (h' : Kp w1 q vN1 vM1 w2 vN2 vM2) : Kp w q vN vM w2 vN2 vM2 := by
  have z := h.sz
  refine ⟨Nat.le_trans h.sz h'.sz, fun b h1 h2 h3 h4 => ?_, fun k hk => ?_, fun k hk => ?_⟩
  · rw [h'.blk b (by omega) h2 (fun e => ?_) (fun e => ?_)]
    · exact h.blk b h1 h2 h3 h4
    · rcases h.oN b e with q | q
      · exact h3 q
      · omega
    · rcases h.oM b e with q | q
      · exact h4 q
      · omega
  · rcases h'.oN k hk with q | q
    · exact h.oN k q
    · exact .inr (by omega)
  · rcases h'.oM k hk with q | q
    · exact h.oM k q
    · exact .inr (by omega)
/-- What lies below the singer stays as it was. -/
theorem Kp.bel {w w' : World} {q B : Nat} {vN vM vN' vM' : Value} (h : Kp w q vN vM w' vN' vM') (hB : B ≤ q) (hq : q < w.heap.size) (h1 : ∀ k, vN.ownBlock = some k → q + 1 ≤ k) (h2 : ∀ k, vM.ownBlock = some k → q + 1 ≤ k) : ∀ b, b < B → w'.heap[b]? = w.heap[b]? := fun b hb =>
  h.blk b (by omega) (by omega) (fun e => by have := h1 b e; omega) (fun e => by have := h2 b e; omega)

theorem TmL.step {w w' : World} {q : Nat} {vN vM vT : Value} {tm : List F.M.Sp} (h : TmL w q vN vM vT tm) (hb : Below w.heap.size w w') : TmL w' q vN vM vT tm := by
  obtain ⟨ta, tc, h1, h2, h3, h4⟩ := h
  refine ⟨ta, tc, h1, h2, h3, fun hn => ?_⟩
  obtain ⟨b, off, g1, g2, g3, g4, g5, g6⟩ := h4 hn
  have := hb.size
  exact ⟨b, off, g1, g2, by omega, g4, g5, fun j u hj => F.keepC hb g3 (g6 j u hj)⟩
theorem Sg.step {w w' : World} {q : Nat} {ns : List M.Nt} {vo au ad : Int} {tm : List F.M.Sp} {mv : List (Int × Int)} {hd : Nat} {vN vM vT : Value} (h : Sg w q ns vo au ad tm mv hd vN vM vT) (hb : Below w.heap.size w w') : Sg w' q ns vo au ad tm mv hd vN vM vT := by
  have := hb.size
  have l := h.lt
  exact ⟨by omega, F.keepC hb l h.c0, F.keepC hb l h.c1, F.keepC hb l h.c2, F.keepC hb l h.c3, F.keepC hb l h.c4, F.keepC hb l h.c5, F.keepC hb l h.c6, fun i => F.keepF hb l (h.fz i), F.own_step h.n hb, F.own_step h.m hb, h.ap, h.t.step hb⟩

/-- Moves in a row are moves that lie. -/
theorem ivL_at (l : List (Int × Int)) : ∀ j, j < l.length → (ivL l)[j * 2]? = some (.int .i64 (l[j]?.getD (0, 0)).1) ∧ (ivL l)[j * 2 + 1]? = some (.int .i64 (l[j]?.getD (0, 0)).2) := by
  induction l with
  | nil => intro j h; simp at h
  | cons x l ih =>
    intro j h
    cases j with
    | zero => simp [ivL]
    | succ j =>
      have q := ih j (by simpa using h)
      have e1 : (j + 1) * 2 = j * 2 + 1 + 1 := by omega
      simp only [ivL, e1]
      simpa using q
theorem ivL_len (l : List (Int × Int)) : (ivL l).length = l.length * 2 := by
  induction l with
  | nil => rfl
  | cons x l ih => simp [ivL, ih]; omega
theorem mvl_of {w : World} {base : Nat} {ma : Option Addr} {mc : Nat} {mv : List (Int × Int)} (h : w.ownsRow base 59 2 (.slice ma mv.length mc) mv.length (ivL mv)) : MvL w ma mv.length (fun j => (mv[j]?.getD (0, 0)).1) (fun j => (mv[j]?.getD (0, 0)).2) := fun hn => by
  obtain ⟨g, cap, e, h1, h2, h3, h4⟩ := F.own_cells h hn
  cases e
  exact ⟨g, rfl, h2, fun j hj => ⟨(h4 _ (by omega)).trans (ivL_at mv j hj).1, (h4 _ (by omega)).trans (ivL_at mv j hj).2⟩⟩

/-- So many moves lie there, whatever they are. -/
structure Mq (w : World) (q n : Nat) : Prop where
  lt : q < w.heap.size
  fz : w.frozen? ⟨q, 5, none⟩ = false
  at' : ∃ ma mc, w.cell? ⟨q, 5, none⟩ = some (.slice ma n mc) ∧ n ≤ mc ∧ mc ≤ 9223372036854775807 ∧ (0 < n → ∃ g, ma = some ⟨g, 0, none⟩)
theorem Mq.step {w w' : World} {q n : Nat} (h : Mq w q n) (hb : Below w.heap.size w w') : Mq w' q n := by
  obtain ⟨ma, mc, h1, h2⟩ := h.at'
  exact ⟨Nat.lt_of_lt_of_le h.lt hb.size, F.keepF hb h.lt h.fz, ma, mc, F.keepC hb h.lt h1, h2⟩
theorem Mq.of {w w' : World} {q n : Nat} (h : Mq w q n) (hb : w'.heap[q]? = w.heap[q]?) (hz : q < w'.heap.size) : Mq w' q n := by
  obtain ⟨ma, mc, h1, h2⟩ := h.at'
  exact ⟨hz, (World.frozen?_of_block (w := w) (a := ⟨q, 5, none⟩) hb).trans h.fz, ma, mc, (World.cell?_of_block (w := w) (a := ⟨q, 5, none⟩) hb).trans h1, h2⟩
theorem Sg.mq {w : World} {q : Nat} {ns : List M.Nt} {vo au ad : Int} {tm : List F.M.Sp} {mv : List (Int × Int)} {hd : Nat} {vN vM vT : Value} (h : Sg w q ns vo au ad tm mv hd vN vM vT) : Mq w q mv.length := by
  refine ⟨h.lt, h.fz 5, ?_⟩
  have c5 := h.c5
  rcases h.m.2 with ⟨e, h0⟩ | ⟨g, cap, cur, e, h1, h2, h3, h4, h5⟩
  · rw [e] at c5; exact ⟨none, 0, by rw [h0]; exact c5, by omega, by omega, fun x => by omega⟩
  · rw [e] at c5; exact ⟨_, cap, c5, h3, by unfold maxLen at h4; omega, fun _ => ⟨g, rfl⟩⟩

end Go.Proofs.YtaohahahhjkcdaeGreatDoor.G

/- What the program's tie comes to. -/
namespace Go.Proofs.YtaohahahhjkcdaeGreatDoor.G
open Go.RowKit
set_option linter.unusedVariables false
set_option linter.unusedSimpArgs false

/-- What tie keeps from note to note: the notes before, made longer, and those that are left. -/
structure TiI (w : World) (B q g n cap : Nat) (a : List M.Nt) (lg : Int × Int) (l l1 l2 : List M.Nt) (wr : World) : Prop where
  e : M.tl lg l = (M.tl lg l2).map fun l' => l1 ++ l'
  ln : l1.length + l2.length = l.length
  r : wr.ownsRow (q + 1) 43 9 (.slice (some ⟨g, 0, none⟩) n cap) n (ntL (a ++ l1 ++ l2))
  k : ∀ b, b < w.heap.size → b ≠ g → wr.heap[b]? = w.heap[b]?
  lz : w.heap.size < wr.heap.size
  p0 : wr.cell? ⟨w.heap.size, 0, none⟩ = some (.int .i64 lg.1)
  p1 : wr.cell? ⟨w.heap.size, 1, none⟩ = some (.int .i64 lg.2)
  ok : ∀ x ∈ l2, F.M.Ok x.lg
  bel : Below B w wr

set_option maxRecDepth 20000 in
set_option maxHeartbeats 4000000 in
theorem tie_loop (lg : Int × Int) (hl : F.M.Ok lg) (a l : List M.Nt) (w : World) (q B g cap : Nat) (hB : B ≤ q) (hq : q < w.heap.size) (hg : q < g) (hg2 : g < w.heap.size) (hl1 : 0 < l.length) (hl0 : l.length < 1099511627776) (ha0 : a.length < 1099511627776) (hcap : a.length + l.length ≤ cap) (hcap2 : cap ≤ 9223372036854775807)
    (c0 : w.cell? ⟨q, 0, none⟩ = some (.slice (some ⟨g, 0, none⟩) (a.length + l.length) cap)) (c6 : w.cell? ⟨q, 6, none⟩ = some (.int .i64 l.length)) (hr : w.ownsRow (q + 1) 43 9 (.slice (some ⟨g, 0, none⟩) (a.length + l.length) cap) (a.length + l.length) (ntL (a ++ l))) (hok : ∀ x ∈ l, F.M.Ok x.lg) :
    Calls Tryz.prog 65 #[.pointer (some ⟨q, 0, none⟩), .agg #[.int .i64 lg.1, .int .i64 lg.2]] w fun e w' => e = .returned (.int .i64 (M.tlE (M.tl lg l))) ∧ (∀ l', M.tl lg l = some l' → w'.ownsRow (q + 1) 43 9 (.slice (some ⟨g, 0, none⟩) (a.length + l.length) cap) (a.length + l.length) (ntL (a ++ l')) ∧ (∀ b, b < w.heap.size → b ≠ g → w'.heap[b]? = w.heap[b]?) ∧ w.heap.size ≤ w'.heap.size) ∧ Below B w w' ∧ w'.heap[q]? = w.heap[q]? ∧ q < w'.heap.size := by
  have I0 : TiI w B q g (a.length + l.length) cap a lg l [] l (w.alloc (Obj.cells #[.int .i64 lg.1, .int .i64 lg.2] 36)) :=
    ⟨by simp, by simp, by simpa using hr.alloc _, fun b hb hne => Below.heap_alloc _ _ _ hb, by simp, by simp [go_sem], by simp [go_sem], hok, (Below.alloc (Below.refl _ _) (by omega) _)⟩
  have HI0 : Hid (∀ k, TiI w B q g (a.length + l.length) cap a lg l [] l ((w.alloc (Obj.cells #[.int .i64 lg.1, .int .i64 lg.2] 36)).drewN k)) := fun k => ⟨I0.e, I0.ln, I0.r, I0.k, I0.lz, I0.p0, I0.p1, I0.ok, I0.bel.trans ⟨rfl, rfl, rfl, Nat.le_refl _, fun _ _ => rfl⟩⟩
  have HP := fun (x : M.Nt) (hx : F.M.Ok x.lg) (W : World) => F.Plus_o x.lg lg W hx hl
  clear I0 hok hr
  generalize hA : a.length = A at *
  generalize hH : l.length = H at *
  have i1 : ((A + H : Nat) : Int) - (H : Int) = (A : Int) := by omega
  have i2 : (A : Int) + (H : Int) - (H : Int) = (A : Int) := by omega
  have n1 : ¬ cap = A := by omega
  have n2 : ¬ A = cap := by omega
  have n3 : A < cap := by omega
  go_enter Tryz.func65, Tryz.ntmps65
  go_wp2_with fail
  go_quiet (fail)
  go_wp2_with fail
  go_loopw [25] (fun i wr => ∃ l1 l2, i = .int .i64 (l1.length : Nat) ∧ TiI w B q g (A + H) cap a lg l l1 l2 wr) (fun i _ => H - (intOf i).toNat)
  case atStart => exact ⟨[], l, rfl, HI0.out _⟩
  case round =>
    obtain ⟨l1, l2, rfl, hI⟩ := hrel
    have lz := hI.lz
    have p0 := hI.p0
    have p1 := hI.p1
    have ln := hI.ln
    rw [hH] at ln
    have HA : Hid (TiI w B q g (A + H) cap a lg l l1 l2 wr) := hI
    cases l2 with
    | nil =>
      have hn : l1.length = H := by simpa using ln
      have hR : M.tl lg l = some l1 := by rw [hI.e]; simp [M.tl]
      have HR : Hid (M.tl lg l = some l1) := hR
      have bel : Hid (Below B w wr) := hI.bel
      clear hI hR
      rw [hn]
      go_wp2_with fail
      go_ret
      refine ⟨by rw [HR.out]; rfl, fun l' hl' => ?_, bel.out, HA.out.k q hq (by omega), by omega⟩
      rw [HR.out] at hl'
      simp only [Option.some.injEq] at hl'
      subst hl'
      have r := HA.out.r
      simp only [List.append_nil] at r
      exact ⟨r, HA.out.k, Nat.le_of_lt lz⟩
    | cons x r =>
      have hlt : l1.length < H := by simp at ln; omega
      obtain ⟨g', cap', e, h1, h2, h3, h4⟩ := F.own_cells hI.r (by omega)
      cases e
      have en : (a ++ l1).length = A + l1.length := by simp [hA]
      have q3 : wr.cell? ⟨g, A * 9 + l1.length * 9 + 3, none⟩ = some (.int .i64 x.lg.1) := by
        have := ntL_at (a ++ l1) r x 3 (by omega)
        rw [en, Nat.add_mul] at this
        exact (h4 _ (by omega)).trans this
      have q4 : wr.cell? ⟨g, A * 9 + l1.length * 9 + 3 + 1, none⟩ = some (.int .i64 x.lg.2) := by
        have := ntL_at (a ++ l1) r x 4 (by omega)
        rw [en, Nat.add_mul] at this
        exact (h4 _ (by omega)).trans this
      have f3 := hI.r.frozenAt (A * 9 + l1.length * 9 + 3)
      have f4 := hI.r.frozenAt (A * 9 + l1.length * 9 + 3 + 1)
      have HP1 := HP x (hI.ok x (List.mem_cons_self ..))
      have HS : Hid (∀ f : Int × Int, ((ntL (a ++ l1 ++ x :: r)).set (A * 9 + l1.length * 9 + 3) (.int .i64 f.1)).set (A * 9 + l1.length * 9 + 3 + 1) (.int .i64 f.2) = ntL (a ++ l1 ++ { x with lg := f } :: r)) := fun f => by
        have := ntL_set (a ++ l1) r x f
        rw [en, Nat.add_mul] at this
        exact this
      have gz : g < wr.heap.size := h2
      have hlt' : (l1.length : Int) < H := by omega
      have wg : w.heap.size ≠ g := by omega
      have hEn : Hid (TiI w B q g (A + H) cap a lg l l1 (x :: r) wr) := hI
      clear hI h4 HA HP h1 h3 en
      have HB : Hid (Below B w wr) := hEn.out.bel
      obtain ⟨PL, hpl⟩ : ∃ PL, F.M.pl x.lg lg = PL := ⟨_, rfl⟩
      have HPL : Hid (F.M.pl x.lg lg = PL) := hpl
      rw [hpl] at HP1
      clear hpl
      have HM := hEn
      obtain ⟨xu, hxu⟩ : ∃ u, x.lg.1 = u := ⟨_, rfl⟩
      obtain ⟨xd, hxd⟩ : ∃ u, x.lg.2 = u := ⟨_, rfl⟩
      rw [hxu] at HP1 q3
      rw [hxd] at HP1 q4
      clear hxu hxd
      obtain ⟨U, hU⟩ : ∃ u, F.M.tU PL = u := ⟨_, rfl⟩
      obtain ⟨D, hD⟩ : ∃ u, F.M.tD PL = u := ⟨_, rfl⟩
      obtain ⟨E, hE⟩ : ∃ u, F.M.tE PL = u := ⟨_, rfl⟩
      rw [hU, hD, hE] at HP1
      have HU : Hid (F.M.tU PL = U) := hU
      have HD : Hid (F.M.tD PL = D) := hD
      have HE : Hid (F.M.tE PL = E) := hE
      clear hU hD hE
      go_wp2_with fail
      go_cut [7] (fun e wx => e = .int .i64 E ∧ ∃ w5, Below wr.heap.size wr w5 ∧ wx = (w5.setCell ⟨g, A * 9 + l1.length * 9 + 3, none⟩ (.int .i64 U)).setCell ⟨g, A * 9 + l1.length * 9 + 3 + 1, none⟩ (.int .i64 D))
      case first =>
        go_region_law (first
          | (go_simp; go_at_call 24; refine (HP1 _).mono ?_; rintro e w5 ⟨rfl, hb5⟩; have h5 : Below wr.heap.size wr w5 := ((Below.refl _ _).drew).trans hb5; have z5 := h5.size; have P0 := F.keepC h5 gz q3; have P1 := F.keepC h5 gz q4; have F0 := F.keepF h5 gz f3; have F1 := F.keepF h5 gz f4; have Z5 : g < w5.heap.size := (by omega)))
        all_goals
          go_wp2_with fail
          go_meet
          case rel => exact ⟨rfl, w5, h5, rfl⟩
      case rest =>
        obtain ⟨rfl, w5, h5, rfl⟩ := hcut
        have z5 := h5.size
        have Z5 : g < w5.heap.size := by omega
        by_cases her : E = 0
        · subst her
          obtain ⟨f, rfl⟩ : ∃ f, PL = some f := by
            cases hPL : PL with
            | none => have := HE.out; rw [hPL] at this; simp [F.M.tE] at this
            | some f => exact ⟨f, rfl⟩
          have hU : f.1 = U := HU.out
          have hD : f.2 = D := HD.out
          subst hU hD
          have HM2 : Hid (TiI w B q g (A + H) cap a lg l (l1 ++ [{ x with lg := f }]) r ((w5.setCell ⟨g, A * 9 + l1.length * 9 + 3, none⟩ (.int .i64 f.1)).setCell ⟨g, A * 9 + l1.length * 9 + 3 + 1, none⟩ (.int .i64 f.2))) := by
            have hI := HM.out
            refine ⟨?_, ?_, ?_, fun b hb hne => ?_, ?_, ?_, ?_, fun y hy => hI.ok y (List.mem_cons_of_mem _ hy), ?_⟩
            · rw [hI.e, M.tl_some HPL.out]
              cases M.tl lg r <;> simp
            · have := hI.ln; simp at this ⊢; omega
            · have o1 := ((F.own_step hI.r h5).stored (A * 9 + l1.length * 9 + 3) (.int .i64 f.1)).1
              have o2 := (o1.stored (A * 9 + l1.length * 9 + 3 + 1) (.int .i64 f.2)).1
              rw [HS.out f] at o2
              rw [show a ++ (l1 ++ [{ x with lg := f }]) ++ r = a ++ l1 ++ { x with lg := f } :: r by simp]
              exact o2
            · rw [heap_setCell_other _ _ _ _ (by show b ≠ g; exact hne), heap_setCell_other _ _ _ _ (by show b ≠ g; exact hne), h5.block b (by omega)]
              exact hI.k b hb hne
            · simp; omega
            · have := F.keepC h5 lz p0
              simp [go_sem, this, wg, Ne.symm wg]
            · have := F.keepC h5 lz p1
              simp [go_sem, this, wg, Ne.symm wg]
            · exact ((hI.bel.trans (h5.mono (by omega))).setCell (p := ⟨g, A * 9 + l1.length * 9 + 3, none⟩) (show B ≤ g by omega) _).setCell (p := ⟨g, A * 9 + l1.length * 9 + 3 + 1, none⟩) (show B ≤ g by omega) _
          clear HP1 HS HM HPL HU HD HE
          go_wp2_with fail
          go_roundw
          case rel => exact ⟨l1 ++ [{ x with lg := f }], r, by simp, HM2.out⟩
          case measure => simp [intOf]; omega
        · have hPN : PL = none ∧ E = 4 := by
            cases hPL : PL with
            | none => have := HE.out; rw [hPL] at this; exact ⟨rfl, this.symm⟩
            | some f => have := HE.out; rw [hPL] at this; exact absurd this.symm her
          obtain ⟨rfl, rfl⟩ := hPN
          have HN : Hid (M.tl lg l = none) := by
            show _ = _
            rw [HM.out.e, M.tl_none HPL.out]; rfl
          clear HP1 HS HPL HU HD HE
          go_wp2_with fail
          go_ret
          refine ⟨by rw [HN.out]; rfl, fun l' hl' => by rw [HN.out] at hl'; simp at hl', ?_, ?_, by simp; omega⟩
          rotate_left
          · rw [heap_setCell_other _ _ _ _ (by show q ≠ g; omega), heap_setCell_other _ _ _ _ (by show q ≠ g; omega), h5.block q (by omega)]
            exact HM.out.k q hq (by omega)
          exact ((HB.out.trans (h5.mono (by omega))).setCell (p := ⟨g, A * 9 + l1.length * 9 + 3, none⟩) (show B ≤ g by omega) _).setCell (p := ⟨g, A * 9 + l1.length * 9 + 3 + 1, none⟩) (show B ≤ g by omega) _

set_option maxRecDepth 20000 in
set_option maxHeartbeats 4000000 in
/-- Nothing is held: nothing is made longer. -/
theorem tie_zero (lu ld : Int) (w : World) (q n cap : Nat) (va : Option Addr) (hq : q < w.heap.size) (hva : (va = none ∧ n = 0 ∧ cap = 0) ∨ ∃ g, va = some ⟨g, 0, none⟩) (hn : n ≤ cap) (hcap2 : cap ≤ 9223372036854775807)
    (c0 : w.cell? ⟨q, 0, none⟩ = some (.slice va n cap)) (c6 : w.cell? ⟨q, 6, none⟩ = some (.int .i64 0)) :
    Calls Tryz.prog 65 #[.pointer (some ⟨q, 0, none⟩), .agg #[.int .i64 lu, .int .i64 ld]] w fun e w' => e = .returned (.int .i64 0) ∧ Below w.heap.size w w' := by
  rcases hva with ⟨rfl, rfl, rfl⟩ | ⟨g, rfl⟩
  · go_enter Tryz.func65, Tryz.ntmps65
    go_wp2_with fail
    go_quiet (fail)
    go_wp2_with fail
    go_loopw [25] (fun i wr => i = .int .i64 0 ∧ Below w.heap.size w wr) (fun i _ => 0)
    case atStart => exact ⟨rfl, Below.trans (b := w.alloc (Obj.cells #[.int .i64 lu, .int .i64 ld] 36)) (by go_grown) ⟨rfl, rfl, rfl, Nat.le_refl _, fun _ _ => rfl⟩⟩
    case round =>
      obtain ⟨rfl, hb⟩ := hrel
      go_wp2_with fail
      go_ret
      exact ⟨rfl, hb⟩
  · by_cases hcn : cap = n
    · subst hcn
      go_enter Tryz.func65, Tryz.ntmps65
      go_wp2_with fail
      go_quiet (fail)
      go_wp2_with fail
      go_loopw [25] (fun i wr => i = .int .i64 0 ∧ Below w.heap.size w wr) (fun i _ => 0)
      case atStart => exact ⟨rfl, Below.trans (b := w.alloc (Obj.cells #[.int .i64 lu, .int .i64 ld] 36)) (by go_grown) ⟨rfl, rfl, rfl, Nat.le_refl _, fun _ _ => rfl⟩⟩
      case round =>
        obtain ⟨rfl, hb⟩ := hrel
        go_wp2_with fail
        go_ret
        exact ⟨rfl, hb⟩
    · have n2 : ¬ n = cap := by omega
      have n3 : n < cap := by omega
      go_enter Tryz.func65, Tryz.ntmps65
      go_wp2_with fail
      go_quiet (fail)
      go_wp2_with fail
      go_loopw [25] (fun i wr => i = .int .i64 0 ∧ Below w.heap.size w wr) (fun i _ => 0)
      case atStart => exact ⟨rfl, Below.trans (b := w.alloc (Obj.cells #[.int .i64 lu, .int .i64 ld] 36)) (by go_grown) ⟨rfl, rfl, rfl, Nat.le_refl _, fun _ _ => rfl⟩⟩
      case round =>
        obtain ⟨rfl, hb⟩ := hrel
        go_wp2_with fail
        go_ret
        exact ⟨rfl, hb⟩

end Go.Proofs.YtaohahahhjkcdaeGreatDoor.G

/- A singer whose notes change; tie, in these words. -/
namespace Go.Proofs.YtaohahahhjkcdaeGreatDoor.G
open Go.RowKit
set_option linter.unusedVariables false
set_option linter.unusedSimpArgs false

theorem cell_of {w w' : World} {b i : Nat} (h : w'.heap[b]? = w.heap[b]?) : w'.cell? ⟨b, i, none⟩ = w.cell? ⟨b, i, none⟩ := World.cell?_of_block (w := w) (a := ⟨b, i, none⟩) h
theorem frozen_of {w w' : World} {b i : Nat} (h : w'.heap[b]? = w.heap[b]?) : w'.frozen? ⟨b, i, none⟩ = w.frozen? ⟨b, i, none⟩ := World.frozen?_of_block (w := w) (a := ⟨b, i, none⟩) h
theorem own_of {w w' : World} {base : Nat} {e : TypeId} {size : Nat} {v : Value} {n : Nat} {xs : List Value} (h : w.ownsRow base e size v n xs) (hb : ∀ b, v.ownBlock = some b → w'.heap[b]? = w.heap[b]?) : w'.ownsRow base e size v n xs := by
  refine ⟨h.1, ?_⟩
  rcases h.2 with hn | ⟨g, cap, cur, rfl, h1, h2, rest⟩
  · exact .inl hn
  · refine .inr ⟨g, cap, cur, rfl, h1, ?_, rest⟩
    rw [hb g rfl]; exact h2

theorem TmL.of {w w' : World} {q : Nat} {vN vM vT vN' vM' : Value} {tm : List F.M.Sp} (h : TmL w q vN vM vT tm) (hz : w.heap.size ≤ w'.heap.size) (hb : ∀ b, b < w.heap.size → b ≠ q → vN.ownBlock ≠ some b → vM.ownBlock ≠ some b → w'.heap[b]? = w.heap[b]?)
    (hN : ∀ k, vN'.ownBlock = some k → vN.ownBlock = some k ∨ w.heap.size ≤ k) (hM : ∀ k, vM'.ownBlock = some k → vM.ownBlock = some k ∨ w.heap.size ≤ k) : TmL w' q vN' vM' vT tm := by
  obtain ⟨ta, tc, h1, h2, h3, h4⟩ := h
  refine ⟨ta, tc, h1, h2, h3, fun hn => ?_⟩
  obtain ⟨b, off, g1, g2, g3, g4, g5, g6⟩ := h4 hn
  refine ⟨b, off, g1, g2, by omega, fun e => ?_, fun e => ?_, fun j u hj => (cell_of (hb b g3 (by omega) g4 g5)).trans (g6 j u hj)⟩
  · rcases hN b e with q | q
    · exact g4 q
    · omega
  · rcases hM b e with q | q
    · exact g5 q
    · omega

/-- The notes are others now. -/
theorem Sg.notes {w w' : World} {q : Nat} {ns ns' : List M.Nt} {vo au ad : Int} {tm : List F.M.Sp} {mv : List (Int × Int)} {hd hd' : Nat} {vN vM vT vN' : Value} (h : Sg w q ns vo au ad tm mv hd vN vM vT)
    (hz : w.heap.size ≤ w'.heap.size) (hb : ∀ b, b < w.heap.size → b ≠ q → vN.ownBlock ≠ some b → w'.heap[b]? = w.heap[b]?) (hn : w'.ownsRow (q + 1) 43 9 vN' ns'.length (ntL ns')) (ho : ∀ k, vN'.ownBlock = some k → vN.ownBlock = some k ∨ w.heap.size ≤ k)
    (hc : ∀ i, i ≠ 0 → i ≠ 6 → w'.cell? ⟨q, i, none⟩ = w.cell? ⟨q, i, none⟩) (c0 : w'.cell? ⟨q, 0, none⟩ = some vN') (c6 : w'.cell? ⟨q, 6, none⟩ = some (.int .i64 hd')) (hf : ∀ i, w'.frozen? ⟨q, i, none⟩ = w.frozen? ⟨q, i, none⟩) :
    Sg w' q ns' vo au ad tm mv hd' vN' vM vT ∧ Kp w q vN vM w' vN' vM := by
  have l := h.lt
  have mlt := F.own_lt h.m
  have mge := F.own_block h.m
  refine ⟨⟨by omega, c0, (hc 1 (by omega) (by omega)).trans h.c1, (hc 2 (by omega) (by omega)).trans h.c2, (hc 3 (by omega) (by omega)).trans h.c3, (hc 4 (by omega) (by omega)).trans h.c4, (hc 5 (by omega) (by omega)).trans h.c5, c6, fun i => (hf i).trans (h.fz i), hn, ?_, fun b e1 e2 => ?_, ?_⟩, ?_⟩
  · exact own_of h.m (fun b e => hb b (mlt b e) (by have := mge b e; omega) (fun e2 => h.ap b e2 e))
  · rcases ho b e1 with x | x
    · exact h.ap b x e2
    · have := mlt b e2; omega
  · exact h.t.of hz (fun b b1 b2 b3 _ => hb b b1 b2 b3) ho (fun k e => .inl e)
  · exact ⟨hz, fun b b1 b2 b3 _ => hb b b1 b2 b3, ho, fun k e => .inl e⟩

theorem tie_any (lg : Int × Int) (hl : F.M.Ok lg) (a l : List M.Nt) (w : World) (q B : Nat) (vo au ad : Int) (tm : List F.M.Sp) (mv : List (Int × Int)) (vN vM vT : Value) (hB : B ≤ q) (hs : Sg w q (a ++ l) vo au ad tm mv l.length vN vM vT) (hok : ∀ x ∈ l, F.M.Ok x.lg) (hlen : (a ++ l).length < 1099511627776) :
    Calls Tryz.prog 65 #[.pointer (some ⟨q, 0, none⟩), .agg #[.int .i64 lg.1, .int .i64 lg.2]] w fun e w' => e = .returned (.int .i64 (M.tlE (M.tl lg l))) ∧ (∀ l', M.tl lg l = some l' → Sg w' q (a ++ l') vo au ad tm mv l.length vN vM vT ∧ Kp w q vN vM w' vN vM) ∧ Below B w w' ∧ Mq w' q mv.length := by
  have lt := hs.lt
  have hln : (a ++ l).length = a.length + l.length := by simp
  have c0 := hs.c0
  have c6 := hs.c6
  have hN := hs.n
  cases l with
  | nil =>
    have key : (∃ va cap, vN = .slice va (a ++ []).length cap ∧ ((va = none ∧ (a ++ []).length = 0 ∧ cap = 0) ∨ ∃ g, va = some ⟨g, 0, none⟩) ∧ (a ++ []).length ≤ cap ∧ cap ≤ 9223372036854775807) := by
      rcases hN.2 with ⟨rfl, h0⟩ | ⟨g, cap, cur, rfl, h1, h2, h3, h4, h5⟩
      · exact ⟨none, 0, by rw [h0], .inl ⟨rfl, h0, rfl⟩, by omega, by omega⟩
      · exact ⟨_, cap, rfl, .inr ⟨g, rfl⟩, h3, by unfold maxLen at h4; omega⟩
    obtain ⟨va, cap, rfl, hva, h1, h2⟩ := key
    refine (tie_zero lg.1 lg.2 w q _ cap va lt hva h1 h2 c0 c6).mono ?_
    rintro e w' ⟨rfl, hb⟩
    refine ⟨rfl, fun l' hl' => ?_, hb.mono (by omega), (hs.step hb).mq⟩
    simp only [M.tl, Option.some.injEq] at hl'
    subst hl'
    exact ⟨hs.step hb, Kp.below hb⟩
  | cons x r =>
    obtain ⟨g, cap, rfl, h1, h2, h3, h4⟩ := F.own_cells hN (by simp; omega)
    have hcap : cap ≤ 9223372036854775807 := by
      rcases hN.2 with ⟨e, _⟩ | ⟨_, _, cur, e, _, _, _, k4, _⟩
      · cases e
      · cases e; unfold maxLen at k4; omega
    rw [hln] at hN h3 c0
    refine (tie_loop lg hl a (x :: r) w q B g cap hB lt (by omega) h2 (by simp) (by omega) (by omega) h3 hcap c0 c6 hN hok).mono ?_
    rintro e w' ⟨rfl, hb, hbel, hbq, hbz⟩
    refine ⟨rfl, fun l' hl' => ?_, hbel, hs.mq.of hbq hbz⟩
    obtain ⟨r1, r2, r3⟩ := hb l' hl'
    have hl2 := M.tl_len hl'
    have hl3 : (a ++ l').length = a.length + (x :: r).length := by simp at hl2 ⊢; omega
    have hqb : w'.heap[q]? = w.heap[q]? := r2 q lt (by omega)
    rw [hln]
    rw [← hl3] at r1
    rw [hln] at hs
    rw [← hl3] at c0 hs ⊢
    exact hs.notes r3 (fun b b1 b2 b3 => r2 b b1 (fun e => b3 (by rw [e]; rfl))) r1 (fun k e => .inl e) (fun i _ _ => cell_of hqb) ((cell_of hqb).trans c0) ((cell_of hqb).trans c6) (fun i => frozen_of hqb)

end Go.Proofs.YtaohahahhjkcdaeGreatDoor.G
