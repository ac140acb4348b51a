/- What the document's Run comes to. -/
import Derived.Test.YtjfmpgfpehnnjaiFi7
import Derived.Deep.DeepCutAuto
namespace Go.Proofs.Ytjfmpgfpehnnjai.Fi
open Go.RowKit Go.Maps Go.Sort Fl
set_option linter.unusedSimpArgs false
set_option linter.unusedVariables false

theorem wpList_nil' {P : Program} {ops : Array Oper} {Q : Exit → Act → World → Prop} {a : Act} {w : World} (h : Q .normal a w) : wpList P ops Q [] a w := h
theorem own_new (w : World) (base : Nat) (hb : base ≤ w.heap.size) : (w.alloc (Obj.cells #[] 23)).ownsRow base 23 1 (.slice (some ⟨w.heap.size, 0, none⟩) 0 0) 0 (fls []) := by
  refine ⟨rfl, .inr ⟨w.heap.size, 0, #[], rfl, hb, ?_, Nat.le_refl _, by unfold maxLen; omega, rfl, rfl⟩⟩
  show (w.heap.push _)[w.heap.size]? = _
  simp
theorem belD {w : World} (n : Nat) : Below w.heap.size w (w.drewN n) := ⟨rfl, rfl, rfl, Nat.le_refl _, fun _ _ => rfl⟩
set_option maxHeartbeats 8000000 in
theorem refRun_any (c : Cf) (S : Nat → Prop) (l : List Nat) (ao : Option Addr) (m cp : Nat) (w : World) (hL : IL w S ao l) (hm : l.length = m) (hc : m ≤ cp) (hcm : cp ≤ 9223372036854775807) (hl : m ≤ 4194303) :
    Calls Try.prog 13 #[cv c, .slice ao m cp] w fun e w' => ∃ v, e = .returned v ∧ Sl w' (fun b => w.heap.size ≤ b) v (outs c rest0 (abs l)) ∧ Below w.heap.size w w' := by
  have HL : Hid (IL w S ao l) := hL
  have Hm : Hid (l.length = m) := hm
  have HC : Hid (∃ x : Cf, x = c) := ⟨c, rfl⟩
  have HO : Hid (((w.alloc (Obj.cells #[.float .f64 c.b0, .float .f64 c.b1, .float .f64 c.b2, .float .f64 c.a1, .float .f64 c.a2] 39)).alloc (Obj.cells #[] 23)).ownsRow (w.heap.size + 1) 23 1 (.slice (some ⟨w.heap.size + 1, 0, none⟩) 0 0) 0 (fls [])) := by
    have := own_new (w.alloc (Obj.cells #[.float .f64 c.b0, .float .f64 c.b1, .float .f64 c.b2, .float .f64 c.a1, .float .f64 c.a2] 39)) (w.heap.size + 1) (by simp)
    have e : (w.alloc (Obj.cells #[.float .f64 c.b0, .float .f64 c.b1, .float .f64 c.b2, .float .f64 c.a1, .float .f64 c.a2] 39)).heap.size = w.heap.size + 1 := by simp
    rw [e] at this; exact this
  have hb0 : Below w.heap.size w ((w.alloc (Obj.cells #[.float .f64 c.b0, .float .f64 c.b1, .float .f64 c.b2, .float .f64 c.a1, .float .f64 c.a2] 39)).alloc (Obj.cells #[] 23)) := ((Below.refl _ _).alloc (Nat.le_refl _) _).alloc (by simp) _
  have HCs : Hid (∀ i v, #[Value.float .f64 c.b0, .float .f64 c.b1, .float .f64 c.b2, .float .f64 c.a1, .float .f64 c.a2][i]? = some v → ((w.alloc (Obj.cells #[.float .f64 c.b0, .float .f64 c.b1, .float .f64 c.b2, .float .f64 c.a1, .float .f64 c.a2] 39)).alloc (Obj.cells #[] 23)).cell? ⟨w.heap.size, i, none⟩ = some v) := fun i v h => by
    match i with
    | 0 => simp at h; subst h; simp [go_sem]
    | 1 => simp at h; subst h; simp [go_sem]
    | 2 => simp at h; subst h; simp [go_sem]
    | 3 => simp at h; subst h; simp [go_sem]
    | 4 => simp at h; subst h; simp [go_sem]
    | n + 5 => simp at h
  have hz0 : ((w.alloc (Obj.cells #[.float .f64 c.b0, .float .f64 c.b1, .float .f64 c.b2, .float .f64 c.a1, .float .f64 c.a2] 39)).alloc (Obj.cells #[] 23)).heap.size = w.heap.size + 2 := by simp
  clear hL hm HC
  go_enter Try.func13, Try.ntmps13
  go_wp2_with fail
  generalize (w.alloc (Obj.cells #[.float .f64 c.b0, .float .f64 c.b1, .float .f64 c.b2, .float .f64 c.a1, .float .f64 c.a2] 39)).alloc (Obj.cells #[] 23) = W0 at *
  go_loopw [16, 5] (fun i v ww => ∃ k : Nat, k ≤ m ∧ i = .int .i64 k ∧ Hid (∃ g : List Nat, g.length = k ∧ abs g = outs c rest0 (abs (l.take k)) ∧ (∀ x ∈ g, x < 18446744073709551616) ∧ ww.ownsRow (w.heap.size + 1) 23 1 v k (fls g)) ∧ Below (w.heap.size + 1) W0 ww) (fun i _ _ => m - (intOf i).toNat)
  case atStart => exact ⟨0, by omega, rfl, ⟨[], rfl, rfl, fun x hx => absurd hx (by simp), HO.out⟩, Below.refl _ _⟩
  case round =>
    obtain ⟨k, hk, rfl, hG, hbr⟩ := hrel
    have hb1 : Below w.heap.size w wr := hb0.trans (hbr.mono (by omega))
    obtain ⟨g, g1, g2, g3, g4⟩ := hG.out
    by_cases hlt : k < m
    · obtain ⟨x, hx⟩ : ∃ x, l[k]? = some x := ⟨_, List.getElem?_eq_getElem (by rw [Hm.out]; exact hlt)⟩
      have hIL := HL.out.bel hb1
      obtain ⟨nb, of, hao, hnb, _, q0⟩ := hIL.at' (by rw [Hm.out]; omega)
      obtain ⟨x0, x1⟩ := q0 k x hx
      have hst := st_at c l k (by rw [Hm.out]; omega)
      have HStep : Hid (outs c rest0 (abs (l.take (k + 1))) = outs c rest0 (abs (l.take k)) ++ [nx c (sts c rest0 (abs (l.take k))) (ab x)]) := outs_step c rest0 hx
      rw [hst] at HStep
      have HStep' := HStep
      rw [← g2] at HStep
      have g4' : wr.ownsRow (w.heap.size + 1) 23 1 u5 g.length (fls g) := by rw [g1]; exact g4
      obtain ⟨ea, ec, hu5, f1, f2, f3, f4⟩ := own_IL g4' g3
      rw [g1] at hu5 f1
      obtain ⟨X1, X1l, X1a, B1⟩ := back_of S ao l m cp k 1 wr hIL Hm.out hc hcm (by omega) (by decide)
      obtain ⟨X2, X2l, X2a, B2⟩ := back_of S ao l m cp k 2 wr hIL Hm.out hc hcm (by omega) (by decide)
      obtain ⟨Y1, Y1l, Y1a, B3⟩ := back_of (fun b => w.heap.size + 1 ≤ b) ea g k ec k 1 wr f4 g1 f1 f2 (by omega) (by decide)
      obtain ⟨Y2, Y2l, Y2a, B4⟩ := back_of (fun b => w.heap.size + 1 ≤ b) ea g k ec k 2 wr f4 g1 f1 f2 (by omega) (by decide)
      have HNx : Hid (∀ r, ab r = os (os (oa (oa (om (ab c.b0) (ab x)) (om (ab c.b1) (ab X1))) (om (ab c.b2) (ab X2))) (om (ab c.a1) (ab Y1))) (om (ab c.a2) (ab Y2)) → abs (g ++ [r]) = outs c rest0 (abs (l.take (k + 1)))) := fun r hr => by
        rw [HStep.out, abs_app]
        show abs g ++ [ab r] = _
        rw [hr, X1a, X2a, Y1a, Y2a]; rfl
      have HG3 : Hid (g.length = k ∧ (∀ x ∈ g, x < 18446744073709551616) ∧ wr.ownsRow (w.heap.size + 1) 23 1 u5 k (fls g)) := ⟨g1, g3, g4⟩
      subst hao
      subst hu5
      rw [show (((1 : Nat) : Int)) = 1 from rfl] at B1 B3
      rw [show (((2 : Nat) : Int)) = 2 from rfl] at B2 B4
      have hlt' : (k : Int) < (m : Int) := by omega
      have w3 : IntKind.i64.wrap ((k : Int) + 1) = (k : Int) + 1 := wid (by omega) (by omega)
      have cc0 : wr.cell? ⟨w.heap.size, 0, none⟩ = some (.float .f64 c.b0) := keepC hbr (a := ⟨w.heap.size, 0, none⟩) (by simp) (HCs.out 0 _ rfl)
      have cc1 : wr.cell? ⟨w.heap.size, 1, none⟩ = some (.float .f64 c.b1) := keepC hbr (a := ⟨w.heap.size, 1, none⟩) (by simp) (HCs.out 1 _ rfl)
      have cc2 : wr.cell? ⟨w.heap.size, 2, none⟩ = some (.float .f64 c.b2) := keepC hbr (a := ⟨w.heap.size, 2, none⟩) (by simp) (HCs.out 2 _ rfl)
      have cc3 : wr.cell? ⟨w.heap.size, 3, none⟩ = some (.float .f64 c.a1) := keepC hbr (a := ⟨w.heap.size, 3, none⟩) (by simp) (HCs.out 3 _ rfl)
      have cc4 : wr.cell? ⟨w.heap.size, 4, none⟩ = some (.float .f64 c.a2) := keepC hbr (a := ⟨w.heap.size, 4, none⟩) (by simp) (HCs.out 4 _ rfl)
      have lt0 : w.heap.size < wr.heap.size := block_lt_of_cell cc0
      clear hG g1 g2 g3 g4 g4' hst HStep HStep' hx q0 hIL X1a X2a Y1a Y2a f4 f3
      go_wp2_with fail
      refine RM.wp_region_may (by kernel_rfl) (by kernel_rfl) ?_
      repeat (refine RM.wpMay_step (fun K hK => ?_); go_simp; refine hK _ ?_; clear hK K)
      refine wpMay_f rfl .mul (.inr (.inr rfl)) _ _ _ _ rfl c.b0 x rfl rfl ?_
      intro r1 lr1 er1
      repeat (refine RM.wpMay_step (fun K hK => ?_); go_simp; refine hK _ ?_; clear hK K)
      refine RM.wpMay_nil ?_
      intro n1
      clear x0
      have wk1 : IntKind.i64.wrap ((k : Int) - 1) = (k : Int) - 1 := wid (by omega) (by omega)
      have wk2 : IntKind.i64.wrap ((k : Int) - 2) = (k : Int) - 2 := wid (by omega) (by omega)
      have gg1 := cell_regrown (show (wr.drewN n1).cell? ⟨w.heap.size, 1, none⟩ = some (.float .f64 c.b1) from cc1)
      go_wp2_with fail
      refine RF.wp_region_float (fun k => k != 5 && k != 6) (by kernel_rfl) (by kernel_rfl) (by kernel_rfl) ?_
      repeat (refine RF.wpFl_read rfl (fun K hK => ?_); go_simp; refine hK _ ?_; clear hK K)
      refine RF.wpFl_do rfl rfl (fun K hK => ?_)
      go_wp2_with fail
      refine (B1 _ (by simp [go_sem])).mono ?_
      rintro e wb ⟨rfl, hwb⟩
      rw [hwb]
      go_wp2_with fail
      refine hK _ _ ⟨rfl, rfl, rfl, Nat.le_refl _, fun _ _ => rfl⟩ ?_
      clear hK K hwb wb
      refine RF.wpFl_do rfl rfl (fun K hK => ?_)
      refine wpList_f rfl .mul (.inr (.inr rfl)) _ _ _ _ rfl c.b1 X1 rfl rfl ?_
      intro r2 dr2 lr2 er2
      refine wpList_nil' ?_
      refine hK _ _ ⟨rfl, rfl, rfl, Nat.le_refl _, fun _ _ => rfl⟩ ?_
      clear hK K gg1
      repeat (refine RF.wpFl_read rfl (fun K hK => ?_); go_simp; refine hK _ ?_; clear hK K)
      refine RF.wpFl_nil ?_
      rw [World.drewN_drewN]
      generalize n1 + 1 + dr2 = n2
      have gg2 := cell_regrown (show (wr.drewN n2).cell? ⟨w.heap.size, 2, none⟩ = some (.float .f64 c.b2) from cc2)
      go_wp2_with fail
      refine RF.wp_region_float (fun k => k != 5 && k != 6) (by kernel_rfl) (by kernel_rfl) (by kernel_rfl) ?_
      repeat (refine RF.wpFl_read rfl (fun K hK => ?_); go_simp; refine hK _ ?_; clear hK K)
      refine RF.wpFl_do rfl rfl (fun K hK => ?_)
      go_wp2_with fail
      refine (B2 _ (by simp [go_sem])).mono ?_
      rintro e wb ⟨rfl, hwb⟩
      rw [hwb]
      go_wp2_with fail
      refine hK _ _ ⟨rfl, rfl, rfl, Nat.le_refl _, fun _ _ => rfl⟩ ?_
      clear hK K hwb wb
      refine RF.wpFl_do rfl rfl (fun K hK => ?_)
      refine wpList_f rfl .mul (.inr (.inr rfl)) _ _ _ _ rfl c.b2 X2 rfl rfl ?_
      intro r3 dr3 lr3 er3
      refine wpList_nil' ?_
      refine hK _ _ ⟨rfl, rfl, rfl, Nat.le_refl _, fun _ _ => rfl⟩ ?_
      clear hK K gg2
      repeat (refine RF.wpFl_read rfl (fun K hK => ?_); go_simp; refine hK _ ?_; clear hK K)
      refine RF.wpFl_nil ?_
      rw [World.drewN_drewN]
      generalize n2 + 1 + dr3 = n3
      have gg3 := cell_regrown (show (wr.drewN n3).cell? ⟨w.heap.size, 3, none⟩ = some (.float .f64 c.a1) from cc3)
      go_wp2_with fail
      refine RF.wp_region_float (fun k => k != 5 && k != 6) (by kernel_rfl) (by kernel_rfl) (by kernel_rfl) ?_
      repeat (refine RF.wpFl_read rfl (fun K hK => ?_); go_simp; refine hK _ ?_; clear hK K)
      refine RF.wpFl_do rfl rfl (fun K hK => ?_)
      go_wp2_with fail
      refine (B3 _ (by simp [go_sem])).mono ?_
      rintro e wb ⟨rfl, hwb⟩
      rw [hwb]
      go_wp2_with fail
      refine hK _ _ ⟨rfl, rfl, rfl, Nat.le_refl _, fun _ _ => rfl⟩ ?_
      clear hK K hwb wb
      refine RF.wpFl_do rfl rfl (fun K hK => ?_)
      refine wpList_f rfl .mul (.inr (.inr rfl)) _ _ _ _ rfl c.a1 Y1 rfl rfl ?_
      intro r4 dr4 lr4 er4
      refine wpList_nil' ?_
      refine hK _ _ ⟨rfl, rfl, rfl, Nat.le_refl _, fun _ _ => rfl⟩ ?_
      clear hK K gg3
      repeat (refine RF.wpFl_read rfl (fun K hK => ?_); go_simp; refine hK _ ?_; clear hK K)
      refine RF.wpFl_nil ?_
      rw [World.drewN_drewN]
      generalize n3 + 1 + dr4 = n4
      have gg4 := cell_regrown (show (wr.drewN n4).cell? ⟨w.heap.size, 4, none⟩ = some (.float .f64 c.a2) from cc4)
      go_wp2_with fail
      refine RF.wp_region_float (fun k => k != 5 && k != 6) (by kernel_rfl) (by kernel_rfl) (by kernel_rfl) ?_
      repeat (refine RF.wpFl_read rfl (fun K hK => ?_); go_simp; refine hK _ ?_; clear hK K)
      refine RF.wpFl_do rfl rfl (fun K hK => ?_)
      go_wp2_with fail
      refine (B4 _ (by simp [go_sem])).mono ?_
      rintro e wb ⟨rfl, hwb⟩
      rw [hwb]
      go_wp2_with fail
      refine hK _ _ ⟨rfl, rfl, rfl, Nat.le_refl _, fun _ _ => rfl⟩ ?_
      clear hK K hwb wb
      refine RF.wpFl_do rfl rfl (fun K hK => ?_)
      refine wpList_f rfl .mul (.inr (.inr rfl)) _ _ _ _ rfl c.a2 Y2 rfl rfl ?_
      intro r5 dr5 lr5 er5
      refine wpList_nil' ?_
      refine hK _ _ ⟨rfl, rfl, rfl, Nat.le_refl _, fun _ _ => rfl⟩ ?_
      clear hK K gg4
      repeat (refine RF.wpFl_read rfl (fun K hK => ?_); go_simp; refine hK _ ?_; clear hK K)
      refine RF.wpFl_nil ?_
      rw [World.drewN_drewN]
      generalize n4 + 1 + dr5 = n5
      clear B1 B2 B3 B4 cc0 cc1 cc2 cc3 cc4
      go_wp2_with (refine wpList_f rfl .add (.inl rfl) _ _ _ _ rfl r1 r2 rfl rfl ?f1)
      case f1 =>
        intro r6 d6 lr6 er6
        go_wp2_with (refine wpList_f rfl .add (.inl rfl) _ _ _ _ rfl r6 r3 rfl rfl ?f2)
        case f2 =>
          intro r7 d7 lr7 er7
          go_wp2_with (refine wpList_f rfl .sub (.inr (.inl rfl)) _ _ _ _ rfl r7 r4 rfl rfl ?f3)
          case f3 =>
            intro r8 d8 lr8 er8
            go_wp2_with (refine wpList_f rfl .sub (.inr (.inl rfl)) _ _ _ _ rfl r8 r5 rfl rfl ?f4)
            case f4 =>
              intro r9 d9 lr9 er9
              have HR9 : Hid (abs (g ++ [r9]) = outs c rest0 (abs (l.take (k + 1)))) := HNx.out r9 (by simp only [er9, er8, er7, er6, er5, er4, er3, er2, er1, fo])
              clear er9 er8 er7 er6 er5 er4 er3 er2 er1 HNx
              have hPl : g.length ≤ 4194303 := by rw [HG3.out.1]; omega
              clear hPl
              go_upto_region 14 with fail
              generalize n5 + d6 + d7 + d8 + d9 = n6
              have hbC : Below wr.heap.size wr ((wr.drewN n6).alloc (Obj.cells #[.float .f64 r9] 23)) := (belD n6).alloc (by simp) _
              have hcC : ((wr.drewN n6).alloc (Obj.cells #[.float .f64 r9] 23)).cell? ⟨wr.heap.size, 0, none⟩ = some (.float .f64 r9) := (World.cell?_alloc_at _ _ _ _ rfl).trans rfl
              have HOw : Hid (wr.ownsRow (w.heap.size + 1) 23 1 (.slice ea k ec) k (fls g)) := HG3.out.2.2
              have HLo : Hid (∀ q, (Value.slice ea k ec).ownBlock = some q → q < wr.heap.size) := own_lt HOw.out
              go_wp2_with (at_builtin; refine wpList_append_1 34 23 (.float .f64 0) 8 Try.underlying34 infoF rfl (by omega) rfl (.tmp 66) (.tmp 68) rfl (w.heap.size + 1) _ k (fls g) rfl (own_step HOw.out (fun q hq => hbC.block q (HLo.out q hq))) wr.heap.size (.float .f64 r9) rfl hcC rfl (by omega) (by simp; omega) ?a7)
              case a7 =>
                intro v' w6 o6 g6
                have hb6 : Below (w.heap.size + 1) W0 w6 := hbr.trans (Below.trans (hbC.mono (by omega)) (g6.bel (by simp; omega) (fun q hq => own_block HOw.out q hq)))
                have HN : Hid (∃ g' : List Nat, g'.length = k + 1 ∧ abs g' = outs c rest0 (abs (l.take (k + 1))) ∧ (∀ x ∈ g', x < 18446744073709551616) ∧ w6.ownsRow (w.heap.size + 1) 23 1 v' (k + 1) (fls g')) := ⟨g ++ [r9], by rw [List.length_append, HG3.out.1]; rfl, HR9.out, fun z hz => (by
                  rcases List.mem_append.1 hz with q | q
                  · exact HG3.out.2.1 z q
                  · simp at q; subst q; exact lr9), by unfold fls at o6 ⊢; rw [List.map_append]; exact o6⟩
                clear o6 g6
                go_wp2_with fail
                exact ⟨⟨k + 1, by omega, by go_num, HN, hb6⟩, by simp [intOf]; omega⟩
    · obtain rfl : k = m := by omega
      go_wp2_with fail
      go_ret
      have ht : l.take k = l := List.take_of_length_le (by rw [Hm.out]; exact Nat.le_refl _)
      rw [ht] at g2
      obtain ⟨ea, ec, hu5, f1, f2, f3, f4⟩ := own_IL (by rw [g1]; exact g4) g3
      exact ⟨_, rfl, ⟨⟨g, ea, ec, hu5, f1, f2, f3, g2, f4.keep (fun _ _ _ => rfl) (Nat.le_refl _) (fun b h _ => by omega)⟩⟩, hb1⟩
end Go.Proofs.Ytjfmpgfpehnnjai.Fi
