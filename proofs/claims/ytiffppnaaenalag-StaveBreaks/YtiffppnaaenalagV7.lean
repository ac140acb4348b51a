/- What the program's bestFrom comes to. -/
import Derived.Test.YtiffppnaaenalagV6
namespace Go.Proofs.Ytiffppnaaenalag.V
open Go.RowKit Go.Sort
set_option linter.unusedVariables false
set_option linter.unusedSimpArgs false

theorem new_kept4 {X w' : World} {v0 v1 v2 v3 : Value} {t : TypeId} (hb : Below (X.alloc (Obj.cells #[v0, v1, v2, v3] t)).heap.size (X.alloc (Obj.cells #[v0, v1, v2, v3] t)) w') : w'.cell? ⟨X.heap.size, 0, none⟩ = some v0 ∧ w'.cell? ⟨X.heap.size, 1, none⟩ = some v1 ∧ w'.cell? ⟨X.heap.size, 2, none⟩ = some v2 ∧ w'.cell? ⟨X.heap.size, 3, none⟩ = some v3 ∧ (∀ o, w'.frozen? ⟨X.heap.size, o, none⟩ = false) ∧ X.heap.size < w'.heap.size ∧ Below X.heap.size X w' :=
  ⟨keepC hb (by simp) (by simp [go_sem]), keepC hb (by simp) (by simp [go_sem]), keepC hb (by simp) (by simp [go_sem]), keepC hb (by simp) (by simp [go_sem]), fun o => keepF hb (by simp) (by simp [go_sem]), by have := hb.size; simp at this; omega, Below.trans (by go_grown) (hb.mono (by simp))⟩
theorem new_kept4_drew {X w' : World} {v0 v1 v2 v3 : Value} {t : TypeId} (hb : Below (X.alloc (Obj.cells #[v0, v1, v2, v3] t)).drew.heap.size (X.alloc (Obj.cells #[v0, v1, v2, v3] t)).drew w') : w'.cell? ⟨X.heap.size, 0, none⟩ = some v0 ∧ w'.cell? ⟨X.heap.size, 1, none⟩ = some v1 ∧ w'.cell? ⟨X.heap.size, 2, none⟩ = some v2 ∧ w'.cell? ⟨X.heap.size, 3, none⟩ = some v3 ∧ (∀ o, w'.frozen? ⟨X.heap.size, o, none⟩ = false) ∧ X.heap.size < w'.heap.size ∧ Below X.heap.size X w' :=
  ⟨keepC hb (by simp) (by simp [go_sem]), keepC hb (by simp) (by simp [go_sem]), keepC hb (by simp) (by simp [go_sem]), keepC hb (by simp) (by simp [go_sem]), fun o => keepF hb (by simp) (by simp [go_sem]), by have := hb.size; simp at this; omega, Below.trans (by go_grown) (hb.mono (by simp))⟩
set_option maxRecDepth 20000 in
set_option maxHeartbeats 8000000 in
theorem bestFrom_any (b : M.Bx) (ao : Option Addr) (n c a wb : Nat) (V : Nat → M.Wy) (w : World) (hp : BL w ao n b) (hc : n ≤ c) (hcm : c ≤ 9223372036854775807) (hr : M.rt b n) (hn : n ≤ 1024) (w1b : 1 ≤ b.wide) (w2b : b.wide ≤ 10000) (ha : a < n)
    (hT : WT w wb n a V) (hV : ∀ j, a < j → j ≤ n → M.Is b n j (V j)) :
    Calls Try.prog 20 #[.slice ao n c, .int .i64 b.wide, .int .i64 (a : Int), .slice (some ⟨wb, 0, none⟩) (n + 1) (n + 1)] w fun e w' => (∃ v, e = .returned (wv v) ∧ M.Is b n a v) ∧ Below w.heap.size w w' := by
  go_enter Try.func20, Try.ntmps20
  go_wp2_with fail
  go_loopw [11] (fun i wr => ∃ (k : Nat) (v : M.Wy), a ≤ k ∧ k ≤ n ∧ i = .int .i64 (k : Int) ∧ Hid (M.Iu b n a k v) ∧ Bf w wr v (M.sm b.W a (k - a)) (M.sm b.G a (k - a))) (fun i _ => n - (intOf i).toNat)
  case atStart =>
    refine ⟨a, _, Nat.le_refl _, by omega, rfl, M.iu_start b n a, ?_⟩
    rw [Nat.sub_self]
    exact ⟨by go_grown, by simp, ⟨by simp [go_sem], by simp [go_sem], by simp [go_sem], by simp [go_sem]⟩, fun o => by simp [go_sem], ⟨by simp [go_sem], by simp [go_sem], by simp [go_sem], by simp [go_sem]⟩, fun o => by simp [go_sem], by simp [go_sem, M.sm], by simp [go_sem, M.sm], fun o => by simp [go_sem]⟩
  case round =>
    obtain ⟨k, v, hak, hkn, rfl, hI, hB⟩ := hrel
    have sz := hB.sz
    have sz1 : w.heap.size + 1 < wr.heap.size := by omega
    have sz0 : w.heap.size < wr.heap.size := by omega
    by_cases hlt : k < n
    rotate_left
    · obtain rfl : k = n := by omega
      have hIs : Hid (M.Is b k a v) := M.iu_end ha hI.out
      have a0 := hB.r.c0
      have a1 := hB.r.c1
      have a2 := hB.r.c2
      have a3 := hB.r.c3
      have c0 := hB.b.c0
      have c1 := hB.b.c1
      have c2 := hB.b.c2
      have c3 := hB.b.c3
      have f0 := hB.rf 0
      have f1 := hB.rf 1
      have f2 := hB.rf 2
      have f3 := hB.rf 3
      have hbel := hB.bel
      obtain ⟨o0, o1, o2, o3, o4, o5, o6⟩ := set4 (x0 := .bool v.ex) (x1 := .int .i64 v.cost) (x2 := .int .i64 v.lines) (x3 := .int .i64 v.fin) a0 a1 a2 a3
      clear hI hB hV
      go_wp2_with fail
      refine bodyPost_ret (v := wv v) (by simp [results, Try.results20, go_sem, o0, o1, o2, o3]) rfl ⟨⟨v, rfl, hIs.out⟩, (((hbel.setCell (by simp) _).setCell (by simp) _).setCell (by simp) _).setCell (by simp) _⟩
    obtain ⟨q, off, rfl, hbl, q0, q1⟩ := (hp.step hB.bel).at' (by omega)
    have r0 := q0 k hlt
    have r1 := q1 k hlt
    have w3 : IntKind.i64.wrap ((k : Int) + 1) = (k : Int) + 1 := wid (by omega) (by omega)
    have hBx := hr k hlt
    have hS := M.sm_bd (f := b.W) (n := n) (lo := 0) (hi := 10000) (fun j hj => by have := hr j hj; omega) a (k - a) (by omega)
    have hG := M.sm_bd (f := b.G) (n := n) (lo := 0) (hi := 10000) (fun j hj => by have := hr j hj; omega) a (k - a) (by omega)
    have HE1 : M.sm b.W a (k + 1 - a) = M.sm b.W a (k - a) + b.W k := by rw [show k + 1 - a = (k - a) + 1 by omega]; show _ + b.W (a + (k - a)) = _; rw [show a + (k - a) = k by omega]
    have HE2 : M.sm b.G a (k + 1 - a) = M.sm b.G a (k - a) + b.G k := by rw [show k + 1 - a = (k - a) + 1 by omega]; show _ + b.G (a + (k - a)) = _; rw [show a + (k - a) = k by omega]
    have s0 := hB.s0
    have s1 := hB.s1
    have sf0 := hB.sf 0
    have sf1 := hB.sf 1
    clear q0 q1
    have hS2 : 0 ≤ M.sm b.W a (k + 1 - a) ∧ M.sm b.W a (k + 1 - a) ≤ 10240000 := by rw [HE1]; omega
    have hG2 : 0 ≤ M.sm b.G a (k + 1 - a) ∧ M.sm b.G a (k + 1 - a) ≤ 10240000 := by rw [HE2]; omega
    have ef : M.ft b a (k + 1) = decide (M.sm b.W a (k + 1 - a) - M.sm b.G a (k + 1 - a) ≤ b.wide) := rfl
    have ec : M.cs b n a (k + 1) = M.cz (M.sm b.W a (k + 1 - a)) b.wide (decide (k + 1 = n)) := rfl
    generalize hS2e : M.sm b.W a (k + 1 - a) = S2 at *
    generalize hT2e : M.sm b.G a (k + 1 - a) = T2 at *
    have HS2 : Hid (M.sm b.W a (k + 1 - a) = S2) := hS2e
    have HT2 : Hid (M.sm b.G a (k + 1 - a) = T2) := hT2e
    clear hS2e hT2e
    generalize M.sm b.W a (k - a) = S at *
    generalize M.sm b.G a (k - a) = T at *
    generalize b.W k = X at *
    generalize b.G k = Y at *
    have cW : ∀ d os, Calls Try.prog 21 #[.agg #[.int .i64 S, .int .i64 T], .agg #[.int .i64 X, .int .i64 Y]] (grow (redrawn wr d) os) fun e w'' => e = .returned (.agg #[.int .i64 S2, .int .i64 T2]) ∧ ∃ p : Regrown, w'' = grow (redrawn wr p.d) p.os := fun d os => by
      rw [HE1, HE2]; exact Calls.regrown_of (with_any S T X Y _ (by omega) (by omega) (by omega) (by omega))
    have u0 := cell_regrown s0
    have u1 := cell_regrown s1
    have u2 := cell_regrown r0
    have u3 := cell_regrown r1
    go_wp2_with fail
    refine U2.wp_region_tail_below 6 (by decide) (by kernel_rfl) (by kernel_rfl) (by kernel_rfl) (by kernel_rfl) ?_
    dsimp only [List.take, List.drop]
    repeat (go_big_quiet_step (exact cW _ _))
    refine wpQuiet_nil ?_
    rintro w2 ⟨⟨dq, osq⟩, hw2⟩
    have hb12 : Below wr.heap.size wr w2 := by rw [hw2]; exact below_regrown wr dq osq
    have hB2 := hB.keep hb12
    clear u0 u1 u2 u3 cW s0 s1 sf0 sf1 sz sz1 sz0 r0 r1 hw2 HE1 HE2 hb12 hbl hS hG hBx hB
    have s0 := hB2.s0
    have s1 := hB2.s1
    have sf0 := hB2.sf 0
    have sf1 := hB2.sf 1
    have sz := hB2.sz
    have hB3 := hB2.first S2 T2
    have HFi := fun w => fits_any S2 T2 b.wide w (by omega) (by omega)
    have HC := fun w => costs_any S2 T2 b.wide (decide (k + 1 = n)) w (by omega) (by omega) w1b w2b
    rw [← ec] at HC
    rw [← ef] at HFi
    go_wp2_with fail
    clear hB2 s0 s1 sf0 sf1 sz
    generalize (w2.setCell ⟨w.heap.size + 1 + 1, 0, none⟩ (.int .i64 S2)).setCell ⟨w.heap.size + 1 + 1, 1, none⟩ (.int .i64 T2) = W3 at *
    refine (HFi _).mono ?_
    rintro e w4 ⟨rfl, hb4⟩
    have hB4 := hB3.keep hb4
    clear hB3 hb4 HFi
    have sz := hB4.sz
    have sz1 : w.heap.size + 1 < w4.heap.size := by omega
    have sz0 : w.heap.size < w4.heap.size := by omega
    cases hf : M.ft b a (k + 1)
    · have hIs : Hid (M.Is b n a v) := M.iu_stop hr hak hlt hI.out hf
      have a0 := hB4.r.c0
      have a1 := hB4.r.c1
      have a2 := hB4.r.c2
      have a3 := hB4.r.c3
      have c0 := hB4.b.c0
      have c1 := hB4.b.c1
      have c2 := hB4.b.c2
      have c3 := hB4.b.c3
      have f0 := hB4.rf 0
      have f1 := hB4.rf 1
      have f2 := hB4.rf 2
      have f3 := hB4.rf 3
      have hbel := hB4.bel
      obtain ⟨o0, o1, o2, o3, o4, o5, o6⟩ := set4 (x0 := .bool v.ex) (x1 := .int .i64 v.cost) (x2 := .int .i64 v.lines) (x3 := .int .i64 v.fin) a0 a1 a2 a3
      clear hI hB4 hV hf ec ef HC
      go_wp2_with fail
      refine bodyPost_ret (v := wv v) (by simp [results, Try.results20, go_sem, o0, o1, o2, o3]) rfl ⟨⟨v, rfl, hIs.out⟩, (((hbel.setCell (by simp) _).setCell (by simp) _).setCell (by simp) _).setCell (by simp) _⟩
    have hu := hV (k + 1) (by omega) (by omega)
    have hT4 := (hT.step hB4.bel)
    have tt := hT4.at' (k + 1) (by omega) (by omega)
    have tlt := hT4.lt
    have t0 := tt.c0
    have t1 := tt.c1
    have t2 := tt.c2
    have t3 := tt.c3
    clear tt hV
    generalize V (k + 1) = u at *
    have hkl : ((k : Int) + 1) < (n : Int) + 1 := by omega
    have hkl2 : k + 1 < n + 1 := by omega
    cases hx : u.ex
    · have hI2 : Hid (M.Iu b n a (k + 1) v) := M.iu_skip hI.out hu hx
      rw [hx] at t0
      clear hI hu hf ec ef HC hx
      go_wp2_with fail
      go_roundw
      case rel => exact ⟨k + 1, v, by omega, by omega, by go_num, hI2, by rw [HS2.out, HT2.out]; exact hB4.keep (by go_grown)⟩
      case measure => simp [intOf]; omega
    have hI2 : Hid (M.Iu b n a (k + 1) (if M.be v ⟨true, M.cs b n a (k + 1) + u.cost, 1 + u.lines, (k + 1 : Nat)⟩ = true then v else ⟨true, M.cs b n a (k + 1) + u.cost, 1 + u.lines, (k + 1 : Nat)⟩)) := M.iu_take hak hlt hI.out hu hx hf
    obtain ⟨ub1, ub2, ub3, ub4, _⟩ := M.is_cost hr hn w1b w2b hu hx
    have cb := M.cs_bd hr hn w1b w2b (a := a) (e := k + 1) (by omega) (by omega)
    rw [hx] at t0
    rw [show ((k + 1 : Nat) : Int) = (k : Int) + 1 by omega] at hI2
    clear hI hu hf ec ef hx
    generalize M.cs b n a (k + 1) = K at *
    generalize u.cost = UC at *
    generalize u.lines = UL at *
    generalize u.fin = UF at *
    have hdn : decide (k + 1 = n) = (((k : Int) + 1) == (n : Int)) := by by_cases h : k + 1 = n <;> simp [h] <;> omega
    rw [hdn] at HC
    clear hdn
    go_wp2_with fail
    have hB5 := hB4.keep (w' := w4.alloc (.cells #[.bool true, .int .i64 UC, .int .i64 UL, .int .i64 UF] 40)) (by go_grown)
    have p1 : (w4.alloc (.cells #[.bool true, .int .i64 UC, .int .i64 UL, .int .i64 UF] 40)).cell? ⟨w4.heap.size, 1, none⟩ = some (.int .i64 UC) := by simp [go_sem]
    have p2 : (w4.alloc (.cells #[.bool true, .int .i64 UC, .int .i64 UL, .int .i64 UF] 40)).cell? ⟨w4.heap.size, 2, none⟩ = some (.int .i64 UL) := by simp [go_sem]
    have pz : w4.heap.size < (w4.alloc (.cells #[.bool true, .int .i64 UC, .int .i64 UL, .int .i64 UF] 40)).heap.size := by simp
    generalize w4.alloc (.cells #[.bool true, .int .i64 UC, .int .i64 UL, .int .i64 UF] 40) = w5 at *
    generalize w4.heap.size = P at *
    clear hB4 hT4 t0 t1 t2 t3 tlt sz sz1 sz0
    have s0 := hB5.s0
    have s1 := hB5.s1
    have sz := hB5.sz
    have mkS : ∀ W, Below w5.heap.size w5 W → (Below w5.heap.size w5 W ∧ W.cell? ⟨w.heap.size + 1 + 1, 0, none⟩ = some (.int .i64 S2) ∧ W.cell? ⟨w.heap.size + 1 + 1, 1, none⟩ = some (.int .i64 T2) ∧ W.cell? ⟨P, 1, none⟩ = some (.int .i64 UC) ∧ W.cell? ⟨P, 2, none⟩ = some (.int .i64 UL)) := fun W h => ⟨h, keepC h sz s0, keepC h sz s1, keepC h pz p1, keepC h pz p2⟩
    have wk : IntKind.i64.wrap (K + UC) = K + UC := wid (by omega) (by omega)
    have wl : IntKind.i64.wrap (1 + UL) = 1 + UL := wid (by omega) (by omega)
    go_cut [13] (fun c wx => ∃ q : Nat, c = .pointer (some ⟨q, 0, none⟩) ∧ w5.heap.size ≤ q ∧ q < wx.heap.size ∧ Below w5.heap.size w5 wx ∧ C4 wx q 0 ⟨true, K + UC, 1 + UL, (k : Int) + 1⟩)
    case first =>
      go_region_held3 (fun W => Below w5.heap.size w5 W ∧ W.cell? ⟨w.heap.size + 1 + 1, 0, none⟩ = some (.int .i64 S2) ∧ W.cell? ⟨w.heap.size + 1 + 1, 1, none⟩ = some (.int .i64 T2) ∧ W.cell? ⟨P, 1, none⟩ = some (.int .i64 UC) ∧ W.cell? ⟨P, 2, none⟩ = some (.int .i64 UL))
        (first | exact mkS _ hbn | exact mkS _ (hbn.alloc hbn.size _) | exact mkS _ ((((hbn.setCell hnl _).setCell hnl _).setCell hnl _).setCell hnl _) | (refine mkS _ ?_; (solve | go_grown)))
        (first
          | (go_at_call 19; refine (HC _).mono ?_; (all_goals first | omega | skip); rintro e wa ⟨rfl, hba⟩
             first
               | (have hnl := hbn.size; have nn := new_kept4 hba; obtain ⟨n0, n1, n2, n3, g0, hnz, hbx⟩ := nn; have hbn : Below w5.heap.size w5 wa := hbn.trans (hbx.mono hbn.size))
               | (have nn := new_kept4 hba; obtain ⟨n0, n1, n2, n3, g0, hnz, hbn⟩ := nn; have hnl := Nat.le_refl w5.heap.size)
               | (have nn := new_kept4_drew hba; obtain ⟨n0, n1, n2, n3, g0, hnz, hbn⟩ := nn; have hnl := Nat.le_refl w5.heap.size)
               | (have hbn : Below w5.heap.size w5 wa := Below.trans (by go_grown) (hba.mono (by simp)))))
      all_goals
        go_wp2_with fail
        go_meet
        case rel =>
          first
            | exact ⟨wa.heap.size, rfl, hbn.size, by simp, hbn.alloc hbn.size _, by simp [go_sem], by simp [go_sem], by simp [go_sem], by simp [go_sem]⟩
            | exact ⟨_, rfl, hnl, by simpa [World.setCell] using hnz, (((hbn.setCell hnl _).setCell hnl _).setCell hnl _).setCell hnl _, by simp [go_sem, n0], by simp [go_sem, n1], by simp [go_sem, n2], by simp [go_sem, n3]⟩
    case rest =>
      obtain ⟨q3, rfl, hq1, hq2, hbx, hC4⟩ := hcut
      rename World => w6
      have hB6 := hB5.keep hbx
      have HBt := fun w => beats_any v ⟨true, K + UC, 1 + UL, (k : Int) + 1⟩ w
      clear hB5 s0 s1 sz mkS HC p1 p2 pz wk wl hbx hq1
      have sz := hB6.sz
      have sz1 : w.heap.size + 1 < w6.heap.size := by omega
      have c0 := hB6.b.c0
      have c1 := hB6.b.c1
      have c2 := hB6.b.c2
      have c3 := hB6.b.c3
      have d0 := hC4.c0
      have d1 := hC4.c1
      have d2 := hC4.c2
      have d3 := hC4.c3
      simp only [Nat.zero_add] at c0 c1 c2 c3 d0 d1 d2 d3
      have hI3 : Hid (M.be v ⟨true, K + UC, 1 + UL, (k : Int) + 1⟩ = true → M.Iu b n a (k + 1) v) := fun h => by have := hI2.out; rw [if_pos h] at this; exact this
      have hI4 : Hid (M.be v ⟨true, K + UC, 1 + UL, (k : Int) + 1⟩ = false → M.Iu b n a (k + 1) ⟨true, K + UC, 1 + UL, (k : Int) + 1⟩) := fun h => by have := hI2.out; rw [if_neg (by rw [h]; decide)] at this; exact this
      clear hI2
      go_wp2_with fail
      refine (HBt _).mono ?_
      rintro e w7 ⟨rfl, hb7⟩
      have hB7 := hB6.keep hb7
      have e0 := keepC hb7 hq2 d0
      have e1 := keepC hb7 hq2 d1
      have e2 := keepC hb7 hq2 d2
      have e3 := keepC hb7 hq2 d3
      have hq7 : q3 < w7.heap.size := Nat.lt_of_lt_of_le hq2 hb7.size
      clear hB6 hb7 HBt c0 c1 c2 c3 d0 d1 d2 d3 sz sz1 hC4
      cases hbe : M.be v ⟨true, K + UC, 1 + UL, (k : Int) + 1⟩
      · rw [hbe] at hI3 hI4
        have hI5 : Hid (M.Iu b n a (k + 1) ⟨true, K + UC, 1 + UL, (k : Int) + 1⟩) := hI4.out rfl
        have hB8 := hB7.best ⟨true, K + UC, 1 + UL, (k : Int) + 1⟩
        have sz := hB7.sz
        have sz1 : w.heap.size + 1 < w7.heap.size := by omega
        have c0 := hB7.b.c0
        have c1 := hB7.b.c1
        have c2 := hB7.b.c2
        have c3 := hB7.b.c3
        simp only [Nat.zero_add] at c0 c1 c2 c3
        have f0 := hB7.bf 0
        have f1 := hB7.bf 1
        have f2 := hB7.bf 2
        have f3 := hB7.bf 3
        clear hI3 hI4 hbe hB7
        go_wp2_with fail
        go_roundw
        case rel => exact ⟨k + 1, _, by omega, by omega, by go_num, hI5, by rw [HS2.out, HT2.out]; exact hB8⟩
        case measure => simp [intOf]; omega
      · have hI5 : Hid (M.Iu b n a (k + 1) v) := hI3.out hbe
        clear hI3 hI4 hbe
        go_wp2_with fail
        go_roundw
        case rel => exact ⟨k + 1, v, by omega, by omega, by go_num, hI5, by rw [HS2.out, HT2.out]; exact hB7⟩
        case measure => simp [intOf]; omega
end Go.Proofs.Ytiffppnaaenalag.V
