/- What the document's Break comes to. -/
import Derived.Test.YtiffppnaaenalagV10
import Derived.Deep.DeepCutAuto
namespace Go.Proofs.Ytiffppnaaenalag.V
open Go.RowKit Go.Maps Go.Sort
set_option linter.unusedVariables false
set_option linter.unusedSimpArgs false

set_option maxRecDepth 20000 in
set_option maxHeartbeats 16000000 in
theorem refBreak_any (b : M.Bx) (ao : Option Addr) (n c : Nat) (w : World) (hp : BL w ao n b) (hc : n ≤ c) (hcm : c ≤ 9223372036854775807) :
    Calls Try.prog 9 #[.slice ao n c, .int .i64 b.wide] w fun e w' => (∃ bo m d x C E, e = .returned (.tuple #[.slice bo m d, .int .i64 C, .int .i64 E]) ∧ m ≤ d ∧ d ≤ 9223372036854775807 ∧ LI w' bo m x ∧ M.BrR b n x m C E) ∧ Below w.heap.size w w' := by
  have HW := fun w hp => refWrong_any b ao n c w hp hc hcm
  by_cases hw : M.wr b n = 0
  rotate_left
  · have hw' : (M.wr b n != 0) = true := by simp [hw]
    have HR : Hid (M.BrR b n (fun _ => 0) 0 0 (M.wr b n)) := Or.inl ⟨hw, rfl, rfl, rfl⟩
    clear hw
    generalize M.wr b n = X at *
    go_enter Try.func9, Try.ntmps9
    go_wp2_with fail
    refine (HW _ hp).mono ?_
    rintro e w1 ⟨rfl, hb1⟩
    go_wp2_with fail
    go_returns
    exact ⟨⟨none, 0, 0, _, _, _, rfl, by omega, by omega, ⟨fun h => by omega⟩, HR.out⟩, hb1⟩
  obtain ⟨hn, w1b, w2b, hr⟩ := M.wr_zero hw
  have HNo : Hid ((∀ l, ¬ M.wy b n n 0 l) → M.BrR b n (fun _ => 0) 0 0 6) := fun h => Or.inr (Or.inl ⟨hw, rfl, rfl, rfl, h⟩)
  have HYes : Hid (∀ (x : Nat → Int) (m : Nat), (∀ j, j < m → 0 ≤ x j ∧ x j ≤ n) → M.Bst b n n 0 (M.ls x 0 m) → M.BrR b n x m (M.co b n 0 (M.ls x 0 m)) 0) := fun x m h1 h2 => Or.inr (Or.inr ⟨hw, rfl, h1, rfl, h2⟩)
  rw [hw] at HW
  clear hw
  obtain ⟨i0, hi0, hz0, hz1, hz2⟩ := info_parts info3
  have wn : IntKind.i64.wrap ((n : Int) + 1) = (n : Int) + 1 := wid (by omega) (by omega)
  have mk1 : ∀ w : World, (Instr.makeSlice 41 (.int .i64 ((n : Int) + 1)) (.int .i64 ((n : Int) + 1))).run Try.prog w = .ok (.slice (some ⟨w.heap.size, 0, none⟩) (n + 1) (n + 1)) (w.alloc (.cells (madeCells #[.slice none 0 0] (n + 1)) 23)) := fun w => by
    have := run_make_row' (P := Try.prog) 41 23 (.slice none 0 0) 24 Try.underlying41 infoS rfl .i64 .i64 (n + 1) (by omega) (by omega) w
    push_cast at this; exact this
  have mk2 : ∀ w : World, (Instr.makeSlice 23 (.int .i64 ((n : Int) + 1)) (.int .i64 ((n : Int) + 1))).run Try.prog w = .ok (.slice (some ⟨w.heap.size, 0, none⟩) (n + 1) (n + 1)) (w.alloc (.cells (madeCells #[.int .i64 0] (n + 1)) 3)) := fun w => by
    have := run_make_row' (P := Try.prog) 23 3 (.int .i64 0) 8 Try.underlying23 info3 rfl .i64 .i64 (n + 1) (by omega) (by omega) w
    push_cast at this; exact this
  have mk3 : ∀ w : World, (Instr.makeSlice 42 (.int .i64 ((n : Int) + 1)) (.int .i64 ((n : Int) + 1))).run Try.prog w = .ok (.slice (some ⟨w.heap.size, 0, none⟩) (n + 1) (n + 1)) (w.alloc (.cells (madeCells #[.bool false] (n + 1)) 4)) := fun w => by
    have := run_make_row' (P := Try.prog) 42 4 (.bool false) 1 Try.underlying42 infoB rfl .i64 .i64 (n + 1) (by omega) (by omega) w
    push_cast at this; exact this
  go_enter Try.func9, Try.ntmps9
  go_wp2_with fail
  refine (HW _ hp).mono ?_
  rintro e w1 ⟨rfl, hb1⟩
  clear HW
  go_upto_region 7 with fail
  have hS0 := st_made w1 n
  have hbA : Below w1.heap.size w1 (((w1.alloc (.cells (madeCells #[.slice none 0 0] (n + 1)) 23)).alloc (.cells (madeCells #[.int .i64 0] (n + 1)) 3)).alloc (.cells (madeCells #[.bool false] (n + 1)) 4)) := by go_grown
  generalize ((w1.alloc (.cells (madeCells #[.slice none 0 0] (n + 1)) 23)).alloc (.cells (madeCells #[.int .i64 0] (n + 1)) 3)).alloc (.cells (madeCells #[.bool false] (n + 1)) 4) = W0 at *
  clear mk1 mk2 mk3
  have c0 : W0.cell? ⟨w1.heap.size + 1 + 1, 0, none⟩ = some (.bool false) := hS0.rt.cell (by omega)
  have f0 := hS0.rt.frozen 0
  have zz := hS0.rt.lt
  have hS1 : St (W0.setCell ⟨w1.heap.size + 1 + 1, 0, none⟩ (.bool true)) w1.heap.size n (upd (fun _ => false) 0 true) (fun _ => 0) (fun _ => []) (fun _ => .slice none 0 0) :=
    ⟨hS0.rw'.setOther (by simp; omega) _, hS0.rc.setOther (by simp) _, World.rowIs.congr (hS0.rt.set 0 _) (fun j hj => by unfold upd; split <;> rfl), fun j hj => Wl.nil _ _ _⟩
  have hn0 : (0 : Int) < (n : Int) + 1 := by omega
  go_wp2_with fail
  go_loopw [11] (fun i wr => ∃ (z : Nat) (T : Nat → Bool) (K : Nat → Int) (L : Nat → List Nat) (f : Nat → Value), 1 ≤ z ∧ z ≤ n + 1 ∧ i = .int .i64 (z : Int) ∧ Below w1.heap.size w1 wr ∧ St wr w1.heap.size n T K L f ∧ Hid (∀ j, j < z → M.Fw b n j (T j) (K j) (L j)) ∧ Hid (∀ j, z ≤ j → T j = false)) (fun i _ => n + 1 - (intOf i).toNat)
  case atStart =>
    refine ⟨1, _, _, _, _, by omega, by omega, rfl, hbA.setCell (by simp; omega) _, hS1, fun j hj => ?_, fun j hj => upd_other (by omega)⟩
    obtain rfl : j = 0 := by omega
    exact M.fw_start b n
  case round =>
    obtain ⟨z, T, K, L, f, hz1', hzn, rfl, hbr, hS, hF, hT⟩ := hrel
    clear hS0 hS1 c0 f0 zz hbA
    have k1 : Below w.heap.size w wr := hb1.trans (hbr.mono hb1.size)
    by_cases hzl : z ≤ n
    rotate_left
    · obtain rfl : z = n + 1 := by omega
      have hFn := hF.out n (by omega)
      have c0 : wr.cell? ⟨w1.heap.size + 1 + 1, n, none⟩ = some (.bool (T n)) := hS.rt.cell (by omega)
      have c1 : wr.cell? ⟨w1.heap.size + 1, n, none⟩ = some (.int .i64 (K n)) := hS.rc.cell (by omega)
      have c2 : wr.cell? ⟨w1.heap.size, n, none⟩ = some (f n) := hS.rw'.cell (by omega)
      obtain ⟨bo, m, d, x, g1, g2, g3, g4, g5, g6, g7, g8⟩ := (hS.wl n (by omega)).at'
      rw [g1] at c2
      have z1 := hS.rt.lt
      have z2 := hS.rc.lt
      have z3 := hS.rw'.lt
      have hnn : (n : Int) < (n : Int) + 1 := by omega
      have hnn2 : n < n + 1 := by omega
      have hcc : ((n + 1 : Nat) : Int) = (n : Int) + 1 := by omega
      rw [hcc]
      have hno : ¬ ((n : Int) + 1 ≤ n) := by omega
      cases hTn : T n
      · have hV : Hid (M.BrR b n (fun _ => 0) 0 0 6) := HNo.out (by
          rcases hFn with ⟨h1, _⟩ | ⟨_, h2⟩
          · rw [hTn] at h1; exact absurd h1 (by decide)
          · exact h2)
        rw [hTn] at c0
        clear HNo HYes hFn hF hT hTn hS
        go_wp2_with fail
        go_returns
        exact ⟨⟨none, 0, 0, _, _, _, rfl, by omega, by omega, ⟨fun h => by omega⟩, hV.out⟩, k1⟩
      · have hV : Hid (M.BrR b n x m (K n) 0) := by
          show M.BrR _ _ _ _ _ _
          rcases hFn with ⟨_, h1, h2⟩ | ⟨h1, _⟩
          · rw [h2, ← g5]; rw [← g5] at h1; exact HYes.out x m g8 h1
          · rw [hTn] at h1; exact absurd h1 (by decide)
        rw [hTn] at c0
        generalize K n = KN at *
        clear HNo HYes hFn hF hT hTn hS g5 g8
        go_wp2_with fail
        go_quiet (fail)
        go_wp2_with fail
        go_returns
        exact ⟨⟨_, _, _, _, _, _, rfl, g2, g3, g4.step (below_drewN (Below.refl _ _) _), hV.out⟩, below_drewN k1 _⟩
    have hzi : (z : Int) ≤ n := by omega
    have hTz := hT.out z (Nat.le_refl _)
    have hFu0 : Hid (M.Fu b n z z (T z) (K z) (L z)) := by rw [hTz]; exact M.fu_start b n z _ _
    have hT2 : Hid (∀ j, z < j → T j = false) := fun j hj => hT.out j (by omega)
    clear hTz hT
    obtain ⟨wo, hwo⟩ : ∃ x, x = wr := ⟨wr, rfl⟩
    subst hwo
    go_wp2_with fail
    go_loopw [12] (fun i wr => ∃ (g : Nat) (T : Nat → Bool) (K : Nat → Int) (L : Nat → List Nat) (f : Nat → Value), g ≤ z ∧ i = .int .i64 ((g : Int) - 1) ∧ Below w1.heap.size w1 wr ∧ St wr w1.heap.size n T K L f ∧ Hid (∀ j, j < z → M.Fw b n j (T j) (K j) (L j)) ∧ Hid (M.Fu b n z g (T z) (K z) (L z)) ∧ Hid (∀ j, z < j → T j = false)) (fun i _ => (intOf i + 1).toNat)
    case atStart => exact ⟨z, T, K, L, f, Nat.le_refl _, rfl, hbr, hS, hF, hFu0, hT2⟩
    case round =>
      clear hbr hS hF hFu0 hT2 k1
      obtain ⟨g, T, K, L, f, hgz, rfl, hbr, hS, hF, hFu, hT⟩ := hrel
      have k1 : Below w.heap.size w wr := hb1.trans (hbr.mono hb1.size)
      by_cases hg0 : g = 0
      · subst hg0
        have hF2 : Hid (∀ j, j < z + 1 → M.Fw b n j (T j) (K j) (L j)) := fun j hj => by
          rcases Nat.lt_succ_iff_lt_or_eq.1 hj with h1 | rfl
          · exact hF.out j h1
          · exact M.fu_all (by omega) hzl hFu.out
        have hT3 : Hid (∀ j, z + 1 ≤ j → T j = false) := fun j hj => hT.out j (by omega)
        clear hF hFu hT
        go_wp2_with fail
        go_roundw
        case rel => exact ⟨z + 1, T, K, L, f, by omega, by omega, by go_num, hbr, hS, hF2, hT3⟩
        case measure => simp [intOf]; omega
      obtain ⟨i, rfl⟩ : ∃ i, g = i + 1 := ⟨g - 1, by omega⟩
      have ei : ((i + 1 : Nat) : Int) - 1 = (i : Int) := by omega
      rw [ei]
      have hil : (i : Int) < (n : Int) + 1 := by omega
      have hil2 : i < n + 1 := by omega
      have c0 : wr.cell? ⟨w1.heap.size + 1 + 1, i, none⟩ = some (.bool (T i)) := hS.rt.cell (by omega)
      have z1 := hS.rt.lt
      have hFi := hF.out i (by omega)
      cases hTi : T i
      · have hFu2 : Hid (M.Fu b n z i (T z) (K z) (L z)) := M.fu_none hFu.out hFi hTi
        rw [hTi] at c0
        clear hFu hFi hTi
        go_wp2_with fail
        go_roundw
        case rel => exact ⟨i, T, K, L, f, by omega, rfl, hbr, hS, hF, hFu2, hT⟩
        case measure => simp [intOf]
      rw [hTi] at c0 hFi
      have HL := Line_any b ao n c i z wr (hp.step k1) hc hcm hr hn w1b w2b (by omega) hzl
      cases hft : M.ft b i z
      · have hFu2 : Hid (M.Fu b n z i (T z) (K z) (L z)) := M.fu_skip hFu.out (fun _ _ => hft)
        rw [hft] at HL
        clear hFu hFi hTi hft
        go_wp2_with fail
        refine HL.mono ?_
        rintro e w2 ⟨rfl, hb2⟩
        have hb12 := hbr.trans (hb2.mono hbr.size)
        have hS2 := hS.keep hb2
        clear HL hS hb2
        go_wp2_with fail
        go_roundw
        case rel => exact ⟨i, T, K, L, f, by omega, rfl, hb12, hS2, hF, hFu2, hT⟩
        case measure => simp [intOf]
      rw [hft, if_pos rfl] at HL
      obtain ⟨ft1, ft2⟩ := M.fu_take (by omega) hFu.out hFi hft
      have FT1 : Hid (M.tk (T z) (K i + M.cs b n i z) (L i ++ [z]) (K z) (L z) = true → M.Fu b n z i true (K i + M.cs b n i z) (L i ++ [z])) := ft1
      have FT2 : Hid (M.tk (T z) (K i + M.cs b n i z) (L i ++ [z]) (K z) (L z) = false → M.Fu b n z i (T z) (K z) (L z)) := ft2
      obtain ⟨kb1, kb2, kb3⟩ := M.fw_bd hr hn w1b w2b (by omega) hFi
      have cb := M.cs_bd hr hn w1b w2b (a := i) (e := z) (by omega) hzl
      clear ft1 ft2 hFu hFi hft
      generalize M.cs b n i z = C at *
      go_wp2_with fail
      refine HL.mono ?_
      rintro e w2 ⟨rfl, hb2⟩
      have hb12 := hbr.trans (hb2.mono hbr.size)
      have hS2 := hS.keep hb2
      clear HL hS hb2 c0 z1 hbr k1
      obtain ⟨bo, m, d, x, g1, g2, g3, g4, g5, g6, g7, g8⟩ := (hS2.wl i (by omega)).at'
      have c2 : w2.cell? ⟨w1.heap.size, i, none⟩ = some (f i) := hS2.rw'.cell (by omega)
      rw [g1] at c2
      have z1 := hS2.rt.lt
      have z2 := hS2.rc.lt
      have z3 := hS2.rw'.lt
      have hmz : m ≤ 1024 := by rw [← g5, M.ls_len] at kb3; omega
      have hown : (w2.alloc (.cells #[] 3)).ownsRow w2.heap.size 3 1 (.slice (some ⟨w2.heap.size, 0, none⟩) 0 0) 0 [] := World.ownsRow_made w2 _ 0 (Nat.le_refl _) (by unfold maxLen; omega) (by simp)
      have g4' := g4.step (w' := w2.alloc (.cells #[] 3)) (by go_grown)
      go_wp2_with (at_builtin; refine wpList_append_li rfl (.tmp 63) (.tmp 67) 23 rfl w2.heap.size 3 i0 (.int .i64 0) Try.underlying23 hi0 hz0 hz1 hz2 rfl _ 0 [] rfl hown bo m d x rfl g4' g6 (by omega) (by simp) ?_)
      intro v4 w4 hown4 hgr4 hloc4
      have hb24 : Below w2.heap.size w2 w4 := (Below.alloc (Below.refl _ _) (Nat.le_refl _) _).grown hgr4 (by simp) (fun k hk => by simp [Value.ownBlock] at hk; omega)
      have E3 : Hid (rows (ic x) m ++ [.int .i64 (z : Int)] = rows (ic (ex x m (z : Int))) (m + 1)) := by
        show _ = rows (ic (ex x m (z : Int))) m ++ ic (ex x m (z : Int)) m
        rw [rows_ext (x := ex x m (z : Int)) (y := x) (fun j hj => ex_less hj)]; unfold ic; rw [ex_same]
      have hxb : ∀ j, j < m + 1 → 0 ≤ ex x m (z : Int) j ∧ ex x m (z : Int) j ≤ n := fun j hj => by
        rcases Nat.lt_succ_iff_lt_or_eq.1 hj with h | rfl
        · rw [ex_less h]; exact g8 j h
        · rw [ex_same]; omega
      have hls : M.ls (ex x m (z : Int)) 0 (m + 1) = L i ++ [z] := by
        rw [M.ls_snoc, Nat.zero_add, ex_same, Int.toNat_natCast, M.ls_ext (y := x) (fun j _ hj => ex_less (by omega)), g5]
      have hxb' : Hid (∀ j, j < m + 1 → 0 ≤ ex x m (z : Int) j ∧ ex x m (z : Int) j ≤ n) := hxb
      have hls' : Hid (M.ls (ex x m (z : Int)) 0 (m + 1) = L i ++ [z]) := hls
      have z4 := hb24.size
      clear hgr4 hloc4 g4 g4' g5 g6 g7 g8 g1 g2 g3 c2 hown hxb hls
      go_wp2_with (at_builtin; refine wpList_append_own_at _ rfl (.tmp 68) (.tmp 70) 23 rfl w2.heap.size 3 i0 (.int .i64 0) 1 8 Try.underlying23 hi0 hz0 hz1 hz2 rfl (by decide) _ m (rows (ic x) m) rfl (hown4.alloc _) ⟨w4.heap.size, 0, none⟩ 1 1 [.int .i64 (z : Int)] rfl rfl ?c1 ?c2 ?c3 ?c4 ?c5 ?_)
      case c1 =>
        intro j u hj
        match j, hj with
        | 0, hj => simp at hj; subst hj; simp [Addr.add, go_sem]
      case c2 => intro u hu; simp at hu; subst hu; rfl
      case c3 => unfold maxLen; omega
      case c4 => omega
      case c5 => simp; omega
      intro v5 w5 hown5 hgrow _ hloc
      rw [E3.out] at hown5
      have hlo := hown4.lt
      have hb25 : Below w2.heap.size w2 w5 := (hb24.alloc hb24.size _).grown hgrow (by simp; omega) (fun k hk => (hlo k hk).1)
      have hS5 := hS2.keep hb25
      have hW5 : Wl w5 w1.heap.size n v5 (L i ++ [z]) := by rw [← hls'.out]; exact own_Wl z1 hown5 (by omega) hxb'.out
      have hb15 : Below w1.heap.size w1 w5 := hb12.trans (hb25.mono hb12.size)
      clear hgrow hloc hlo hown4 hown5 E3 hxb' hls' hb24 hS2 hb25 hb12 z1 z2 z3 z4 hmz
      obtain ⟨vo, vm, vd, vx, hv1, hv2, hv3, hv4, hv5, hv6, hv7, hv8⟩ := hW5.at'
      subst hv1
      have hzl2 : (z : Int) < (n : Int) + 1 := by omega
      have hzl3 : z < n + 1 := by omega
      have wk : IntKind.i64.wrap (K i + C) = K i + C := wid (by omega) (by omega)
      have z1 := hS5.rt.lt
      have z2 := hS5.rc.lt
      have z3 := hS5.rw'.lt
      cases hTz : T z
      · rw [hTz] at FT1
        have FU : Hid (M.Fu b n z i true (K i + C) (L i ++ [z])) := FT1.out rfl
        have d0 : w5.cell? ⟨w1.heap.size + 1 + 1, z, none⟩ = some (.bool (T z)) := hS5.rt.cell (by omega)
        rw [hTz] at d0
        clear FT1 FT2
        go_wp2_with fail
        go_quiet (fail)
        have hb26 : Below w5.heap.size w5 (w5.drewN nq) := below_drewN (Below.refl _ _) _
        have hS6 := hS5.keep hb26
        have hW6 := hW5.keep hb26
        clear hS5 hW5 d0 hv4
        generalize w5.drewN nq = w6 at *
        rename Below w1.heap.size w1 w5 => hb12
        have c1 : w6.cell? ⟨w1.heap.size + 1, i, none⟩ = some (.int .i64 (K i)) := hS6.rc.cell (by omega)
        have d0 : w6.cell? ⟨w1.heap.size + 1 + 1, z, none⟩ = some (.bool (T z)) := hS6.rt.cell (by omega)
        have d1 : w6.cell? ⟨w1.heap.size + 1, z, none⟩ = some (.int .i64 (K z)) := hS6.rc.cell (by omega)
        have d2 : w6.cell? ⟨w1.heap.size, z, none⟩ = some (f z) := hS6.rw'.cell (by omega)
        have e0 := hS6.rt.frozen z
        have e1 := hS6.rc.frozen z
        have e2 := hS6.rw'.frozen z
        have y1 := hS6.rt.lt
        have y2 := hS6.rc.lt
        have y3 := hS6.rw'.lt
        have hS7 := hS6.set z (K i + C) _ _ hW6
        have hF7 : Hid (∀ j, j < z → M.Fw b n j (upd T z true j) (upd K z (K i + C) j) (upd L z (L i ++ [z]) j)) := fun j hj => by rw [upd_other (by omega), upd_other (by omega), upd_other (by omega)]; exact hF.out j hj
        have hU7 : Hid (M.Fu b n z i (upd T z true z) (upd K z (K i + C) z) (upd L z (L i ++ [z]) z)) := by rw [upd_same, upd_same, upd_same]; exact FU.out
        have hT7 : Hid (∀ j, z < j → upd T z true j = false) := fun j hj => by rw [upd_other (by omega)]; exact hT.out j hj
        have hbw6 : Below w1.heap.size w1 w6 := hb12.trans (hb26.mono hb12.size)
        clear hS6 hW6 FU hF hT hTz hb12 hb26
        go_wp2_with fail
        go_roundw
        case rel => exact ⟨i, _, _, _, _, by omega, rfl, ((hbw6.setCell (by simp; omega) _).setCell (by simp) _).setCell (by simp) _, hS7, hF7, hU7, hT7⟩
        case measure => simp [intOf]
      · rw [hTz] at FT1 FT2
        obtain ⟨uo, um, ud, ux, hu1, hu2, hu3, hu4, hu5, hu6, hu7, hu8⟩ := (hS5.wl z (by omega)).at'
        have c1 : w5.cell? ⟨w1.heap.size + 1, i, none⟩ = some (.int .i64 (K i)) := hS5.rc.cell (by omega)
        have d0 : w5.cell? ⟨w1.heap.size + 1 + 1, z, none⟩ = some (.bool (T z)) := hS5.rt.cell (by omega)
        have d1 : w5.cell? ⟨w1.heap.size + 1, z, none⟩ = some (.int .i64 (K z)) := hS5.rc.cell (by omega)
        have d2 : w5.cell? ⟨w1.heap.size, z, none⟩ = some (f z) := hS5.rw'.cell (by omega)
        rw [hTz] at d0
        rw [hu1] at d2
        have cS : ∀ d os, Calls Try.prog 14 #[.int .i64 (K i + C), .slice vo vm vd, .int .i64 (K z), .slice uo um ud] (grow (redrawn w5 d) os) fun e w'' => e = .returned (.bool (M.bt (K i + C) (L i ++ [z]) (K z) (L z))) ∧ ∃ p : Regrown, w'' = grow (redrawn w5 p.d) p.os := fun d os => by
          rw [← hv5, ← hu5]
          exact Calls.regrown_of (Better_any (K i + C) (K z) vo uo vm vd um ud vx ux _ (hv4.step (below_regrown w5 d os)) hv2 hv3 (hu4.step (below_regrown w5 d os)) hu2 hu3 (fun j hj => (hv8 j hj).1) (fun j hj => (hu8 j hj).1))
        have u0 := cell_regrown c1
        have u1 := cell_regrown d0
        have u2 := cell_regrown d1
        have u3 := cell_regrown d2
        have FU1 : Hid (M.bt (K i + C) (L i ++ [z]) (K z) (L z) = true → M.Fu b n z i true (K i + C) (L i ++ [z])) := FT1.out
        have FU2 : Hid (M.bt (K i + C) (L i ++ [z]) (K z) (L z) = false → M.Fu b n z i true (K z) (L z)) := FT2.out
        clear FT1 FT2 hu1
        generalize M.bt (K i + C) (L i ++ [z]) (K z) (L z) = BT at *
        go_wp2_with fail
        refine wp_region_quiet_below (by kernel_rfl) (by kernel_rfl) ?_
        repeat (go_big_quiet_step (exact cS _ _))
        refine wpQuiet_nil ?_
        rintro w6 ⟨⟨dq, osq⟩, hw6⟩
        have hb26 : Below w5.heap.size w5 w6 := by rw [hw6]; exact below_regrown w5 dq osq
        have hS6 := hS5.keep hb26
        have hW6 := hW5.keep hb26
        clear hS5 hW5 d0 d1 d2 c1 u0 u1 u2 u3 cS hw6 hv4 hu4
        rename Below w1.heap.size w1 w5 => hb12
        cases BT
        · have FU : Hid (M.Fu b n z i (T z) (K z) (L z)) := by rw [hTz]; exact FU2.out rfl
          clear FU1 FU2
          go_wp2_with fail
          go_roundw
          case rel => exact ⟨i, T, K, L, f, by omega, rfl, hb12.trans (hb26.mono hb12.size), hS6, hF, FU, hT⟩
          case measure => simp [intOf]
        · have FU : Hid (M.Fu b n z i true (K i + C) (L i ++ [z])) := FU1.out rfl
          clear FU1 FU2
          have c1 : w6.cell? ⟨w1.heap.size + 1, i, none⟩ = some (.int .i64 (K i)) := hS6.rc.cell (by omega)
          have d0 : w6.cell? ⟨w1.heap.size + 1 + 1, z, none⟩ = some (.bool (T z)) := hS6.rt.cell (by omega)
          have d1 : w6.cell? ⟨w1.heap.size + 1, z, none⟩ = some (.int .i64 (K z)) := hS6.rc.cell (by omega)
          have d2 : w6.cell? ⟨w1.heap.size, z, none⟩ = some (f z) := hS6.rw'.cell (by omega)
          have e0 := hS6.rt.frozen z
          have e1 := hS6.rc.frozen z
          have e2 := hS6.rw'.frozen z
          have y1 := hS6.rt.lt
          have y2 := hS6.rc.lt
          have y3 := hS6.rw'.lt
          have hS7 := hS6.set z (K i + C) _ _ hW6
          have hF7 : Hid (∀ j, j < z → M.Fw b n j (upd T z true j) (upd K z (K i + C) j) (upd L z (L i ++ [z]) j)) := fun j hj => by rw [upd_other (by omega), upd_other (by omega), upd_other (by omega)]; exact hF.out j hj
          have hU7 : Hid (M.Fu b n z i (upd T z true z) (upd K z (K i + C) z) (upd L z (L i ++ [z]) z)) := by rw [upd_same, upd_same, upd_same]; exact FU.out
          have hT7 : Hid (∀ j, z < j → upd T z true j = false) := fun j hj => by rw [upd_other (by omega)]; exact hT.out j hj
          have hbw6 : Below w1.heap.size w1 w6 := hb12.trans (hb26.mono hb12.size)
          clear hS6 hW6 FU hF hT hTz hb12 hb26
          go_wp2_with fail
          go_roundw
          case rel => exact ⟨i, _, _, _, _, by omega, rfl, ((hbw6.setCell (by simp; omega) _).setCell (by simp) _).setCell (by simp) _, hS7, hF7, hU7, hT7⟩
          case measure => simp [intOf]
end Go.Proofs.Ytiffppnaaenalag.V
