/- The document's Find: its walk. -/
import Derived.Test.YtmgkbnlmdhnjnaeUR8
namespace Go.Proofs.Ytmgkbnlmdhnjnae.U
open Go.RowKit Go.Maps Go.Sort
set_option linter.unusedVariables false
set_option linter.unusedSimpArgs false

set_option maxRecDepth 100000 in
set_option maxHeartbeats 8000000 in
theorem refFind_any (r : M.Ru) (ao : Option Addr) (n c : Nat) (g : Nat → Int) (w : World) (hp : LI w ao n g) (hc : n ≤ c) (hcm : c ≤ 9223372036854775807) (HWy : M.wr r g n = 0 → WaysC r ao n c g) :
    Calls Try.prog 24 #[.agg #[.int .i64 r.low, .int .i64 r.high, .bool r.above, .int .i64 r.leap, .int .i64 r.classes], .slice ao n c] w fun e w' => (∃ bo m d x E, e = .returned (.tuple #[.slice bo m d, .int .i64 E]) ∧ m ≤ d ∧ d ≤ 9223372036854775807 ∧ LI w' bo m x ∧ FnR r g n x m E) ∧ Below w.heap.size w w' := by
  have HW := fun w hp => refWrong_any r ao n c g w hp hc hcm
  by_cases hw : M.wr r g n = 0
  rotate_left
  · have hw' : (M.wr r g n != 0) = true := by simp [hw]
    have HR : Hid (FnR r g n (fun _ => 0) 0 (M.wr r g n)) := Or.inl ⟨hw, rfl, rfl⟩
    clear HWy
    generalize M.wr r g n = X at *
    go_enter Try.func24, Try.ntmps24
    go_wp2_with fail
    refine (HW _ (hp.step (by go_grown))).mono ?_
    rintro e w1 ⟨rfl, hb1⟩
    go_wp2_with fail
    go_returns
    exact ⟨⟨none, 0, 0, _, _, rfl, by omega, by omega, ⟨fun h => by omega⟩, HR.out⟩, Below.trans (by go_grown) (hb1.mono (by simp))⟩
  obtain ⟨h1, h2, h3, h4⟩ := M.wr_zero hw
  have HY := HWy hw
  clear HWy
  rw [hw] at HW
  have r0 := h4.l0
  have r1 := h4.lh
  have r2 := h4.hm
  have HB := fun (i l d : Nat) (bo : Option Addr) (x : Nat → Int) (w : World) (hp : LI w ao n g) (hq : LI w bo l x) hd hdm hi hil hk hpk => Breaks_any r ao n c i g bo l d x w hp hc hcm hq hd hdm h4 hi hil h2 h3 hk hpk
  obtain ⟨i0, hi0, hz0, hz1, hz2⟩ := info_parts info3
  have HR1 : Hid (M.ct r g n n (-1) false = 0 → FnR r g n (fun _ => 0) 0 6) := fun h => Or.inr (Or.inl ⟨hw, rfl, rfl, h⟩)
  have HR2 : Hid (∀ x, (∀ i, i < n → FQ r g n x i) → FnR r g n x n 0) := fun x h => Or.inr (Or.inr ⟨hw, rfl, rfl, h⟩)
  clear hw
  have HOk : Hid r.Ok := h4
  clear h4
  go_enter Try.func24, Try.ntmps24
  go_wp2_with fail
  obtain ⟨W, hW⟩ : ∃ x, x = w.alloc (.cells #[.int .i64 r.low, .int .i64 r.high, .bool r.above, .int .i64 r.leap, .int .i64 r.classes] 38) := ⟨_, rfl⟩
  rw [← hW]
  have hK0 : WK w W r := by
    refine ⟨by rw [hW]; go_grown, by rw [hW]; simp, ?_, ?_, ?_, ?_, ?_⟩ <;> rw [hW] <;> simp [go_sem]
  clear hW
  refine (HW _ (hp.step hK0.bel)).mono ?_
  rintro e w1 ⟨rfl, hb1⟩
  have hK1 := hK0.step hb1
  clear hb1 hK0 HW
  go_wp2_with fail
  go_loopw [7, 20] (fun v s wr => ∃ (i d : Nat) (bo : Option Addr) (x : Nat → Int), i ≤ n ∧ v = .slice bo i d ∧ s = .int .i64 (i : Int) ∧ WK w wr r ∧ LI wr bo i x ∧ i ≤ d ∧ d ≤ 9223372036854775807 ∧ Hid (i = 0 → bo = none ∧ d = 0) ∧ Hid (∀ j, j < i → FQ r g n x j) ∧ Hid (i = 0 ∨ 0 < M.ct r g n (n - i) (M.stk x i) (M.sta x i)) ∧ Hid (∀ j, j < i → 0 ≤ x j ∧ x j ≤ 127)) (fun _ s _ => n - (intOf s).toNat)
  case atStart => exact ⟨0, 0, none, fun _ => 0, by omega, rfl, rfl, hK1, ⟨fun h => by omega⟩, by omega, by omega, fun _ => ⟨rfl, rfl⟩, fun j hj => by omega, Or.inl rfl, fun j hj => by omega⟩
  case round =>
    obtain ⟨i, d, bo, x, hin, rfl, rfl, hK, hli, hd, hdm, hnil, hF, hpos, hrange⟩ := hrel
    clear hK1
    by_cases hi : i < n
    rotate_left
    · have hie : i = n := by omega
      subst hie
      have HV : Hid (FnR r g i x i 0) := HR2.out x hF.out
      clear HR1 HR2 hF hpos
      go_wp2_with fail
      go_returns
      exact ⟨⟨_, _, _, _, _, rfl, hd, hdm, hli, HV.out⟩, hK.bel⟩
    have c0 := hK.r0
    have c1 := hK.r1
    have cs := hK.rs
    have HN : Hid ((∀ k, r.low ≤ k → k ≤ r.high → ¬ M.tk r g n x i k) → FnR r g n (fun _ => 0) 0 6) := fun h => by
      have h5 := FQ.no_tk HOk.out hi h
      refine HR1.out ?_
      rcases hpos.out with h6 | h6
      · subst h6; exact h5
      · rw [h5] at h6; exact absurd h6 (by omega)
    have HT : Hid (∀ K, M.tk r g n x i K → (∀ k, r.low ≤ k → k < K → ¬ M.tk r g n x i k) → (∀ j, j < i + 1 → FQ r g n (ex x i K) j) ∧ 0 < M.ct r g n (n - (i + 1)) (M.stk (ex x i K) (i + 1)) (M.sta (ex x i K) (i + 1))) := fun K h5 h6 => by
      have h7 := FQ.of_tk HOk.out h5 h6
      have h8 := h7.2.2.1
      refine ⟨fun j hj => ?_, ?_⟩
      · rcases Nat.lt_succ_iff_lt_or_eq.1 hj with h | rfl
        · exact FQ.ext (fun m hm => (ex_less (by omega)).symm) (hF.out j h)
        · exact h7
      · exact h8
    have HG : Hid (∀ K, 0 ≤ K → K ≤ 127 → ∀ j, j < i + 1 → 0 ≤ ex x i K j ∧ ex x i K j ≤ 127) := fun K hK0 hK1 j hj => by
      rcases Nat.lt_succ_iff_lt_or_eq.1 hj with h | rfl
      · rw [ex_less h]; exact hrange.out j h
      · rw [ex_same]; exact ⟨hK0, hK1⟩
    have HE : Hid (∀ K, rows (ic x) i ++ [.int .i64 K] = rows (ic (ex x i K)) (i + 1)) := fun K => by
      show _ = rows (ic (ex x i K)) i ++ ic (ex x i K) i
      rw [rows_ext (x := ex x i K) (y := x) (fun j hj => ex_less hj)]; unfold ic; rw [ex_same]
    have HBi : ∀ (K : Int) (b' : Option Addr) (d' : Nat) (w' : World), 0 ≤ K → K ≤ 127 → LI w' ao n g → LI w' b' (i + 1) (ex x i K) → i + 1 ≤ d' → d' ≤ 9223372036854775807 → Calls Try.prog 39 #[.agg #[.int .i64 r.low, .int .i64 r.high, .bool r.above, .int .i64 r.leap, .int .i64 r.classes], .slice ao n c, .slice b' (i + 1) d', .int .i64 (i : Int)] w' fun e w'' => e = .returned (.int .i64 (M.br r g n (ex x i K) i)) ∧ Below w'.heap.size w' w'' := fun K b' d' w' k0 k1 hp' hq' k2 k3 => by
      rw [← M.bq_br (fun j hj => (HG.out K k0 k1 j (by omega)).1)]
      exact HB i (i + 1) d' b' (ex x i K) w' hp' hq' k2 k3 hi (by omega) (HG.out K k0 k1 i (by omega)) (fun _ => HG.out K k0 k1 (i - 1) (by omega))
    have HYi : ∀ (K : Int) (b' : Option Addr) (d' : Nat) (w' : World), 0 ≤ K → K ≤ 127 → LI w' ao n g → LI w' b' (i + 1) (ex x i K) → i + 1 ≤ d' → d' ≤ 9223372036854775807 → Calls Try.prog 42 #[.agg #[.int .i64 r.low, .int .i64 r.high, .bool r.above, .int .i64 r.leap, .int .i64 r.classes], .slice ao n c, .slice b' (i + 1) d'] w' fun e w'' => e = .returned (.int .i64 (M.ct r g n (n - (i + 1)) K (K == M.stk x i))) ∧ Below w'.heap.size w' w'' := fun K b' d' w' k0 k1 hp' hq' k2 k3 => by
      have e1 : M.stk (ex x i K) (i + 1) = K := ex_same
      have e2 : M.sta (ex x i K) (i + 1) = (K == M.stk x i) := by simp only [M.sta]; rw [ex_same, M.stk_ext (fun j hj => ex_less hj)]
      have := HY b' (i + 1) d' (ex x i K) w' hp' hq' k2 k3 (by omega) (HG.out K k0 k1)
      rw [e1, e2] at this
      exact this
    have HTk : Hid (∀ K, M.tk r g n x i K ↔ M.br r g n (ex x i K) i = 0 ∧ 0 < M.ct r g n (n - (i + 1)) K (K == M.stk x i)) := fun K => Iff.rfl
    generalize hTK : M.tk r g n x i = TK at HN HT HTk
    generalize hfb : (fun K => M.br r g n (ex x i K) i) = fb at *
    generalize hfc : (fun K => M.ct r g n (n - (i + 1)) K (K == M.stk x i)) = fc at *
    have hfb' : ∀ K, M.br r g n (ex x i K) i = fb K := fun K => congrFun hfb K
    have hfc' : ∀ K, M.ct r g n (n - (i + 1)) K (K == M.stk x i) = fc K := fun K => congrFun hfc K
    simp only [hfb'] at HBi HTk
    simp only [hfc'] at HYi HTk
    clear hTK hfb hfc hfb' hfc' HB HY HR1 HR2 hF hpos HOk
    go_wp2_with fail
    go_loopw [7, 9, 10] (fun v f s wr => ∃ (b : Bool) (k : Int), f = .bool b ∧ s = .int .i64 k ∧ WK w wr r ∧ r.low ≤ k ∧ k ≤ r.high + 1 ∧ ((b = false ∧ v = .slice bo i d ∧ LI wr bo i x ∧ Hid (∀ k', r.low ≤ k' → k' < k → ¬ TK k')) ∨ (b = true ∧ ∃ (b' : Option Addr) (d' : Nat) (K : Int), v = .slice b' (i + 1) d' ∧ LI wr b' (i + 1) (ex x i K) ∧ i + 1 ≤ d' ∧ d' ≤ 9223372036854775807 ∧ 0 ≤ K ∧ K ≤ 127 ∧ Hid (TK K ∧ ∀ k', r.low ≤ k' → k' < K → ¬ TK k')))) (fun _ _ s _ => (r.high + 1 - intOf s).toNat)
    case atStart => exact ⟨false, r.low, rfl, rfl, hK, by omega, by omega, Or.inl ⟨rfl, rfl, hli, fun k' a b => by omega⟩⟩
    case round =>
      obtain ⟨b, k, rfl, rfl, hK2, hk0, hk1, hor⟩ := hrel
      clear hK c0 c1 cs hli
      have c0 := hK2.r0
      have c1 := hK2.r1
      have c2 := hK2.r2
      have c3 := hK2.r3
      have c4 := hK2.r4
      have cs := hK2.rs
      rcases hor with ⟨rfl, rfl, hli, hno⟩ | ⟨rfl, b', d', K, rfl, hli, hd1, hd2, hK0, hK1, hTK⟩
      rotate_left
      · have HV := HT.out K hTK.out.1 hTK.out.2
        have HV1 : Hid (∀ j, j < i + 1 → FQ r g n (ex x i K) j) := HV.1
        have HV2 : Hid (0 < M.ct r g n (n - (i + 1)) (M.stk (ex x i K) (i + 1)) (M.sta (ex x i K) (i + 1))) := HV.2
        have HV3 : Hid (∀ j, j < i + 1 → 0 ≤ ex x i K j ∧ ex x i K j ≤ 127) := HG.out K hK0 hK1
        clear HV HT HN HTk HG HE HBi HYi hTK
        by_cases hkh : k ≤ r.high
        · go_wp2_with fail
          go_roundw
          case rel => exact ⟨i + 1, d', b', ex x i K, by omega, rfl, by push_cast; rfl, hK2, hli, hd1, hd2, fun h => by omega, HV1, Or.inr HV2, HV3⟩
          case measure => simp [intOf]; omega
        · go_wp2_with fail
          go_roundw
          case rel => exact ⟨i + 1, d', b', ex x i K, by omega, rfl, by push_cast; rfl, hK2, hli, hd1, hd2, fun h => by omega, HV1, Or.inr HV2, HV3⟩
          case measure => simp [intOf]; omega
      · by_cases hkh : k ≤ r.high
        rotate_left
        · have HV : Hid (FnR r g n (fun _ => 0) 0 6) := HN.out (fun k' a b => hno.out k' a (by omega))
          clear HT HN HTk HG HE HBi HYi hno
          go_wp2_with fail
          go_returns
          exact ⟨⟨none, 0, 0, _, _, rfl, by omega, by omega, ⟨fun h => by omega⟩, HV.out⟩, hK2.bel⟩
        · have hown0 : (wr.alloc (.cells #[] 3)).ownsRow wr.heap.size 3 1 (.slice (some ⟨wr.heap.size, 0, none⟩) 0 0) 0 [] := World.ownsRow_made wr #[] 0 (Nat.le_refl _) (by unfold maxLen; omega) rfl
          have hk2 : 0 ≤ k := by omega
          have hk3 : k ≤ 127 := by omega
          have wk1 : IntKind.i64.wrap (k + 1) = k + 1 := wid (by omega) (by omega)
          go_wp2_with (at_builtin; refine wpList_append_li rfl (.tmp 35) (.tmp 36) 39 rfl wr.heap.size 3 i0 (.int .i64 0) Try.underlying39 hi0 hz0 hz1 hz2 rfl _ 0 [] rfl hown0 bo i d x rfl (hli.step (by go_grown)) hnil.out (by omega) (by simp) ?_)
          intro v5 w5 hown5 hgrow5 _
          replace hown5 : w5.ownsRow wr.heap.size 3 1 v5 i (rows (ic x) i) := by simpa using hown5
          have hb5 : Below wr.heap.size wr w5 := Below.grown ((Below.refl wr.heap.size wr).alloc (Nat.le_refl _) _) hgrow5 (by simp) (fun k hk => (hown0.lt k hk).1)
          have z5 := hb5.size
          clear hgrow5 hown0
          go_wp2_with (at_builtin; refine wpList_append_own_at _ rfl (.tmp 37) (.tmp 39) 39 rfl wr.heap.size 3 i0 (.int .i64 0) 1 8 Try.underlying39 hi0 hz0 hz1 hz2 rfl (by decide) _ i (rows (ic x) i) rfl (hown5.alloc _) ⟨w5.heap.size, 0, none⟩ 1 1 [.int .i64 k] rfl rfl (cell_one_new _ _ _) ?c2 ?c3 ?c4 ?c5 ?_)
          case c2 => intro u hu; simp at hu; subst hu; rfl
          case c3 => unfold maxLen; omega
          case c4 => omega
          case c5 => simp; omega
          intro v6 w6 hown6 hgrow6 _ _
          rw [HE.out k] at hown6
          have hb6 : Below wr.heap.size wr w6 := Below.grown (hb5.alloc hb5.size _) hgrow6 (by simp; omega) (fun k hk => (hown5.lt k hk).1)
          obtain ⟨b', d', hv6, hd1, hd2, hli6⟩ := own_LI hown6
          subst hv6
          have hK6 := hK2.step hb6
          clear hgrow6 hown5 hown6 hb5 z5 c0 c1 c2 c3 c4 cs
          have c0 := hK6.r0
          have c1 := hK6.r1
          have c2 := hK6.r2
          have c3 := hK6.r3
          have c4 := hK6.r4
          have cs := hK6.rs
          go_wp2_with fail
          refine (HBi k b' d' _ hk2 hk3 (hp.step hK6.bel) hli6 hd1 hd2).mono ?_
          rintro e w7 ⟨rfl, hb7⟩
          have hK7 := hK6.step hb7
          have hli7 := hli6.step hb7
          have hbl7 : Below wr.heap.size wr w7 := hb6.trans (hb7.mono hb6.size)
          clear hK6 hli6 hb7 c0 c1 c2 c3 c4 cs hb6
          have c0 := hK7.r0
          have c1 := hK7.r1
          have c2 := hK7.r2
          have c3 := hK7.r3
          have c4 := hK7.r4
          have cs := hK7.rs
          have HTkk : Hid (TK k ↔ fb k = 0 ∧ 0 < fc k) := HTk.out k
          have HYk := fun w' hp' hq' => HYi k b' d' w' hk2 hk3 hp' hq' hd1 hd2
          have Hno1 : Hid (¬ TK k → ∀ k', r.low ≤ k' → k' < k + 1 → ¬ TK k') := fun h k' a b => by
            by_cases e : k' = k
            · rw [e]; exact h
            · exact hno.out k' a (by omega)
          clear HTk HBi HYi HN HT HG HE
          generalize fb k = FB at *
          generalize fc k = FC at *
          by_cases hfb : FB = 0
          rotate_left
          · have hfb' : (FB == 0) = false := beq_eq_false_iff_ne.2 hfb
            have HV : Hid (∀ k', r.low ≤ k' → k' < k + 1 → ¬ TK k') := Hno1.out (fun h => hfb (HTkk.out.1 h).1)
            clear HTkk Hno1 HYk hno
            go_wp2_with fail
            go_roundw
            case rel => exact ⟨false, k + 1, rfl, rfl, hK7, by omega, by omega, Or.inl ⟨rfl, rfl, hli.step hbl7, HV⟩⟩
            case measure => simp [intOf]; omega
          · subst hfb
            go_wp2_with fail
            refine (HYk _ (hp.step hK7.bel) hli7).mono ?_
            rintro e w8 ⟨rfl, hb8⟩
            have hK8 := hK7.step hb8
            have hli8 := hli7.step hb8
            have hbl8 : Below wr.heap.size wr w8 := hbl7.trans (hb8.mono hbl7.size)
            clear HYk hb8 hK7 hli7 hbl7 c0 c1 c2 c3 c4 cs
            by_cases hfc : 0 < FC
            · have HV : Hid (TK k ∧ ∀ k', r.low ≤ k' → k' < k → ¬ TK k') := ⟨HTkk.out.2 ⟨by simp, hfc⟩, hno.out⟩
              clear HTkk Hno1 hno
              go_wp2_with fail
              go_roundw
              case rel => exact ⟨true, k + 1, rfl, rfl, hK8, by omega, by omega, Or.inr ⟨rfl, b', d', k, rfl, hli8, hd1, hd2, hk2, hk3, HV⟩⟩
              case measure => simp [intOf]; omega
            · have HV : Hid (∀ k', r.low ≤ k' → k' < k + 1 → ¬ TK k') := Hno1.out (fun h => hfc (HTkk.out.1 h).2)
              clear HTkk Hno1 hno
              go_wp2_with fail
              go_roundw
              case rel => exact ⟨false, k + 1, rfl, rfl, hK8, by omega, by omega, Or.inl ⟨rfl, rfl, hli.step hbl8, HV⟩⟩
              case measure => simp [intOf]; omega
end Go.Proofs.Ytmgkbnlmdhnjnae.U
