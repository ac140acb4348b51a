/- The statement RhythmSpans: the walk of its text. -/
import Derived.Test.YtgcnmmjgdpdmbacB15
namespace Go.Proofs.Ytgcnmmjgdpdmbac.F
open Go.RowKit
set_option linter.unusedVariables false
set_option linter.unusedSimpArgs false

theorem spL_get (l : List M.Sp) (i j : Nat) (x : M.Sp) (h : l[i]? = some x) (hj : j < 5) : (spL l)[i * 5 + j]? = (spC x)[j]? := by
  induction l generalizing i with
  | nil => simp at h
  | cons y l ih =>
    show (spC y ++ spL l)[i * 5 + j]? = _
    cases i with
    | zero =>
      simp at h; subst h
      rw [List.getElem?_append_left (by simp [spC]; omega)]
      simp
    | succ i =>
      simp at h
      rw [List.getElem?_append_right (by simp [spC]; omega), show (i + 1) * 5 + j - (spC y).length = i * 5 + j by simp [spC]; omega]
      exact ih i h

set_option maxHeartbeats 1000000 in
theorem SameSpans_own (v v' : Value) (o : List M.Sp) (base base' : Nat) (w : World) (hN2 : o.length ≤ 70000)
    (h : w.ownsRow base 60 5 v o.length (spL o)) (h' : w.ownsRow base' 60 5 v' o.length (spL o)) :
    Calls Try.prog 14 #[v, v'] w fun e w' => e = .returned (.bool true) ∧ Below w.heap.size w w' := by
  by_cases h0 : o.length = 0
  · rw [h0] at h h'
    obtain ⟨a, c, rfl⟩ := own_form h
    obtain ⟨a', c', rfl⟩ := own_form h'
    go_enter Try.func14, Try.ntmps14
    go_wp2_with fail
    refine wp_loop_rounds 1 ?_
    rw [rounds_succ]
    go_wp2_with fail
    go_ret
    exact ⟨rfl, Below.refl _ _⟩
  · obtain ⟨g, cap, rfl, _, c2, c3, c4⟩ := own_cells h (by omega)
    obtain ⟨g', cap', rfl, _, c2', c3', c4'⟩ := own_cells h' (by omega)
    have H0 : Hid (∀ k x, o[k]? = some x → (w.cell? ⟨g, k * 5, none⟩ = some (.int .i64 x.1.1) ∧ w.cell? ⟨g, k * 5 + 1, none⟩ = some (.int .i64 x.1.2) ∧ w.cell? ⟨g, k * 5 + 2, none⟩ = some (.int .i64 x.2.1.1) ∧ w.cell? ⟨g, k * 5 + 3, none⟩ = some (.int .i64 x.2.1.2) ∧ w.cell? ⟨g, k * 5 + 4, none⟩ = some (.bool x.2.2)) ∧ (w.cell? ⟨g', k * 5, none⟩ = some (.int .i64 x.1.1) ∧ w.cell? ⟨g', k * 5 + 1, none⟩ = some (.int .i64 x.1.2) ∧ w.cell? ⟨g', k * 5 + 2, none⟩ = some (.int .i64 x.2.1.1) ∧ w.cell? ⟨g', k * 5 + 3, none⟩ = some (.int .i64 x.2.1.2) ∧ w.cell? ⟨g', k * 5 + 4, none⟩ = some (.bool x.2.2))) := fun k x hx => by
      have hk := (List.getElem?_eq_some_iff.1 hx).1
      have e0 := spL_get o k 0 x hx (by omega)
      have e1 := spL_get o k 1 x hx (by omega)
      have e2 := spL_get o k 2 x hx (by omega)
      have e3 := spL_get o k 3 x hx (by omega)
      have e4 := spL_get o k 4 x hx (by omega)
      exact ⟨⟨(c4 (k * 5 + 0) (by omega)).trans e0, (c4 _ (by omega)).trans e1, (c4 _ (by omega)).trans e2, (c4 _ (by omega)).trans e3, (c4 _ (by omega)).trans e4⟩, ⟨(c4' (k * 5 + 0) (by omega)).trans e0, (c4' _ (by omega)).trans e1, (c4' _ (by omega)).trans e2, (c4' _ (by omega)).trans e3, (c4' _ (by omega)).trans e4⟩⟩
    clear c4 c4' h h'
    go_enter Try.func14, Try.ntmps14
    go_wp2_with fail
    go_loopw [13] (fun i wr => ∃ k : Nat, k ≤ o.length ∧ i = .int .i64 k ∧ Below w.heap.size w wr)
      (fun i _ => o.length - (intOf i).toNat)
    case atStart => exact ⟨0, by omega, rfl, Below.refl _ _⟩
    case round =>
      obtain ⟨k, hk, rfl, hbr⟩ := hrel
      have zr := hbr.size
      by_cases hlt : k < o.length
      · obtain ⟨x, hx⟩ : ∃ x, o[k]? = some x := ⟨o[k], List.getElem?_eq_getElem hlt⟩
        obtain ⟨⟨m0, m1, m2, m3, m4⟩, ⟨m5, m6, m7, m8, m9⟩⟩ := H0.out k x hx
        replace m0 := keepC hbr c2 m0
        replace m1 := keepC hbr c2 m1
        replace m2 := keepC hbr c2 m2
        replace m3 := keepC hbr c2 m3
        replace m4 := keepC hbr c2 m4
        replace m5 := keepC hbr c2' m5
        replace m6 := keepC hbr c2' m6
        replace m7 := keepC hbr c2' m7
        replace m8 := keepC hbr c2' m8
        replace m9 := keepC hbr c2' m9
        clear hx
        generalize x.1.1 = X1 at *
        generalize x.1.2 = X2 at *
        generalize x.2.1.1 = X3 at *
        generalize x.2.1.2 = X4 at *
        generalize x.2.2 = X5 at *
        go_wp2_with fail
        go_region
        go_wp2_with fail
        go_roundw
        case rel => exact ⟨k + 1, by omega, by go_num, hbr.drew⟩
        case measure => simp [intOf]; omega
      · go_wp2_with fail
        go_ret
        exact ⟨rfl, hbr⟩

theorem M.spn_len (b : M.Bt) (u d : Int) : (M.spn b u d).2.length ≤ 70000 := by
  unfold M.spn
  split
  · simp
  · rename_i hw
    split
    · simp
    · rename_i hk
      split
      · simp
      · split
        · simp
        · rename_i o ho
          have hF := M.cnt_bd b (by simpa using hw)
          have hok : M.ok u d = true := by simpa using hk
          have := (M.sh_ok b hF.2 (0, 1) (u, d) [] o (by unfold M.Ok M.ok; decide) hok (fun s hs => by simp at hs) ho).2
          simp at this
          show o.length ≤ 70000
          omega

set_option maxHeartbeats 2000000 in
theorem spans_walk (b : M.Bt) (u d : Int) (v : Value) (w : World) (hL : Lies w w.heap.size b v) (h : -9223372036854775808 ≤ u ∧ u ≤ 9223372036854775807) (h' : -9223372036854775808 ≤ d ∧ d ≤ 9223372036854775807) :
    Calls Try.prog 4 #[v, .agg #[.int .i64 u, .int .i64 d]] w fun e w' => e = .returned (.bool true) ∧ Below w.heap.size w w' := by
  have hL0 := hL
  obtain ⟨_, _, _, _, rfl⟩ | ⟨k, s, n, kid, rfl⟩ := M.Bt.two b
  · exact False.elim hL
  obtain ⟨ao, cap, rfl, hn, _⟩ := hL
  generalize hbt : M.Bt.mk k s n kid = bt at *
  have hW := fun (X : World) (hb : Below w.heap.size w X) => Wrong_any _ X w.heap.size _ (Lies.step _ _ hL0 hb) hb.size
  have hW' := fun (X : World) (hb : Below w.heap.size w X) => refWrong_any _ X w.heap.size _ (Lies.step _ _ hL0 hb) hb.size
  have hS := fun (X : World) (hb : Below w.heap.size w X) => Spans_prog bt u d X _ ((Lies.step _ _ hL0 hb).wide hb.size) h.1 h.2 h'.1 h'.2
  have hS' := fun (X : World) (hb : Below w.heap.size w X) => refSpans_any bt u d X _ ((Lies.step _ _ hL0 hb).wide hb.size) h.1 h.2 h'.1 h'.2
  have hlen := M.spn_len bt u d
  generalize (M.wr bt 1 4096).1 = E at *
  generalize M.spn bt u d = R at *
  obtain ⟨E2, o⟩ := R
  go_enter Try.func4, Try.ntmps4
  go_wp2_with fail
  have g0 : Below w.heap.size w ((w.alloc (Obj.cells #[.int .i64 k, .int .i64 s, .slice ao n cap] 36)).alloc (Obj.cells #[.int .i64 u, .int .i64 d] 26)) := by go_grown
  have A0 : ((w.alloc (Obj.cells #[.int .i64 k, .int .i64 s, .slice ao n cap] 36)).alloc (Obj.cells #[.int .i64 u, .int .i64 d] 26)).cell? ⟨w.heap.size, 0, none⟩ = some (.int .i64 k) := by simp [go_sem]
  have A1 : ((w.alloc (Obj.cells #[.int .i64 k, .int .i64 s, .slice ao n cap] 36)).alloc (Obj.cells #[.int .i64 u, .int .i64 d] 26)).cell? ⟨w.heap.size, 1, none⟩ = some (.int .i64 s) := by simp [go_sem]
  have A2 : ((w.alloc (Obj.cells #[.int .i64 k, .int .i64 s, .slice ao n cap] 36)).alloc (Obj.cells #[.int .i64 u, .int .i64 d] 26)).cell? ⟨w.heap.size, 2, none⟩ = some (.slice ao n cap) := by simp [go_sem]
  have B0 : ((w.alloc (Obj.cells #[.int .i64 k, .int .i64 s, .slice ao n cap] 36)).alloc (Obj.cells #[.int .i64 u, .int .i64 d] 26)).cell? ⟨w.heap.size + 1, 0, none⟩ = some (.int .i64 u) := by simp [go_sem]
  have B1 : ((w.alloc (Obj.cells #[.int .i64 k, .int .i64 s, .slice ao n cap] 36)).alloc (Obj.cells #[.int .i64 u, .int .i64 d] 26)).cell? ⟨w.heap.size + 1, 1, none⟩ = some (.int .i64 d) := by simp [go_sem]
  have z0 : ((w.alloc (Obj.cells #[.int .i64 k, .int .i64 s, .slice ao n cap] 36)).alloc (Obj.cells #[.int .i64 u, .int .i64 d] 26)).heap.size = w.heap.size + 2 := by simp
  generalize (w.alloc (Obj.cells #[.int .i64 k, .int .i64 s, .slice ao n cap] 36)).alloc (Obj.cells #[.int .i64 u, .int .i64 d] 26) = W0 at *
  have s0 : w.heap.size < W0.heap.size := by omega
  have s1 : w.heap.size + 1 < W0.heap.size := by omega
  have mkS : ∀ w', Below W0.heap.size W0 w' → (Below W0.heap.size W0 w' ∧ w'.cell? ⟨w.heap.size, 0, none⟩ = some (.int .i64 k) ∧ w'.cell? ⟨w.heap.size, 1, none⟩ = some (.int .i64 s) ∧ w'.cell? ⟨w.heap.size, 2, none⟩ = some (.slice ao n cap)) := fun w' hb => ⟨hb, keepC hb s0 A0, keepC hb s0 A1, keepC hb s0 A2⟩
  go_cut [13] (fun c wx => c = .bool false ∧ Below W0.heap.size W0 wx)
  case first =>
    go_region_held3 (fun w' => Below W0.heap.size W0 w' ∧ w'.cell? ⟨w.heap.size, 0, none⟩ = some (.int .i64 k) ∧ w'.cell? ⟨w.heap.size, 1, none⟩ = some (.int .i64 s) ∧ w'.cell? ⟨w.heap.size, 2, none⟩ = some (.slice ao n cap))
      (first | exact mkS _ hbn | (refine mkS _ ?_; (solve | go_grown)))
      (first
        | (go_at_call 10; refine (hW _ ?_).mono ?_; (first | exact g0 | exact g0.trans (Below.mono (by go_grown) g0.size)); rintro e wa ⟨rfl, hba⟩; have hbn : Below W0.heap.size W0 wa := Below.trans (by go_grown) (hba.mono (by simp)))
        | (go_at_call 11; refine (hW' _ ?_).mono ?_; (exact g0.trans (hbn.mono g0.size)); rintro e wb ⟨rfl, hbb⟩; have hbn := hbn.trans (hbb.mono hbn.size)))
    all_goals
      go_wp2_with fail
      go_meet
      case rel => exact ⟨by simp, hbn⟩
  case rest =>
    obtain ⟨rfl, hbx⟩ := hcut
    replace A0 := keepC hbx s0 A0
    replace A1 := keepC hbx s0 A1
    replace A2 := keepC hbx s0 A2
    replace B0 := keepC hbx s1 B0
    replace B1 := keepC hbx s1 B1
    have h0c := g0.trans (hbx.mono g0.size)
    have zc := hbx.size
    have t0 : w.heap.size < wc.heap.size := by omega
    have t1 : w.heap.size + 1 < wc.heap.size := by omega
    clear mkS hW hW' g0
    go_wp2_with fail
    refine (hS _ h0c).mono ?_
    rintro e w3 ⟨v3, rfl, o3, hb3⟩
    replace A0 := keepC hb3 t0 A0
    replace A1 := keepC hb3 t0 A1
    replace A2 := keepC hb3 t0 A2
    replace B0 := keepC hb3 t1 B0
    replace B1 := keepC hb3 t1 B1
    have h03 := h0c.trans (hb3.mono h0c.size)
    have z3 := hb3.size
    have t2 : w.heap.size < w3.heap.size := by omega
    have t3 : w.heap.size + 1 < w3.heap.size := by omega
    go_wp2_with fail
    refine (hS' _ h03).mono ?_
    rintro e w4 ⟨v4, rfl, o4, hb4⟩
    have h04 := h03.trans (hb4.mono h03.size)
    have o3' := own_step o3 hb4
    clear o3
    dsimp only at *
    go_wp2_with fail
    refine (SameSpans_own _ _ o _ _ _ hlen o3' o4).mono ?_
    rintro e w5 ⟨rfl, hb5⟩
    go_wp2_with fail
    go_ret
    exact ⟨by simp, h04.trans (hb5.mono h04.size)⟩
end Go.Proofs.Ytgcnmmjgdpdmbac.F
