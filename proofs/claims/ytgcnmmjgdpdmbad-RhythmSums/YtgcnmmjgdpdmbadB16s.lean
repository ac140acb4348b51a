/- What SameSpans comes to at the same spans; how many spans there are at most. -/
import Derived.Test.YtgcnmmjgdpdmbadB13
namespace Go.Proofs.Ytgcnmmjgdpdmbad.F
open Go.RowKit
set_option linter.unusedVariables false
set_option linter.unusedSimpArgs false

theorem spL_get (l : List M.Sp) (i j : Nat) (x : M.Sp) (h : l[i]? = some x) (hj : j < 5) : (spL l)[i * 5 + j]? = (spC x)[j]? := by
  induction l generalizing i with
  | nil => simp at h
  | cons y l ih =>
    show (spC y ++ spL l)[i * 5 + j]? = _
    cases i with
    | zero =>
      simp at h; subst h
      rw [List.getElem?_append_left (by simp [spC]; omega)]
      simp
    | succ i =>
      simp at h
      rw [List.getElem?_append_right (by simp [spC]; omega), show (i + 1) * 5 + j - (spC y).length = i * 5 + j by simp [spC]; omega]
      exact ih i h

set_option maxHeartbeats 1000000 in
theorem SameSpans_own (v v' : Value) (o : List M.Sp) (base base' : Nat) (w : World) (hN2 : o.length ≤ 70000)
    (h : w.ownsRow base 33 5 v o.length (spL o)) (h' : w.ownsRow base' 33 5 v' o.length (spL o)) :
    Calls Try.prog 9 #[v, v'] w fun e w' => e = .returned (.bool true) ∧ Below w.heap.size w w' := by
  by_cases h0 : o.length = 0
  · rw [h0] at h h'
    obtain ⟨a, c, rfl⟩ := own_form h
    obtain ⟨a', c', rfl⟩ := own_form h'
    go_enter Try.func9, Try.ntmps9
    go_wp2_with fail
    refine wp_loop_rounds 1 ?_
    rw [rounds_succ]
    go_wp2_with fail
    go_ret
    exact ⟨rfl, Below.refl _ _⟩
  · obtain ⟨g, cap, rfl, _, c2, c3, c4⟩ := own_cells h (by omega)
    obtain ⟨g', cap', rfl, _, c2', c3', c4'⟩ := own_cells h' (by omega)
    have H0 : Hid (∀ k x, o[k]? = some x → (w.cell? ⟨g, k * 5, none⟩ = some (.int .i64 x.1.1) ∧ w.cell? ⟨g, k * 5 + 1, none⟩ = some (.int .i64 x.1.2) ∧ w.cell? ⟨g, k * 5 + 2, none⟩ = some (.int .i64 x.2.1.1) ∧ w.cell? ⟨g, k * 5 + 3, none⟩ = some (.int .i64 x.2.1.2) ∧ w.cell? ⟨g, k * 5 + 4, none⟩ = some (.bool x.2.2)) ∧ (w.cell? ⟨g', k * 5, none⟩ = some (.int .i64 x.1.1) ∧ w.cell? ⟨g', k * 5 + 1, none⟩ = some (.int .i64 x.1.2) ∧ w.cell? ⟨g', k * 5 + 2, none⟩ = some (.int .i64 x.2.1.1) ∧ w.cell? ⟨g', k * 5 + 3, none⟩ = some (.int .i64 x.2.1.2) ∧ w.cell? ⟨g', k * 5 + 4, none⟩ = some (.bool x.2.2))) := fun k x hx => by
      have hk := (List.getElem?_eq_some_iff.1 hx).1
      have e0 := spL_get o k 0 x hx (by omega)
      have e1 := spL_get o k 1 x hx (by omega)
      have e2 := spL_get o k 2 x hx (by omega)
      have e3 := spL_get o k 3 x hx (by omega)
      have e4 := spL_get o k 4 x hx (by omega)
      exact ⟨⟨(c4 (k * 5 + 0) (by omega)).trans e0, (c4 _ (by omega)).trans e1, (c4 _ (by omega)).trans e2, (c4 _ (by omega)).trans e3, (c4 _ (by omega)).trans e4⟩, ⟨(c4' (k * 5 + 0) (by omega)).trans e0, (c4' _ (by omega)).trans e1, (c4' _ (by omega)).trans e2, (c4' _ (by omega)).trans e3, (c4' _ (by omega)).trans e4⟩⟩
    clear c4 c4' h h'
    go_enter Try.func9, Try.ntmps9
    go_wp2_with fail
    go_loopw [13] (fun i wr => ∃ k : Nat, k ≤ o.length ∧ i = .int .i64 k ∧ Below w.heap.size w wr)
      (fun i _ => o.length - (intOf i).toNat)
    case atStart => exact ⟨0, by omega, rfl, Below.refl _ _⟩
    case round =>
      obtain ⟨k, hk, rfl, hbr⟩ := hrel
      have zr := hbr.size
      by_cases hlt : k < o.length
      · obtain ⟨x, hx⟩ : ∃ x, o[k]? = some x := ⟨o[k], List.getElem?_eq_getElem hlt⟩
        obtain ⟨⟨m0, m1, m2, m3, m4⟩, ⟨m5, m6, m7, m8, m9⟩⟩ := H0.out k x hx
        replace m0 := keepC hbr c2 m0
        replace m1 := keepC hbr c2 m1
        replace m2 := keepC hbr c2 m2
        replace m3 := keepC hbr c2 m3
        replace m4 := keepC hbr c2 m4
        replace m5 := keepC hbr c2' m5
        replace m6 := keepC hbr c2' m6
        replace m7 := keepC hbr c2' m7
        replace m8 := keepC hbr c2' m8
        replace m9 := keepC hbr c2' m9
        clear hx
        generalize x.1.1 = X1 at *
        generalize x.1.2 = X2 at *
        generalize x.2.1.1 = X3 at *
        generalize x.2.1.2 = X4 at *
        generalize x.2.2 = X5 at *
        go_wp2_with fail
        go_region
        go_wp2_with fail
        go_roundw
        case rel => exact ⟨k + 1, by omega, by go_num, hbr.drew⟩
        case measure => simp [intOf]; omega
      · go_wp2_with fail
        go_ret
        exact ⟨rfl, hbr⟩

theorem M.spn_len (b : M.Bt) (u d : Int) : (M.spn b u d).2.length ≤ 70000 := by
  unfold M.spn
  split
  · simp
  · rename_i hw
    split
    · simp
    · rename_i hk
      split
      · simp
      · split
        · simp
        · rename_i o ho
          have hF := M.cnt_bd b (by simpa using hw)
          have hok : M.ok u d = true := by simpa using hk
          have := (M.sh_ok b hF.2 (0, 1) (u, d) [] o (by unfold M.Ok M.ok; decide) hok (fun s hs => by simp at hs) ho).2
          simp at this
          show o.length ≤ 70000
          omega

end Go.Proofs.Ytgcnmmjgdpdmbad.F
