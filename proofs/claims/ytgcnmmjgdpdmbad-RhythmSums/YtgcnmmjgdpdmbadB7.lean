/- What the program's add comes to: a tie makes the last span longer. -/
import Derived.Test.YtgcnmmjgdpdmbadB6
import Derived.Deep.RegionWith
namespace Go.Proofs.Ytgcnmmjgdpdmbad.F
open Go.RowKit
set_option linter.unusedVariables false
set_option linter.unusedSimpArgs false

theorem spL_len (l : List M.Sp) : (spL l).length = l.length * 5 := by
  induction l with
  | nil => rfl
  | cons x l ih => simp [spL, ih, spC, Nat.succ_mul]
theorem spL_last (o : List M.Sp) (x : M.Sp) (i : Nat) : (spL (o ++ [x]))[o.length * 5 + i]? = (spC x)[i]? := by
  rw [spL_app, List.getElem?_append_right (by rw [spL_len]; omega), spL_len, show o.length * 5 + i - o.length * 5 = i by omega]
  simp [spL]
theorem spL_set (o : List M.Sp) (x : M.Sp) (f : M.Fr) : ((spL (o ++ [x])).set (o.length * 5 + 2) (.int .i64 f.1)).set (o.length * 5 + 2 + 1) (.int .i64 f.2) = spL (o ++ [(x.1, f, x.2.2)]) := by
  rw [spL_app, spL_app, List.set_append_right _ _ (by rw [spL_len]; omega), List.set_append_right _ _ (by rw [spL_len]; omega), spL_len, show o.length * 5 + 2 - o.length * 5 = 2 by omega, show o.length * 5 + 2 + 1 - o.length * 5 = 3 by omega]
  simp [spL, spC]

set_option maxRecDepth 20000 in
set_option maxHeartbeats 2000000 in
theorem add_tie (st lg : M.Fr) (sb : Bool) (o : List M.Sp) (x : M.Sp) (w : World) (po B : Nat) (hB : B ≤ po) (hO : OutAt w po (o ++ [x])) (hlen : o.length ≤ 4096) (hl : M.Ok lg) (hx : M.Ok x.2.1) :
    Calls Try.prog 15 #[.int .i64 3, .agg #[.int .i64 st.1, .int .i64 st.2, .int .i64 lg.1, .int .i64 lg.2, .bool sb], .pointer (some ⟨po, 0, none⟩)] w fun e w' => e = .returned (.int .i64 (M.tE (M.pl x.2.1 lg))) ∧ (∀ f, M.pl x.2.1 lg = some f → OutAt w' po (o ++ [(x.1, f, x.2.2)]) ∧ Keeps w po w') ∧ Below B w w' := by
  obtain ⟨v, cv0, hown⟩ := hO.v
  have fz := hO.fz
  have lt := hO.lt
  rw [show (o ++ [x]).length = o.length + 1 by simp] at hown
  obtain ⟨g, cap, rfl, c1, c2, c3, c4⟩ := own_cells hown (by omega)
  have q2 : w.cell? ⟨g, o.length * 5 + 2, none⟩ = some (.int .i64 x.2.1.1) := (c4 _ (by omega)).trans (spL_last o x 2)
  have q3 : w.cell? ⟨g, o.length * 5 + 3, none⟩ = some (.int .i64 x.2.1.2) := (c4 _ (by omega)).trans (spL_last o x 3)
  have f2 := hown.frozenAt (o.length * 5 + 2)
  have f3 := hown.frozenAt (o.length * 5 + 3)
  have hP := fun w => Plus_o x.2.1 lg w hx hl
  have HF : Hid (∀ f : M.Fr, M.pl x.2.1 lg = some f → M.tU (M.pl x.2.1 lg) = f.1 ∧ M.tD (M.pl x.2.1 lg) = f.2 ∧ ((spL (o ++ [x])).set (o.length * 5 + 2) (.int .i64 f.1)).set (o.length * 5 + 2 + 1) (.int .i64 f.2) = spL (o ++ [(x.1, f, x.2.2)])) := fun f hf => by rw [hf]; exact ⟨rfl, rfl, spL_set o x f⟩
  have Hown : Hid (w.ownsRow (po + 1) 33 5 (.slice (some ⟨g, 0, none⟩) (o.length + 1) cap) (o.length + 1) (spL (o ++ [x]))) := hown
  have HLn : Hid ((o ++ [x]).length = o.length + 1) := by show _ = _; simp
  clear c4 hown hO hl hx
  generalize hpl : M.pl x.2.1 lg = PL at *
  generalize M.tU PL = U at *
  generalize M.tD PL = D at *
  generalize M.tE PL = E at *
  generalize x.2.1.1 = xu at *
  generalize x.2.1.2 = xd at *
  generalize st.1 = su at *
  generalize st.2 = sd at *
  generalize lg.1 = lu at *
  generalize lg.2 = ld at *
  have gne : g ≠ w.heap.size := by omega
  have pne : po ≠ w.heap.size := by omega
  go_enter Try.func15, Try.ntmps15
  go_wp2_with fail
  have gpo : po ≠ g := by omega
  go_region_with (go_at_call 16; refine (hP _).mono ?_; rintro e wa ⟨rfl, hba⟩; have hw : Below w.heap.size w wa := Below.trans (by go_grown) (hba.mono (by simp)); have q2 := keepC hw c2 q2; have q3 := keepC hw c2 q3; have f2 := keepF hw c2 f2; have f3 := keepF hw c2 f3; have cp := keepC hw lt cv0; have fp := keepF hw lt fz; have za := hw.size; have gz : g < wa.heap.size := (by omega); have pz : po < wa.heap.size := (by omega))
  all_goals
    go_wp2_with fail
    go_ret
    refine ⟨rfl, fun f hf => ?_, ?_⟩
    · obtain ⟨h1, h2, h3⟩ := HF.out f (hpl.symm ▸ hf)
      have o1 := ((own_step Hown.out hw).stored (o.length * 5 + 2) (.int .i64 U)).1
      have o2 := (o1.stored (o.length * 5 + 2 + 1) (.int .i64 D)).1
      rw [h1, h2, h3] at o2
      rw [h1, h2]
      refine ⟨⟨by simp; omega, by simp [go_sem, fp], .slice (some ⟨g, 0, none⟩) (o.length + 1) cap, by simp [go_sem, cp, gpo, Ne.symm gpo], ?_⟩, ?_⟩
      · rw [show (o ++ [(x.1, f, x.2.2)]).length = o.length + 1 by simp]
        exact o2
      · refine ⟨by simp; omega, fun v b hc hb hne2 ho => ?_, fun v v' k hc hc' hk => ?_⟩
        · rw [cv0] at hc; simp only [Option.some.injEq] at hc; subst hc
          have hbg : b ≠ g := fun e => ho (by rw [e]; rfl)
          rw [heap_setCell_other _ _ _ _ (by show b ≠ g; exact hbg), heap_setCell_other _ _ _ _ (by show b ≠ g; exact hbg)]
          exact hw.block b hb
        · rw [cv0] at hc; simp only [Option.some.injEq] at hc; subst hc
          simp [go_sem, cp, gpo, Ne.symm gpo] at hc'; subst hc'
          exact .inl hk
    · exact ((hw.mono (by omega)).setCell (p := ⟨g, o.length * 5 + 2, none⟩) (show B ≤ g by omega) _).setCell (p := ⟨g, o.length * 5 + 2 + 1, none⟩) (show B ≤ g by omega) _
end Go.Proofs.Ytgcnmmjgdpdmbad.F
