/- What the program's Print comes to, letter by letter. -/
import Derived.Test.YtmccbokjigjpnaaDoorQT3b
namespace Go.Proofs.YtmccbokjigjpnaaDoor
open Go.RowKit Go.Lib Go.Joins
set_option linter.unusedSimpArgs false
set_option linter.unusedVariables false

set_option maxRecDepth 100000 in
set_option maxHeartbeats 4000000 in
theorem Print_L4 (a o : Int) (w : World) (ht : Sgs w) (hpw : Pows w) (h1 : -12 ≤ o) (h2 : o ≤ 12) (h3 : -3 ≤ a) (h4 : a ≤ 3) :
    Calls Tryd.prog 17 #[.agg #[.int .i64 4, .int .i64 a, .int .i64 o]] w fun e w' => e = .returned (.tuple #[.string (M.pr 4 a o), .int .i64 0]) ∧ Below w.heap.size w w' := by
  have k0 : IntKind.i64.wrap 0 = 0 := wid (by omega) (by omega)
  have k1 : IntKind.i64.wrap 1 = 1 := wid (by omega) (by omega)
  have k2 : IntKind.i64.wrap 2 = 2 := wid (by omega) (by omega)
  have k3 : IntKind.i64.wrap 3 = 3 := wid (by omega) (by omega)
  have k4 : IntKind.i64.wrap 4 = 4 := wid (by omega) (by omega)
  have k5 : IntKind.i64.wrap 5 = 5 := wid (by omega) (by omega)
  have k6 : IntKind.i64.wrap 6 = 6 := wid (by omega) (by omega)
  have k7 : IntKind.i64.wrap 7 = 7 := wid (by omega) (by omega)
  have hl := Lib.itoa_length_le o (by omega) (by omega)
  have e4 : ByteArray.extract ⟨#[67, 68, 69, 70, 71, 65, 66]⟩ 4 5 = ⟨#[71]⟩ := by decide
  have y8 : ¬ 9223372036854775807 < 8 + (Lib.itoa o).length := by omega
  have y5 : ¬ 9223372036854775807 < 5 + (Lib.itoa o).length := by omega
  have y4 : ¬ 9223372036854775807 < 4 + (Lib.itoa o).length := by omega
  have y1 : ¬ 9223372036854775807 < 1 + (Lib.itoa o).length := by omega
  have hr : M.rt 4 a o = true := M.rt_mk (by omega)
  rcases (show a = -3 ∨ a = -2 ∨ a = -1 ∨ a = 0 ∨ a = 1 ∨ a = 2 ∨ a = 3 by omega) with rfl | rfl | rfl | rfl | rfl | rfl | rfl
  · go_enter Tryd.func17, Tryd.ntmps17
    go_wp2_with fail
    refine (Right_any 4 (-3) o _).mono ?_
    rintro e w1 ⟨rfl, hb1⟩
    rw [hr]
    have hb01 : Below w.heap.size w w1 := Below.trans (by go_grown) (hb1.mono (by simp))
    have p0 : w1.cell? ⟨w.heap.size, 0, none⟩ = some (.int .i64 4) := keepC hb1 (by simp) (by simp [go_sem])
    have p1 : w1.cell? ⟨w.heap.size, 1, none⟩ = some (.int .i64 (-3)) := keepC hb1 (by simp) (by simp [go_sem])
    have p2 : w1.cell? ⟨w.heap.size, 2, none⟩ = some (.int .i64 o) := keepC hb1 (by simp) (by simp [go_sem])
    have sz1 := hb1.size
    simp at sz1
    have hg := ht.step hb01
    have mkS : ∀ w', Below w1.heap.size w1 w' → (Below w1.heap.size w1 w' ∧ w'.cell? ⟨w.heap.size, 0, none⟩ = some (.int .i64 4) ∧ w'.cell? ⟨w.heap.size, 1, none⟩ = some (.int .i64 (-3)) ∧ w'.cell? ⟨w.heap.size, 2, none⟩ = some (.int .i64 o) ∧ w'.cell? ⟨0, 0, none⟩ = some (.string ⟨#[240, 157, 132, 171, 226, 153, 173]⟩) ∧ w'.cell? ⟨0, 1, none⟩ = some (.string ⟨#[240, 157, 132, 171]⟩) ∧ w'.cell? ⟨0, 2, none⟩ = some (.string ⟨#[226, 153, 173]⟩) ∧ w'.cell? ⟨0, 3, none⟩ = some (.string ⟨#[]⟩) ∧ w'.cell? ⟨0, 4, none⟩ = some (.string ⟨#[226, 153, 175]⟩) ∧ w'.cell? ⟨0, 5, none⟩ = some (.string ⟨#[240, 157, 132, 170]⟩) ∧ w'.cell? ⟨0, 6, none⟩ = some (.string ⟨#[240, 157, 132, 170, 226, 153, 175]⟩)) := fun w' h =>
      ⟨h, keepC h (by omega) p0, keepC h (by omega) p1, keepC h (by omega) p2, keepC h hg.sz hg.c0, keepC h hg.sz hg.c1, keepC h hg.sz hg.c2, keepC h hg.sz hg.c3, keepC h hg.sz hg.c4, keepC h hg.sz hg.c5, keepC h hg.sz hg.c6⟩
    go_wp2_with fail
    go_region_held3 (fun w' => Below w1.heap.size w1 w' ∧ w'.cell? ⟨w.heap.size, 0, none⟩ = some (.int .i64 4) ∧ w'.cell? ⟨w.heap.size, 1, none⟩ = some (.int .i64 (-3)) ∧ w'.cell? ⟨w.heap.size, 2, none⟩ = some (.int .i64 o) ∧ w'.cell? ⟨0, 0, none⟩ = some (.string ⟨#[240, 157, 132, 171, 226, 153, 173]⟩) ∧ w'.cell? ⟨0, 1, none⟩ = some (.string ⟨#[240, 157, 132, 171]⟩) ∧ w'.cell? ⟨0, 2, none⟩ = some (.string ⟨#[226, 153, 173]⟩) ∧ w'.cell? ⟨0, 3, none⟩ = some (.string ⟨#[]⟩) ∧ w'.cell? ⟨0, 4, none⟩ = some (.string ⟨#[226, 153, 175]⟩) ∧ w'.cell? ⟨0, 5, none⟩ = some (.string ⟨#[240, 157, 132, 170]⟩) ∧ w'.cell? ⟨0, 6, none⟩ = some (.string ⟨#[240, 157, 132, 170, 226, 153, 175]⟩))
      (first | exact mkS _ hbn | (refine mkS _ ?_; (solve | go_grown)))
      (first | (go_at_call 35; refine (itoa_any o _ ?_ ?_ ?_).mono ?_; exact (hpw.step hb01).step (by go_grown); omega; omega; rintro e w2 ⟨rfl, hb2⟩; have hbn : Below w1.heap.size w1 w2 := Below.trans (by go_grown) (hb2.mono (by simp))))
    go_wp2_with fail
    go_returns
    exact ⟨congrArg (fun X => Ending.returned (.tuple #[.string X, .int .i64 0])) (pr_ret [71] [240, 157, 132, 171, 226, 153, 173] (by decide) (by decide) rfl), hb01.trans (hbn.mono (by omega))⟩
  · go_enter Tryd.func17, Tryd.ntmps17
    go_wp2_with fail
    refine (Right_any 4 (-2) o _).mono ?_
    rintro e w1 ⟨rfl, hb1⟩
    rw [hr]
    have hb01 : Below w.heap.size w w1 := Below.trans (by go_grown) (hb1.mono (by simp))
    have p0 : w1.cell? ⟨w.heap.size, 0, none⟩ = some (.int .i64 4) := keepC hb1 (by simp) (by simp [go_sem])
    have p1 : w1.cell? ⟨w.heap.size, 1, none⟩ = some (.int .i64 (-2)) := keepC hb1 (by simp) (by simp [go_sem])
    have p2 : w1.cell? ⟨w.heap.size, 2, none⟩ = some (.int .i64 o) := keepC hb1 (by simp) (by simp [go_sem])
    have sz1 := hb1.size
    simp at sz1
    have hg := ht.step hb01
    have mkS : ∀ w', Below w1.heap.size w1 w' → (Below w1.heap.size w1 w' ∧ w'.cell? ⟨w.heap.size, 0, none⟩ = some (.int .i64 4) ∧ w'.cell? ⟨w.heap.size, 1, none⟩ = some (.int .i64 (-2)) ∧ w'.cell? ⟨w.heap.size, 2, none⟩ = some (.int .i64 o) ∧ w'.cell? ⟨0, 0, none⟩ = some (.string ⟨#[240, 157, 132, 171, 226, 153, 173]⟩) ∧ w'.cell? ⟨0, 1, none⟩ = some (.string ⟨#[240, 157, 132, 171]⟩) ∧ w'.cell? ⟨0, 2, none⟩ = some (.string ⟨#[226, 153, 173]⟩) ∧ w'.cell? ⟨0, 3, none⟩ = some (.string ⟨#[]⟩) ∧ w'.cell? ⟨0, 4, none⟩ = some (.string ⟨#[226, 153, 175]⟩) ∧ w'.cell? ⟨0, 5, none⟩ = some (.string ⟨#[240, 157, 132, 170]⟩) ∧ w'.cell? ⟨0, 6, none⟩ = some (.string ⟨#[240, 157, 132, 170, 226, 153, 175]⟩)) := fun w' h =>
      ⟨h, keepC h (by omega) p0, keepC h (by omega) p1, keepC h (by omega) p2, keepC h hg.sz hg.c0, keepC h hg.sz hg.c1, keepC h hg.sz hg.c2, keepC h hg.sz hg.c3, keepC h hg.sz hg.c4, keepC h hg.sz hg.c5, keepC h hg.sz hg.c6⟩
    go_wp2_with fail
    go_region_held3 (fun w' => Below w1.heap.size w1 w' ∧ w'.cell? ⟨w.heap.size, 0, none⟩ = some (.int .i64 4) ∧ w'.cell? ⟨w.heap.size, 1, none⟩ = some (.int .i64 (-2)) ∧ w'.cell? ⟨w.heap.size, 2, none⟩ = some (.int .i64 o) ∧ w'.cell? ⟨0, 0, none⟩ = some (.string ⟨#[240, 157, 132, 171, 226, 153, 173]⟩) ∧ w'.cell? ⟨0, 1, none⟩ = some (.string ⟨#[240, 157, 132, 171]⟩) ∧ w'.cell? ⟨0, 2, none⟩ = some (.string ⟨#[226, 153, 173]⟩) ∧ w'.cell? ⟨0, 3, none⟩ = some (.string ⟨#[]⟩) ∧ w'.cell? ⟨0, 4, none⟩ = some (.string ⟨#[226, 153, 175]⟩) ∧ w'.cell? ⟨0, 5, none⟩ = some (.string ⟨#[240, 157, 132, 170]⟩) ∧ w'.cell? ⟨0, 6, none⟩ = some (.string ⟨#[240, 157, 132, 170, 226, 153, 175]⟩))
      (first | exact mkS _ hbn | (refine mkS _ ?_; (solve | go_grown)))
      (first | (go_at_call 35; refine (itoa_any o _ ?_ ?_ ?_).mono ?_; exact (hpw.step hb01).step (by go_grown); omega; omega; rintro e w2 ⟨rfl, hb2⟩; have hbn : Below w1.heap.size w1 w2 := Below.trans (by go_grown) (hb2.mono (by simp))))
    go_wp2_with fail
    go_returns
    exact ⟨congrArg (fun X => Ending.returned (.tuple #[.string X, .int .i64 0])) (pr_ret [71] [240, 157, 132, 171] (by decide) (by decide) rfl), hb01.trans (hbn.mono (by omega))⟩
  · go_enter Tryd.func17, Tryd.ntmps17
    go_wp2_with fail
    refine (Right_any 4 (-1) o _).mono ?_
    rintro e w1 ⟨rfl, hb1⟩
    rw [hr]
    have hb01 : Below w.heap.size w w1 := Below.trans (by go_grown) (hb1.mono (by simp))
    have p0 : w1.cell? ⟨w.heap.size, 0, none⟩ = some (.int .i64 4) := keepC hb1 (by simp) (by simp [go_sem])
    have p1 : w1.cell? ⟨w.heap.size, 1, none⟩ = some (.int .i64 (-1)) := keepC hb1 (by simp) (by simp [go_sem])
    have p2 : w1.cell? ⟨w.heap.size, 2, none⟩ = some (.int .i64 o) := keepC hb1 (by simp) (by simp [go_sem])
    have sz1 := hb1.size
    simp at sz1
    have hg := ht.step hb01
    have mkS : ∀ w', Below w1.heap.size w1 w' → (Below w1.heap.size w1 w' ∧ w'.cell? ⟨w.heap.size, 0, none⟩ = some (.int .i64 4) ∧ w'.cell? ⟨w.heap.size, 1, none⟩ = some (.int .i64 (-1)) ∧ w'.cell? ⟨w.heap.size, 2, none⟩ = some (.int .i64 o) ∧ w'.cell? ⟨0, 0, none⟩ = some (.string ⟨#[240, 157, 132, 171, 226, 153, 173]⟩) ∧ w'.cell? ⟨0, 1, none⟩ = some (.string ⟨#[240, 157, 132, 171]⟩) ∧ w'.cell? ⟨0, 2, none⟩ = some (.string ⟨#[226, 153, 173]⟩) ∧ w'.cell? ⟨0, 3, none⟩ = some (.string ⟨#[]⟩) ∧ w'.cell? ⟨0, 4, none⟩ = some (.string ⟨#[226, 153, 175]⟩) ∧ w'.cell? ⟨0, 5, none⟩ = some (.string ⟨#[240, 157, 132, 170]⟩) ∧ w'.cell? ⟨0, 6, none⟩ = some (.string ⟨#[240, 157, 132, 170, 226, 153, 175]⟩)) := fun w' h =>
      ⟨h, keepC h (by omega) p0, keepC h (by omega) p1, keepC h (by omega) p2, keepC h hg.sz hg.c0, keepC h hg.sz hg.c1, keepC h hg.sz hg.c2, keepC h hg.sz hg.c3, keepC h hg.sz hg.c4, keepC h hg.sz hg.c5, keepC h hg.sz hg.c6⟩
    go_wp2_with fail
    go_region_held3 (fun w' => Below w1.heap.size w1 w' ∧ w'.cell? ⟨w.heap.size, 0, none⟩ = some (.int .i64 4) ∧ w'.cell? ⟨w.heap.size, 1, none⟩ = some (.int .i64 (-1)) ∧ w'.cell? ⟨w.heap.size, 2, none⟩ = some (.int .i64 o) ∧ w'.cell? ⟨0, 0, none⟩ = some (.string ⟨#[240, 157, 132, 171, 226, 153, 173]⟩) ∧ w'.cell? ⟨0, 1, none⟩ = some (.string ⟨#[240, 157, 132, 171]⟩) ∧ w'.cell? ⟨0, 2, none⟩ = some (.string ⟨#[226, 153, 173]⟩) ∧ w'.cell? ⟨0, 3, none⟩ = some (.string ⟨#[]⟩) ∧ w'.cell? ⟨0, 4, none⟩ = some (.string ⟨#[226, 153, 175]⟩) ∧ w'.cell? ⟨0, 5, none⟩ = some (.string ⟨#[240, 157, 132, 170]⟩) ∧ w'.cell? ⟨0, 6, none⟩ = some (.string ⟨#[240, 157, 132, 170, 226, 153, 175]⟩))
      (first | exact mkS _ hbn | (refine mkS _ ?_; (solve | go_grown)))
      (first | (go_at_call 35; refine (itoa_any o _ ?_ ?_ ?_).mono ?_; exact (hpw.step hb01).step (by go_grown); omega; omega; rintro e w2 ⟨rfl, hb2⟩; have hbn : Below w1.heap.size w1 w2 := Below.trans (by go_grown) (hb2.mono (by simp))))
    go_wp2_with fail
    go_returns
    exact ⟨congrArg (fun X => Ending.returned (.tuple #[.string X, .int .i64 0])) (pr_ret [71] [226, 153, 173] (by decide) (by decide) rfl), hb01.trans (hbn.mono (by omega))⟩
  · go_enter Tryd.func17, Tryd.ntmps17
    go_wp2_with fail
    refine (Right_any 4 0 o _).mono ?_
    rintro e w1 ⟨rfl, hb1⟩
    rw [hr]
    have hb01 : Below w.heap.size w w1 := Below.trans (by go_grown) (hb1.mono (by simp))
    have p0 : w1.cell? ⟨w.heap.size, 0, none⟩ = some (.int .i64 4) := keepC hb1 (by simp) (by simp [go_sem])
    have p1 : w1.cell? ⟨w.heap.size, 1, none⟩ = some (.int .i64 0) := keepC hb1 (by simp) (by simp [go_sem])
    have p2 : w1.cell? ⟨w.heap.size, 2, none⟩ = some (.int .i64 o) := keepC hb1 (by simp) (by simp [go_sem])
    have sz1 := hb1.size
    simp at sz1
    have hg := ht.step hb01
    have mkS : ∀ w', Below w1.heap.size w1 w' → (Below w1.heap.size w1 w' ∧ w'.cell? ⟨w.heap.size, 0, none⟩ = some (.int .i64 4) ∧ w'.cell? ⟨w.heap.size, 1, none⟩ = some (.int .i64 0) ∧ w'.cell? ⟨w.heap.size, 2, none⟩ = some (.int .i64 o) ∧ w'.cell? ⟨0, 0, none⟩ = some (.string ⟨#[240, 157, 132, 171, 226, 153, 173]⟩) ∧ w'.cell? ⟨0, 1, none⟩ = some (.string ⟨#[240, 157, 132, 171]⟩) ∧ w'.cell? ⟨0, 2, none⟩ = some (.string ⟨#[226, 153, 173]⟩) ∧ w'.cell? ⟨0, 3, none⟩ = some (.string ⟨#[]⟩) ∧ w'.cell? ⟨0, 4, none⟩ = some (.string ⟨#[226, 153, 175]⟩) ∧ w'.cell? ⟨0, 5, none⟩ = some (.string ⟨#[240, 157, 132, 170]⟩) ∧ w'.cell? ⟨0, 6, none⟩ = some (.string ⟨#[240, 157, 132, 170, 226, 153, 175]⟩)) := fun w' h =>
      ⟨h, keepC h (by omega) p0, keepC h (by omega) p1, keepC h (by omega) p2, keepC h hg.sz hg.c0, keepC h hg.sz hg.c1, keepC h hg.sz hg.c2, keepC h hg.sz hg.c3, keepC h hg.sz hg.c4, keepC h hg.sz hg.c5, keepC h hg.sz hg.c6⟩
    go_wp2_with fail
    go_region_held3 (fun w' => Below w1.heap.size w1 w' ∧ w'.cell? ⟨w.heap.size, 0, none⟩ = some (.int .i64 4) ∧ w'.cell? ⟨w.heap.size, 1, none⟩ = some (.int .i64 0) ∧ w'.cell? ⟨w.heap.size, 2, none⟩ = some (.int .i64 o) ∧ w'.cell? ⟨0, 0, none⟩ = some (.string ⟨#[240, 157, 132, 171, 226, 153, 173]⟩) ∧ w'.cell? ⟨0, 1, none⟩ = some (.string ⟨#[240, 157, 132, 171]⟩) ∧ w'.cell? ⟨0, 2, none⟩ = some (.string ⟨#[226, 153, 173]⟩) ∧ w'.cell? ⟨0, 3, none⟩ = some (.string ⟨#[]⟩) ∧ w'.cell? ⟨0, 4, none⟩ = some (.string ⟨#[226, 153, 175]⟩) ∧ w'.cell? ⟨0, 5, none⟩ = some (.string ⟨#[240, 157, 132, 170]⟩) ∧ w'.cell? ⟨0, 6, none⟩ = some (.string ⟨#[240, 157, 132, 170, 226, 153, 175]⟩))
      (first | exact mkS _ hbn | (refine mkS _ ?_; (solve | go_grown)))
      (first | (go_at_call 35; refine (itoa_any o _ ?_ ?_ ?_).mono ?_; exact (hpw.step hb01).step (by go_grown); omega; omega; rintro e w2 ⟨rfl, hb2⟩; have hbn : Below w1.heap.size w1 w2 := Below.trans (by go_grown) (hb2.mono (by simp))))
    go_wp2_with fail
    go_returns
    exact ⟨congrArg (fun X => Ending.returned (.tuple #[.string X, .int .i64 0])) (pr_ret [71] [] (by decide) (by decide) rfl), hb01.trans (hbn.mono (by omega))⟩
  · go_enter Tryd.func17, Tryd.ntmps17
    go_wp2_with fail
    refine (Right_any 4 1 o _).mono ?_
    rintro e w1 ⟨rfl, hb1⟩
    rw [hr]
    have hb01 : Below w.heap.size w w1 := Below.trans (by go_grown) (hb1.mono (by simp))
    have p0 : w1.cell? ⟨w.heap.size, 0, none⟩ = some (.int .i64 4) := keepC hb1 (by simp) (by simp [go_sem])
    have p1 : w1.cell? ⟨w.heap.size, 1, none⟩ = some (.int .i64 1) := keepC hb1 (by simp) (by simp [go_sem])
    have p2 : w1.cell? ⟨w.heap.size, 2, none⟩ = some (.int .i64 o) := keepC hb1 (by simp) (by simp [go_sem])
    have sz1 := hb1.size
    simp at sz1
    have hg := ht.step hb01
    have mkS : ∀ w', Below w1.heap.size w1 w' → (Below w1.heap.size w1 w' ∧ w'.cell? ⟨w.heap.size, 0, none⟩ = some (.int .i64 4) ∧ w'.cell? ⟨w.heap.size, 1, none⟩ = some (.int .i64 1) ∧ w'.cell? ⟨w.heap.size, 2, none⟩ = some (.int .i64 o) ∧ w'.cell? ⟨0, 0, none⟩ = some (.string ⟨#[240, 157, 132, 171, 226, 153, 173]⟩) ∧ w'.cell? ⟨0, 1, none⟩ = some (.string ⟨#[240, 157, 132, 171]⟩) ∧ w'.cell? ⟨0, 2, none⟩ = some (.string ⟨#[226, 153, 173]⟩) ∧ w'.cell? ⟨0, 3, none⟩ = some (.string ⟨#[]⟩) ∧ w'.cell? ⟨0, 4, none⟩ = some (.string ⟨#[226, 153, 175]⟩) ∧ w'.cell? ⟨0, 5, none⟩ = some (.string ⟨#[240, 157, 132, 170]⟩) ∧ w'.cell? ⟨0, 6, none⟩ = some (.string ⟨#[240, 157, 132, 170, 226, 153, 175]⟩)) := fun w' h =>
      ⟨h, keepC h (by omega) p0, keepC h (by omega) p1, keepC h (by omega) p2, keepC h hg.sz hg.c0, keepC h hg.sz hg.c1, keepC h hg.sz hg.c2, keepC h hg.sz hg.c3, keepC h hg.sz hg.c4, keepC h hg.sz hg.c5, keepC h hg.sz hg.c6⟩
    go_wp2_with fail
    go_region_held3 (fun w' => Below w1.heap.size w1 w' ∧ w'.cell? ⟨w.heap.size, 0, none⟩ = some (.int .i64 4) ∧ w'.cell? ⟨w.heap.size, 1, none⟩ = some (.int .i64 1) ∧ w'.cell? ⟨w.heap.size, 2, none⟩ = some (.int .i64 o) ∧ w'.cell? ⟨0, 0, none⟩ = some (.string ⟨#[240, 157, 132, 171, 226, 153, 173]⟩) ∧ w'.cell? ⟨0, 1, none⟩ = some (.string ⟨#[240, 157, 132, 171]⟩) ∧ w'.cell? ⟨0, 2, none⟩ = some (.string ⟨#[226, 153, 173]⟩) ∧ w'.cell? ⟨0, 3, none⟩ = some (.string ⟨#[]⟩) ∧ w'.cell? ⟨0, 4, none⟩ = some (.string ⟨#[226, 153, 175]⟩) ∧ w'.cell? ⟨0, 5, none⟩ = some (.string ⟨#[240, 157, 132, 170]⟩) ∧ w'.cell? ⟨0, 6, none⟩ = some (.string ⟨#[240, 157, 132, 170, 226, 153, 175]⟩))
      (first | exact mkS _ hbn | (refine mkS _ ?_; (solve | go_grown)))
      (first | (go_at_call 35; refine (itoa_any o _ ?_ ?_ ?_).mono ?_; exact (hpw.step hb01).step (by go_grown); omega; omega; rintro e w2 ⟨rfl, hb2⟩; have hbn : Below w1.heap.size w1 w2 := Below.trans (by go_grown) (hb2.mono (by simp))))
    go_wp2_with fail
    go_returns
    exact ⟨congrArg (fun X => Ending.returned (.tuple #[.string X, .int .i64 0])) (pr_ret [71] [226, 153, 175] (by decide) (by decide) rfl), hb01.trans (hbn.mono (by omega))⟩
  · go_enter Tryd.func17, Tryd.ntmps17
    go_wp2_with fail
    refine (Right_any 4 2 o _).mono ?_
    rintro e w1 ⟨rfl, hb1⟩
    rw [hr]
    have hb01 : Below w.heap.size w w1 := Below.trans (by go_grown) (hb1.mono (by simp))
    have p0 : w1.cell? ⟨w.heap.size, 0, none⟩ = some (.int .i64 4) := keepC hb1 (by simp) (by simp [go_sem])
    have p1 : w1.cell? ⟨w.heap.size, 1, none⟩ = some (.int .i64 2) := keepC hb1 (by simp) (by simp [go_sem])
    have p2 : w1.cell? ⟨w.heap.size, 2, none⟩ = some (.int .i64 o) := keepC hb1 (by simp) (by simp [go_sem])
    have sz1 := hb1.size
    simp at sz1
    have hg := ht.step hb01
    have mkS : ∀ w', Below w1.heap.size w1 w' → (Below w1.heap.size w1 w' ∧ w'.cell? ⟨w.heap.size, 0, none⟩ = some (.int .i64 4) ∧ w'.cell? ⟨w.heap.size, 1, none⟩ = some (.int .i64 2) ∧ w'.cell? ⟨w.heap.size, 2, none⟩ = some (.int .i64 o) ∧ w'.cell? ⟨0, 0, none⟩ = some (.string ⟨#[240, 157, 132, 171, 226, 153, 173]⟩) ∧ w'.cell? ⟨0, 1, none⟩ = some (.string ⟨#[240, 157, 132, 171]⟩) ∧ w'.cell? ⟨0, 2, none⟩ = some (.string ⟨#[226, 153, 173]⟩) ∧ w'.cell? ⟨0, 3, none⟩ = some (.string ⟨#[]⟩) ∧ w'.cell? ⟨0, 4, none⟩ = some (.string ⟨#[226, 153, 175]⟩) ∧ w'.cell? ⟨0, 5, none⟩ = some (.string ⟨#[240, 157, 132, 170]⟩) ∧ w'.cell? ⟨0, 6, none⟩ = some (.string ⟨#[240, 157, 132, 170, 226, 153, 175]⟩)) := fun w' h =>
      ⟨h, keepC h (by omega) p0, keepC h (by omega) p1, keepC h (by omega) p2, keepC h hg.sz hg.c0, keepC h hg.sz hg.c1, keepC h hg.sz hg.c2, keepC h hg.sz hg.c3, keepC h hg.sz hg.c4, keepC h hg.sz hg.c5, keepC h hg.sz hg.c6⟩
    go_wp2_with fail
    go_region_held3 (fun w' => Below w1.heap.size w1 w' ∧ w'.cell? ⟨w.heap.size, 0, none⟩ = some (.int .i64 4) ∧ w'.cell? ⟨w.heap.size, 1, none⟩ = some (.int .i64 2) ∧ w'.cell? ⟨w.heap.size, 2, none⟩ = some (.int .i64 o) ∧ w'.cell? ⟨0, 0, none⟩ = some (.string ⟨#[240, 157, 132, 171, 226, 153, 173]⟩) ∧ w'.cell? ⟨0, 1, none⟩ = some (.string ⟨#[240, 157, 132, 171]⟩) ∧ w'.cell? ⟨0, 2, none⟩ = some (.string ⟨#[226, 153, 173]⟩) ∧ w'.cell? ⟨0, 3, none⟩ = some (.string ⟨#[]⟩) ∧ w'.cell? ⟨0, 4, none⟩ = some (.string ⟨#[226, 153, 175]⟩) ∧ w'.cell? ⟨0, 5, none⟩ = some (.string ⟨#[240, 157, 132, 170]⟩) ∧ w'.cell? ⟨0, 6, none⟩ = some (.string ⟨#[240, 157, 132, 170, 226, 153, 175]⟩))
      (first | exact mkS _ hbn | (refine mkS _ ?_; (solve | go_grown)))
      (first | (go_at_call 35; refine (itoa_any o _ ?_ ?_ ?_).mono ?_; exact (hpw.step hb01).step (by go_grown); omega; omega; rintro e w2 ⟨rfl, hb2⟩; have hbn : Below w1.heap.size w1 w2 := Below.trans (by go_grown) (hb2.mono (by simp))))
    go_wp2_with fail
    go_returns
    exact ⟨congrArg (fun X => Ending.returned (.tuple #[.string X, .int .i64 0])) (pr_ret [71] [240, 157, 132, 170] (by decide) (by decide) rfl), hb01.trans (hbn.mono (by omega))⟩
  · go_enter Tryd.func17, Tryd.ntmps17
    go_wp2_with fail
    refine (Right_any 4 3 o _).mono ?_
    rintro e w1 ⟨rfl, hb1⟩
    rw [hr]
    have hb01 : Below w.heap.size w w1 := Below.trans (by go_grown) (hb1.mono (by simp))
    have p0 : w1.cell? ⟨w.heap.size, 0, none⟩ = some (.int .i64 4) := keepC hb1 (by simp) (by simp [go_sem])
    have p1 : w1.cell? ⟨w.heap.size, 1, none⟩ = some (.int .i64 3) := keepC hb1 (by simp) (by simp [go_sem])
    have p2 : w1.cell? ⟨w.heap.size, 2, none⟩ = some (.int .i64 o) := keepC hb1 (by simp) (by simp [go_sem])
    have sz1 := hb1.size
    simp at sz1
    have hg := ht.step hb01
    have mkS : ∀ w', Below w1.heap.size w1 w' → (Below w1.heap.size w1 w' ∧ w'.cell? ⟨w.heap.size, 0, none⟩ = some (.int .i64 4) ∧ w'.cell? ⟨w.heap.size, 1, none⟩ = some (.int .i64 3) ∧ w'.cell? ⟨w.heap.size, 2, none⟩ = some (.int .i64 o) ∧ w'.cell? ⟨0, 0, none⟩ = some (.string ⟨#[240, 157, 132, 171, 226, 153, 173]⟩) ∧ w'.cell? ⟨0, 1, none⟩ = some (.string ⟨#[240, 157, 132, 171]⟩) ∧ w'.cell? ⟨0, 2, none⟩ = some (.string ⟨#[226, 153, 173]⟩) ∧ w'.cell? ⟨0, 3, none⟩ = some (.string ⟨#[]⟩) ∧ w'.cell? ⟨0, 4, none⟩ = some (.string ⟨#[226, 153, 175]⟩) ∧ w'.cell? ⟨0, 5, none⟩ = some (.string ⟨#[240, 157, 132, 170]⟩) ∧ w'.cell? ⟨0, 6, none⟩ = some (.string ⟨#[240, 157, 132, 170, 226, 153, 175]⟩)) := fun w' h =>
      ⟨h, keepC h (by omega) p0, keepC h (by omega) p1, keepC h (by omega) p2, keepC h hg.sz hg.c0, keepC h hg.sz hg.c1, keepC h hg.sz hg.c2, keepC h hg.sz hg.c3, keepC h hg.sz hg.c4, keepC h hg.sz hg.c5, keepC h hg.sz hg.c6⟩
    go_wp2_with fail
    go_region_held3 (fun w' => Below w1.heap.size w1 w' ∧ w'.cell? ⟨w.heap.size, 0, none⟩ = some (.int .i64 4) ∧ w'.cell? ⟨w.heap.size, 1, none⟩ = some (.int .i64 3) ∧ w'.cell? ⟨w.heap.size, 2, none⟩ = some (.int .i64 o) ∧ w'.cell? ⟨0, 0, none⟩ = some (.string ⟨#[240, 157, 132, 171, 226, 153, 173]⟩) ∧ w'.cell? ⟨0, 1, none⟩ = some (.string ⟨#[240, 157, 132, 171]⟩) ∧ w'.cell? ⟨0, 2, none⟩ = some (.string ⟨#[226, 153, 173]⟩) ∧ w'.cell? ⟨0, 3, none⟩ = some (.string ⟨#[]⟩) ∧ w'.cell? ⟨0, 4, none⟩ = some (.string ⟨#[226, 153, 175]⟩) ∧ w'.cell? ⟨0, 5, none⟩ = some (.string ⟨#[240, 157, 132, 170]⟩) ∧ w'.cell? ⟨0, 6, none⟩ = some (.string ⟨#[240, 157, 132, 170, 226, 153, 175]⟩))
      (first | exact mkS _ hbn | (refine mkS _ ?_; (solve | go_grown)))
      (first | (go_at_call 35; refine (itoa_any o _ ?_ ?_ ?_).mono ?_; exact (hpw.step hb01).step (by go_grown); omega; omega; rintro e w2 ⟨rfl, hb2⟩; have hbn : Below w1.heap.size w1 w2 := Below.trans (by go_grown) (hb2.mono (by simp))))
    go_wp2_with fail
    go_returns
    exact ⟨congrArg (fun X => Ending.returned (.tuple #[.string X, .int .i64 0])) (pr_ret [71] [240, 157, 132, 170, 226, 153, 175] (by decide) (by decide) rfl), hb01.trans (hbn.mono (by omega))⟩

set_option maxRecDepth 100000 in
set_option maxHeartbeats 4000000 in
theorem Print_L5 (a o : Int) (w : World) (ht : Sgs w) (hpw : Pows w) (h1 : -12 ≤ o) (h2 : o ≤ 12) (h3 : -3 ≤ a) (h4 : a ≤ 3) :
    Calls Tryd.prog 17 #[.agg #[.int .i64 5, .int .i64 a, .int .i64 o]] w fun e w' => e = .returned (.tuple #[.string (M.pr 5 a o), .int .i64 0]) ∧ Below w.heap.size w w' := by
  have k0 : IntKind.i64.wrap 0 = 0 := wid (by omega) (by omega)
  have k1 : IntKind.i64.wrap 1 = 1 := wid (by omega) (by omega)
  have k2 : IntKind.i64.wrap 2 = 2 := wid (by omega) (by omega)
  have k3 : IntKind.i64.wrap 3 = 3 := wid (by omega) (by omega)
  have k4 : IntKind.i64.wrap 4 = 4 := wid (by omega) (by omega)
  have k5 : IntKind.i64.wrap 5 = 5 := wid (by omega) (by omega)
  have k6 : IntKind.i64.wrap 6 = 6 := wid (by omega) (by omega)
  have k7 : IntKind.i64.wrap 7 = 7 := wid (by omega) (by omega)
  have hl := Lib.itoa_length_le o (by omega) (by omega)
  have e5 : ByteArray.extract ⟨#[67, 68, 69, 70, 71, 65, 66]⟩ 5 6 = ⟨#[65]⟩ := by decide
  have y8 : ¬ 9223372036854775807 < 8 + (Lib.itoa o).length := by omega
  have y5 : ¬ 9223372036854775807 < 5 + (Lib.itoa o).length := by omega
  have y4 : ¬ 9223372036854775807 < 4 + (Lib.itoa o).length := by omega
  have y1 : ¬ 9223372036854775807 < 1 + (Lib.itoa o).length := by omega
  have hr : M.rt 5 a o = true := M.rt_mk (by omega)
  rcases (show a = -3 ∨ a = -2 ∨ a = -1 ∨ a = 0 ∨ a = 1 ∨ a = 2 ∨ a = 3 by omega) with rfl | rfl | rfl | rfl | rfl | rfl | rfl
  · go_enter Tryd.func17, Tryd.ntmps17
    go_wp2_with fail
    refine (Right_any 5 (-3) o _).mono ?_
    rintro e w1 ⟨rfl, hb1⟩
    rw [hr]
    have hb01 : Below w.heap.size w w1 := Below.trans (by go_grown) (hb1.mono (by simp))
    have p0 : w1.cell? ⟨w.heap.size, 0, none⟩ = some (.int .i64 5) := keepC hb1 (by simp) (by simp [go_sem])
    have p1 : w1.cell? ⟨w.heap.size, 1, none⟩ = some (.int .i64 (-3)) := keepC hb1 (by simp) (by simp [go_sem])
    have p2 : w1.cell? ⟨w.heap.size, 2, none⟩ = some (.int .i64 o) := keepC hb1 (by simp) (by simp [go_sem])
    have sz1 := hb1.size
    simp at sz1
    have hg := ht.step hb01
    have mkS : ∀ w', Below w1.heap.size w1 w' → (Below w1.heap.size w1 w' ∧ w'.cell? ⟨w.heap.size, 0, none⟩ = some (.int .i64 5) ∧ w'.cell? ⟨w.heap.size, 1, none⟩ = some (.int .i64 (-3)) ∧ w'.cell? ⟨w.heap.size, 2, none⟩ = some (.int .i64 o) ∧ w'.cell? ⟨0, 0, none⟩ = some (.string ⟨#[240, 157, 132, 171, 226, 153, 173]⟩) ∧ w'.cell? ⟨0, 1, none⟩ = some (.string ⟨#[240, 157, 132, 171]⟩) ∧ w'.cell? ⟨0, 2, none⟩ = some (.string ⟨#[226, 153, 173]⟩) ∧ w'.cell? ⟨0, 3, none⟩ = some (.string ⟨#[]⟩) ∧ w'.cell? ⟨0, 4, none⟩ = some (.string ⟨#[226, 153, 175]⟩) ∧ w'.cell? ⟨0, 5, none⟩ = some (.string ⟨#[240, 157, 132, 170]⟩) ∧ w'.cell? ⟨0, 6, none⟩ = some (.string ⟨#[240, 157, 132, 170, 226, 153, 175]⟩)) := fun w' h =>
      ⟨h, keepC h (by omega) p0, keepC h (by omega) p1, keepC h (by omega) p2, keepC h hg.sz hg.c0, keepC h hg.sz hg.c1, keepC h hg.sz hg.c2, keepC h hg.sz hg.c3, keepC h hg.sz hg.c4, keepC h hg.sz hg.c5, keepC h hg.sz hg.c6⟩
    go_wp2_with fail
    go_region_held3 (fun w' => Below w1.heap.size w1 w' ∧ w'.cell? ⟨w.heap.size, 0, none⟩ = some (.int .i64 5) ∧ w'.cell? ⟨w.heap.size, 1, none⟩ = some (.int .i64 (-3)) ∧ w'.cell? ⟨w.heap.size, 2, none⟩ = some (.int .i64 o) ∧ w'.cell? ⟨0, 0, none⟩ = some (.string ⟨#[240, 157, 132, 171, 226, 153, 173]⟩) ∧ w'.cell? ⟨0, 1, none⟩ = some (.string ⟨#[240, 157, 132, 171]⟩) ∧ w'.cell? ⟨0, 2, none⟩ = some (.string ⟨#[226, 153, 173]⟩) ∧ w'.cell? ⟨0, 3, none⟩ = some (.string ⟨#[]⟩) ∧ w'.cell? ⟨0, 4, none⟩ = some (.string ⟨#[226, 153, 175]⟩) ∧ w'.cell? ⟨0, 5, none⟩ = some (.string ⟨#[240, 157, 132, 170]⟩) ∧ w'.cell? ⟨0, 6, none⟩ = some (.string ⟨#[240, 157, 132, 170, 226, 153, 175]⟩))
      (first | exact mkS _ hbn | (refine mkS _ ?_; (solve | go_grown)))
      (first | (go_at_call 35; refine (itoa_any o _ ?_ ?_ ?_).mono ?_; exact (hpw.step hb01).step (by go_grown); omega; omega; rintro e w2 ⟨rfl, hb2⟩; have hbn : Below w1.heap.size w1 w2 := Below.trans (by go_grown) (hb2.mono (by simp))))
    go_wp2_with fail
    go_returns
    exact ⟨congrArg (fun X => Ending.returned (.tuple #[.string X, .int .i64 0])) (pr_ret [65] [240, 157, 132, 171, 226, 153, 173] (by decide) (by decide) rfl), hb01.trans (hbn.mono (by omega))⟩
  · go_enter Tryd.func17, Tryd.ntmps17
    go_wp2_with fail
    refine (Right_any 5 (-2) o _).mono ?_
    rintro e w1 ⟨rfl, hb1⟩
    rw [hr]
    have hb01 : Below w.heap.size w w1 := Below.trans (by go_grown) (hb1.mono (by simp))
    have p0 : w1.cell? ⟨w.heap.size, 0, none⟩ = some (.int .i64 5) := keepC hb1 (by simp) (by simp [go_sem])
    have p1 : w1.cell? ⟨w.heap.size, 1, none⟩ = some (.int .i64 (-2)) := keepC hb1 (by simp) (by simp [go_sem])
    have p2 : w1.cell? ⟨w.heap.size, 2, none⟩ = some (.int .i64 o) := keepC hb1 (by simp) (by simp [go_sem])
    have sz1 := hb1.size
    simp at sz1
    have hg := ht.step hb01
    have mkS : ∀ w', Below w1.heap.size w1 w' → (Below w1.heap.size w1 w' ∧ w'.cell? ⟨w.heap.size, 0, none⟩ = some (.int .i64 5) ∧ w'.cell? ⟨w.heap.size, 1, none⟩ = some (.int .i64 (-2)) ∧ w'.cell? ⟨w.heap.size, 2, none⟩ = some (.int .i64 o) ∧ w'.cell? ⟨0, 0, none⟩ = some (.string ⟨#[240, 157, 132, 171, 226, 153, 173]⟩) ∧ w'.cell? ⟨0, 1, none⟩ = some (.string ⟨#[240, 157, 132, 171]⟩) ∧ w'.cell? ⟨0, 2, none⟩ = some (.string ⟨#[226, 153, 173]⟩) ∧ w'.cell? ⟨0, 3, none⟩ = some (.string ⟨#[]⟩) ∧ w'.cell? ⟨0, 4, none⟩ = some (.string ⟨#[226, 153, 175]⟩) ∧ w'.cell? ⟨0, 5, none⟩ = some (.string ⟨#[240, 157, 132, 170]⟩) ∧ w'.cell? ⟨0, 6, none⟩ = some (.string ⟨#[240, 157, 132, 170, 226, 153, 175]⟩)) := fun w' h =>
      ⟨h, keepC h (by omega) p0, keepC h (by omega) p1, keepC h (by omega) p2, keepC h hg.sz hg.c0, keepC h hg.sz hg.c1, keepC h hg.sz hg.c2, keepC h hg.sz hg.c3, keepC h hg.sz hg.c4, keepC h hg.sz hg.c5, keepC h hg.sz hg.c6⟩
    go_wp2_with fail
    go_region_held3 (fun w' => Below w1.heap.size w1 w' ∧ w'.cell? ⟨w.heap.size, 0, none⟩ = some (.int .i64 5) ∧ w'.cell? ⟨w.heap.size, 1, none⟩ = some (.int .i64 (-2)) ∧ w'.cell? ⟨w.heap.size, 2, none⟩ = some (.int .i64 o) ∧ w'.cell? ⟨0, 0, none⟩ = some (.string ⟨#[240, 157, 132, 171, 226, 153, 173]⟩) ∧ w'.cell? ⟨0, 1, none⟩ = some (.string ⟨#[240, 157, 132, 171]⟩) ∧ w'.cell? ⟨0, 2, none⟩ = some (.string ⟨#[226, 153, 173]⟩) ∧ w'.cell? ⟨0, 3, none⟩ = some (.string ⟨#[]⟩) ∧ w'.cell? ⟨0, 4, none⟩ = some (.string ⟨#[226, 153, 175]⟩) ∧ w'.cell? ⟨0, 5, none⟩ = some (.string ⟨#[240, 157, 132, 170]⟩) ∧ w'.cell? ⟨0, 6, none⟩ = some (.string ⟨#[240, 157, 132, 170, 226, 153, 175]⟩))
      (first | exact mkS _ hbn | (refine mkS _ ?_; (solve | go_grown)))
      (first | (go_at_call 35; refine (itoa_any o _ ?_ ?_ ?_).mono ?_; exact (hpw.step hb01).step (by go_grown); omega; omega; rintro e w2 ⟨rfl, hb2⟩; have hbn : Below w1.heap.size w1 w2 := Below.trans (by go_grown) (hb2.mono (by simp))))
    go_wp2_with fail
    go_returns
    exact ⟨congrArg (fun X => Ending.returned (.tuple #[.string X, .int .i64 0])) (pr_ret [65] [240, 157, 132, 171] (by decide) (by decide) rfl), hb01.trans (hbn.mono (by omega))⟩
  · go_enter Tryd.func17, Tryd.ntmps17
    go_wp2_with fail
    refine (Right_any 5 (-1) o _).mono ?_
    rintro e w1 ⟨rfl, hb1⟩
    rw [hr]
    have hb01 : Below w.heap.size w w1 := Below.trans (by go_grown) (hb1.mono (by simp))
    have p0 : w1.cell? ⟨w.heap.size, 0, none⟩ = some (.int .i64 5) := keepC hb1 (by simp) (by simp [go_sem])
    have p1 : w1.cell? ⟨w.heap.size, 1, none⟩ = some (.int .i64 (-1)) := keepC hb1 (by simp) (by simp [go_sem])
    have p2 : w1.cell? ⟨w.heap.size, 2, none⟩ = some (.int .i64 o) := keepC hb1 (by simp) (by simp [go_sem])
    have sz1 := hb1.size
    simp at sz1
    have hg := ht.step hb01
    have mkS : ∀ w', Below w1.heap.size w1 w' → (Below w1.heap.size w1 w' ∧ w'.cell? ⟨w.heap.size, 0, none⟩ = some (.int .i64 5) ∧ w'.cell? ⟨w.heap.size, 1, none⟩ = some (.int .i64 (-1)) ∧ w'.cell? ⟨w.heap.size, 2, none⟩ = some (.int .i64 o) ∧ w'.cell? ⟨0, 0, none⟩ = some (.string ⟨#[240, 157, 132, 171, 226, 153, 173]⟩) ∧ w'.cell? ⟨0, 1, none⟩ = some (.string ⟨#[240, 157, 132, 171]⟩) ∧ w'.cell? ⟨0, 2, none⟩ = some (.string ⟨#[226, 153, 173]⟩) ∧ w'.cell? ⟨0, 3, none⟩ = some (.string ⟨#[]⟩) ∧ w'.cell? ⟨0, 4, none⟩ = some (.string ⟨#[226, 153, 175]⟩) ∧ w'.cell? ⟨0, 5, none⟩ = some (.string ⟨#[240, 157, 132, 170]⟩) ∧ w'.cell? ⟨0, 6, none⟩ = some (.string ⟨#[240, 157, 132, 170, 226, 153, 175]⟩)) := fun w' h =>
      ⟨h, keepC h (by omega) p0, keepC h (by omega) p1, keepC h (by omega) p2, keepC h hg.sz hg.c0, keepC h hg.sz hg.c1, keepC h hg.sz hg.c2, keepC h hg.sz hg.c3, keepC h hg.sz hg.c4, keepC h hg.sz hg.c5, keepC h hg.sz hg.c6⟩
    go_wp2_with fail
    go_region_held3 (fun w' => Below w1.heap.size w1 w' ∧ w'.cell? ⟨w.heap.size, 0, none⟩ = some (.int .i64 5) ∧ w'.cell? ⟨w.heap.size, 1, none⟩ = some (.int .i64 (-1)) ∧ w'.cell? ⟨w.heap.size, 2, none⟩ = some (.int .i64 o) ∧ w'.cell? ⟨0, 0, none⟩ = some (.string ⟨#[240, 157, 132, 171, 226, 153, 173]⟩) ∧ w'.cell? ⟨0, 1, none⟩ = some (.string ⟨#[240, 157, 132, 171]⟩) ∧ w'.cell? ⟨0, 2, none⟩ = some (.string ⟨#[226, 153, 173]⟩) ∧ w'.cell? ⟨0, 3, none⟩ = some (.string ⟨#[]⟩) ∧ w'.cell? ⟨0, 4, none⟩ = some (.string ⟨#[226, 153, 175]⟩) ∧ w'.cell? ⟨0, 5, none⟩ = some (.string ⟨#[240, 157, 132, 170]⟩) ∧ w'.cell? ⟨0, 6, none⟩ = some (.string ⟨#[240, 157, 132, 170, 226, 153, 175]⟩))
      (first | exact mkS _ hbn | (refine mkS _ ?_; (solve | go_grown)))
      (first | (go_at_call 35; refine (itoa_any o _ ?_ ?_ ?_).mono ?_; exact (hpw.step hb01).step (by go_grown); omega; omega; rintro e w2 ⟨rfl, hb2⟩; have hbn : Below w1.heap.size w1 w2 := Below.trans (by go_grown) (hb2.mono (by simp))))
    go_wp2_with fail
    go_returns
    exact ⟨congrArg (fun X => Ending.returned (.tuple #[.string X, .int .i64 0])) (pr_ret [65] [226, 153, 173] (by decide) (by decide) rfl), hb01.trans (hbn.mono (by omega))⟩
  · go_enter Tryd.func17, Tryd.ntmps17
    go_wp2_with fail
    refine (Right_any 5 0 o _).mono ?_
    rintro e w1 ⟨rfl, hb1⟩
    rw [hr]
    have hb01 : Below w.heap.size w w1 := Below.trans (by go_grown) (hb1.mono (by simp))
    have p0 : w1.cell? ⟨w.heap.size, 0, none⟩ = some (.int .i64 5) := keepC hb1 (by simp) (by simp [go_sem])
    have p1 : w1.cell? ⟨w.heap.size, 1, none⟩ = some (.int .i64 0) := keepC hb1 (by simp) (by simp [go_sem])
    have p2 : w1.cell? ⟨w.heap.size, 2, none⟩ = some (.int .i64 o) := keepC hb1 (by simp) (by simp [go_sem])
    have sz1 := hb1.size
    simp at sz1
    have hg := ht.step hb01
    have mkS : ∀ w', Below w1.heap.size w1 w' → (Below w1.heap.size w1 w' ∧ w'.cell? ⟨w.heap.size, 0, none⟩ = some (.int .i64 5) ∧ w'.cell? ⟨w.heap.size, 1, none⟩ = some (.int .i64 0) ∧ w'.cell? ⟨w.heap.size, 2, none⟩ = some (.int .i64 o) ∧ w'.cell? ⟨0, 0, none⟩ = some (.string ⟨#[240, 157, 132, 171, 226, 153, 173]⟩) ∧ w'.cell? ⟨0, 1, none⟩ = some (.string ⟨#[240, 157, 132, 171]⟩) ∧ w'.cell? ⟨0, 2, none⟩ = some (.string ⟨#[226, 153, 173]⟩) ∧ w'.cell? ⟨0, 3, none⟩ = some (.string ⟨#[]⟩) ∧ w'.cell? ⟨0, 4, none⟩ = some (.string ⟨#[226, 153, 175]⟩) ∧ w'.cell? ⟨0, 5, none⟩ = some (.string ⟨#[240, 157, 132, 170]⟩) ∧ w'.cell? ⟨0, 6, none⟩ = some (.string ⟨#[240, 157, 132, 170, 226, 153, 175]⟩)) := fun w' h =>
      ⟨h, keepC h (by omega) p0, keepC h (by omega) p1, keepC h (by omega) p2, keepC h hg.sz hg.c0, keepC h hg.sz hg.c1, keepC h hg.sz hg.c2, keepC h hg.sz hg.c3, keepC h hg.sz hg.c4, keepC h hg.sz hg.c5, keepC h hg.sz hg.c6⟩
    go_wp2_with fail
    go_region_held3 (fun w' => Below w1.heap.size w1 w' ∧ w'.cell? ⟨w.heap.size, 0, none⟩ = some (.int .i64 5) ∧ w'.cell? ⟨w.heap.size, 1, none⟩ = some (.int .i64 0) ∧ w'.cell? ⟨w.heap.size, 2, none⟩ = some (.int .i64 o) ∧ w'.cell? ⟨0, 0, none⟩ = some (.string ⟨#[240, 157, 132, 171, 226, 153, 173]⟩) ∧ w'.cell? ⟨0, 1, none⟩ = some (.string ⟨#[240, 157, 132, 171]⟩) ∧ w'.cell? ⟨0, 2, none⟩ = some (.string ⟨#[226, 153, 173]⟩) ∧ w'.cell? ⟨0, 3, none⟩ = some (.string ⟨#[]⟩) ∧ w'.cell? ⟨0, 4, none⟩ = some (.string ⟨#[226, 153, 175]⟩) ∧ w'.cell? ⟨0, 5, none⟩ = some (.string ⟨#[240, 157, 132, 170]⟩) ∧ w'.cell? ⟨0, 6, none⟩ = some (.string ⟨#[240, 157, 132, 170, 226, 153, 175]⟩))
      (first | exact mkS _ hbn | (refine mkS _ ?_; (solve | go_grown)))
      (first | (go_at_call 35; refine (itoa_any o _ ?_ ?_ ?_).mono ?_; exact (hpw.step hb01).step (by go_grown); omega; omega; rintro e w2 ⟨rfl, hb2⟩; have hbn : Below w1.heap.size w1 w2 := Below.trans (by go_grown) (hb2.mono (by simp))))
    go_wp2_with fail
    go_returns
    exact ⟨congrArg (fun X => Ending.returned (.tuple #[.string X, .int .i64 0])) (pr_ret [65] [] (by decide) (by decide) rfl), hb01.trans (hbn.mono (by omega))⟩
  · go_enter Tryd.func17, Tryd.ntmps17
    go_wp2_with fail
    refine (Right_any 5 1 o _).mono ?_
    rintro e w1 ⟨rfl, hb1⟩
    rw [hr]
    have hb01 : Below w.heap.size w w1 := Below.trans (by go_grown) (hb1.mono (by simp))
    have p0 : w1.cell? ⟨w.heap.size, 0, none⟩ = some (.int .i64 5) := keepC hb1 (by simp) (by simp [go_sem])
    have p1 : w1.cell? ⟨w.heap.size, 1, none⟩ = some (.int .i64 1) := keepC hb1 (by simp) (by simp [go_sem])
    have p2 : w1.cell? ⟨w.heap.size, 2, none⟩ = some (.int .i64 o) := keepC hb1 (by simp) (by simp [go_sem])
    have sz1 := hb1.size
    simp at sz1
    have hg := ht.step hb01
    have mkS : ∀ w', Below w1.heap.size w1 w' → (Below w1.heap.size w1 w' ∧ w'.cell? ⟨w.heap.size, 0, none⟩ = some (.int .i64 5) ∧ w'.cell? ⟨w.heap.size, 1, none⟩ = some (.int .i64 1) ∧ w'.cell? ⟨w.heap.size, 2, none⟩ = some (.int .i64 o) ∧ w'.cell? ⟨0, 0, none⟩ = some (.string ⟨#[240, 157, 132, 171, 226, 153, 173]⟩) ∧ w'.cell? ⟨0, 1, none⟩ = some (.string ⟨#[240, 157, 132, 171]⟩) ∧ w'.cell? ⟨0, 2, none⟩ = some (.string ⟨#[226, 153, 173]⟩) ∧ w'.cell? ⟨0, 3, none⟩ = some (.string ⟨#[]⟩) ∧ w'.cell? ⟨0, 4, none⟩ = some (.string ⟨#[226, 153, 175]⟩) ∧ w'.cell? ⟨0, 5, none⟩ = some (.string ⟨#[240, 157, 132, 170]⟩) ∧ w'.cell? ⟨0, 6, none⟩ = some (.string ⟨#[240, 157, 132, 170, 226, 153, 175]⟩)) := fun w' h =>
      ⟨h, keepC h (by omega) p0, keepC h (by omega) p1, keepC h (by omega) p2, keepC h hg.sz hg.c0, keepC h hg.sz hg.c1, keepC h hg.sz hg.c2, keepC h hg.sz hg.c3, keepC h hg.sz hg.c4, keepC h hg.sz hg.c5, keepC h hg.sz hg.c6⟩
    go_wp2_with fail
    go_region_held3 (fun w' => Below w1.heap.size w1 w' ∧ w'.cell? ⟨w.heap.size, 0, none⟩ = some (.int .i64 5) ∧ w'.cell? ⟨w.heap.size, 1, none⟩ = some (.int .i64 1) ∧ w'.cell? ⟨w.heap.size, 2, none⟩ = some (.int .i64 o) ∧ w'.cell? ⟨0, 0, none⟩ = some (.string ⟨#[240, 157, 132, 171, 226, 153, 173]⟩) ∧ w'.cell? ⟨0, 1, none⟩ = some (.string ⟨#[240, 157, 132, 171]⟩) ∧ w'.cell? ⟨0, 2, none⟩ = some (.string ⟨#[226, 153, 173]⟩) ∧ w'.cell? ⟨0, 3, none⟩ = some (.string ⟨#[]⟩) ∧ w'.cell? ⟨0, 4, none⟩ = some (.string ⟨#[226, 153, 175]⟩) ∧ w'.cell? ⟨0, 5, none⟩ = some (.string ⟨#[240, 157, 132, 170]⟩) ∧ w'.cell? ⟨0, 6, none⟩ = some (.string ⟨#[240, 157, 132, 170, 226, 153, 175]⟩))
      (first | exact mkS _ hbn | (refine mkS _ ?_; (solve | go_grown)))
      (first | (go_at_call 35; refine (itoa_any o _ ?_ ?_ ?_).mono ?_; exact (hpw.step hb01).step (by go_grown); omega; omega; rintro e w2 ⟨rfl, hb2⟩; have hbn : Below w1.heap.size w1 w2 := Below.trans (by go_grown) (hb2.mono (by simp))))
    go_wp2_with fail
    go_returns
    exact ⟨congrArg (fun X => Ending.returned (.tuple #[.string X, .int .i64 0])) (pr_ret [65] [226, 153, 175] (by decide) (by decide) rfl), hb01.trans (hbn.mono (by omega))⟩
  · go_enter Tryd.func17, Tryd.ntmps17
    go_wp2_with fail
    refine (Right_any 5 2 o _).mono ?_
    rintro e w1 ⟨rfl, hb1⟩
    rw [hr]
    have hb01 : Below w.heap.size w w1 := Below.trans (by go_grown) (hb1.mono (by simp))
    have p0 : w1.cell? ⟨w.heap.size, 0, none⟩ = some (.int .i64 5) := keepC hb1 (by simp) (by simp [go_sem])
    have p1 : w1.cell? ⟨w.heap.size, 1, none⟩ = some (.int .i64 2) := keepC hb1 (by simp) (by simp [go_sem])
    have p2 : w1.cell? ⟨w.heap.size, 2, none⟩ = some (.int .i64 o) := keepC hb1 (by simp) (by simp [go_sem])
    have sz1 := hb1.size
    simp at sz1
    have hg := ht.step hb01
    have mkS : ∀ w', Below w1.heap.size w1 w' → (Below w1.heap.size w1 w' ∧ w'.cell? ⟨w.heap.size, 0, none⟩ = some (.int .i64 5) ∧ w'.cell? ⟨w.heap.size, 1, none⟩ = some (.int .i64 2) ∧ w'.cell? ⟨w.heap.size, 2, none⟩ = some (.int .i64 o) ∧ w'.cell? ⟨0, 0, none⟩ = some (.string ⟨#[240, 157, 132, 171, 226, 153, 173]⟩) ∧ w'.cell? ⟨0, 1, none⟩ = some (.string ⟨#[240, 157, 132, 171]⟩) ∧ w'.cell? ⟨0, 2, none⟩ = some (.string ⟨#[226, 153, 173]⟩) ∧ w'.cell? ⟨0, 3, none⟩ = some (.string ⟨#[]⟩) ∧ w'.cell? ⟨0, 4, none⟩ = some (.string ⟨#[226, 153, 175]⟩) ∧ w'.cell? ⟨0, 5, none⟩ = some (.string ⟨#[240, 157, 132, 170]⟩) ∧ w'.cell? ⟨0, 6, none⟩ = some (.string ⟨#[240, 157, 132, 170, 226, 153, 175]⟩)) := fun w' h =>
      ⟨h, keepC h (by omega) p0, keepC h (by omega) p1, keepC h (by omega) p2, keepC h hg.sz hg.c0, keepC h hg.sz hg.c1, keepC h hg.sz hg.c2, keepC h hg.sz hg.c3, keepC h hg.sz hg.c4, keepC h hg.sz hg.c5, keepC h hg.sz hg.c6⟩
    go_wp2_with fail
    go_region_held3 (fun w' => Below w1.heap.size w1 w' ∧ w'.cell? ⟨w.heap.size, 0, none⟩ = some (.int .i64 5) ∧ w'.cell? ⟨w.heap.size, 1, none⟩ = some (.int .i64 2) ∧ w'.cell? ⟨w.heap.size, 2, none⟩ = some (.int .i64 o) ∧ w'.cell? ⟨0, 0, none⟩ = some (.string ⟨#[240, 157, 132, 171, 226, 153, 173]⟩) ∧ w'.cell? ⟨0, 1, none⟩ = some (.string ⟨#[240, 157, 132, 171]⟩) ∧ w'.cell? ⟨0, 2, none⟩ = some (.string ⟨#[226, 153, 173]⟩) ∧ w'.cell? ⟨0, 3, none⟩ = some (.string ⟨#[]⟩) ∧ w'.cell? ⟨0, 4, none⟩ = some (.string ⟨#[226, 153, 175]⟩) ∧ w'.cell? ⟨0, 5, none⟩ = some (.string ⟨#[240, 157, 132, 170]⟩) ∧ w'.cell? ⟨0, 6, none⟩ = some (.string ⟨#[240, 157, 132, 170, 226, 153, 175]⟩))
      (first | exact mkS _ hbn | (refine mkS _ ?_; (solve | go_grown)))
      (first | (go_at_call 35; refine (itoa_any o _ ?_ ?_ ?_).mono ?_; exact (hpw.step hb01).step (by go_grown); omega; omega; rintro e w2 ⟨rfl, hb2⟩; have hbn : Below w1.heap.size w1 w2 := Below.trans (by go_grown) (hb2.mono (by simp))))
    go_wp2_with fail
    go_returns
    exact ⟨congrArg (fun X => Ending.returned (.tuple #[.string X, .int .i64 0])) (pr_ret [65] [240, 157, 132, 170] (by decide) (by decide) rfl), hb01.trans (hbn.mono (by omega))⟩
  · go_enter Tryd.func17, Tryd.ntmps17
    go_wp2_with fail
    refine (Right_any 5 3 o _).mono ?_
    rintro e w1 ⟨rfl, hb1⟩
    rw [hr]
    have hb01 : Below w.heap.size w w1 := Below.trans (by go_grown) (hb1.mono (by simp))
    have p0 : w1.cell? ⟨w.heap.size, 0, none⟩ = some (.int .i64 5) := keepC hb1 (by simp) (by simp [go_sem])
    have p1 : w1.cell? ⟨w.heap.size, 1, none⟩ = some (.int .i64 3) := keepC hb1 (by simp) (by simp [go_sem])
    have p2 : w1.cell? ⟨w.heap.size, 2, none⟩ = some (.int .i64 o) := keepC hb1 (by simp) (by simp [go_sem])
    have sz1 := hb1.size
    simp at sz1
    have hg := ht.step hb01
    have mkS : ∀ w', Below w1.heap.size w1 w' → (Below w1.heap.size w1 w' ∧ w'.cell? ⟨w.heap.size, 0, none⟩ = some (.int .i64 5) ∧ w'.cell? ⟨w.heap.size, 1, none⟩ = some (.int .i64 3) ∧ w'.cell? ⟨w.heap.size, 2, none⟩ = some (.int .i64 o) ∧ w'.cell? ⟨0, 0, none⟩ = some (.string ⟨#[240, 157, 132, 171, 226, 153, 173]⟩) ∧ w'.cell? ⟨0, 1, none⟩ = some (.string ⟨#[240, 157, 132, 171]⟩) ∧ w'.cell? ⟨0, 2, none⟩ = some (.string ⟨#[226, 153, 173]⟩) ∧ w'.cell? ⟨0, 3, none⟩ = some (.string ⟨#[]⟩) ∧ w'.cell? ⟨0, 4, none⟩ = some (.string ⟨#[226, 153, 175]⟩) ∧ w'.cell? ⟨0, 5, none⟩ = some (.string ⟨#[240, 157, 132, 170]⟩) ∧ w'.cell? ⟨0, 6, none⟩ = some (.string ⟨#[240, 157, 132, 170, 226, 153, 175]⟩)) := fun w' h =>
      ⟨h, keepC h (by omega) p0, keepC h (by omega) p1, keepC h (by omega) p2, keepC h hg.sz hg.c0, keepC h hg.sz hg.c1, keepC h hg.sz hg.c2, keepC h hg.sz hg.c3, keepC h hg.sz hg.c4, keepC h hg.sz hg.c5, keepC h hg.sz hg.c6⟩
    go_wp2_with fail
    go_region_held3 (fun w' => Below w1.heap.size w1 w' ∧ w'.cell? ⟨w.heap.size, 0, none⟩ = some (.int .i64 5) ∧ w'.cell? ⟨w.heap.size, 1, none⟩ = some (.int .i64 3) ∧ w'.cell? ⟨w.heap.size, 2, none⟩ = some (.int .i64 o) ∧ w'.cell? ⟨0, 0, none⟩ = some (.string ⟨#[240, 157, 132, 171, 226, 153, 173]⟩) ∧ w'.cell? ⟨0, 1, none⟩ = some (.string ⟨#[240, 157, 132, 171]⟩) ∧ w'.cell? ⟨0, 2, none⟩ = some (.string ⟨#[226, 153, 173]⟩) ∧ w'.cell? ⟨0, 3, none⟩ = some (.string ⟨#[]⟩) ∧ w'.cell? ⟨0, 4, none⟩ = some (.string ⟨#[226, 153, 175]⟩) ∧ w'.cell? ⟨0, 5, none⟩ = some (.string ⟨#[240, 157, 132, 170]⟩) ∧ w'.cell? ⟨0, 6, none⟩ = some (.string ⟨#[240, 157, 132, 170, 226, 153, 175]⟩))
      (first | exact mkS _ hbn | (refine mkS _ ?_; (solve | go_grown)))
      (first | (go_at_call 35; refine (itoa_any o _ ?_ ?_ ?_).mono ?_; exact (hpw.step hb01).step (by go_grown); omega; omega; rintro e w2 ⟨rfl, hb2⟩; have hbn : Below w1.heap.size w1 w2 := Below.trans (by go_grown) (hb2.mono (by simp))))
    go_wp2_with fail
    go_returns
    exact ⟨congrArg (fun X => Ending.returned (.tuple #[.string X, .int .i64 0])) (pr_ret [65] [240, 157, 132, 170, 226, 153, 175] (by decide) (by decide) rfl), hb01.trans (hbn.mono (by omega))⟩

set_option maxRecDepth 100000 in
set_option maxHeartbeats 4000000 in
theorem Print_L6 (a o : Int) (w : World) (ht : Sgs w) (hpw : Pows w) (h1 : -12 ≤ o) (h2 : o ≤ 12) (h3 : -3 ≤ a) (h4 : a ≤ 3) :
    Calls Tryd.prog 17 #[.agg #[.int .i64 6, .int .i64 a, .int .i64 o]] w fun e w' => e = .returned (.tuple #[.string (M.pr 6 a o), .int .i64 0]) ∧ Below w.heap.size w w' := by
  have k0 : IntKind.i64.wrap 0 = 0 := wid (by omega) (by omega)
  have k1 : IntKind.i64.wrap 1 = 1 := wid (by omega) (by omega)
  have k2 : IntKind.i64.wrap 2 = 2 := wid (by omega) (by omega)
  have k3 : IntKind.i64.wrap 3 = 3 := wid (by omega) (by omega)
  have k4 : IntKind.i64.wrap 4 = 4 := wid (by omega) (by omega)
  have k5 : IntKind.i64.wrap 5 = 5 := wid (by omega) (by omega)
  have k6 : IntKind.i64.wrap 6 = 6 := wid (by omega) (by omega)
  have k7 : IntKind.i64.wrap 7 = 7 := wid (by omega) (by omega)
  have hl := Lib.itoa_length_le o (by omega) (by omega)
  have e6 : ByteArray.extract ⟨#[67, 68, 69, 70, 71, 65, 66]⟩ 6 7 = ⟨#[66]⟩ := by decide
  have y8 : ¬ 9223372036854775807 < 8 + (Lib.itoa o).length := by omega
  have y5 : ¬ 9223372036854775807 < 5 + (Lib.itoa o).length := by omega
  have y4 : ¬ 9223372036854775807 < 4 + (Lib.itoa o).length := by omega
  have y1 : ¬ 9223372036854775807 < 1 + (Lib.itoa o).length := by omega
  have hr : M.rt 6 a o = true := M.rt_mk (by omega)
  rcases (show a = -3 ∨ a = -2 ∨ a = -1 ∨ a = 0 ∨ a = 1 ∨ a = 2 ∨ a = 3 by omega) with rfl | rfl | rfl | rfl | rfl | rfl | rfl
  · go_enter Tryd.func17, Tryd.ntmps17
    go_wp2_with fail
    refine (Right_any 6 (-3) o _).mono ?_
    rintro e w1 ⟨rfl, hb1⟩
    rw [hr]
    have hb01 : Below w.heap.size w w1 := Below.trans (by go_grown) (hb1.mono (by simp))
    have p0 : w1.cell? ⟨w.heap.size, 0, none⟩ = some (.int .i64 6) := keepC hb1 (by simp) (by simp [go_sem])
    have p1 : w1.cell? ⟨w.heap.size, 1, none⟩ = some (.int .i64 (-3)) := keepC hb1 (by simp) (by simp [go_sem])
    have p2 : w1.cell? ⟨w.heap.size, 2, none⟩ = some (.int .i64 o) := keepC hb1 (by simp) (by simp [go_sem])
    have sz1 := hb1.size
    simp at sz1
    have hg := ht.step hb01
    have mkS : ∀ w', Below w1.heap.size w1 w' → (Below w1.heap.size w1 w' ∧ w'.cell? ⟨w.heap.size, 0, none⟩ = some (.int .i64 6) ∧ w'.cell? ⟨w.heap.size, 1, none⟩ = some (.int .i64 (-3)) ∧ w'.cell? ⟨w.heap.size, 2, none⟩ = some (.int .i64 o) ∧ w'.cell? ⟨0, 0, none⟩ = some (.string ⟨#[240, 157, 132, 171, 226, 153, 173]⟩) ∧ w'.cell? ⟨0, 1, none⟩ = some (.string ⟨#[240, 157, 132, 171]⟩) ∧ w'.cell? ⟨0, 2, none⟩ = some (.string ⟨#[226, 153, 173]⟩) ∧ w'.cell? ⟨0, 3, none⟩ = some (.string ⟨#[]⟩) ∧ w'.cell? ⟨0, 4, none⟩ = some (.string ⟨#[226, 153, 175]⟩) ∧ w'.cell? ⟨0, 5, none⟩ = some (.string ⟨#[240, 157, 132, 170]⟩) ∧ w'.cell? ⟨0, 6, none⟩ = some (.string ⟨#[240, 157, 132, 170, 226, 153, 175]⟩)) := fun w' h =>
      ⟨h, keepC h (by omega) p0, keepC h (by omega) p1, keepC h (by omega) p2, keepC h hg.sz hg.c0, keepC h hg.sz hg.c1, keepC h hg.sz hg.c2, keepC h hg.sz hg.c3, keepC h hg.sz hg.c4, keepC h hg.sz hg.c5, keepC h hg.sz hg.c6⟩
    go_wp2_with fail
    go_region_held3 (fun w' => Below w1.heap.size w1 w' ∧ w'.cell? ⟨w.heap.size, 0, none⟩ = some (.int .i64 6) ∧ w'.cell? ⟨w.heap.size, 1, none⟩ = some (.int .i64 (-3)) ∧ w'.cell? ⟨w.heap.size, 2, none⟩ = some (.int .i64 o) ∧ w'.cell? ⟨0, 0, none⟩ = some (.string ⟨#[240, 157, 132, 171, 226, 153, 173]⟩) ∧ w'.cell? ⟨0, 1, none⟩ = some (.string ⟨#[240, 157, 132, 171]⟩) ∧ w'.cell? ⟨0, 2, none⟩ = some (.string ⟨#[226, 153, 173]⟩) ∧ w'.cell? ⟨0, 3, none⟩ = some (.string ⟨#[]⟩) ∧ w'.cell? ⟨0, 4, none⟩ = some (.string ⟨#[226, 153, 175]⟩) ∧ w'.cell? ⟨0, 5, none⟩ = some (.string ⟨#[240, 157, 132, 170]⟩) ∧ w'.cell? ⟨0, 6, none⟩ = some (.string ⟨#[240, 157, 132, 170, 226, 153, 175]⟩))
      (first | exact mkS _ hbn | (refine mkS _ ?_; (solve | go_grown)))
      (first | (go_at_call 35; refine (itoa_any o _ ?_ ?_ ?_).mono ?_; exact (hpw.step hb01).step (by go_grown); omega; omega; rintro e w2 ⟨rfl, hb2⟩; have hbn : Below w1.heap.size w1 w2 := Below.trans (by go_grown) (hb2.mono (by simp))))
    go_wp2_with fail
    go_returns
    exact ⟨congrArg (fun X => Ending.returned (.tuple #[.string X, .int .i64 0])) (pr_ret [66] [240, 157, 132, 171, 226, 153, 173] (by decide) (by decide) rfl), hb01.trans (hbn.mono (by omega))⟩
  · go_enter Tryd.func17, Tryd.ntmps17
    go_wp2_with fail
    refine (Right_any 6 (-2) o _).mono ?_
    rintro e w1 ⟨rfl, hb1⟩
    rw [hr]
    have hb01 : Below w.heap.size w w1 := Below.trans (by go_grown) (hb1.mono (by simp))
    have p0 : w1.cell? ⟨w.heap.size, 0, none⟩ = some (.int .i64 6) := keepC hb1 (by simp) (by simp [go_sem])
    have p1 : w1.cell? ⟨w.heap.size, 1, none⟩ = some (.int .i64 (-2)) := keepC hb1 (by simp) (by simp [go_sem])
    have p2 : w1.cell? ⟨w.heap.size, 2, none⟩ = some (.int .i64 o) := keepC hb1 (by simp) (by simp [go_sem])
    have sz1 := hb1.size
    simp at sz1
    have hg := ht.step hb01
    have mkS : ∀ w', Below w1.heap.size w1 w' → (Below w1.heap.size w1 w' ∧ w'.cell? ⟨w.heap.size, 0, none⟩ = some (.int .i64 6) ∧ w'.cell? ⟨w.heap.size, 1, none⟩ = some (.int .i64 (-2)) ∧ w'.cell? ⟨w.heap.size, 2, none⟩ = some (.int .i64 o) ∧ w'.cell? ⟨0, 0, none⟩ = some (.string ⟨#[240, 157, 132, 171, 226, 153, 173]⟩) ∧ w'.cell? ⟨0, 1, none⟩ = some (.string ⟨#[240, 157, 132, 171]⟩) ∧ w'.cell? ⟨0, 2, none⟩ = some (.string ⟨#[226, 153, 173]⟩) ∧ w'.cell? ⟨0, 3, none⟩ = some (.string ⟨#[]⟩) ∧ w'.cell? ⟨0, 4, none⟩ = some (.string ⟨#[226, 153, 175]⟩) ∧ w'.cell? ⟨0, 5, none⟩ = some (.string ⟨#[240, 157, 132, 170]⟩) ∧ w'.cell? ⟨0, 6, none⟩ = some (.string ⟨#[240, 157, 132, 170, 226, 153, 175]⟩)) := fun w' h =>
      ⟨h, keepC h (by omega) p0, keepC h (by omega) p1, keepC h (by omega) p2, keepC h hg.sz hg.c0, keepC h hg.sz hg.c1, keepC h hg.sz hg.c2, keepC h hg.sz hg.c3, keepC h hg.sz hg.c4, keepC h hg.sz hg.c5, keepC h hg.sz hg.c6⟩
    go_wp2_with fail
    go_region_held3 (fun w' => Below w1.heap.size w1 w' ∧ w'.cell? ⟨w.heap.size, 0, none⟩ = some (.int .i64 6) ∧ w'.cell? ⟨w.heap.size, 1, none⟩ = some (.int .i64 (-2)) ∧ w'.cell? ⟨w.heap.size, 2, none⟩ = some (.int .i64 o) ∧ w'.cell? ⟨0, 0, none⟩ = some (.string ⟨#[240, 157, 132, 171, 226, 153, 173]⟩) ∧ w'.cell? ⟨0, 1, none⟩ = some (.string ⟨#[240, 157, 132, 171]⟩) ∧ w'.cell? ⟨0, 2, none⟩ = some (.string ⟨#[226, 153, 173]⟩) ∧ w'.cell? ⟨0, 3, none⟩ = some (.string ⟨#[]⟩) ∧ w'.cell? ⟨0, 4, none⟩ = some (.string ⟨#[226, 153, 175]⟩) ∧ w'.cell? ⟨0, 5, none⟩ = some (.string ⟨#[240, 157, 132, 170]⟩) ∧ w'.cell? ⟨0, 6, none⟩ = some (.string ⟨#[240, 157, 132, 170, 226, 153, 175]⟩))
      (first | exact mkS _ hbn | (refine mkS _ ?_; (solve | go_grown)))
      (first | (go_at_call 35; refine (itoa_any o _ ?_ ?_ ?_).mono ?_; exact (hpw.step hb01).step (by go_grown); omega; omega; rintro e w2 ⟨rfl, hb2⟩; have hbn : Below w1.heap.size w1 w2 := Below.trans (by go_grown) (hb2.mono (by simp))))
    go_wp2_with fail
    go_returns
    exact ⟨congrArg (fun X => Ending.returned (.tuple #[.string X, .int .i64 0])) (pr_ret [66] [240, 157, 132, 171] (by decide) (by decide) rfl), hb01.trans (hbn.mono (by omega))⟩
  · go_enter Tryd.func17, Tryd.ntmps17
    go_wp2_with fail
    refine (Right_any 6 (-1) o _).mono ?_
    rintro e w1 ⟨rfl, hb1⟩
    rw [hr]
    have hb01 : Below w.heap.size w w1 := Below.trans (by go_grown) (hb1.mono (by simp))
    have p0 : w1.cell? ⟨w.heap.size, 0, none⟩ = some (.int .i64 6) := keepC hb1 (by simp) (by simp [go_sem])
    have p1 : w1.cell? ⟨w.heap.size, 1, none⟩ = some (.int .i64 (-1)) := keepC hb1 (by simp) (by simp [go_sem])
    have p2 : w1.cell? ⟨w.heap.size, 2, none⟩ = some (.int .i64 o) := keepC hb1 (by simp) (by simp [go_sem])
    have sz1 := hb1.size
    simp at sz1
    have hg := ht.step hb01
    have mkS : ∀ w', Below w1.heap.size w1 w' → (Below w1.heap.size w1 w' ∧ w'.cell? ⟨w.heap.size, 0, none⟩ = some (.int .i64 6) ∧ w'.cell? ⟨w.heap.size, 1, none⟩ = some (.int .i64 (-1)) ∧ w'.cell? ⟨w.heap.size, 2, none⟩ = some (.int .i64 o) ∧ w'.cell? ⟨0, 0, none⟩ = some (.string ⟨#[240, 157, 132, 171, 226, 153, 173]⟩) ∧ w'.cell? ⟨0, 1, none⟩ = some (.string ⟨#[240, 157, 132, 171]⟩) ∧ w'.cell? ⟨0, 2, none⟩ = some (.string ⟨#[226, 153, 173]⟩) ∧ w'.cell? ⟨0, 3, none⟩ = some (.string ⟨#[]⟩) ∧ w'.cell? ⟨0, 4, none⟩ = some (.string ⟨#[226, 153, 175]⟩) ∧ w'.cell? ⟨0, 5, none⟩ = some (.string ⟨#[240, 157, 132, 170]⟩) ∧ w'.cell? ⟨0, 6, none⟩ = some (.string ⟨#[240, 157, 132, 170, 226, 153, 175]⟩)) := fun w' h =>
      ⟨h, keepC h (by omega) p0, keepC h (by omega) p1, keepC h (by omega) p2, keepC h hg.sz hg.c0, keepC h hg.sz hg.c1, keepC h hg.sz hg.c2, keepC h hg.sz hg.c3, keepC h hg.sz hg.c4, keepC h hg.sz hg.c5, keepC h hg.sz hg.c6⟩
    go_wp2_with fail
    go_region_held3 (fun w' => Below w1.heap.size w1 w' ∧ w'.cell? ⟨w.heap.size, 0, none⟩ = some (.int .i64 6) ∧ w'.cell? ⟨w.heap.size, 1, none⟩ = some (.int .i64 (-1)) ∧ w'.cell? ⟨w.heap.size, 2, none⟩ = some (.int .i64 o) ∧ w'.cell? ⟨0, 0, none⟩ = some (.string ⟨#[240, 157, 132, 171, 226, 153, 173]⟩) ∧ w'.cell? ⟨0, 1, none⟩ = some (.string ⟨#[240, 157, 132, 171]⟩) ∧ w'.cell? ⟨0, 2, none⟩ = some (.string ⟨#[226, 153, 173]⟩) ∧ w'.cell? ⟨0, 3, none⟩ = some (.string ⟨#[]⟩) ∧ w'.cell? ⟨0, 4, none⟩ = some (.string ⟨#[226, 153, 175]⟩) ∧ w'.cell? ⟨0, 5, none⟩ = some (.string ⟨#[240, 157, 132, 170]⟩) ∧ w'.cell? ⟨0, 6, none⟩ = some (.string ⟨#[240, 157, 132, 170, 226, 153, 175]⟩))
      (first | exact mkS _ hbn | (refine mkS _ ?_; (solve | go_grown)))
      (first | (go_at_call 35; refine (itoa_any o _ ?_ ?_ ?_).mono ?_; exact (hpw.step hb01).step (by go_grown); omega; omega; rintro e w2 ⟨rfl, hb2⟩; have hbn : Below w1.heap.size w1 w2 := Below.trans (by go_grown) (hb2.mono (by simp))))
    go_wp2_with fail
    go_returns
    exact ⟨congrArg (fun X => Ending.returned (.tuple #[.string X, .int .i64 0])) (pr_ret [66] [226, 153, 173] (by decide) (by decide) rfl), hb01.trans (hbn.mono (by omega))⟩
  · go_enter Tryd.func17, Tryd.ntmps17
    go_wp2_with fail
    refine (Right_any 6 0 o _).mono ?_
    rintro e w1 ⟨rfl, hb1⟩
    rw [hr]
    have hb01 : Below w.heap.size w w1 := Below.trans (by go_grown) (hb1.mono (by simp))
    have p0 : w1.cell? ⟨w.heap.size, 0, none⟩ = some (.int .i64 6) := keepC hb1 (by simp) (by simp [go_sem])
    have p1 : w1.cell? ⟨w.heap.size, 1, none⟩ = some (.int .i64 0) := keepC hb1 (by simp) (by simp [go_sem])
    have p2 : w1.cell? ⟨w.heap.size, 2, none⟩ = some (.int .i64 o) := keepC hb1 (by simp) (by simp [go_sem])
    have sz1 := hb1.size
    simp at sz1
    have hg := ht.step hb01
    have mkS : ∀ w', Below w1.heap.size w1 w' → (Below w1.heap.size w1 w' ∧ w'.cell? ⟨w.heap.size, 0, none⟩ = some (.int .i64 6) ∧ w'.cell? ⟨w.heap.size, 1, none⟩ = some (.int .i64 0) ∧ w'.cell? ⟨w.heap.size, 2, none⟩ = some (.int .i64 o) ∧ w'.cell? ⟨0, 0, none⟩ = some (.string ⟨#[240, 157, 132, 171, 226, 153, 173]⟩) ∧ w'.cell? ⟨0, 1, none⟩ = some (.string ⟨#[240, 157, 132, 171]⟩) ∧ w'.cell? ⟨0, 2, none⟩ = some (.string ⟨#[226, 153, 173]⟩) ∧ w'.cell? ⟨0, 3, none⟩ = some (.string ⟨#[]⟩) ∧ w'.cell? ⟨0, 4, none⟩ = some (.string ⟨#[226, 153, 175]⟩) ∧ w'.cell? ⟨0, 5, none⟩ = some (.string ⟨#[240, 157, 132, 170]⟩) ∧ w'.cell? ⟨0, 6, none⟩ = some (.string ⟨#[240, 157, 132, 170, 226, 153, 175]⟩)) := fun w' h =>
      ⟨h, keepC h (by omega) p0, keepC h (by omega) p1, keepC h (by omega) p2, keepC h hg.sz hg.c0, keepC h hg.sz hg.c1, keepC h hg.sz hg.c2, keepC h hg.sz hg.c3, keepC h hg.sz hg.c4, keepC h hg.sz hg.c5, keepC h hg.sz hg.c6⟩
    go_wp2_with fail
    go_region_held3 (fun w' => Below w1.heap.size w1 w' ∧ w'.cell? ⟨w.heap.size, 0, none⟩ = some (.int .i64 6) ∧ w'.cell? ⟨w.heap.size, 1, none⟩ = some (.int .i64 0) ∧ w'.cell? ⟨w.heap.size, 2, none⟩ = some (.int .i64 o) ∧ w'.cell? ⟨0, 0, none⟩ = some (.string ⟨#[240, 157, 132, 171, 226, 153, 173]⟩) ∧ w'.cell? ⟨0, 1, none⟩ = some (.string ⟨#[240, 157, 132, 171]⟩) ∧ w'.cell? ⟨0, 2, none⟩ = some (.string ⟨#[226, 153, 173]⟩) ∧ w'.cell? ⟨0, 3, none⟩ = some (.string ⟨#[]⟩) ∧ w'.cell? ⟨0, 4, none⟩ = some (.string ⟨#[226, 153, 175]⟩) ∧ w'.cell? ⟨0, 5, none⟩ = some (.string ⟨#[240, 157, 132, 170]⟩) ∧ w'.cell? ⟨0, 6, none⟩ = some (.string ⟨#[240, 157, 132, 170, 226, 153, 175]⟩))
      (first | exact mkS _ hbn | (refine mkS _ ?_; (solve | go_grown)))
      (first | (go_at_call 35; refine (itoa_any o _ ?_ ?_ ?_).mono ?_; exact (hpw.step hb01).step (by go_grown); omega; omega; rintro e w2 ⟨rfl, hb2⟩; have hbn : Below w1.heap.size w1 w2 := Below.trans (by go_grown) (hb2.mono (by simp))))
    go_wp2_with fail
    go_returns
    exact ⟨congrArg (fun X => Ending.returned (.tuple #[.string X, .int .i64 0])) (pr_ret [66] [] (by decide) (by decide) rfl), hb01.trans (hbn.mono (by omega))⟩
  · go_enter Tryd.func17, Tryd.ntmps17
    go_wp2_with fail
    refine (Right_any 6 1 o _).mono ?_
    rintro e w1 ⟨rfl, hb1⟩
    rw [hr]
    have hb01 : Below w.heap.size w w1 := Below.trans (by go_grown) (hb1.mono (by simp))
    have p0 : w1.cell? ⟨w.heap.size, 0, none⟩ = some (.int .i64 6) := keepC hb1 (by simp) (by simp [go_sem])
    have p1 : w1.cell? ⟨w.heap.size, 1, none⟩ = some (.int .i64 1) := keepC hb1 (by simp) (by simp [go_sem])
    have p2 : w1.cell? ⟨w.heap.size, 2, none⟩ = some (.int .i64 o) := keepC hb1 (by simp) (by simp [go_sem])
    have sz1 := hb1.size
    simp at sz1
    have hg := ht.step hb01
    have mkS : ∀ w', Below w1.heap.size w1 w' → (Below w1.heap.size w1 w' ∧ w'.cell? ⟨w.heap.size, 0, none⟩ = some (.int .i64 6) ∧ w'.cell? ⟨w.heap.size, 1, none⟩ = some (.int .i64 1) ∧ w'.cell? ⟨w.heap.size, 2, none⟩ = some (.int .i64 o) ∧ w'.cell? ⟨0, 0, none⟩ = some (.string ⟨#[240, 157, 132, 171, 226, 153, 173]⟩) ∧ w'.cell? ⟨0, 1, none⟩ = some (.string ⟨#[240, 157, 132, 171]⟩) ∧ w'.cell? ⟨0, 2, none⟩ = some (.string ⟨#[226, 153, 173]⟩) ∧ w'.cell? ⟨0, 3, none⟩ = some (.string ⟨#[]⟩) ∧ w'.cell? ⟨0, 4, none⟩ = some (.string ⟨#[226, 153, 175]⟩) ∧ w'.cell? ⟨0, 5, none⟩ = some (.string ⟨#[240, 157, 132, 170]⟩) ∧ w'.cell? ⟨0, 6, none⟩ = some (.string ⟨#[240, 157, 132, 170, 226, 153, 175]⟩)) := fun w' h =>
      ⟨h, keepC h (by omega) p0, keepC h (by omega) p1, keepC h (by omega) p2, keepC h hg.sz hg.c0, keepC h hg.sz hg.c1, keepC h hg.sz hg.c2, keepC h hg.sz hg.c3, keepC h hg.sz hg.c4, keepC h hg.sz hg.c5, keepC h hg.sz hg.c6⟩
    go_wp2_with fail
    go_region_held3 (fun w' => Below w1.heap.size w1 w' ∧ w'.cell? ⟨w.heap.size, 0, none⟩ = some (.int .i64 6) ∧ w'.cell? ⟨w.heap.size, 1, none⟩ = some (.int .i64 1) ∧ w'.cell? ⟨w.heap.size, 2, none⟩ = some (.int .i64 o) ∧ w'.cell? ⟨0, 0, none⟩ = some (.string ⟨#[240, 157, 132, 171, 226, 153, 173]⟩) ∧ w'.cell? ⟨0, 1, none⟩ = some (.string ⟨#[240, 157, 132, 171]⟩) ∧ w'.cell? ⟨0, 2, none⟩ = some (.string ⟨#[226, 153, 173]⟩) ∧ w'.cell? ⟨0, 3, none⟩ = some (.string ⟨#[]⟩) ∧ w'.cell? ⟨0, 4, none⟩ = some (.string ⟨#[226, 153, 175]⟩) ∧ w'.cell? ⟨0, 5, none⟩ = some (.string ⟨#[240, 157, 132, 170]⟩) ∧ w'.cell? ⟨0, 6, none⟩ = some (.string ⟨#[240, 157, 132, 170, 226, 153, 175]⟩))
      (first | exact mkS _ hbn | (refine mkS _ ?_; (solve | go_grown)))
      (first | (go_at_call 35; refine (itoa_any o _ ?_ ?_ ?_).mono ?_; exact (hpw.step hb01).step (by go_grown); omega; omega; rintro e w2 ⟨rfl, hb2⟩; have hbn : Below w1.heap.size w1 w2 := Below.trans (by go_grown) (hb2.mono (by simp))))
    go_wp2_with fail
    go_returns
    exact ⟨congrArg (fun X => Ending.returned (.tuple #[.string X, .int .i64 0])) (pr_ret [66] [226, 153, 175] (by decide) (by decide) rfl), hb01.trans (hbn.mono (by omega))⟩
  · go_enter Tryd.func17, Tryd.ntmps17
    go_wp2_with fail
    refine (Right_any 6 2 o _).mono ?_
    rintro e w1 ⟨rfl, hb1⟩
    rw [hr]
    have hb01 : Below w.heap.size w w1 := Below.trans (by go_grown) (hb1.mono (by simp))
    have p0 : w1.cell? ⟨w.heap.size, 0, none⟩ = some (.int .i64 6) := keepC hb1 (by simp) (by simp [go_sem])
    have p1 : w1.cell? ⟨w.heap.size, 1, none⟩ = some (.int .i64 2) := keepC hb1 (by simp) (by simp [go_sem])
    have p2 : w1.cell? ⟨w.heap.size, 2, none⟩ = some (.int .i64 o) := keepC hb1 (by simp) (by simp [go_sem])
    have sz1 := hb1.size
    simp at sz1
    have hg := ht.step hb01
    have mkS : ∀ w', Below w1.heap.size w1 w' → (Below w1.heap.size w1 w' ∧ w'.cell? ⟨w.heap.size, 0, none⟩ = some (.int .i64 6) ∧ w'.cell? ⟨w.heap.size, 1, none⟩ = some (.int .i64 2) ∧ w'.cell? ⟨w.heap.size, 2, none⟩ = some (.int .i64 o) ∧ w'.cell? ⟨0, 0, none⟩ = some (.string ⟨#[240, 157, 132, 171, 226, 153, 173]⟩) ∧ w'.cell? ⟨0, 1, none⟩ = some (.string ⟨#[240, 157, 132, 171]⟩) ∧ w'.cell? ⟨0, 2, none⟩ = some (.string ⟨#[226, 153, 173]⟩) ∧ w'.cell? ⟨0, 3, none⟩ = some (.string ⟨#[]⟩) ∧ w'.cell? ⟨0, 4, none⟩ = some (.string ⟨#[226, 153, 175]⟩) ∧ w'.cell? ⟨0, 5, none⟩ = some (.string ⟨#[240, 157, 132, 170]⟩) ∧ w'.cell? ⟨0, 6, none⟩ = some (.string ⟨#[240, 157, 132, 170, 226, 153, 175]⟩)) := fun w' h =>
      ⟨h, keepC h (by omega) p0, keepC h (by omega) p1, keepC h (by omega) p2, keepC h hg.sz hg.c0, keepC h hg.sz hg.c1, keepC h hg.sz hg.c2, keepC h hg.sz hg.c3, keepC h hg.sz hg.c4, keepC h hg.sz hg.c5, keepC h hg.sz hg.c6⟩
    go_wp2_with fail
    go_region_held3 (fun w' => Below w1.heap.size w1 w' ∧ w'.cell? ⟨w.heap.size, 0, none⟩ = some (.int .i64 6) ∧ w'.cell? ⟨w.heap.size, 1, none⟩ = some (.int .i64 2) ∧ w'.cell? ⟨w.heap.size, 2, none⟩ = some (.int .i64 o) ∧ w'.cell? ⟨0, 0, none⟩ = some (.string ⟨#[240, 157, 132, 171, 226, 153, 173]⟩) ∧ w'.cell? ⟨0, 1, none⟩ = some (.string ⟨#[240, 157, 132, 171]⟩) ∧ w'.cell? ⟨0, 2, none⟩ = some (.string ⟨#[226, 153, 173]⟩) ∧ w'.cell? ⟨0, 3, none⟩ = some (.string ⟨#[]⟩) ∧ w'.cell? ⟨0, 4, none⟩ = some (.string ⟨#[226, 153, 175]⟩) ∧ w'.cell? ⟨0, 5, none⟩ = some (.string ⟨#[240, 157, 132, 170]⟩) ∧ w'.cell? ⟨0, 6, none⟩ = some (.string ⟨#[240, 157, 132, 170, 226, 153, 175]⟩))
      (first | exact mkS _ hbn | (refine mkS _ ?_; (solve | go_grown)))
      (first | (go_at_call 35; refine (itoa_any o _ ?_ ?_ ?_).mono ?_; exact (hpw.step hb01).step (by go_grown); omega; omega; rintro e w2 ⟨rfl, hb2⟩; have hbn : Below w1.heap.size w1 w2 := Below.trans (by go_grown) (hb2.mono (by simp))))
    go_wp2_with fail
    go_returns
    exact ⟨congrArg (fun X => Ending.returned (.tuple #[.string X, .int .i64 0])) (pr_ret [66] [240, 157, 132, 170] (by decide) (by decide) rfl), hb01.trans (hbn.mono (by omega))⟩
  · go_enter Tryd.func17, Tryd.ntmps17
    go_wp2_with fail
    refine (Right_any 6 3 o _).mono ?_
    rintro e w1 ⟨rfl, hb1⟩
    rw [hr]
    have hb01 : Below w.heap.size w w1 := Below.trans (by go_grown) (hb1.mono (by simp))
    have p0 : w1.cell? ⟨w.heap.size, 0, none⟩ = some (.int .i64 6) := keepC hb1 (by simp) (by simp [go_sem])
    have p1 : w1.cell? ⟨w.heap.size, 1, none⟩ = some (.int .i64 3) := keepC hb1 (by simp) (by simp [go_sem])
    have p2 : w1.cell? ⟨w.heap.size, 2, none⟩ = some (.int .i64 o) := keepC hb1 (by simp) (by simp [go_sem])
    have sz1 := hb1.size
    simp at sz1
    have hg := ht.step hb01
    have mkS : ∀ w', Below w1.heap.size w1 w' → (Below w1.heap.size w1 w' ∧ w'.cell? ⟨w.heap.size, 0, none⟩ = some (.int .i64 6) ∧ w'.cell? ⟨w.heap.size, 1, none⟩ = some (.int .i64 3) ∧ w'.cell? ⟨w.heap.size, 2, none⟩ = some (.int .i64 o) ∧ w'.cell? ⟨0, 0, none⟩ = some (.string ⟨#[240, 157, 132, 171, 226, 153, 173]⟩) ∧ w'.cell? ⟨0, 1, none⟩ = some (.string ⟨#[240, 157, 132, 171]⟩) ∧ w'.cell? ⟨0, 2, none⟩ = some (.string ⟨#[226, 153, 173]⟩) ∧ w'.cell? ⟨0, 3, none⟩ = some (.string ⟨#[]⟩) ∧ w'.cell? ⟨0, 4, none⟩ = some (.string ⟨#[226, 153, 175]⟩) ∧ w'.cell? ⟨0, 5, none⟩ = some (.string ⟨#[240, 157, 132, 170]⟩) ∧ w'.cell? ⟨0, 6, none⟩ = some (.string ⟨#[240, 157, 132, 170, 226, 153, 175]⟩)) := fun w' h =>
      ⟨h, keepC h (by omega) p0, keepC h (by omega) p1, keepC h (by omega) p2, keepC h hg.sz hg.c0, keepC h hg.sz hg.c1, keepC h hg.sz hg.c2, keepC h hg.sz hg.c3, keepC h hg.sz hg.c4, keepC h hg.sz hg.c5, keepC h hg.sz hg.c6⟩
    go_wp2_with fail
    go_region_held3 (fun w' => Below w1.heap.size w1 w' ∧ w'.cell? ⟨w.heap.size, 0, none⟩ = some (.int .i64 6) ∧ w'.cell? ⟨w.heap.size, 1, none⟩ = some (.int .i64 3) ∧ w'.cell? ⟨w.heap.size, 2, none⟩ = some (.int .i64 o) ∧ w'.cell? ⟨0, 0, none⟩ = some (.string ⟨#[240, 157, 132, 171, 226, 153, 173]⟩) ∧ w'.cell? ⟨0, 1, none⟩ = some (.string ⟨#[240, 157, 132, 171]⟩) ∧ w'.cell? ⟨0, 2, none⟩ = some (.string ⟨#[226, 153, 173]⟩) ∧ w'.cell? ⟨0, 3, none⟩ = some (.string ⟨#[]⟩) ∧ w'.cell? ⟨0, 4, none⟩ = some (.string ⟨#[226, 153, 175]⟩) ∧ w'.cell? ⟨0, 5, none⟩ = some (.string ⟨#[240, 157, 132, 170]⟩) ∧ w'.cell? ⟨0, 6, none⟩ = some (.string ⟨#[240, 157, 132, 170, 226, 153, 175]⟩))
      (first | exact mkS _ hbn | (refine mkS _ ?_; (solve | go_grown)))
      (first | (go_at_call 35; refine (itoa_any o _ ?_ ?_ ?_).mono ?_; exact (hpw.step hb01).step (by go_grown); omega; omega; rintro e w2 ⟨rfl, hb2⟩; have hbn : Below w1.heap.size w1 w2 := Below.trans (by go_grown) (hb2.mono (by simp))))
    go_wp2_with fail
    go_returns
    exact ⟨congrArg (fun X => Ending.returned (.tuple #[.string X, .int .i64 0])) (pr_ret [66] [240, 157, 132, 170, 226, 153, 175] (by decide) (by decide) rfl), hb01.trans (hbn.mono (by omega))⟩

theorem Print_yes (l a o : Int) (w : World) (ht : Sgs w) (hpw : Pows w) (hr : M.rt l a o = true) :
    Calls Tryd.prog 17 #[.agg #[.int .i64 l, .int .i64 a, .int .i64 o]] w fun e w' => e = .returned (.tuple #[.string (M.pr l a o), .int .i64 0]) ∧ Below w.heap.size w w' := by
  have h := M.rt_yes hr
  rcases (show l = 0 ∨ l = 1 ∨ l = 2 ∨ l = 3 ∨ l = 4 ∨ l = 5 ∨ l = 6 by omega) with rfl | rfl | rfl | rfl | rfl | rfl | rfl
  · exact Print_L0 a o w ht hpw (by omega) (by omega) (by omega) (by omega)
  · exact Print_L1 a o w ht hpw (by omega) (by omega) (by omega) (by omega)
  · exact Print_L2 a o w ht hpw (by omega) (by omega) (by omega) (by omega)
  · exact Print_L3 a o w ht hpw (by omega) (by omega) (by omega) (by omega)
  · exact Print_L4 a o w ht hpw (by omega) (by omega) (by omega) (by omega)
  · exact Print_L5 a o w ht hpw (by omega) (by omega) (by omega) (by omega)
  · exact Print_L6 a o w ht hpw (by omega) (by omega) (by omega) (by omega)
end Go.Proofs.YtmccbokjigjpnaaDoor
