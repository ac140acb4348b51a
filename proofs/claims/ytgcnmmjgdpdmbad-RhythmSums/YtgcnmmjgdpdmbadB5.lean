/- What the program's portion and the sums of told fractions come to. -/
import Derived.Test.YtgcnmmjgdpdmbadBMath2
import Derived.Test.YtgcnmmjgdpdmbadFW7
import Derived.Test.YtgcnmmjgdpdmbadFW5
namespace Go.Proofs.Ytgcnmmjgdpdmbad.F
open Go.RowKit
set_option linter.unusedVariables false
set_option linter.unusedSimpArgs false

/-- What a call answers of a fraction that is told or not. -/
def M.tU : Option M.Fr → Int | some f => f.1 | none => 0
def M.tD : Option M.Fr → Int | some f => f.2 | none => 0
def M.tE : Option M.Fr → Int | some _ => 0 | none => 4
theorem M.tell_o (u d : Int) : M.up u d = M.tU (M.tell u d) ∧ M.dn u d = M.tD (M.tell u d) ∧ M.er u d = M.tE (M.tell u d) := by
  unfold M.tell
  cases hb : M.bd (M.lu u d) (M.ld u d)
  · rw [M.up_no _ _ hb, M.dn_no _ _ hb, M.er_no _ _ hb]; exact ⟨rfl, rfl, rfl⟩
  · rw [M.up_yes _ _ hb, M.dn_yes _ _ hb, M.er_yes _ _ hb]; exact ⟨rfl, rfl, rfl⟩
/-- Written as it must be. -/
def M.Ok (f : M.Fr) : Prop := M.ok f.1 f.2 = true
theorem M.Ok.low {f : M.Fr} (h : M.Ok f) : M.Low f ∧ M.bd f.1 f.2 = true := by
  obtain ⟨h1, h2, h3, h4, h5⟩ := M.ok_yes _ _ h
  exact ⟨⟨h3, h5⟩, by unfold M.bd; simp; omega⟩
theorem M.tell_ok {u d : Int} {f : M.Fr} (h : M.tell u d = some f) (hd : 1 ≤ d) : M.Ok f := by
  obtain ⟨rfl, _, hb⟩ := M.tell_some h hd
  exact M.ok_of u d hd hb

theorem Plus_o (a b : M.Fr) (w : World) (ha : M.Ok a) (hb : M.Ok b) :
    Calls Try.prog 16 #[.agg #[.int .i64 a.1, .int .i64 a.2], .agg #[.int .i64 b.1, .int .i64 b.2]] w fun e w' => e = .returned (.tuple #[.agg #[.int .i64 (M.tU (M.pl a b)), .int .i64 (M.tD (M.pl a b))], .int .i64 (M.tE (M.pl a b))]) ∧ Below w.heap.size w w' := by
  obtain ⟨h1, h2, h3, h4, _⟩ := M.ok_yes _ _ ha
  obtain ⟨g1, g2, g3, g4, _⟩ := M.ok_yes _ _ hb
  obtain ⟨e1, e2, e3⟩ := M.tell_o (a.1 * b.2 + b.1 * a.2) (a.2 * b.2)
  unfold M.pl
  rw [← e1, ← e2, ← e3]
  exact Plus_yes a.1 a.2 b.1 b.2 w (by omega) (by omega) (by omega) (by omega) (by omega) (by omega) (by omega) (by omega) (by have x : M.ok a.1 a.2 = true := ha; have y : M.ok b.1 b.2 = true := hb; rw [x, y]; rfl)
theorem refPlus_o (a b : M.Fr) (w : World) (ha : M.Ok a) (hb : M.Ok b) :
    Calls Try.prog 7 #[.agg #[.int .i64 a.1, .int .i64 a.2], .agg #[.int .i64 b.1, .int .i64 b.2]] w fun e w' => e = .returned (.tuple #[.agg #[.int .i64 (M.tU (M.pl a b)), .int .i64 (M.tD (M.pl a b))], .int .i64 (M.tE (M.pl a b))]) ∧ Below w.heap.size w w' := by
  obtain ⟨h1, h2, h3, h4, _⟩ := M.ok_yes _ _ ha
  obtain ⟨g1, g2, g3, g4, _⟩ := M.ok_yes _ _ hb
  obtain ⟨e1, e2, e3⟩ := M.tell_o (a.1 * b.2 + b.1 * a.2) (a.2 * b.2)
  unfold M.pl
  rw [← e1, ← e2, ← e3]
  exact Plus_refyes a.1 a.2 b.1 b.2 w (by omega) (by omega) (by omega) (by omega) (by omega) (by omega) (by omega) (by omega) ha hb

/-- The ratio of shares is always told. -/
theorem M.ratio (s all : Int) (h1 : 1 ≤ s) (h2 : s ≤ all) (h3 : all ≤ 268435456) : M.mu s all = M.lu s all ∧ M.md s all = M.ld s all ∧ M.me s all = 0 ∧ M.Ok (M.lu s all, M.ld s all) ∧ ∀ f : M.Fr, 1 ≤ f.2 → M.tell (f.1 * M.lu s all) (f.2 * M.ld s all) = M.pr f s all := by
  have a1 := M.lu_abs s all
  have e1 := M.lu_mul s all
  have e2 := M.ld_mul s all
  have g1 := M.gi_pos s all (by omega)
  have p1 := M.ld_pos s all (by omega)
  have d1 : M.ld s all ≤ all := by
    have : 1 * M.ld s all ≤ M.gi s all * M.ld s all := Int.mul_le_mul_of_nonneg_right g1 (by omega)
    omega
  have hb : M.bd (M.lu s all) (M.ld s all) = true := by unfold M.bd; simp; omega
  refine ⟨?_, ?_, ?_, M.ok_of s all (by omega) hb, fun f hf => ?_⟩
  · rw [M.mu_yes _ _ (by omega), M.up_yes _ _ hb]
  · rw [M.md_yes _ _ (by omega), M.dn_yes _ _ hb]
  · rw [M.me_yes _ _ (by omega), M.er_yes _ _ hb]
  · unfold M.pr
    refine M.tell_congr (M.mul_pos' _ _ hf p1) (M.mul_pos' _ _ hf (by omega)) ?_
    generalize M.lu s all = x at *
    generalize M.ld s all = y at *
    generalize M.gi s all = g at *
    subst e1
    rw [← e2]
    grind

set_option maxHeartbeats 1000000 in
theorem portion_o (f : M.Fr) (s all : Int) (w : World) (hf : M.Ok f) (h1 : 1 ≤ s) (h2 : s ≤ all) (h3 : all ≤ 268435456) :
    Calls Try.prog 26 #[.agg #[.int .i64 f.1, .int .i64 f.2], .int .i64 s, .int .i64 all] w fun e w' => e = .returned (.tuple #[.agg #[.int .i64 (M.tU (M.pr f s all)), .int .i64 (M.tD (M.pr f s all))], .int .i64 (M.tE (M.pr f s all))]) ∧ Below w.heap.size w w' := by
  obtain ⟨r1, r2, r3, r4, r5⟩ := M.ratio s all h1 h2 h3
  obtain ⟨k1, k2, k3, k4, _⟩ := M.ok_yes _ _ hf
  obtain ⟨g1, g2, g3, g4, _⟩ := M.ok_yes _ _ r4
  have hM := fun w => Make_any s all w (by omega) (by omega) (by omega)
  rw [r1, r2, r3] at hM
  have hT := fun w => Times_yes f.1 f.2 (M.lu s all) (M.ld s all) w (by omega) (by omega) (by omega) (by omega) (by simp only at g1; omega) (by simp only at g2; omega) (by simp only at g3; omega) (by simp only at g4; omega) (by have x : M.ok f.1 f.2 = true := hf; have y : M.ok (M.lu s all) (M.ld s all) = true := r4; rw [x, y]; rfl)
  obtain ⟨e1, e2, e3⟩ := M.tell_o (f.1 * M.lu s all) (f.2 * M.ld s all)
  rw [e1, e2, e3, r5 f k3] at hT
  clear r1 r2 r3 r4 r5 e1 e2 e3 g1 g2 g3 g4
  generalize M.tU (M.pr f s all) = U at *
  generalize M.tD (M.pr f s all) = D at *
  generalize M.tE (M.pr f s all) = E at *
  generalize M.lu s all = x at *
  generalize M.ld s all = y at *
  generalize f.1 = fu at *
  generalize f.2 = fd at *
  go_enter Try.func26, Try.ntmps26
  go_wp2_with fail
  refine (hM _).mono ?_
  rintro e w1 ⟨rfl, hb1⟩
  have A0 : w1.cell? ⟨w.heap.size, 0, none⟩ = some (.int .i64 fu) := keepC hb1 (by simp; omega) (by simp [go_sem])
  have A1 : w1.cell? ⟨w.heap.size, 1, none⟩ = some (.int .i64 fd) := keepC hb1 (by simp; omega) (by simp [go_sem])
  have R0 : w1.cell? ⟨w.heap.size + 1, 0, none⟩ = some (.int .i64 0) := keepC hb1 (by simp) (by simp [go_sem])
  have R1 : w1.cell? ⟨w.heap.size + 1, 1, none⟩ = some (.int .i64 0) := keepC hb1 (by simp) (by simp [go_sem])
  have F0 : w1.frozen? ⟨w.heap.size + 1, 0, none⟩ = false := keepF hb1 (by simp) (by simp [go_sem])
  have F1 : w1.frozen? ⟨w.heap.size + 1, 1, none⟩ = false := keepF hb1 (by simp) (by simp [go_sem])
  have h01 : Below w.heap.size w w1 := Below.trans (by go_grown) (hb1.mono (by simp; omega))
  have z1 := hb1.size
  simp at z1
  have s1 : w.heap.size < w1.heap.size := by omega
  have s2 : w.heap.size + 1 < w1.heap.size := by omega
  clear hb1
  go_wp2_with fail
  refine (hT _).mono ?_
  rintro e w2 ⟨rfl, hb2⟩
  have h12 : Below w1.heap.size w1 w2 := Below.trans (by go_grown) (hb2.mono (by simp))
  replace R0 := keepC h12 s2 R0
  replace R1 := keepC h12 s2 R1
  replace F0 := keepF h12 s2 F0
  replace F1 := keepF h12 s2 F1
  have h02 := h01.trans (h12.mono h01.size)
  have z2 := h12.size
  have s3 : w.heap.size + 1 < w2.heap.size := by omega
  clear hb2 A0 A1
  go_wp2_with fail
  refine bodyPost_ret (v := .tuple #[.agg #[.int .i64 U, .int .i64 D], .int .i64 E]) (by simp [results, Try.results26, go_sem, R0, R1]) rfl ⟨rfl, ?_⟩
  exact (h02.setCell (by simp) _).setCell (by simp) _
end Go.Proofs.Ytgcnmmjgdpdmbad.F
