/- What the program's lineOf and Cost come to. -/
import Derived.Test.YtiffppnaaenalagV1
namespace Go.Proofs.Ytiffppnaaenalag.V
open Go.RowKit
set_option linter.unusedVariables false
set_option linter.unusedSimpArgs false

theorem set2 {w : World} {B : Nat} {u v x y : Value} (h0 : w.cell? ⟨B, 0, none⟩ = some u) (h1 : w.cell? ⟨B, 1, none⟩ = some v) :
    ((w.setCell ⟨B, 0, none⟩ x).setCell ⟨B, 1, none⟩ y).cell? ⟨B, 0, none⟩ = some x ∧ ((w.setCell ⟨B, 0, none⟩ x).setCell ⟨B, 1, none⟩ y).cell? ⟨B, 1, none⟩ = some y ∧
    (∀ b o, b ≠ B → ((w.setCell ⟨B, 0, none⟩ x).setCell ⟨B, 1, none⟩ y).cell? ⟨b, o, none⟩ = w.cell? ⟨b, o, none⟩) ∧ (∀ a, ((w.setCell ⟨B, 0, none⟩ x).setCell ⟨B, 1, none⟩ y).frozen? a = w.frozen? a) ∧
    ((w.setCell ⟨B, 0, none⟩ x).setCell ⟨B, 1, none⟩ y).heap.size = w.heap.size := by
  have e0 : (w.setCell ⟨B, 0, none⟩ x).cell? ⟨B, 0, none⟩ = some x := World.cell?_setCell_same _ _ _ h0
  have e1 : (w.setCell ⟨B, 0, none⟩ x).cell? ⟨B, 1, none⟩ = some v := (World.cell?_setCell_other _ _ _ _ (by simp)).trans h1
  refine ⟨(World.cell?_setCell_other _ _ _ _ (by simp)).trans e0, World.cell?_setCell_same _ _ _ e1, fun b o hb => ?_, fun a => by simp, by simp⟩
  exact (World.cell?_setCell_other _ _ _ _ (by intro h; cases h; exact hb rfl)).trans (World.cell?_setCell_other _ _ _ _ (by intro h; cases h; exact hb rfl))

set_option maxHeartbeats 4000000 in
theorem lineOf_any (b : M.Bx) (ao : Option Addr) (n c : Nat) (w : World) (hp : BL w ao n b) (hc : n ≤ c) (hcm : c ≤ 9223372036854775807) (hr : M.rt b n) (hn : n ≤ 1024) :
    Calls Try.prog 17 #[.slice ao n c] w fun e w' => e = .returned (.agg #[.int .i64 (M.sm b.W 0 n), .int .i64 (M.sm b.G 0 n)]) ∧ Below w.heap.size w w' := by
  go_enter Try.func17, Try.ntmps17
  go_wp2_with fail
  go_loopw [8] (fun i wr => ∃ k : Nat, k ≤ n ∧ i = .int .i64 k ∧ Below w.heap.size w wr ∧ w.heap.size + 1 < wr.heap.size ∧ wr.cell? ⟨w.heap.size, 0, none⟩ = some (.int .i64 0) ∧ wr.cell? ⟨w.heap.size, 1, none⟩ = some (.int .i64 0) ∧ wr.frozen? ⟨w.heap.size, 0, none⟩ = false ∧ wr.frozen? ⟨w.heap.size, 1, none⟩ = false ∧ wr.cell? ⟨w.heap.size + 1, 0, none⟩ = some (.int .i64 (M.sm b.W 0 k)) ∧ wr.cell? ⟨w.heap.size + 1, 1, none⟩ = some (.int .i64 (M.sm b.G 0 k)) ∧ wr.frozen? ⟨w.heap.size + 1, 0, none⟩ = false ∧ wr.frozen? ⟨w.heap.size + 1, 1, none⟩ = false) (fun i _ => n - (intOf i).toNat)
  case atStart => exact ⟨0, by omega, rfl, by go_grown, by simp, by simp [go_sem], by simp [go_sem], by simp [go_sem], by simp [go_sem], by simp [go_sem, M.sm], by simp [go_sem, M.sm], by simp [go_sem], by simp [go_sem]⟩
  case round =>
    obtain ⟨k, hkn, rfl, hbr, sz, a0, a1, af0, af1, y0, y1, f0, f1⟩ := hrel
    by_cases hlt : k < n
    · obtain ⟨q, off, rfl, hbl, q0, q1⟩ := (hp.step hbr).at' (by omega)
      have r0 := q0 k hlt
      have r1 := q1 k hlt
      have w3 : IntKind.i64.wrap ((k : Int) + 1) = (k : Int) + 1 := wid (by omega) (by omega)
      have hB := hr k hlt
      have hS := M.sm_bd (f := b.W) (n := n) (lo := 0) (hi := 10000) (fun j hj => by have := hr j hj; omega) 0 k (by omega)
      have hG := M.sm_bd (f := b.G) (n := n) (lo := 0) (hi := 10000) (fun j hj => by have := hr j hj; omega) 0 k (by omega)
      have HE1 : Hid (M.sm b.W 0 (k + 1) = M.sm b.W 0 k + b.W k) := by show M.sm b.W 0 (k + 1) = _; simp [M.sm]
      have HE2 : Hid (M.sm b.G 0 (k + 1) = M.sm b.G 0 k + b.G k) := by show M.sm b.G 0 (k + 1) = _; simp [M.sm]
      clear q0 q1
      generalize M.sm b.W 0 k = S at *
      generalize M.sm b.G 0 k = T at *
      generalize b.W k = X at *
      generalize b.G k = Y at *
      have HW := fun w => with_any S T X Y w (by omega) (by omega) (by omega) (by omega)
      go_wp2_with fail
      refine (HW _).mono ?_
      rintro e w1 ⟨rfl, hb1⟩
      have kb : Below wr.heap.size wr w1 := Below.trans (by go_grown) (hb1.mono (by simp))
      have z1 : w.heap.size + 1 < w1.heap.size := by have := kb.size; omega
      have zz : w.heap.size < wr.heap.size := by omega
      have v0 := keepC kb sz y0
      have v1 := keepC kb sz y1
      have g0 := keepF kb sz f0
      have g1 := keepF kb sz f1
      have u0 := keepC kb zz a0
      have u1 := keepC kb zz a1
      have uf0 := keepF kb zz af0
      have uf1 := keepF kb zz af1
      have kbw : Below w.heap.size w w1 := hbr.trans (kb.mono hbr.size)
      clear hb1 y0 y1 f0 f1 a0 a1 af0 af1 HW
      obtain ⟨o0, o1, o2, o3, o4⟩ := set2 (x := .int .i64 (S + X)) (y := .int .i64 (T + Y)) v0 v1
      go_wp2_with fail
      go_roundw
      case rel => exact ⟨k + 1, by omega, by go_num, (kbw.setCell (by simp) _).setCell (by simp) _, by rw [o4]; exact z1, (o2 _ _ (by omega)).trans u0, (o2 _ _ (by omega)).trans u1, (o3 _).trans uf0, (o3 _).trans uf1, by rw [HE1.out]; exact o0, by rw [HE2.out]; exact o1, (o3 _).trans g0, (o3 _).trans g1⟩
      case measure => simp [intOf]; omega
    · obtain rfl : k = n := by omega
      have zz : w.heap.size < wr.heap.size := by omega
      obtain ⟨o0, o1, o2, o3, o4⟩ := set2 (x := .int .i64 (M.sm b.W 0 k)) (y := .int .i64 (M.sm b.G 0 k)) a0 a1
      go_wp2_with fail
      refine bodyPost_ret (v := .agg #[.int .i64 (M.sm b.W 0 k), .int .i64 (M.sm b.G 0 k)]) (by simp [results, Try.results17, go_sem, o0, o1]) rfl ⟨rfl, (hbr.setCell (by simp) _).setCell (by simp) _⟩
end Go.Proofs.Ytiffppnaaenalag.V
