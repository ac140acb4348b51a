/- What the program's Read comes to, by what its piece comes to. -/
import Derived.Test.YtaohahahhjkcdaeGreatDoorSG28
import Derived.Test.YtaohahahhjkcdaeGreatDoorSG30
namespace Go.Proofs.YtaohahahhjkcdaeGreatDoor.J
open Go.RowKit
set_option linter.unusedVariables false
set_option linter.unusedSimpArgs false

/-- What a reader's function keeps: all blocks but its own. -/
structure RK (w : World) (p : Nat) (w' : World) : Prop where
  bel : Below p w w'
  blk : ∀ b, b < w.heap.size → b ≠ p → w'.heap[b]? = w.heap[b]?
theorem RK.trans {w w1 w2 : World} {p : Nat} (h : RK w p w1) (h2 : RK w1 p w2) : RK w p w2 :=
  ⟨h.bel.trans h2.bel, fun b b1 b2 => (h2.blk b (Nat.lt_of_lt_of_le b1 h.bel.size) b2).trans (h.blk b b1 b2)⟩
theorem TK.rk {w w' : World} {p : Nat} (h : TK w p w') : RK w p w' := ⟨h.bel, h.blk⟩

theorem thrown_cells {w1 : World} {x y : Nat} {x0 x1 x2 v e a : Value} (o : Obj) (n : Nat) (c0 : w1.cell? ⟨x, 0, none⟩ = some x0) (c1 : w1.cell? ⟨y, 0, none⟩ = some x1) (c2 : w1.cell? ⟨y, 1, none⟩ = some x2) (hx : x < w1.heap.size) (hy : y < w1.heap.size) (hne : x ≠ y) :
    (((((w1.setCell ⟨x, 0, none⟩ v).setCell ⟨y, 0, none⟩ e).setCell ⟨y, 1, none⟩ a).alloc o).drewN n).cell? ⟨x, 0, none⟩ = some v ∧
    (((((w1.setCell ⟨x, 0, none⟩ v).setCell ⟨y, 0, none⟩ e).setCell ⟨y, 1, none⟩ a).alloc o).drewN n).cell? ⟨y, 0, none⟩ = some e ∧
    (((((w1.setCell ⟨x, 0, none⟩ v).setCell ⟨y, 0, none⟩ e).setCell ⟨y, 1, none⟩ a).alloc o).drewN n).cell? ⟨y, 1, none⟩ = some a := by
  have al : ∀ (w : World) (b i : Nat), b < w.heap.size → ((w.alloc o).drewN n).cell? ⟨b, i, none⟩ = w.cell? ⟨b, i, none⟩ := fun w b i h => ((Below.refl w.heap.size w).alloc (Nat.le_refl _) o).cell (p := ⟨b, i, none⟩) h
  refine ⟨?_, ?_, ?_⟩
  · rw [al _ _ _ (by simpa using hx), World.cell?_setCell_other _ _ _ _ (by intro h; cases h), World.cell?_setCell_other _ _ _ _ (by intro h; cases h; exact hne rfl)]
    exact World.cell?_setCell_same _ _ _ c0
  · rw [al _ _ _ (by simpa using hy), World.cell?_setCell_other _ _ _ _ (by intro h; cases h)]
    exact World.cell?_setCell_same _ _ _ ((World.cell?_setCell_other _ _ _ _ (by intro h; cases h; exact hne rfl)).trans c1)
  · rw [al _ _ _ (by simpa using hy)]
    exact World.cell?_setCell_same _ _ _ ((World.cell?_setCell_other _ _ _ _ (by intro h; cases h)).trans ((World.cell?_setCell_other _ _ _ _ (by intro h; cases h)).trans c2))

theorem done_cells {w1 : World} {x y : Nat} {x0 x1 x2 v e a : Value} (c0 : w1.cell? ⟨x, 0, none⟩ = some x0) (c1 : w1.cell? ⟨y, 0, none⟩ = some x1) (c2 : w1.cell? ⟨y, 1, none⟩ = some x2) (hne : x ≠ y) :
    (((w1.setCell ⟨x, 0, none⟩ v).setCell ⟨y, 0, none⟩ e).setCell ⟨y, 1, none⟩ a).cell? ⟨x, 0, none⟩ = some v ∧
    (((w1.setCell ⟨x, 0, none⟩ v).setCell ⟨y, 0, none⟩ e).setCell ⟨y, 1, none⟩ a).cell? ⟨y, 0, none⟩ = some e ∧
    (((w1.setCell ⟨x, 0, none⟩ v).setCell ⟨y, 0, none⟩ e).setCell ⟨y, 1, none⟩ a).cell? ⟨y, 1, none⟩ = some a := by
  refine ⟨?_, ?_, ?_⟩
  · rw [World.cell?_setCell_other _ _ _ _ (by intro h; cases h), World.cell?_setCell_other _ _ _ _ (by intro h; cases h; exact hne rfl)]
    exact World.cell?_setCell_same _ _ _ c0
  · rw [World.cell?_setCell_other _ _ _ _ (by intro h; cases h)]
    exact World.cell?_setCell_same _ _ _ ((World.cell?_setCell_other _ _ _ _ (by intro h; cases h; exact hne rfl)).trans c1)
  · exact World.cell?_setCell_same _ _ _ ((World.cell?_setCell_other _ _ _ _ (by intro h; cases h)).trans ((World.cell?_setCell_other _ _ _ _ (by intro h; cases h)).trans c2))

set_option maxRecDepth 100000 in
set_option maxHeartbeats 2000000 in
theorem Read_long (s : ByteArray) (w : World) (hs : 65536 < s.size) :
    Calls Tryz.prog 10 #[.string s] w fun e w' => e = .returned (.tuple #[.slice none 0 0, .agg #[.int .i64 4, .int .i64 0]]) ∧ Below w.heap.size w w' := by
  have h1 : (65536 : Int) < s.size := by omega
  go_enter_defers Tryz.func10, Tryz.ntmps10
  go_wp2_with fail
  simp [bodyPostD, Leaves, settle, results, Tryz.results10, go_sem]
  exact ((Below.refl _ _).alloc (Nat.le_refl _) _).alloc (by simp) _

set_option maxRecDepth 100000 in
set_option maxHeartbeats 2000000 in
theorem Read_thrown (s : ByteArray) (e a : Int) (w : World) (hs : s.size ≤ 65536)
    (H : ∀ W p, Rt W p s 0 → W.cell? ⟨p, 2, none⟩ = some (.int .i64 0) → W.frozen? ⟨p, 2, none⟩ = false → Calls Tryz.prog 18 #[.pointer (some ⟨p, 0, none⟩)] W fun x w' => x = thr e a ∧ RK W p w') :
    Calls Tryz.prog 10 #[.string s] w fun x w' => x = .returned (.tuple #[.slice none 0 0, .agg #[.int .i64 e, .int .i64 a]]) ∧ Below w.heap.size w w' := by
  have hmf : ∀ (fn : Fn) (first cap : Array Value) (w : World), (Instr.makeFunc fn first cap).run Tryz.prog w = .ok (.func fn first cap) w := fun _ _ _ _ => rfl
  have h1 : ¬ (65536 : Int) < s.size := by omega
  go_enter_defers Tryz.func10, Tryz.ntmps10
  go_wp2_with fail
  refine (H _ (w.heap.size + 2) ⟨by simp, by simp [go_sem], by simp [go_sem], by simp [go_sem]⟩ (by simp [go_sem]) (by simp [go_sem])).mono ?_
  rintro x w1 ⟨rfl, hk⟩
  have b0 := hk.blk w.heap.size (by simp <;> omega) (by omega)
  have b1 := hk.blk (w.heap.size + 1) (by simp <;> omega) (by omega)
  have c0 : w1.cell? ⟨w.heap.size, 0, none⟩ = some (.slice none 0 0) := (G.cell_of b0).trans (by simp [go_sem])
  have c1 : w1.cell? ⟨w.heap.size + 1, 0, none⟩ = some (.int .i64 0) := (G.cell_of b1).trans (by simp [go_sem])
  have c2 : w1.cell? ⟨w.heap.size + 1, 1, none⟩ = some (.int .i64 0) := (G.cell_of b1).trans (by simp [go_sem])
  have f0 : w1.frozen? ⟨w.heap.size, 0, none⟩ = false := (G.frozen_of b0).trans (by simp [go_sem])
  have f1 : w1.frozen? ⟨w.heap.size + 1, 0, none⟩ = false := (G.frozen_of b1).trans (by simp [go_sem])
  have f2 : w1.frozen? ⟨w.heap.size + 1, 1, none⟩ = false := (G.frozen_of b1).trans (by simp [go_sem])
  have hz : w.heap.size + 3 ≤ w1.heap.size := Nat.le_trans (by simp <;> omega) hk.bel.size
  have hB : Below w.heap.size w w1 := Below.trans (((((Below.refl w.heap.size w).alloc (Nat.le_refl _) _).alloc (by simp) _).alloc (by simp <;> omega) _)) (hk.bel.mono (by omega))
  have HF := catch_fault w.heap.size (w.heap.size + 1) e a _ _ _ w1 c0 c1 c2 f0 f1 f2 (by omega) (by omega) (by omega)
  unfold thr
  dsimp only
  refine leaves_cons (f := 17) (args := #[.pointer (some ⟨w.heap.size, 0, none⟩), .pointer (some ⟨w.heap.size + 1, 0, none⟩)]) (by simp) (by simp [go_sem]) ?_
  refine HF.mono ?_
  rintro z u' w2 ⟨rfl, rfl, n, rfl⟩
  have R := thrown_cells (.cells #[.int .i64 e, .int .i64 a] 47) n (e := .int .i64 e) (a := .int .i64 a) (v := .slice none 0 0) c0 c1 c2 (by omega) (by omega) (by omega)
  simp [Leaves, settle, results, Tryz.results10, go_sem, R.1, R.2.1, R.2.2]
  exact (((((hB.setCell (p := ⟨w.heap.size, 0, none⟩) (Nat.le_refl _) _).setCell (p := ⟨w.heap.size + 1, 0, none⟩) (by show w.heap.size ≤ w.heap.size + 1; omega) _).setCell (p := ⟨w.heap.size + 1, 1, none⟩) (by show w.heap.size ≤ w.heap.size + 1; omega) _).alloc (by simp; omega) _)).trans ⟨rfl, rfl, rfl, Nat.le_refl _, fun _ _ => rfl⟩

set_option maxRecDepth 100000 in
set_option maxHeartbeats 2000000 in
theorem Read_done (s : ByteArray) (Q : World → Nat → Option Addr → Nat → Nat → World → Prop) (w : World) (hs : s.size ≤ 65536)
    (H : ∀ W p, Rt W p s 0 → W.cell? ⟨p, 2, none⟩ = some (.int .i64 0) → W.frozen? ⟨p, 2, none⟩ = false → Calls Tryz.prog 18 #[.pointer (some ⟨p, 0, none⟩)] W fun x w' => ∃ ao n c, x = .returned (.slice ao n c) ∧ RK W p w' ∧ Q W p ao n c w') :
    Calls Tryz.prog 10 #[.string s] w fun x w' => ∃ ao n c W w1, x = .returned (.tuple #[.slice ao n c, .agg #[.int .i64 0, .int .i64 0]]) ∧ Below w.heap.size w w' ∧ Q W (w.heap.size + 2) ao n c w1 ∧ W.heap.size = w.heap.size + 3 ∧ w1.heap.size ≤ w'.heap.size ∧ ∀ b, w.heap.size + 2 ≤ b → w'.heap[b]? = w1.heap[b]? := by
  have hmf : ∀ (fn : Fn) (first cap : Array Value) (w : World), (Instr.makeFunc fn first cap).run Tryz.prog w = .ok (.func fn first cap) w := fun _ _ _ _ => rfl
  have h1 : ¬ (65536 : Int) < s.size := by omega
  go_enter_defers Tryz.func10, Tryz.ntmps10
  go_wp2_with fail
  refine (H _ (w.heap.size + 2) ⟨by simp, by simp [go_sem], by simp [go_sem], by simp [go_sem]⟩ (by simp [go_sem]) (by simp [go_sem])).mono ?_
  rintro x w1 ⟨ao, n, c, rfl, hk, hq⟩
  have b0 := hk.blk w.heap.size (by simp <;> omega) (by omega)
  have b1 := hk.blk (w.heap.size + 1) (by simp <;> omega) (by omega)
  have c0 : w1.cell? ⟨w.heap.size, 0, none⟩ = some (.slice none 0 0) := (G.cell_of b0).trans (by simp [go_sem])
  have c1 : w1.cell? ⟨w.heap.size + 1, 0, none⟩ = some (.int .i64 0) := (G.cell_of b1).trans (by simp [go_sem])
  have c2 : w1.cell? ⟨w.heap.size + 1, 1, none⟩ = some (.int .i64 0) := (G.cell_of b1).trans (by simp [go_sem])
  have f0 : w1.frozen? ⟨w.heap.size, 0, none⟩ = false := (G.frozen_of b0).trans (by simp [go_sem])
  have f1 : w1.frozen? ⟨w.heap.size + 1, 0, none⟩ = false := (G.frozen_of b1).trans (by simp [go_sem])
  have f2 : w1.frozen? ⟨w.heap.size + 1, 1, none⟩ = false := (G.frozen_of b1).trans (by simp [go_sem])
  have hz : w.heap.size + 3 ≤ w1.heap.size := Nat.le_trans (by simp <;> omega) hk.bel.size
  have hB : Below w.heap.size w w1 := Below.trans (((((Below.refl w.heap.size w).alloc (Nat.le_refl _) _).alloc (by simp) _).alloc (by simp <;> omega) _)) (hk.bel.mono (by omega))
  have HQ : Hid (Q _ (w.heap.size + 2) ao n c w1) := hq
  have z1 : w.heap.size < w1.heap.size := by omega
  have z2 : w.heap.size + 1 < w1.heap.size := by omega
  have ne1 : w.heap.size ≠ w.heap.size + 1 := by omega
  clear hq hk b0 b1
  go_wp2_with fail
  refine leaves_cons (f := 17) (args := #[.pointer (some ⟨w.heap.size, 0, none⟩), .pointer (some ⟨w.heap.size + 1, 0, none⟩)]) (by simp) (by simp [go_sem]) ?_
  refine (catch_idle _ _ _).mono ?_
  rintro z u' w2 ⟨rfl, rfl, rfl⟩
  have R := done_cells (e := .int .i64 0) (a := .int .i64 0) (v := .slice ao n c) c0 c1 c2 ne1
  simp [Leaves, settle, results, Tryz.results10, go_sem, R.1, R.2.1, R.2.2]
  refine ⟨ao, n, c, ⟨rfl, rfl, rfl⟩, ((hB.setCell (p := ⟨w.heap.size, 0, none⟩) (Nat.le_refl _) _).setCell (p := ⟨w.heap.size + 1, 0, none⟩) (by show w.heap.size ≤ w.heap.size + 1; omega) _).setCell (p := ⟨w.heap.size + 1, 1, none⟩) (by show w.heap.size ≤ w.heap.size + 1; omega) _, _, w1, HQ.out, by simp, Nat.le_refl _, fun b hb => ?_⟩
  rw [heap_setCell_other _ _ _ _ (by show b ≠ w.heap.size + 1; omega), heap_setCell_other _ _ _ _ (by show b ≠ w.heap.size + 1; omega), heap_setCell_other _ _ _ _ (by show b ≠ w.heap.size; omega)]
end Go.Proofs.YtaohahahhjkcdaeGreatDoor.J
