/- What the program's Scale comes to. -/
import Derived.Test.YtgcnmmjgdpdmbacDoorS1
import Derived.LoopTactic
namespace Go.Proofs.YtgcnmmjgdpdmbacDoor
open Go.RowKit
set_option linter.unusedSimpArgs false

theorem Scale_no (l a m : Int) (w : World) (ht : Fifs w) (hk : M.zk l a m = false) :
    Calls Tryd.prog 22 #[.agg #[.int .i64 l, .int .i64 a], .int .i64 m] w fun e w' => e = .returned (.tuple #[.slice none 0 0, .int .i64 (M.ze l a m)]) ∧ Below w.heap.size w w' := by
  have hz := M.ze_ne hk
  have hS := Signs_any l a m
  generalize M.ze l a m = E at *
  go_enter Tryd.func22, Tryd.ntmps22
  go_wp2_with fail
  refine (hS _ (ht.step (by go_grown))).mono ?_
  rintro e w1 ⟨rfl, hb1⟩
  go_wp2_with fail
  go_returns
  exact ⟨rfl, Below.trans (by go_grown) (hb1.mono (by simp))⟩

/-- A row of classes, the steps of a key, filled so far. -/
structure Row7 (w : World) (b : Nat) (s l : Int) (k : Nat) : Prop where
  lt : b < w.heap.size
  don : ∀ j : Nat, j < k → w.cell? ⟨b, j * 2, none⟩ = some (.int .i64 ((l + j) % 7)) ∧ w.cell? ⟨b, j * 2 + 1, none⟩ = some (.int .i64 (M.al s ((l + j) % 7)))
  has : ∀ j : Nat, j < 7 → (∃ v, w.cell? ⟨b, j * 2, none⟩ = some v) ∧ ∃ v, w.cell? ⟨b, j * 2 + 1, none⟩ = some v
  fro : ∀ j : Nat, j < 7 → w.frozen? ⟨b, j * 2, none⟩ = false ∧ w.frozen? ⟨b, j * 2 + 1, none⟩ = false
theorem Row7.step {w w' : World} {B b : Nat} {s l : Int} {k : Nat} (h : Row7 w b s l k) (hb : Below B w w') (hB : b < B) (hs : B ≤ w.heap.size) : Row7 w' b s l k := by
  have hz := hb.size
  refine ⟨by omega, fun j hj => ⟨keepC hb hB (h.don j hj).1, keepC hb hB (h.don j hj).2⟩, fun j hj => ?_, fun j hj => ⟨keepF hb hB (h.fro j hj).1, keepF hb hB (h.fro j hj).2⟩⟩
  obtain ⟨⟨v, hv⟩, ⟨u, hu⟩⟩ := h.has j hj
  exact ⟨⟨v, keepC hb hB hv⟩, ⟨u, keepC hb hB hu⟩⟩

theorem Row7.put {w : World} {b : Nat} {s l : Int} {k : Nat} {y : Int} (h : Row7 w b s l k) (hk : k < 7) (hy : (l + k) % 7 = y) :
    Row7 ((w.setCell ⟨b, k * 2, none⟩ (.int .i64 y)).setCell ⟨b, k * 2 + 1, none⟩ (.int .i64 (M.al s y))) b s l (k + 1) := by
  subst hy
  obtain ⟨⟨v0, h0⟩, ⟨v1, h1⟩⟩ := h.has k hk
  have c0 : ∀ o : Nat, o ≠ k * 2 → o ≠ k * 2 + 1 → ((w.setCell ⟨b, k * 2, none⟩ (.int .i64 ((l + k) % 7))).setCell ⟨b, k * 2 + 1, none⟩ (.int .i64 (M.al s ((l + k) % 7)))).cell? ⟨b, o, none⟩ = w.cell? ⟨b, o, none⟩ := by
    intro o o1 o2
    rw [World.cell?_setCell_other _ _ _ _ (by simp <;> omega), World.cell?_setCell_other _ _ _ _ (by simp <;> omega)]
  have c1 : ((w.setCell ⟨b, k * 2, none⟩ (.int .i64 ((l + k) % 7))).setCell ⟨b, k * 2 + 1, none⟩ (.int .i64 (M.al s ((l + k) % 7)))).cell? ⟨b, k * 2, none⟩ = some (.int .i64 ((l + k) % 7)) := by
    rw [World.cell?_setCell_other _ _ _ _ (by simp)]; simp [go_sem, h0]
  have c2 : ((w.setCell ⟨b, k * 2, none⟩ (.int .i64 ((l + k) % 7))).setCell ⟨b, k * 2 + 1, none⟩ (.int .i64 (M.al s ((l + k) % 7)))).cell? ⟨b, k * 2 + 1, none⟩ = some (.int .i64 (M.al s ((l + k) % 7))) := by
    have : (w.setCell ⟨b, k * 2, none⟩ (.int .i64 ((l + k) % 7))).cell? ⟨b, k * 2 + 1, none⟩ = some v1 := by rw [World.cell?_setCell_other _ _ _ _ (by simp)]; exact h1
    simp [go_sem, this]
  refine ⟨by simpa using h.lt, fun j hj => ?_, fun j hj => ?_, fun j hj => by simpa [go_sem] using h.fro j hj⟩
  · by_cases e : j = k
    · subst e; exact ⟨c1, c2⟩
    · rw [c0 _ (by omega) (by omega), c0 _ (by omega) (by omega)]; exact h.don j (by omega)
  · by_cases e : j = k
    · subst e; exact ⟨⟨_, c1⟩, ⟨_, c2⟩⟩
    · rw [c0 _ (by omega) (by omega), c0 _ (by omega) (by omega)]; exact h.has j hj

set_option maxHeartbeats 1000000 in
theorem Scale_yes (x : Nat) (a m : Int) (w : World) (ht : Fifs w) (hk : M.zk x a m = true) (hx : x < 7) :
    Calls Tryd.prog 22 #[.agg #[.int .i64 x, .int .i64 a], .int .i64 m] w fun e w' => ∃ b, w.heap.size ≤ b ∧ e = .returned (.tuple #[.slice (some ⟨b, 0, none⟩) 7 7, .int .i64 0]) ∧ Below w.heap.size w w' ∧ Row7 w' b (M.zr x a m) x 7 := by
  have hmk : ∀ w : World, (Instr.makeSlice 58 (.int .i64 7) (.int .i64 7)).run Tryd.prog w = .ok (.slice (some ⟨w.heap.size, 0, none⟩) 7 7) (w.alloc (.cells #[.int .i64 0, .int .i64 0, .int .i64 0, .int .i64 0, .int .i64 0, .int .i64 0, .int .i64 0, .int .i64 0, .int .i64 0, .int .i64 0, .int .i64 0, .int .i64 0, .int .i64 0, .int .i64 0] 30)) := fun _ => by kernel_rfl
  have hz := M.zr_bd hk
  have hS := Signs_any x a m
  rw [M.zs_yes hk, M.ze_yes hk] at hS
  generalize M.zr x a m = S at *
  go_enter Tryd.func22, Tryd.ntmps22
  go_wp2_with fail
  refine (hS _ (ht.step (by go_grown))).mono ?_
  rintro e w1 ⟨rfl, hb1⟩
  have hs1 := hb1.size
  simp at hs1
  have hb01 : Below w.heap.size w w1 := Below.trans (by go_grown) (hb1.mono (by simp))
  have p0 : w1.cell? ⟨w.heap.size, 0, none⟩ = some (.int .i64 x) := keepC hb1 (by simp) (by simp [go_sem])
  have f1 := ht.step hb01
  go_wp2_with fail
  go_loopw [22] (fun i wr => ∃ k : Nat, k ≤ 7 ∧ i = .int .i64 k ∧ Below w1.heap.size w1 wr ∧ Row7 wr w1.heap.size S x k)
    (fun i _ => 7 - (intOf i).toNat)
  case atStart =>
    refine ⟨0, by omega, rfl, (Below.refl _ _).alloc (Nat.le_refl _) _, by simp, fun j hj => absurd hj (by omega), fun j hj => ?_, fun j hj => ?_⟩
    all_goals
      rcases (show j = 0 ∨ j = 1 ∨ j = 2 ∨ j = 3 ∨ j = 4 ∨ j = 5 ∨ j = 6 by omega) with rfl | rfl | rfl | rfl | rfl | rfl | rfl <;> simp [go_sem]
  case round =>
    obtain ⟨k, hk7, rfl, hbr, hrow⟩ := hrel
    have f2 := f1.step hbr
    have q0 := keepC hbr (show w.heap.size < w1.heap.size by omega) p0
    have hl := hrow.lt
    have hhas := hrow.has k
    have hfro := hrow.fro k
    by_cases hlt : k < 7
    · obtain ⟨⟨v0, hv0⟩, ⟨v1, hv1⟩⟩ := hrow.has k hlt
      obtain ⟨g0, g1⟩ := hrow.fro k hlt
      clear hhas hfro
      obtain ⟨y, hy, hy2, hy3⟩ : ∃ y : Nat, ((x : Int) + k).tmod 7 = y ∧ ((x : Int) + k) % 7 = y ∧ y < 7 := ⟨(x + k) % 7, by rw [Int.tmod_eq_emod_of_nonneg (by omega)]; omega, by omega, by omega⟩
      have Hy : Hid (((x : Int) + k) % 7 = y) := hy2
      clear hy2
      go_wp2_with fail
      refine (stepOf_any S y _ f2 (by omega) (by omega) (by omega)).mono ?_
      rintro e w2 ⟨rfl, hb2⟩
      have hs2 := hb2.size
      have u0 := keepC hb2 hl hv0
      have u1 := keepC hb2 hl hv1
      have e0 := keepF hb2 hl g0
      have e1 := keepF hb2 hl g1
      have hrow2 := hrow.step hb2 hl (Nat.le_refl _)
      have hrow3 := hrow2.put hlt Hy.out
      go_wp2_with fail
      go_roundw
      case rel => exact ⟨k + 1, by omega, by go_num, ((hbr.trans (hb2.mono hbr.size)).setCell (p := ⟨w1.heap.size, k * 2, none⟩) (Nat.le_refl _) _).setCell (p := ⟨w1.heap.size, k * 2 + 1, none⟩) (Nat.le_refl _) _, hrow3⟩
      case measure => simp [intOf]; omega
    · have : k = 7 := by omega
      subst this
      go_wp2_with fail
      go_returns
      exact ⟨w1.heap.size, by omega, rfl, hb01.trans (hbr.mono (by omega)), hrow⟩

end Go.Proofs.YtgcnmmjgdpdmbacDoor
