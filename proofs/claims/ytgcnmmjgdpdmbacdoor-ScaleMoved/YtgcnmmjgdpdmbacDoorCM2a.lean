/- What ScaleMoved's walk asks: a row of numbers, a chord's pitches in other octaves, the forms of answers. -/
import Derived.Test.YtgcnmmjgdpdmbacDoorCM1
import Derived.Test.YtgcnmmjgdpdmbacDoorCMath6
import Derived.Test.YtgcnmmjgdpdmbacDoorCN
import Derived.Test.YtgcnmmjgdpdmbacDoorS4
import Derived.Test.YtgcnmmjgdpdmbacDoorQMath2
import Derived.Deep.RegionWith
import Derived.Deep.DeepCutAuto
import Derived.Deep.CutBlock
namespace Go.Proofs.YtgcnmmjgdpdmbacDoor
open Go.RowKit
attribute [local go_sem ↓] Go.wp_at_zero Go.wp_at_succ
set_option linter.unusedSimpArgs false
set_option linter.unusedVariables false

/-- A row of whole numbers as it is read. -/
structure IL (w : World) (ao : Option Addr) (n : Nat) (U : Nat → Int) : Prop where
  at' : 0 < n → ∃ b off, ao = some ⟨b, off, none⟩ ∧ b < w.heap.size ∧ (∀ j, j < n → w.cell? ⟨b, off + j, none⟩ = some (.int .i64 (U j)))
theorem IL.step {w w' : World} {ao : Option Addr} {n : Nat} {U : Nat → Int} (h : IL w ao n U) (hb : Below w.heap.size w w') : IL w' ao n U := by
  refine ⟨fun hn => ?_⟩
  obtain ⟨b, off, h1, h2, h3⟩ := h.at' hn
  have := hb.size
  exact ⟨b, off, h1, by omega, fun j hj => keepC hb h2 (h3 j hj)⟩

theorem M.n_class {x y z k : Int} (hr : M.rt x y z = true) (hn : M.nk x y z k = true) {j : Nat} (hj : j ≤ M.cnt k) : M.nl x y z k j = M.aL x j ∧ M.na x y z k j = M.aA x y k j := by
  cases j with
  | zero =>
    have hb := M.rt_yes hr
    obtain ⟨e1, e2, _⟩ := M.n_zero (k := k) hr
    obtain ⟨f1, f2⟩ := M.aA_zero (a := y) (k := k) (r := x) hb.1 hb.2.1
    rw [e1, e2, f1, f2]; exact ⟨rfl, rfl⟩
  | succ i =>
    have hm := M.nko_yes hn i (by omega)
    have e : 2 * ((i : Int) + 1) = 2 * ((i + 1 : Nat) : Int) := by omega
    rw [e] at hm
    obtain ⟨e1, e2, _⟩ := M.move_class hm
    exact ⟨e1, e2⟩
/-- How far up a note is put. -/
def M.upo (n' : Nat) (U : Nat → Int) (j : Nat) : Int := if j < n' then (U j).tmod 3 else 0
theorem M.upo_yes {n' : Nat} {U : Nat → Int} {j : Nat} (h : j < n') : M.upo n' U j = (U j).tmod 3 := if_pos h
theorem M.upo_no {n' : Nat} {U : Nat → Int} {j : Nat} (h : ¬ j < n') : M.upo n' U j = 0 := if_neg h
theorem M.tmod3 (u : Int) : -3 < u.tmod 3 ∧ u.tmod 3 < 3 := by
  have h1 := Int.lt_tmod_of_pos u (b := 3) (by omega)
  have h2 := Int.tmod_lt_of_pos u (b := 3) (by omega)
  omega
/-- A chord's pitches, the first q of them put into other octaves. -/
structure NB (w : World) (g : Nat) (n q : Nat) (L A O O' : Nat → Int) : Prop where
  lt : g < w.heap.size
  c0 : ∀ j, j < n → w.cell? ⟨g, j * 3, none⟩ = some (.int .i64 (L j))
  c1 : ∀ j, j < n → w.cell? ⟨g, j * 3 + 1, none⟩ = some (.int .i64 (A j))
  c2 : ∀ j, j < n → w.cell? ⟨g, j * 3 + 2, none⟩ = some (.int .i64 (if j < q then O' j else O j))
  fz : ∀ j, j < n → w.frozen? ⟨g, j * 3 + 2, none⟩ = false
theorem NB.step {w w' : World} {B g n q : Nat} {L A O O' : Nat → Int} (h : NB w g n q L A O O') (hb : Below B w w') (hg : g < B) (hB : B ≤ w.heap.size) : NB w' g n q L A O O' :=
  ⟨by have := hb.size; omega, fun j hj => keepC hb hg (h.c0 j hj), fun j hj => keepC hb hg (h.c1 j hj), fun j hj => keepC hb hg (h.c2 j hj), fun j hj => keepF hb hg (h.fz j hj)⟩
theorem NB.put {w : World} {g n q : Nat} {L A O O' : Nat → Int} (h : NB w g n q L A O O') (hq : q < n) : NB (w.setCell ⟨g, q * 3 + 2, none⟩ (.int .i64 (O' q))) g n (q + 1) L A O O' := by
  refine ⟨by simpa using h.lt, fun j hj => ?_, fun j hj => ?_, fun j hj => ?_, fun j hj => ?_⟩
  · rw [World.cell?_setCell_other _ _ _ _ (by first | (simp; done) | (simp; omega))]; exact h.c0 j hj
  · rw [World.cell?_setCell_other _ _ _ _ (by first | (simp; done) | (simp; omega))]; exact h.c1 j hj
  · by_cases e : j = q
    · subst e
      rw [World.cell?_setCell_same _ _ _ (h.c2 j hj), if_pos (by omega)]
    · rw [World.cell?_setCell_other _ _ _ _ (by first | (simp [e]; done) | (simp; omega)), h.c2 j hj]
      by_cases hjq : j < q
      · rw [if_pos hjq, if_pos (by omega)]
      · rw [if_neg hjq, if_neg (by omega)]
  · have := h.fz j hj
    simpa [go_sem] using this
theorem NB.stay {w : World} {g n q : Nat} {L A O O' : Nat → Int} (h : NB w g n q L A O O') (hq : q < n) (he : O' q = O q) : NB w g n (q + 1) L A O O' := by
  refine ⟨h.lt, h.c0, h.c1, fun j hj => ?_, h.fz⟩
  rw [h.c2 j hj]
  by_cases e : j = q
  · subst e
    rw [if_neg (by omega), if_pos (by omega), he]
  · by_cases hjq : j < q
    · rw [if_pos hjq, if_pos (by omega)]
    · rw [if_neg hjq, if_neg (by omega)]
theorem NB.drew {w : World} {g n q : Nat} {L A O O' : Nat → Int} (h : NB w g n q L A O O') : NB w.drew g n q L A O O' := h.step (B := w.heap.size) ((Below.refl _ _).drew) h.lt (Nat.le_refl _)
theorem own_NB {w : World} {base : Nat} {t : TypeId} {v : Value} {x y z k : Int} {O' : Nat → Int} (hr : M.rt x y z = true) (hn : M.nk x y z k = true) (h : w.ownsRow base t 3 v (M.cnt k + 1) (rows (ntF x y z k) (M.cnt k + 1))) :
    ∃ g cap, v = .slice (some ⟨g, 0, none⟩) (M.cnt k + 1 : Nat) cap ∧ base ≤ g ∧ M.cnt k + 1 ≤ cap ∧ cap ≤ 9223372036854775807 ∧ NB w g (M.cnt k + 1) 0 (M.aL x) (M.aA x y k) (M.no x y z k) O' := by
  have hcap : ∀ ad cap, v = .slice ad (M.cnt k + 1) cap → cap ≤ 9223372036854775807 := fun ad cap e => by
    rcases h.2 with ⟨h, _⟩ | ⟨g', cap', cur, h, _, _, _, hm, _⟩
    · rw [e] at h; simp at h
    · rw [e] at h; simp at h; unfold maxLen at hm; omega
  have hfz : ∀ g cap i, v = .slice (some ⟨g, 0, none⟩) (M.cnt k + 1) cap → w.frozen? ⟨g, i, none⟩ = false := fun g cap i e => by
    rcases h.2 with ⟨h, _⟩ | ⟨g', cap', cur, h, _, hh, _⟩
    · rw [e] at h; simp at h
    · rw [e] at h; simp at h
      obtain ⟨rfl, _⟩ := h
      simp [World.frozen?, hh]
  obtain ⟨g, cap, rfl, g1, g2, g3, g4⟩ := own_cells h (by omega)
  have hrg := fun j i (hj : j < M.cnt k + 1) (hi : i < 3) => rows_get (F := ntF x y z k) (s := 3) (fun j => rfl) (M.cnt k + 1) j i hj hi
  refine ⟨g, cap, rfl, g1, g3, hcap _ _ rfl, g2, fun j hj => ?_, fun j hj => ?_, fun j hj => ?_, fun j hj => hfz g cap _ rfl⟩
  · rw [g4 _ (by omega)]
    refine Eq.trans (hrg j 0 hj (by omega)) ?_
    rw [← (M.n_class hr hn (show j ≤ M.cnt k by omega)).1]; rfl
  · rw [g4 _ (by omega), hrg j 1 hj (by omega), ← (M.n_class hr hn (show j ≤ M.cnt k by omega)).2]; rfl
  · rw [g4 _ (by omega), hrg j 2 hj (by omega), if_neg (by omega)]; rfl

theorem WhatRes.form' {L A O : Nat → Int} {n : Nat} {e : Ending} (h : WhatRes L A O n e) : ∃ a b c d x : Int, e = .returned (.tuple #[chV a b c d, .int .i64 x]) := by
  rcases h with ⟨_, rfl⟩ | ⟨_, ⟨_, rfl⟩ | ⟨_, _, rfl⟩ | ⟨_, _, _, _, _, _, _, _, _, rfl⟩⟩ <;> exact ⟨_, _, _, _, _, rfl⟩
theorem MovedRes.form {L A O : Nat → Int} {n : Nat} {s h : Int} {e : Ending} {w' : World} (hm : MovedRes L A O n s h e w') : ∃ (ao : Option Addr) (m c : Nat) (B : Bool), e = .returned (.tuple #[.slice ao m c, .bool B]) ∧
    Hid (B = true → (∀ j, j < n → M.mk (L j) (A j) (O j) s h = true) ∧ m = n ∧ n ≤ c ∧ c ≤ 9223372036854775807 ∧ PL w' ao n (fun j => M.tL (L j) s) (fun j => M.tA (L j) (A j) s h) (fun j => M.mo (L j) (A j) (O j) s h)) := by
  rcases hm with ⟨_, rfl⟩ | ⟨h1, ao, c, B, rfl, h2, h3, h4⟩
  · exact ⟨none, 0, 0, false, rfl, fun h => by cases h⟩
  · exact ⟨ao, n, c, B, rfl, fun _ => ⟨h1, rfl, h2, h3, h4⟩⟩
theorem chV_inj {a b c d x a' b' c' d' x' : Int} (h : Ending.returned (.tuple #[chV a b c d, .int .i64 x]) = .returned (.tuple #[chV a' b' c' d', .int .i64 x'])) : a = a' ∧ b = b' ∧ c = c' ∧ d = d' ∧ x = x' := by
  unfold chV at h
  simpa [and_assoc] using h

theorem new_kept2 {X w' : World} {v0 v1 : Value} {t : TypeId} (hb : Below (X.alloc (Obj.cells #[v0, v1] t)).heap.size (X.alloc (Obj.cells #[v0, v1] t)) w') : w'.cell? ⟨X.heap.size, 0, none⟩ = some v0 ∧ w'.cell? ⟨X.heap.size, 1, none⟩ = some v1 ∧ w'.frozen? ⟨X.heap.size, 0, none⟩ = false ∧ w'.frozen? ⟨X.heap.size, 1, none⟩ = false ∧ X.heap.size < w'.heap.size :=
  ⟨keepC hb (by simp) (by simp [go_sem]), keepC hb (by simp) (by simp [go_sem]), keepF hb (by simp) (by simp [go_sem]), keepF hb (by simp) (by simp [go_sem]), by have := hb.size; simp at this; omega⟩
theorem new_kept2_drew {X w' : World} {v0 v1 : Value} {t : TypeId} (hb : Below (X.alloc (Obj.cells #[v0, v1] t)).drew.heap.size (X.alloc (Obj.cells #[v0, v1] t)).drew w') : w'.cell? ⟨X.heap.size, 0, none⟩ = some v0 ∧ w'.cell? ⟨X.heap.size, 1, none⟩ = some v1 ∧ w'.frozen? ⟨X.heap.size, 0, none⟩ = false ∧ w'.frozen? ⟨X.heap.size, 1, none⟩ = false ∧ X.heap.size < w'.heap.size :=
  ⟨keepC hb (by simp) (by simp [go_sem]), keepC hb (by simp) (by simp [go_sem]), keepF hb (by simp) (by simp [go_sem]), keepF hb (by simp) (by simp [go_sem]), by have := hb.size; simp at this; omega⟩
end Go.Proofs.YtgcnmmjgdpdmbacDoor
