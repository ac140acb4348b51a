/- The statement ScaleChords: the walk of its text. -/
import Derived.Test.YtdjdnjaijpafgabDoorC10
import Derived.Test.YtdjdnjaijpafgabDoorC8
namespace Go.Proofs.YtdjdnjaijpafgabDoor
open Go.RowKit
attribute [local go_sem ↓] Go.wp_at_zero Go.wp_at_succ
set_option linter.unusedVariables false
set_option linter.unusedSimpArgs false

theorem Notes_none {l a o k : Int} {f : FuncId} {w : World} (h : Calls Tryd.prog f #[.agg #[.int .i64 l, .int .i64 a, .int .i64 o], .int .i64 k] w (NotesRes l a o k w)) (hn : M.nk l a o k = false) :
    Calls Tryd.prog f #[.agg #[.int .i64 l, .int .i64 a, .int .i64 o], .int .i64 k] w fun e w' => e = .returned (.tuple #[.slice none 0 0, .int .i64 3]) ∧ Below w.heap.size w w' :=
  h.mono fun e w' ⟨h1, h2⟩ => by
    rcases h2 with ⟨_, rfl⟩ | ⟨h3, _⟩
    · exact ⟨rfl, h1⟩
    · rw [hn] at h3; cases h3
/-- The pitches of a chord, as they lie. -/
def NL (l a o k : Int) (w : World) (b : Nat) : Prop := b < w.heap.size ∧ ∀ j i : Nat, j ≤ M.cnt k → i < 3 → w.cell? ⟨b, j * 3 + i, none⟩ = (ntF l a o k j)[i]?
theorem NL.step {l a o k : Int} {w w' : World} {b : Nat} (h : NL l a o k w b) (hb : Below w.heap.size w w') : NL l a o k w' b := by
  refine ⟨Nat.lt_of_lt_of_le h.1 hb.size, fun j i hj hi => ?_⟩
  rw [← h.2 j i hj hi]
  exact hb.cell (p := ⟨b, j * 3 + i, none⟩) h.1
theorem Notes_some {l a o k : Int} {f : FuncId} {w : World} (h : Calls Tryd.prog f #[.agg #[.int .i64 l, .int .i64 a, .int .i64 o], .int .i64 k] w (NotesRes l a o k w)) (hn : M.nk l a o k = true) :
    Calls Tryd.prog f #[.agg #[.int .i64 l, .int .i64 a, .int .i64 o], .int .i64 k] w fun e w' => (∃ b cap, e = .returned (.tuple #[.slice (some ⟨b, 0, none⟩) (M.cnt k + 1 : Nat) cap, .int .i64 0]) ∧ NL l a o k w' b) ∧ Below w.heap.size w w' :=
  h.mono fun e w' ⟨h1, h2⟩ => by
    rcases h2 with ⟨h3, _⟩ | ⟨_, b, cap, _, _, _, rfl, h4, h5⟩
    · rw [hn] at h3; cases h3
    · exact ⟨⟨b, cap, rfl, h4, h5⟩, h1⟩
theorem Same_NL {l a o k : Int} {b b' c c' : Nat} {w : World} (h : NL l a o k w b) (h' : NL l a o k w b') :
    Calls Tryd.prog 30 #[.slice (some ⟨b, 0, none⟩) (M.cnt k + 1 : Nat) c, .slice (some ⟨b', 0, none⟩) (M.cnt k + 1 : Nat) c'] w fun e w' => e = .returned (.bool true) ∧ Below w.heap.size w w' := by
  have hc := M.cnt_bd k
  refine SamePitches_same b b' (M.cnt k + 1) c c' (M.nl l a o k) (M.na l a o k) (M.no l a o k) w h.1 h'.1 (by omega) ?_ ?_ ?_ ?_ ?_ ?_
  · intro j hj; exact h.2 j 0 (by omega) (by omega)
  · intro j hj; exact h.2 j 1 (by omega) (by omega)
  · intro j hj; exact h.2 j 2 (by omega) (by omega)
  · intro j hj; exact h'.2 j 0 (by omega) (by omega)
  · intro j hj; exact h'.2 j 1 (by omega) (by omega)
  · intro j hj; exact h'.2 j 2 (by omega) (by omega)

set_option maxHeartbeats 4000000 in
theorem chords_walk (l a o kd : Int) (ao : Option Addr) (n c : Nat) (L AA OO : Nat → Int) (w : World) (ht : Tab w) (hO : Over w) (hp : PL w ao n L AA OO) (hc : n ≤ c) (hcm : c ≤ 9223372036854775807) (hA : ∀ j, j < n → -9223372036854775808 ≤ AA j ∧ AA j ≤ 9223372036854775807) (a1 : -9223372036854775808 ≤ a) (a2 : a ≤ 9223372036854775807) :
    Calls Tryd.prog 7 #[.agg #[.int .i64 l, .int .i64 a, .int .i64 o], .int .i64 kd, .slice ao n c] w fun e w' => e = .returned (.bool true) ∧ Below w.heap.size w w' := by
  cases hk : M.kok kd
  case false =>
    go_enter Tryd.func7, Tryd.ntmps7
    go_wp2_with fail
    refine (Notes_kind l a o kd _ hk).mono ?_
    rintro e w1 ⟨rfl, hb1⟩
    have sz1 := hb1.size
    try simp at sz1
    have k1 : Below w.heap.size w w1 := Below.trans (by go_grown) (hb1.mono (by (first | (simp; done) | (simp; omega))))
    have h0w1 : Below w.heap.size w w1 := k1
    have Cp0 : w1.cell? ⟨w.heap.size, 0, none⟩ = some (.int .i64 l) := keepC hb1 (by (first | (simp; done) | (simp; omega))) (by simp [go_sem])
    have Cp1 : w1.cell? ⟨w.heap.size, 1, none⟩ = some (.int .i64 a) := keepC hb1 (by (first | (simp; done) | (simp; omega))) (by simp [go_sem])
    have Cp2 : w1.cell? ⟨w.heap.size, 2, none⟩ = some (.int .i64 o) := keepC hb1 (by (first | (simp; done) | (simp; omega))) (by simp [go_sem])
    have tCp : w.heap.size < w1.heap.size := by omega
    go_wp2_with fail
    refine (refNotes_kind l a o kd _ hk).mono ?_
    rintro e w2 ⟨rfl, hb2⟩
    have sz2 := hb2.size
    try simp at sz2
    have k2 : Below w1.heap.size w1 w2 := Below.trans (by go_grown) (hb2.mono (by (first | (simp; done) | (simp; omega))))
    have h0w2 : Below w.heap.size w w2 := h0w1.trans (k2.mono h0w1.size)
    replace Cp0 := keepC k2 (by omega) Cp0
    replace Cp1 := keepC k2 (by omega) Cp1
    replace Cp2 := keepC k2 (by omega) Cp2
    have tCp : w.heap.size < w2.heap.size := by omega
    go_wp2_with fail
    refine (SamePitches_nil _).mono ?_
    rintro e w3 ⟨rfl, hb3⟩
    have sz3 := hb3.size
    try simp at sz3
    have k3 : Below w2.heap.size w2 w3 := Below.trans (by go_grown) (hb3.mono (by (first | (simp; done) | (simp; omega))))
    have h0w3 : Below w.heap.size w w3 := h0w2.trans (k3.mono h0w2.size)
    replace Cp0 := keepC k3 (by omega) Cp0
    replace Cp1 := keepC k3 (by omega) Cp1
    replace Cp2 := keepC k3 (by omega) Cp2
    have tCp : w.heap.size < w3.heap.size := by omega
    go_wp2_with fail
    refine (What_any ao n c L AA OO _ ((ht.step h0w3).step (by go_grown)) ((hO.step h0w3).step (by go_grown)) ((hp.step h0w3).step (by go_grown)) hc hcm).mono ?_
    rintro e w4 ⟨hr1, hb4⟩
    obtain ⟨x0, x1, x2, x3, x4, rfl⟩ := hr1.form
    replace hr1 : Hid (WhatRes L AA OO n _) := hr1
    have sz4 := hb4.size
    try simp at sz4
    have k4 : Below w3.heap.size w3 w4 := Below.trans (by go_grown) (hb4.mono (by (first | (simp; done) | (simp; omega))))
    have h0w4 : Below w.heap.size w w4 := h0w3.trans (k4.mono h0w3.size)
    replace Cp0 := keepC k4 (by omega) Cp0
    replace Cp1 := keepC k4 (by omega) Cp1
    replace Cp2 := keepC k4 (by omega) Cp2
    have tCp : w.heap.size < w4.heap.size := by omega
    unfold chV
    go_wp2_with fail
    refine (refWhat_any ao n c L AA OO _ ((hp.step h0w4).step (by go_grown)) hc hcm hA).mono ?_
    rintro e w5 ⟨hr2, hb5⟩
    obtain rfl := hr2.one hr1.out
    clear hr2 hr1
    have sz5 := hb5.size
    try simp at sz5
    have k5 : Below w4.heap.size w4 w5 := Below.trans (by go_grown) (hb5.mono (by (first | (simp; done) | (simp; omega))))
    have h0w5 : Below w.heap.size w w5 := h0w4.trans (k5.mono h0w4.size)
    replace Cp0 := keepC k5 (by omega) Cp0
    replace Cp1 := keepC k5 (by omega) Cp1
    replace Cp2 := keepC k5 (by omega) Cp2
    have tCp : w.heap.size < w5.heap.size := by omega
    have Cc0 : w5.cell? ⟨w4.heap.size, 0, none⟩ = some (.int .i64 x0) := keepC hb5 (by (first | (simp; done) | (simp; omega))) (by simp [go_sem])
    have Cc1 : w5.cell? ⟨w4.heap.size, 1, none⟩ = some (.int .i64 x1) := keepC hb5 (by (first | (simp; done) | (simp; omega))) (by simp [go_sem])
    have Cc2 : w5.cell? ⟨w4.heap.size, 2, none⟩ = some (.int .i64 x2) := keepC hb5 (by (first | (simp; done) | (simp; omega))) (by simp [go_sem])
    have Cc3 : w5.cell? ⟨w4.heap.size, 3, none⟩ = some (.int .i64 x3) := keepC hb5 (by (first | (simp; done) | (simp; omega))) (by simp [go_sem])
    have tCc : w4.heap.size < w5.heap.size := by omega
    unfold chV
    go_wp2_with fail
    go_ret
    exact ⟨rfl, Below.trans h0w5 (Below.mono (by go_grown) h0w5.size)⟩
  have hkb := M.kok_yes hk
  obtain ⟨k, rfl⟩ : ∃ k : Nat, kd = k := ⟨kd.toNat, by omega⟩
  cases hr : M.rt l a o
  case false =>
    go_enter Tryd.func7, Tryd.ntmps7
    go_wp2_with fail
    refine (Notes_form l a o k _ hk hr).mono ?_
    rintro e w1 ⟨rfl, hb1⟩
    have sz1 := hb1.size
    try simp at sz1
    have k1 : Below w.heap.size w w1 := Below.trans (by go_grown) (hb1.mono (by (first | (simp; done) | (simp; omega))))
    have h0w1 : Below w.heap.size w w1 := k1
    have Cp0 : w1.cell? ⟨w.heap.size, 0, none⟩ = some (.int .i64 l) := keepC hb1 (by (first | (simp; done) | (simp; omega))) (by simp [go_sem])
    have Cp1 : w1.cell? ⟨w.heap.size, 1, none⟩ = some (.int .i64 a) := keepC hb1 (by (first | (simp; done) | (simp; omega))) (by simp [go_sem])
    have Cp2 : w1.cell? ⟨w.heap.size, 2, none⟩ = some (.int .i64 o) := keepC hb1 (by (first | (simp; done) | (simp; omega))) (by simp [go_sem])
    have tCp : w.heap.size < w1.heap.size := by omega
    go_wp2_with fail
    refine (refNotes_form l a o k _ a1 a2 hk hr).mono ?_
    rintro e w2 ⟨rfl, hb2⟩
    have sz2 := hb2.size
    try simp at sz2
    have k2 : Below w1.heap.size w1 w2 := Below.trans (by go_grown) (hb2.mono (by (first | (simp; done) | (simp; omega))))
    have h0w2 : Below w.heap.size w w2 := h0w1.trans (k2.mono h0w1.size)
    replace Cp0 := keepC k2 (by omega) Cp0
    replace Cp1 := keepC k2 (by omega) Cp1
    replace Cp2 := keepC k2 (by omega) Cp2
    have tCp : w.heap.size < w2.heap.size := by omega
    go_wp2_with fail
    refine (SamePitches_nil _).mono ?_
    rintro e w3 ⟨rfl, hb3⟩
    have sz3 := hb3.size
    try simp at sz3
    have k3 : Below w2.heap.size w2 w3 := Below.trans (by go_grown) (hb3.mono (by (first | (simp; done) | (simp; omega))))
    have h0w3 : Below w.heap.size w w3 := h0w2.trans (k3.mono h0w2.size)
    replace Cp0 := keepC k3 (by omega) Cp0
    replace Cp1 := keepC k3 (by omega) Cp1
    replace Cp2 := keepC k3 (by omega) Cp2
    have tCp : w.heap.size < w3.heap.size := by omega
    go_wp2_with fail
    refine (What_any ao n c L AA OO _ ((ht.step h0w3).step (by go_grown)) ((hO.step h0w3).step (by go_grown)) ((hp.step h0w3).step (by go_grown)) hc hcm).mono ?_
    rintro e w4 ⟨hr1, hb4⟩
    obtain ⟨x0, x1, x2, x3, x4, rfl⟩ := hr1.form
    replace hr1 : Hid (WhatRes L AA OO n _) := hr1
    have sz4 := hb4.size
    try simp at sz4
    have k4 : Below w3.heap.size w3 w4 := Below.trans (by go_grown) (hb4.mono (by (first | (simp; done) | (simp; omega))))
    have h0w4 : Below w.heap.size w w4 := h0w3.trans (k4.mono h0w3.size)
    replace Cp0 := keepC k4 (by omega) Cp0
    replace Cp1 := keepC k4 (by omega) Cp1
    replace Cp2 := keepC k4 (by omega) Cp2
    have tCp : w.heap.size < w4.heap.size := by omega
    unfold chV
    go_wp2_with fail
    refine (refWhat_any ao n c L AA OO _ ((hp.step h0w4).step (by go_grown)) hc hcm hA).mono ?_
    rintro e w5 ⟨hr2, hb5⟩
    obtain rfl := hr2.one hr1.out
    clear hr2 hr1
    have sz5 := hb5.size
    try simp at sz5
    have k5 : Below w4.heap.size w4 w5 := Below.trans (by go_grown) (hb5.mono (by (first | (simp; done) | (simp; omega))))
    have h0w5 : Below w.heap.size w w5 := h0w4.trans (k5.mono h0w4.size)
    replace Cp0 := keepC k5 (by omega) Cp0
    replace Cp1 := keepC k5 (by omega) Cp1
    replace Cp2 := keepC k5 (by omega) Cp2
    have tCp : w.heap.size < w5.heap.size := by omega
    have Cc0 : w5.cell? ⟨w4.heap.size, 0, none⟩ = some (.int .i64 x0) := keepC hb5 (by (first | (simp; done) | (simp; omega))) (by simp [go_sem])
    have Cc1 : w5.cell? ⟨w4.heap.size, 1, none⟩ = some (.int .i64 x1) := keepC hb5 (by (first | (simp; done) | (simp; omega))) (by simp [go_sem])
    have Cc2 : w5.cell? ⟨w4.heap.size, 2, none⟩ = some (.int .i64 x2) := keepC hb5 (by (first | (simp; done) | (simp; omega))) (by simp [go_sem])
    have Cc3 : w5.cell? ⟨w4.heap.size, 3, none⟩ = some (.int .i64 x3) := keepC hb5 (by (first | (simp; done) | (simp; omega))) (by simp [go_sem])
    have tCc : w4.heap.size < w5.heap.size := by omega
    unfold chV
    go_wp2_with fail
    go_ret
    exact ⟨rfl, Below.trans h0w5 (Below.mono (by go_grown) h0w5.size)⟩
  cases hn : M.nk l a o k
  case false =>
    go_enter Tryd.func7, Tryd.ntmps7
    go_wp2_with fail
    refine (Notes_none (Notes_in l a o k _ (ht.step (by go_grown)) (hO.step (by go_grown)) hk hr) hn).mono ?_
    rintro e w1 ⟨rfl, hb1⟩
    have sz1 := hb1.size
    try simp at sz1
    have k1 : Below w.heap.size w w1 := Below.trans (by go_grown) (hb1.mono (by (first | (simp; done) | (simp; omega))))
    have h0w1 : Below w.heap.size w w1 := k1
    have Cp0 : w1.cell? ⟨w.heap.size, 0, none⟩ = some (.int .i64 l) := keepC hb1 (by (first | (simp; done) | (simp; omega))) (by simp [go_sem])
    have Cp1 : w1.cell? ⟨w.heap.size, 1, none⟩ = some (.int .i64 a) := keepC hb1 (by (first | (simp; done) | (simp; omega))) (by simp [go_sem])
    have Cp2 : w1.cell? ⟨w.heap.size, 2, none⟩ = some (.int .i64 o) := keepC hb1 (by (first | (simp; done) | (simp; omega))) (by simp [go_sem])
    have tCp : w.heap.size < w1.heap.size := by omega
    go_wp2_with fail
    refine (Notes_none (refNotes_in l a o k _ hk hr) hn).mono ?_
    rintro e w2 ⟨rfl, hb2⟩
    have sz2 := hb2.size
    try simp at sz2
    have k2 : Below w1.heap.size w1 w2 := Below.trans (by go_grown) (hb2.mono (by (first | (simp; done) | (simp; omega))))
    have h0w2 : Below w.heap.size w w2 := h0w1.trans (k2.mono h0w1.size)
    replace Cp0 := keepC k2 (by omega) Cp0
    replace Cp1 := keepC k2 (by omega) Cp1
    replace Cp2 := keepC k2 (by omega) Cp2
    have tCp : w.heap.size < w2.heap.size := by omega
    go_wp2_with fail
    refine (SamePitches_nil _).mono ?_
    rintro e w3 ⟨rfl, hb3⟩
    have sz3 := hb3.size
    try simp at sz3
    have k3 : Below w2.heap.size w2 w3 := Below.trans (by go_grown) (hb3.mono (by (first | (simp; done) | (simp; omega))))
    have h0w3 : Below w.heap.size w w3 := h0w2.trans (k3.mono h0w2.size)
    replace Cp0 := keepC k3 (by omega) Cp0
    replace Cp1 := keepC k3 (by omega) Cp1
    replace Cp2 := keepC k3 (by omega) Cp2
    have tCp : w.heap.size < w3.heap.size := by omega
    go_wp2_with fail
    refine (What_any ao n c L AA OO _ ((ht.step h0w3).step (by go_grown)) ((hO.step h0w3).step (by go_grown)) ((hp.step h0w3).step (by go_grown)) hc hcm).mono ?_
    rintro e w4 ⟨hr1, hb4⟩
    obtain ⟨x0, x1, x2, x3, x4, rfl⟩ := hr1.form
    replace hr1 : Hid (WhatRes L AA OO n _) := hr1
    have sz4 := hb4.size
    try simp at sz4
    have k4 : Below w3.heap.size w3 w4 := Below.trans (by go_grown) (hb4.mono (by (first | (simp; done) | (simp; omega))))
    have h0w4 : Below w.heap.size w w4 := h0w3.trans (k4.mono h0w3.size)
    replace Cp0 := keepC k4 (by omega) Cp0
    replace Cp1 := keepC k4 (by omega) Cp1
    replace Cp2 := keepC k4 (by omega) Cp2
    have tCp : w.heap.size < w4.heap.size := by omega
    unfold chV
    go_wp2_with fail
    refine (refWhat_any ao n c L AA OO _ ((hp.step h0w4).step (by go_grown)) hc hcm hA).mono ?_
    rintro e w5 ⟨hr2, hb5⟩
    obtain rfl := hr2.one hr1.out
    clear hr2 hr1
    have sz5 := hb5.size
    try simp at sz5
    have k5 : Below w4.heap.size w4 w5 := Below.trans (by go_grown) (hb5.mono (by (first | (simp; done) | (simp; omega))))
    have h0w5 : Below w.heap.size w w5 := h0w4.trans (k5.mono h0w4.size)
    replace Cp0 := keepC k5 (by omega) Cp0
    replace Cp1 := keepC k5 (by omega) Cp1
    replace Cp2 := keepC k5 (by omega) Cp2
    have tCp : w.heap.size < w5.heap.size := by omega
    have Cc0 : w5.cell? ⟨w4.heap.size, 0, none⟩ = some (.int .i64 x0) := keepC hb5 (by (first | (simp; done) | (simp; omega))) (by simp [go_sem])
    have Cc1 : w5.cell? ⟨w4.heap.size, 1, none⟩ = some (.int .i64 x1) := keepC hb5 (by (first | (simp; done) | (simp; omega))) (by simp [go_sem])
    have Cc2 : w5.cell? ⟨w4.heap.size, 2, none⟩ = some (.int .i64 x2) := keepC hb5 (by (first | (simp; done) | (simp; omega))) (by simp [go_sem])
    have Cc3 : w5.cell? ⟨w4.heap.size, 3, none⟩ = some (.int .i64 x3) := keepC hb5 (by (first | (simp; done) | (simp; omega))) (by simp [go_sem])
    have tCc : w4.heap.size < w5.heap.size := by omega
    unfold chV
    go_wp2_with fail
    go_ret
    exact ⟨rfl, Below.trans h0w5 (Below.mono (by go_grown) h0w5.size)⟩
  go_enter Tryd.func7, Tryd.ntmps7
  go_wp2_with fail
  refine (Notes_some (Notes_in l a o k _ (ht.step (by go_grown)) (hO.step (by go_grown)) hk hr) hn).mono ?_
  rintro e w1 ⟨⟨b1, cap1, rfl, hn1⟩, hb1⟩
  have sz1 := hb1.size
  try simp at sz1
  have k1 : Below w.heap.size w w1 := Below.trans (by go_grown) (hb1.mono (by (first | (simp; done) | (simp; omega))))
  have h0w1 : Below w.heap.size w w1 := k1
  have Cp0 : w1.cell? ⟨w.heap.size, 0, none⟩ = some (.int .i64 l) := keepC hb1 (by (first | (simp; done) | (simp; omega))) (by simp [go_sem])
  have Cp1 : w1.cell? ⟨w.heap.size, 1, none⟩ = some (.int .i64 a) := keepC hb1 (by (first | (simp; done) | (simp; omega))) (by simp [go_sem])
  have Cp2 : w1.cell? ⟨w.heap.size, 2, none⟩ = some (.int .i64 o) := keepC hb1 (by (first | (simp; done) | (simp; omega))) (by simp [go_sem])
  have tCp : w.heap.size < w1.heap.size := by omega
  go_wp2_with fail
  refine (Notes_some (refNotes_in l a o k _ hk hr) hn).mono ?_
  rintro e w2 ⟨⟨b2, cap2, rfl, hn2⟩, hb2⟩
  have sz2 := hb2.size
  try simp at sz2
  have k2 : Below w1.heap.size w1 w2 := Below.trans (by go_grown) (hb2.mono (by (first | (simp; done) | (simp; omega))))
  have h0w2 : Below w.heap.size w w2 := h0w1.trans (k2.mono h0w1.size)
  replace Cp0 := keepC k2 (by omega) Cp0
  replace Cp1 := keepC k2 (by omega) Cp1
  replace Cp2 := keepC k2 (by omega) Cp2
  have tCp : w.heap.size < w2.heap.size := by omega
  have hn1' := hn1.step k2
  clear hn1
  go_wp2_with fail
  refine (Same_NL (hn1'.step (by go_grown)) (hn2.step (by go_grown))).mono ?_
  rintro e w3 ⟨rfl, hb3⟩
  have sz3 := hb3.size
  try simp at sz3
  have k3 : Below w2.heap.size w2 w3 := Below.trans (by go_grown) (hb3.mono (by (first | (simp; done) | (simp; omega))))
  have h0w3 : Below w.heap.size w w3 := h0w2.trans (k3.mono h0w2.size)
  replace Cp0 := keepC k3 (by omega) Cp0
  replace Cp1 := keepC k3 (by omega) Cp1
  replace Cp2 := keepC k3 (by omega) Cp2
  have tCp : w.heap.size < w3.heap.size := by omega
  go_wp2_with fail
  refine (What_any ao n c L AA OO _ ((ht.step h0w3).step (by go_grown)) ((hO.step h0w3).step (by go_grown)) ((hp.step h0w3).step (by go_grown)) hc hcm).mono ?_
  rintro e w4 ⟨hr1, hb4⟩
  obtain ⟨x0, x1, x2, x3, x4, rfl⟩ := hr1.form
  replace hr1 : Hid (WhatRes L AA OO n _) := hr1
  have sz4 := hb4.size
  try simp at sz4
  have k4 : Below w3.heap.size w3 w4 := Below.trans (by go_grown) (hb4.mono (by (first | (simp; done) | (simp; omega))))
  have h0w4 : Below w.heap.size w w4 := h0w3.trans (k4.mono h0w3.size)
  replace Cp0 := keepC k4 (by omega) Cp0
  replace Cp1 := keepC k4 (by omega) Cp1
  replace Cp2 := keepC k4 (by omega) Cp2
  have tCp : w.heap.size < w4.heap.size := by omega
  unfold chV
  go_wp2_with fail
  refine (refWhat_any ao n c L AA OO _ ((hp.step h0w4).step (by go_grown)) hc hcm hA).mono ?_
  rintro e w5 ⟨hr2, hb5⟩
  obtain rfl := hr2.one hr1.out
  clear hr2 hr1
  have sz5 := hb5.size
  try simp at sz5
  have k5 : Below w4.heap.size w4 w5 := Below.trans (by go_grown) (hb5.mono (by (first | (simp; done) | (simp; omega))))
  have h0w5 : Below w.heap.size w w5 := h0w4.trans (k5.mono h0w4.size)
  replace Cp0 := keepC k5 (by omega) Cp0
  replace Cp1 := keepC k5 (by omega) Cp1
  replace Cp2 := keepC k5 (by omega) Cp2
  have tCp : w.heap.size < w5.heap.size := by omega
  have Cc0 : w5.cell? ⟨w4.heap.size, 0, none⟩ = some (.int .i64 x0) := keepC hb5 (by (first | (simp; done) | (simp; omega))) (by simp [go_sem])
  have Cc1 : w5.cell? ⟨w4.heap.size, 1, none⟩ = some (.int .i64 x1) := keepC hb5 (by (first | (simp; done) | (simp; omega))) (by simp [go_sem])
  have Cc2 : w5.cell? ⟨w4.heap.size, 2, none⟩ = some (.int .i64 x2) := keepC hb5 (by (first | (simp; done) | (simp; omega))) (by simp [go_sem])
  have Cc3 : w5.cell? ⟨w4.heap.size, 3, none⟩ = some (.int .i64 x3) := keepC hb5 (by (first | (simp; done) | (simp; omega))) (by simp [go_sem])
  have tCc : w4.heap.size < w5.heap.size := by omega
  unfold chV
  go_wp2_with fail
  go_ret
  exact ⟨rfl, Below.trans h0w5 (Below.mono (by go_grown) h0w5.size)⟩

end Go.Proofs.YtdjdnjaijpafgabDoor
