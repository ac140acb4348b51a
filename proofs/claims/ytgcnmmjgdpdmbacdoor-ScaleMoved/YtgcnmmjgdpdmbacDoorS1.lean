/- What the program's small functions on keys come to. -/
import Derived.Test.YtgcnmmjgdpdmbacDoorQW2
import Derived.Test.YtgcnmmjgdpdmbacDoorSMath
namespace Go.Proofs.YtgcnmmjgdpdmbacDoor
open Go.RowKit
set_option linter.unusedSimpArgs false

/-- The table of fifths lies where the program lays it. -/
structure Fifs (w : World) : Prop where
  sz : 4 < w.heap.size
  c : ∀ k : Nat, k < 7 → w.cell? ⟨4, k, none⟩ = some (.int .i64 (M.fif k))
theorem Fifs.step {w w' : World} (h : Fifs w) (hb : Below w.heap.size w w') : Fifs w' :=
  ⟨by have := hb.size; have := h.sz; omega, fun k hk => keepC hb h.sz (h.c k hk)⟩

theorem inOctave_any (l a o : Int) (w : World) :
    Calls Tryd.prog 48 #[.agg #[.int .i64 l, .int .i64 a], .int .i64 o] w fun e w' => e = .returned (.agg #[.int .i64 l, .int .i64 a, .int .i64 o]) ∧ Below w.heap.size w w' := by
  go_enter Tryd.func48, Tryd.ntmps48
  go_wp2
  go_returns
  exact ⟨rfl, by go_grown⟩

theorem stepOf_any (s : Int) (k : Nat) (w : World) (ht : Fifs w) (h1 : -7 ≤ s) (h2 : s ≤ 7) (hk : k < 7) :
    Calls Tryd.prog 47 #[.int .i64 s, .int .i64 k] w fun e w' => e = .returned (.agg #[.int .i64 k, .int .i64 (M.al s k)]) ∧ Below w.heap.size w w' := by
  obtain ⟨sz, c⟩ := ht
  have hf := M.fif_bd k
  have ck := c k hk
  have c3 := c 3 (by omega)
  rw [show M.fif ((3 : Nat) : Int) = -1 from rfl] at c3
  unfold M.al
  generalize M.fif k = F at *
  clear c
  have w1 : IntKind.i64.wrap (F - -1) = F + 1 := by rw [show F - -1 = F + 1 by omega]; exact wid (by omega) (by omega)
  by_cases x1 : F + 1 < s
  · rw [if_pos x1]
    go_enter Tryd.func47, Tryd.ntmps47
    go_wp2_with fail
    go_region
    go_wp2_with fail
    go_returns
    exact ⟨rfl, by go_grown⟩
  · rw [if_neg x1]
    by_cases x2 : 5 - F < -s
    · rw [if_pos x2]
      go_enter Tryd.func47, Tryd.ntmps47
      go_wp2_with fail
      go_region
      go_wp2_with fail
      go_returns
      exact ⟨rfl, by go_grown⟩
    · rw [if_neg x2]
      go_enter Tryd.func47, Tryd.ntmps47
      go_wp2_with fail
      go_region
      go_wp2_with fail
      go_returns
      exact ⟨rfl, by go_grown⟩

theorem Signs_any (l a m : Int) (w : World) (ht : Fifs w) :
    Calls Tryd.prog 46 #[.agg #[.int .i64 l, .int .i64 a], .int .i64 m] w fun e w' => e = .returned (.tuple #[.int .i64 (M.zs l a m), .int .i64 (M.ze l a m)]) ∧ Below w.heap.size w w' := by
  cases hm : M.mok m
  · obtain ⟨k1, k2⟩ := M.ze_kind (l := l) (a := a) hm
    rw [M.zs_no k1, k2]
    have hm' := M.mok_no hm
    by_cases x : m < 0
    all_goals
      go_enter Tryd.func46, Tryd.ntmps46
      go_wp2_with fail
      go_returns
      exact ⟨rfl, by go_grown⟩
  · have hm' := M.mok_yes hm
    cases hr : M.rt l a 0
    · obtain ⟨k1, k2⟩ := M.ze_form (l := l) (a := a) hm hr
      rw [M.zs_no k1, k2]
      go_enter Tryd.func46, Tryd.ntmps46
      go_wp2_with fail
      refine (inOctave_any l a 0 _).mono ?_
      rintro e w1 ⟨rfl, hb1⟩
      go_wp2_with fail
      refine (Right_any l a 0 _).mono ?_
      rintro e w2 ⟨rfl, hb2⟩
      rw [hr]
      go_wp2_with fail
      go_returns
      have hz := hb1.size
      simp at hz
      exact ⟨rfl, Below.trans (by go_grown) (Below.trans (hb1.mono (by simp)) (hb2.mono (by omega)))⟩
    · obtain ⟨x1, x2, x3, x4, _, _⟩ := M.rt_yes hr
      obtain ⟨x, rfl⟩ : ∃ x : Nat, l = x := ⟨l.toNat, by omega⟩
      obtain ⟨y, rfl⟩ : ∃ y : Nat, m = y := ⟨m.toNat, by omega⟩
      have hf := M.fif_bd x
      have hg := M.fif_bd y
      have ca := ht.c x (by omega)
      have cb := ht.c y (by omega)
      have hsz := ht.sz
      cases hz : M.z7 (M.zr x a y)
      · obtain ⟨k1, k2⟩ := M.ze_range hm hr hz
        rw [M.zs_no k1, k2]
        have hz' := M.z7_no hz
        unfold M.zr at hz'
        clear hz k1 k2 hm ht
        rcases (show M.fif x + 7 * a - M.fif y < -7 ∨ ¬ (M.fif x + 7 * a - M.fif y < -7) ∧ 7 < M.fif x + 7 * a - M.fif y by omega) with y1 | ⟨y1, y2⟩
        all_goals
          generalize M.fif x = F at *
          generalize M.fif y = G at *
          have e1 : IntKind.i64.wrap (7 * a) = 7 * a := wid (by omega) (by omega)
          have e2 : IntKind.i64.wrap (F + 7 * a) = F + 7 * a := wid (by omega) (by omega)
          have e3 : IntKind.i64.wrap (F + 7 * a - G) = F + 7 * a - G := wid (by omega) (by omega)
          go_enter Tryd.func46, Tryd.ntmps46
          go_wp2_with fail
          refine (inOctave_any x a 0 _).mono ?_
          rintro e w1 ⟨rfl, hb1⟩
          go_wp2_with fail
          refine (Right_any x a 0 _).mono ?_
          rintro e w2 ⟨rfl, hb2⟩
          rw [hr]
          have hs1 := hb1.size
          have hs2 := hb2.size
          simp at hs1
          have hb12 := Below.trans (hb1.mono (show w.heap.size + 1 ≤ (w.alloc _).heap.size by simp)) (hb2.mono (by omega))
          have hb : Below w.heap.size w w2 := Below.trans (by go_grown) (hb12.mono (by omega))
          have s2 := (Nat.lt_of_lt_of_le hsz hb.size)
          have ca' := keepC hb hsz ca
          have cb' := keepC hb hsz cb
          have p0 : w2.cell? ⟨w.heap.size, 0, none⟩ = some (.int .i64 x) := keepC hb12 (by omega) (by simp [go_sem])
          have p1 : w2.cell? ⟨w.heap.size, 1, none⟩ = some (.int .i64 a) := keepC hb12 (by omega) (by simp [go_sem])
          go_wp2_with fail
          go_region
          go_wp2_with fail
          go_returns
          exact ⟨rfl, hb.drew⟩

      · have k1 := M.zk_mk hm hr hz
        rw [M.zs_yes k1, M.ze_yes k1]
        have hz' := M.z7_yes hz
        unfold M.zr at hz' ⊢
        clear hz k1 hm ht
        generalize M.fif x = F at *
        generalize M.fif y = G at *
        have e1 : IntKind.i64.wrap (7 * a) = 7 * a := wid (by omega) (by omega)
        have e2 : IntKind.i64.wrap (F + 7 * a) = F + 7 * a := wid (by omega) (by omega)
        have e3 : IntKind.i64.wrap (F + 7 * a - G) = F + 7 * a - G := wid (by omega) (by omega)
        go_enter Tryd.func46, Tryd.ntmps46
        go_wp2_with fail
        refine (inOctave_any x a 0 _).mono ?_
        rintro e w1 ⟨rfl, hb1⟩
        go_wp2_with fail
        refine (Right_any x a 0 _).mono ?_
        rintro e w2 ⟨rfl, hb2⟩
        rw [hr]
        have hs1 := hb1.size
        have hs2 := hb2.size
        simp at hs1
        have hb12 := Below.trans (hb1.mono (show w.heap.size + 1 ≤ (w.alloc _).heap.size by simp)) (hb2.mono (by omega))
        have hb : Below w.heap.size w w2 := Below.trans (by go_grown) (hb12.mono (by omega))
        have s2 := (Nat.lt_of_lt_of_le hsz hb.size)
        have ca' := keepC hb hsz ca
        have cb' := keepC hb hsz cb
        have p0 : w2.cell? ⟨w.heap.size, 0, none⟩ = some (.int .i64 x) := keepC hb12 (by omega) (by simp [go_sem])
        have p1 : w2.cell? ⟨w.heap.size, 1, none⟩ = some (.int .i64 a) := keepC hb12 (by omega) (by simp [go_sem])
        go_wp2_with fail
        go_region
        go_wp2_with fail
        go_returns
        exact ⟨rfl, hb.drew⟩


end Go.Proofs.YtgcnmmjgdpdmbacDoor
