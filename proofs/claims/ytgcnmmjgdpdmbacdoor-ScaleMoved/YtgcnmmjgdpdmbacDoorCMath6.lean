/- A list of pitches that is moved, and a chord's own pitches in whatever octaves: what comes of the program's What. -/
import Derived.Test.YtgcnmmjgdpdmbacDoorC5
import Derived.Test.YtgcnmmjgdpdmbacDoorCMath5
namespace Go.Proofs.YtgcnmmjgdpdmbacDoor
open Go.RowKit

/-- Which root moves to this class. -/
theorem M.t_back (y b s h : Int) (hy : 0 ≤ y ∧ y ≤ 6) : ∃ r a, 0 ≤ r ∧ r ≤ 6 ∧ M.tL r s = y ∧ M.tA r a s h = b := by
  refine ⟨(y - s) % 7, b - (M.hv ((y - s) % 7) 0 0 + h - M.wh ((y - s) % 7 + s)), by omega, by omega, by unfold M.tL; omega, ?_⟩
  unfold M.tA M.hv
  omega
theorem M.same_root {L A O : Nat → Int} {n : Nat} {r a k : Int} (hall : ∀ j, j < n → M.rt (L j) (A j) (O j) = true) (hg : M.gk L A n = true) (hr : 0 ≤ r ∧ r ≤ 6) (hs : M.Same L A n r a k) :
    ∃ y : Nat, r = y ∧ y < 7 ∧ M.ga L A n y = a ∧ M.isC (M.gh L n) (M.ga L A n) y a k = true := by
  obtain ⟨j, hj, e1, e2⟩ := (hs r a).2 ⟨0, by omega, M.aA_zero hr.1 hr.2⟩
  obtain ⟨y, rfl⟩ : ∃ y : Nat, r = y := ⟨r.toNat, by omega⟩
  have hb := M.rt_yes (hall j hj)
  have hga : M.ga L A n y = a := by
    rw [M.ga_of ((M.gk_iff (fun j hj => by have := M.rt_yes (hall j hj); omega)).1 hg) hj e1, e2]
  exact ⟨y, rfl, by omega, hga, (M.isC_iff hall hg (M.rt_mk (l := (y : Int)) (a := a) (o := 0) (by omega))).2 hs⟩
/-- The answer where all are right. -/
def WRt (L A O : Nat → Int) (n : Nat) (e : Ending) : Prop :=
  ((M.gk L A n = false ∨ ∀ r a k : Int, 0 ≤ r → r ≤ 6 → M.kok k = true → ¬ M.Same L A n r a k) ∧ e = .returned (.tuple #[chV 0 0 0 0, .int .i64 6])) ∨
  (M.gk L A n = true ∧ ∃ (r a k : Int) (m : Nat), 0 ≤ r ∧ r ≤ 6 ∧ -3 ≤ a ∧ a ≤ 3 ∧ M.kok k = true ∧ M.Same L A n r a k ∧ M.Low L O n m ∧ e = .returned (.tuple #[chV r a k (((L m - r + 7) % 7) / 2), .int .i64 0]))
theorem WhatRes.right {L A O : Nat → Int} {n : Nat} {e : Ending} (h : WhatRes L A O n e) (hall : ∀ j, j < n → M.rt (L j) (A j) (O j) = true) : WRt L A O n e := by
  rcases h with ⟨⟨j, hj, hr⟩, _⟩ | ⟨_, ⟨hg, rfl⟩ | ⟨hg, hn, rfl⟩ | ⟨hg, y, k, m, hy, h1, h9, hc, hl, rfl⟩⟩
  · rw [hall j hj] at hr; cases hr
  · exact .inl ⟨.inl hg, rfl⟩
  · refine .inl ⟨.inr fun r a k r1 r2 hk hs => ?_, rfl⟩
    obtain ⟨y, rfl, hy, hga, hc⟩ := M.same_root hall hg ⟨r1, r2⟩ hs
    have hk' := M.kok_yes hk
    obtain ⟨q, rfl⟩ : ∃ q : Nat, k = q := ⟨k.toNat, by omega⟩
    have := hn y q hy (by omega) (by omega)
    rw [hga, hc] at this
    cases this
  · have hb := M.ga_bd hall y
    exact .inr ⟨hg, y, _, k, m, by omega, by omega, hb.1, hb.2, decide_eq_true (by omega), (M.isC_iff hall hg (M.rt_mk (l := (y : Int)) (a := M.ga L A n y) (o := 0) (by omega))).1 hc, hl, rfl⟩
theorem M.low_one {L A O : Nat → Int} {n m m' : Nat} (hall : ∀ j, j < n → M.rt (L j) (A j) (O j) = true) (hl : M.Low L O n m) (hl' : M.Low L O n m') : L m = L m' := by
  have l1 := hl.le m' hl'.lt
  have l2 := hl'.le m hl.lt
  have r1 := M.rt_yes (hall m hl.lt)
  have r2 := M.rt_yes (hall m' hl'.lt)
  unfold M.st at l1 l2
  omega

/-- A list that is moved: its chord is moved, its kind and turn stay. -/
theorem WRt.moved {L A O L' A' O' : Nat → Int} {n : Nat} {s h : Int} {e e' : Ending} (eL : L' = fun j => M.tL (L j) s) (eA : A' = fun j => M.tA (L j) (A j) s h)
    (hall : ∀ j, j < n → M.rt (L j) (A j) (O j) = true) (hst : ∀ j, j < n → M.st (L' j) (O' j) = M.st (L j) (O j) + s) (w : WRt L A O n e) (w' : WRt L' A' O' n e') :
    (e = .returned (.tuple #[chV 0 0 0 0, .int .i64 6]) ∧ e' = .returned (.tuple #[chV 0 0 0 0, .int .i64 6])) ∨
    ∃ r a k t : Int, 0 ≤ r ∧ r ≤ 6 ∧ -3 ≤ a ∧ a ≤ 3 ∧ 0 < n ∧ e = .returned (.tuple #[chV r a k t, .int .i64 0]) ∧ e' = .returned (.tuple #[chV (M.tL r s) (M.tA r a s h) k t, .int .i64 0]) := by
  have hL : ∀ j, j < n → 0 ≤ L j ∧ L j ≤ 6 := fun j hj => by have := M.rt_yes (hall j hj); omega
  have hgk : M.gk L' A' n = M.gk L A n := by rw [eL, eA]; exact M.gk_moved hL
  have hmv : ∀ r a k : Int, M.Same L A n r a k ↔ M.Same L' A' n (M.tL r s) (M.tA r a s h) k := fun r a k => by rw [eL, eA]; exact M.Same.moved hL
  rcases w with ⟨hno, rfl⟩ | ⟨hg, r, a, k, m, r1, r2, a1, a2, hk, hs, hl, rfl⟩
  · left
    refine ⟨rfl, ?_⟩
    rcases w' with ⟨_, rfl⟩ | ⟨hg', r', a', k', m', x1, x2, _, _, hk', hs', _, _⟩
    · rfl
    · exfalso
      rcases hno with hno | hno
      · rw [hgk, hno] at hg'; cases hg'
      · obtain ⟨r, a, r1, r2, e1, e2⟩ := M.t_back r' a' s h ⟨x1, x2⟩
        rw [← e1, ← e2] at hs'
        exact hno r a k' r1 r2 hk' ((hmv r a k').2 hs')
  · right
    have hs' := (hmv r a k).1 hs
    have hb : 0 ≤ M.tL r s ∧ M.tL r s ≤ 6 := by unfold M.tL; omega
    rcases w' with ⟨hno, rfl⟩ | ⟨hg', r', a', k', m', x1, x2, _, _, hk', hs'', hl', rfl⟩
    · exfalso
      rcases hno with hno | hno
      · rw [hgk, hg] at hno; cases hno
      · exact hno _ _ k hb.1 hb.2 hk hs'
    · obtain ⟨rfl, rfl, rfl⟩ := M.Same.one hs'' hs' ⟨x1, x2⟩ hb hk' hk
      refine ⟨r, a, k', _, r1, r2, a1, a2, by have := hl.lt; omega, rfl, ?_⟩
      have hlm : M.Low L O n m' := ⟨hl'.lt, fun j hj => by have := hl'.le j hj; rw [hst m' hl'.lt, hst j hj] at this; omega⟩
      have e1 : L m' = L m := M.low_one hall hlm hl
      have e2 : L' m' = M.tL (L m) s := by rw [eL]; show M.tL (L m') s = _; rw [e1]
      rw [e2, M.turn_moved]

/-- A chord's own pitches, in whatever octaves. -/
theorem WRt.own {O : Nat → Int} {l a k : Int} {lw : Nat} {e : Ending} (hl : 0 ≤ l ∧ l ≤ 6) (hk : M.kok k = true) (hall : ∀ j, j < M.cnt k + 1 → M.rt (M.aL l j) (M.aA l a k j) (O j) = true)
    (hlow : M.Low (M.aL l) O (M.cnt k + 1) lw) (w : WRt (M.aL l) (M.aA l a k) O (M.cnt k + 1) e) : e = .returned (.tuple #[chV l a k lw, .int .i64 0]) := by
  have hc := M.cnt_bd k
  have hg : M.gk (M.aL l) (M.aA l a k) (M.cnt k + 1) = true := by
    rw [M.gk_iff (fun j hj => by unfold M.aL; omega)]
    intro i j hi hj e
    rcases Nat.lt_trichotomy i j with g | g | g
    · exact absurd e (M.aL_ne g (by omega))
    · rw [g]
    · exact absurd e.symm (M.aL_ne g (by omega))
  have hs : M.Same (M.aL l) (M.aA l a k) (M.cnt k + 1) l a k := by
    intro x y
    constructor
    · rintro ⟨j, hj, h⟩; exact ⟨j, by omega, h⟩
    · rintro ⟨j, hj, h⟩; exact ⟨j, by omega, h⟩
  rcases w with ⟨hno, rfl⟩ | ⟨_, r, a', k', m, r1, r2, _, _, hk', hs', hl', rfl⟩
  · exfalso
    rcases hno with hno | hno
    · rw [hg] at hno; cases hno
    · exact hno l a k hl.1 hl.2 hk hs
  · obtain ⟨rfl, rfl, rfl⟩ := M.Same.one hs' hs ⟨r1, r2⟩ hl hk' hk
    have e1 := M.low_one hall hl' hlow
    have hm := hl'.lt
    have hm2 := hlow.lt
    have em : m = lw := by
      rcases Nat.lt_trichotomy m lw with g | g | g
      · exact absurd e1 (M.aL_ne g (by omega))
      · exact g
      · exact absurd e1.symm (M.aL_ne g (by omega))
    subst em
    have ht : ((M.aL r m - r + 7) % 7) / 2 = (m : Int) := by
      unfold M.aL
      rcases (show m = 0 ∨ m = 1 ∨ m = 2 ∨ m = 3 by omega) with rfl | rfl | rfl | rfl
      · omega
      · omega
      · omega
      · omega
    rw [ht]

/-- The root's own move, by less than an octave. -/
theorem M.root_moved {r a s h : Int} : M.tL r (s % 7) = M.tL r s ∧ M.tA r a (s % 7) (h - 12 * (s / 7)) = M.tA r a s h := by
  refine ⟨by unfold M.tL; omega, ?_⟩
  have := M.wh_oct (r + s % 7) (s / 7)
  rw [show r + s % 7 + 7 * (s / 7) = r + s by omega] at this
  unfold M.tA
  omega
end Go.Proofs.YtgcnmmjgdpdmbacDoor
