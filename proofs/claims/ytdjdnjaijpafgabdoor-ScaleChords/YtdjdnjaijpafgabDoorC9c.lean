/- What comes of the document's search among the known classes: the same as of the program's. -/
import Derived.Test.YtdjdnjaijpafgabDoorC9b
namespace Go.Proofs.YtdjdnjaijpafgabDoor
open Go.RowKit

theorem M.g_right {L A O : Nat → Int} {n : Nat} (hall : ∀ j, j < n → M.rt (L j) (A j) (O j) = true) {q : Nat} (hq : q < (M.dd L A n).length) :
    (0 ≤ M.g1 (M.dd L A n) q ∧ M.g1 (M.dd L A n) q ≤ 6 ∧ -3 ≤ M.g2 (M.dd L A n) q ∧ M.g2 (M.dd L A n) q ≤ 3) ∧ ∃ j, j < n ∧ L j = M.g1 (M.dd L A n) q ∧ A j = M.g2 (M.dd L A n) q := by
  have hm : (M.g1 (M.dd L A n) q, M.g2 (M.dd L A n) q) ∈ M.dd L A n := M.g_mem.1 ⟨q, hq, rfl, rfl⟩
  obtain ⟨j, hj, e⟩ := M.dd_mem.1 hm
  have e1 : L j = M.g1 (M.dd L A n) q := congrArg Prod.fst e
  have e2 : A j = M.g2 (M.dd L A n) q := congrArg Prod.snd e
  have hr := M.rt_yes (hall j hj)
  exact ⟨by omega, j, hj, e1, e2⟩

theorem fin_none {L A O : Nat → Int} {n : Nat} (hall : ∀ j, j < n → M.rt (L j) (A j) (O j) = true)
    (h : ∀ q k : Nat, q < (M.dd L A n).length → 1 ≤ k → k ≤ 9 → M.tst (M.dd L A n) (M.g1 (M.dd L A n) q) (M.g2 (M.dd L A n) q) k (M.cnt k + 1) = false) :
    WhatRes L A O n (.returned (.tuple #[chV 0 0 0 0, .int .i64 6])) := by
  refine .inr ⟨hall, ?_⟩
  cases hg : M.gk L A n
  · exact .inl ⟨rfl, rfl⟩
  · refine .inr (.inl ⟨rfl, fun y k hy h1 h9 => ?_, rfl⟩)
    cases hc : M.isC (M.gh L n) (M.ga L A n) y (M.ga L A n y) k
    · rfl
    · exfalso
      have hb := M.ga_bd hall y
      have hrt : M.rt y (M.ga L A n y) 0 = true := M.rt_mk (by omega)
      have hs := (M.isC_iff hall hg hrt).1 hc
      have h0 := (hs y (M.ga L A n y)).2 ⟨0, by omega, M.aA_zero (by omega) (by omega)⟩
      obtain ⟨j, hj, e1, e2⟩ := h0
      have hm : ((y : Int), M.ga L A n y) ∈ M.dd L A n := M.dd_mem.2 ⟨j, hj, by rw [e1, e2]⟩
      obtain ⟨q, hq, f1, f2⟩ := M.g_mem.2 hm
      have := h q k hq h1 h9
      rw [f1, f2] at this
      have h2 := (M.tst_iff (r := y) (a := M.ga L A n y) (k := k) hall).2 ⟨hg, hs⟩
      rw [this] at h2
      cases h2

theorem fin_some {L A O : Nat → Int} {n m q k t : Nat} (hall : ∀ j, j < n → M.rt (L j) (A j) (O j) = true) (hlow : M.Low L O n m)
    (hq : q < (M.dd L A n).length) (h1 : 1 ≤ k) (h9 : k ≤ 9) (h : M.tst (M.dd L A n) (M.g1 (M.dd L A n) q) (M.g2 (M.dd L A n) q) k (M.cnt k + 1) = true)
    (ht : ∀ j, j < M.cnt k + 1 → M.aL (M.g1 (M.dd L A n) q) j = L m ∧ M.aA (M.g1 (M.dd L A n) q) (M.g2 (M.dd L A n) q) k j = A m → t = j) :
    WhatRes L A O n (.returned (.tuple #[chV (M.g1 (M.dd L A n) q) (M.g2 (M.dd L A n) q) k t, .int .i64 0])) := by
  obtain ⟨hb, j, hj, e1, e2⟩ := M.g_right hall hq
  obtain ⟨hg, hs⟩ := (M.tst_iff hall).1 h
  generalize M.g1 (M.dd L A n) q = r at *
  generalize M.g2 (M.dd L A n) q = a at *
  obtain ⟨y, rfl⟩ : ∃ y : Nat, r = y := ⟨r.toNat, by omega⟩
  have hga : M.ga L A n y = a := by
    rw [M.ga_of ((M.gk_iff (fun j hj => by have := M.rt_yes (hall j hj); omega)).1 hg) hj e1, e2]
  have hrt : M.rt y a 0 = true := M.rt_mk (by omega)
  obtain ⟨i, hi, f1, f2⟩ := (hs (L m) (A m)).1 ⟨m, hlow.lt, rfl, rfl⟩
  have hti := ht i (by omega) ⟨f1, f2⟩
  have hc := M.cnt_bd k
  have hturn : ((L m - y + 7) % 7) / 2 = (t : Int) := by
    rw [← f1, hti]
    unfold M.aL
    rcases (show i = 0 ∨ i = 1 ∨ i = 2 ∨ i = 3 by omega) with rfl | rfl | rfl | rfl
    · omega
    · omega
    · omega
    · omega
  refine .inr ⟨hall, .inr (.inr ⟨hg, y, k, m, by omega, h1, h9, ?_, hlow, ?_⟩)⟩
  · rw [hga]; exact (M.isC_iff hall hg hrt).2 hs
  · rw [hga, hturn]

/-- Two answers of the one question are one. -/
theorem WhatRes.one {L A O : Nat → Int} {n : Nat} {e e' : Ending} (h : WhatRes L A O n e) (h' : WhatRes L A O n e') : e = e' := by
  rcases h with ⟨⟨j, hj, hr⟩, rfl⟩ | ⟨hall, h⟩
  · rcases h' with ⟨_, rfl⟩ | ⟨hall, _⟩
    · rfl
    · rw [hall j hj] at hr; cases hr
  · rcases h' with ⟨⟨j, hj, hr⟩, rfl⟩ | ⟨_, h'⟩
    · rw [hall j hj] at hr; cases hr
    · rcases h with ⟨hg, rfl⟩ | ⟨hg, hn, rfl⟩ | ⟨hg, y, k, m, hy, h1, h9, hc, hl, rfl⟩
      · rcases h' with ⟨_, rfl⟩ | ⟨_, _, rfl⟩ | ⟨hg', _⟩
        · rfl
        · rfl
        · rw [hg] at hg'; cases hg'
      · rcases h' with ⟨_, rfl⟩ | ⟨_, _, rfl⟩ | ⟨_, y, k, m, hy, h1, h9, hc, hl, _⟩
        · rfl
        · rfl
        · rw [hn y k hy h1 h9] at hc; cases hc
      · rcases h' with ⟨hg', _⟩ | ⟨_, hn, _⟩ | ⟨_, y', k', m', hy', h1', h9', hc', hl', rfl⟩
        · rw [hg] at hg'; cases hg'
        · rw [hn y k hy h1 h9] at hc; cases hc
        · have b := M.ga_bd hall y
          have b' := M.ga_bd hall y'
          have s := (M.isC_iff hall hg (M.rt_mk (l := (y : Int)) (a := M.ga L A n y) (o := 0) (by omega))).1 hc
          have s' := (M.isC_iff hall hg (M.rt_mk (l := (y' : Int)) (a := M.ga L A n y') (o := 0) (by omega))).1 hc'
          obtain ⟨e1, _, e3⟩ := M.Same.one s s' (by omega) (by omega) (decide_eq_true (by omega)) (decide_eq_true (by omega))
          obtain rfl : y = y' := by omega
          obtain rfl : k = k' := by omega
          have l1 := hl.le m' hl'.lt
          have l2 := hl'.le m hl.lt
          have r1 := M.rt_yes (hall m hl.lt)
          have r2 := M.rt_yes (hall m' hl'.lt)
          unfold M.st at l1 l2
          rw [show L m = L m' by omega]
theorem WhatRes.form {L A O : Nat → Int} {n : Nat} {e : Ending} (h : WhatRes L A O n e) : ∃ a b c d x : Int, e = .returned (.tuple #[chV a b c d, .int .i64 x]) := by
  rcases h with ⟨_, rfl⟩ | ⟨_, ⟨_, rfl⟩ | ⟨_, _, rfl⟩ | ⟨_, _, _, _, _, _, _, _, _, rfl⟩⟩ <;> exact ⟨_, _, _, _, _, rfl⟩
end Go.Proofs.YtdjdnjaijpafgabDoor
