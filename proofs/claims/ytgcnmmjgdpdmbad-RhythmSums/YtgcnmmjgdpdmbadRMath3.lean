/- Plain facts on the loops that write a length. -/
import Derived.Test.YtgcnmmjgdpdmbadRMath2
namespace Go.Proofs.Ytgcnmmjgdpdmbad.F.M

/-- Ahead of a round: X parts are left, H halves come next, j values have come. -/
def OutI (r j : Nat) (X H : Int) : Prop := ∃ l hn : Nat, X = l ∧ H = hn ∧ 1 ≤ hn ∧ hn ≤ 11 ∧ l < 2 ^ (11 - hn) ∧ l < 1024 ∧ (tl r).drop j = tl l ∧ j ≤ (tl r).length
/-- Within a round: d dots have come, p the next one. -/
def InI (r j : Nat) (H X p d : Int) : Prop := ∃ l hn n px xx dd : Nat, H = hn ∧ X = xx ∧ p = px ∧ d = dd ∧ l < 1024 ∧ 0 < l ∧ (tl r).drop j = tl l ∧ j ≤ (tl r).length ∧ hv l = hn ∧ 1 ≤ hn ∧ hn ≤ 10 ∧ dd + n = 3 ∧ dd + inD n px xx = dt l ∧ inL n px xx = rs l

theorem tl_len (r : Nat) (hr : r < 1024) : (tl r).length ≤ 5 := by
  by_cases h : r = 0
  · rw [h, tl_zero]; simp
  · exact (tl_step r hr (by omega)).2.2.2.2.2.2.2
theorem out_start (r : Nat) (hr : r < 1024) : OutI r 0 r 1 := ⟨r, 1, rfl, rfl, by omega, by omega, by omega, hr, rfl, by omega⟩
theorem out_end (q r j : Nat) (H : Int) (h : OutI r j 0 H) : q + j = eN q r := by
  obtain ⟨l, hn, h1, h2, h3, h4, h5, h6, h7, h8⟩ := h
  obtain rfl : l = 0 := by omega
  have := drop_end r j h7 h8
  unfold eN; omega
theorem out_len (r j : Nat) (X H : Int) (hr : r < 1024) (h : OutI r j X H) : j ≤ 5 := by
  obtain ⟨l, hn, h1, h2, h3, h4, h5, h6, h7, h8⟩ := h
  have := tl_len r hr; omega
theorem out_bd (r j : Nat) (X H : Int) (h : OutI r j X H) : 0 ≤ X ∧ X ≤ 1023 ∧ 1 ≤ H ∧ H ≤ 11 := by
  obtain ⟨l, hn, h1, h2, h3, h4, h5, h6, h7, h8⟩ := h
  omega
/-- The part that is looked at. -/
def pt (H : Int) : Int := ((2 ^ (10 - H.toNat) : Nat) : Int)
theorem out_go (r j : Nat) (X H : Int) (h : OutI r j X H) (h0 : 0 < X) : H ≤ 10 ∧ 1 ≤ pt H ∧ pt H ≤ 512 ∧ (X < pt H → OutI r j X (H + 1)) ∧ (pt H ≤ X → InI r j H (X - pt H) (pt H / 2) 0) := by
  obtain ⟨l, hn, rfl, rfl, h3, h4, h5, h6, h7, h8⟩ := h
  have h9 : hn ≤ 10 := by
    by_cases e : hn = 11
    · subst e; simp at h5; omega
    · omega
  have e1 : pt hn = ((2 ^ (10 - hn) : Nat) : Int) := by unfold pt; simp
  have p1 : 1 ≤ 2 ^ (10 - hn) := Nat.pow_pos (by omega)
  have p2 : 2 ^ (10 - hn) ≤ 2 ^ 9 := Nat.pow_le_pow_right (by omega) (by omega)
  rw [e1]
  refine ⟨by omega, by omega, by omega, fun hx => ?_, fun hx => ?_⟩
  · exact ⟨l, hn + 1, rfl, by omega, by omega, by omega, by rw [show 11 - (hn + 1) = 10 - hn by omega]; omega, h6, h7, h8⟩
  · have hv' := hv_is l hn h6 h3 h9 (by omega) h5
    refine ⟨l, hn, 3, 2 ^ (10 - hn) / 2, l - 2 ^ (10 - hn), 0, rfl, by omega, by omega, rfl, h6, by omega, h7, h8, hv', h3, h9, rfl, ?_, ?_⟩
    · unfold dt; rw [hv']; omega
    · unfold rs; rw [hv']
theorem in_bd (r j : Nat) (H X p d : Int) (h : InI r j H X p d) : 0 ≤ X ∧ 0 ≤ p ∧ 0 ≤ d ∧ d ≤ 3 ∧ 1 ≤ H ∧ H ≤ 10 := by
  obtain ⟨l, hn, n, px, xx, dd, rfl, rfl, rfl, rfl, h1, h2, h3, h4, h5, h6, h7, h8, h9, h10⟩ := h
  omega
theorem in_step (r j : Nat) (H X p d : Int) (h : InI r j H X p d) (h1 : 0 < X) (h2 : p ≤ X) (h3 : d < 3) : InI r j H (X - p) (p / 2) (d + 1) := by
  obtain ⟨l, hn, n, px, xx, dd, rfl, rfl, rfl, rfl, g1, g2, g3, g4, g5, g6, g7, g8, g9, g10⟩ := h
  obtain ⟨m, rfl⟩ : ∃ m, n = m + 1 := ⟨n - 1, by omega⟩
  have hc : 0 < xx ∧ px ≤ xx := by omega
  refine ⟨l, hn, m, px / 2, xx - px, dd + 1, rfl, by omega, by omega, by omega, g1, g2, g3, g4, g5, g6, g7, by omega, ?_, ?_⟩
  · rw [inD, if_pos hc] at g9; omega
  · rw [inL, if_pos hc] at g10; exact g10
theorem in_end (r j : Nat) (H X p d : Int) (h : InI r j H X p d) (hc : ¬ (0 < X ∧ p ≤ X ∧ d < 3)) : OutI r (j + 1) X (H + 1) ∧ ∃ hn dd : Nat, H = hn ∧ d = dd ∧ (tl r)[j]? = some (hn, dd) := by
  obtain ⟨l, hn, n, px, xx, dd, rfl, rfl, rfl, rfl, g1, g2, g3, g4, g5, g6, g7, g8, g9, g10⟩ := h
  have e : dd = dt l ∧ xx = rs l := by
    cases n with
    | zero => simp [inD] at g9; simp [inL] at g10; exact ⟨g9, g10⟩
    | succ n =>
      have hc' : ¬ (0 < xx ∧ px ≤ xx) := by omega
      rw [inD, if_neg hc'] at g9; rw [inL, if_neg hc'] at g10
      exact ⟨by omega, g10⟩
  obtain ⟨d1, d2⟩ := drop_head r l j g1 g2 g3
  have d3 := drop_some r l j g1 g2 g3
  obtain ⟨s1, s2, s3, s4, s5, s6, s7, s8⟩ := tl_step l g1 g2
  refine ⟨⟨xx, hn + 1, rfl, by omega, by omega, by omega, ?_, ?_, by rw [d2, e.2], by omega⟩, hn, dd, rfl, rfl, by rw [d1, g5, e.1]⟩
  · rw [show 11 - (hn + 1) = 10 - hn by omega, ← g5, e.2]; exact s5
  · have : 2 ^ (10 - hv l) ≤ 2 ^ 10 := Nat.pow_le_pow_right (by omega) (by omega)
    omega
end Go.Proofs.Ytgcnmmjgdpdmbad.F.M
