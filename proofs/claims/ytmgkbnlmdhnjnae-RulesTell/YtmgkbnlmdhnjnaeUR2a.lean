/- The document's Breaks: what a key breaks alone. -/
import Derived.Test.YtmgkbnlmdhnjnaeUR1
namespace Go.Proofs.Ytmgkbnlmdhnjnae.U
open Go.RowKit Go.Maps Go.Sort
set_option linter.unusedVariables false
set_option linter.unusedSimpArgs false

/-- What a key breaks at place i, behind pk (pa: the one ahead of pk is the same). -/
def M.bq (r : M.Ru) (g : Nat → Int) (n i : Nat) (k pk : Int) (pa : Bool) : Int := if M.ba r g n i k = 0 then M.bb r g i pk pa k else M.ba r g n i k
theorem M.bq_ba {r : M.Ru} {g : Nat → Int} {n i : Nat} {k pk : Int} {pa : Bool} (h : M.ba r g n i k ≠ 0) : M.bq r g n i k pk pa = M.ba r g n i k := by unfold M.bq; rw [if_neg h]
theorem M.bq_bb {r : M.Ru} {g : Nat → Int} {n i : Nat} {k pk : Int} {pa : Bool} (h : M.ba r g n i k = 0) : M.bq r g n i k pk pa = M.bb r g i pk pa k := by unfold M.bq; rw [if_pos h]
theorem M.hs_iff (s : Int) : M.hs s = true ↔ (s = 1 ∨ s = 2 ∨ s = 5 ∨ s = 6 ∨ s = 10 ∨ s = 11) := by unfold M.hs; simp
theorem M.pf_no (s : Int) : M.pf s = false ↔ ¬ (s = 0 ∨ s = 7) := by unfold M.pf; simp
theorem M.pf_yes (s : Int) : M.pf s = true ↔ (s = 0 ∨ s = 7) := by unfold M.pf; simp
theorem M.ba_zero {r : M.Ru} {g : Nat → Int} {n i : Nat} {k : Int} (h : M.ba r g n i k = 0) : ¬ (k < r.low ∨ r.high < k ∨ M.bit r.classes k = 0) ∧ ¬ (r.above = true ∧ k < g i) ∧ ¬ M.hs (M.so k (g i)) = true ∧ ¬ ((i = 0 ∧ M.pf (M.so k (g i)) = false) ∨ (i + 1 = n ∧ M.so k (g i) ≠ 0)) := by
  by_cases a : k < r.low ∨ r.high < k ∨ M.bit r.classes k = 0
  · rw [M.ba_range a] at h; cases h
  by_cases b : r.above = true ∧ k < g i
  · rw [M.ba_cross a b] at h; cases h
  by_cases c : M.hs (M.so k (g i)) = true
  · rw [M.ba_sound a b c] at h; cases h
  by_cases d : (i = 0 ∧ M.pf (M.so k (g i)) = false) ∨ (i + 1 = n ∧ M.so k (g i) ≠ 0)
  · rw [M.ba_ends a b c d] at h; cases h
  exact ⟨a, b, c, d⟩

set_option maxRecDepth 100000 in
set_option maxHeartbeats 40000000 in
theorem Breaks_alone (r : M.Ru) (ao : Option Addr) (n c i : Nat) (g : Nat → Int) (bo : Option Addr) (l d : Nat) (x : Nat → Int) (w : World) (hp : LI w ao n g) (hc : n ≤ c) (hcm : c ≤ 9223372036854775807) (hq : LI w bo l x) (hd : l ≤ d) (hdm : d ≤ 9223372036854775807)
    (hr : r.Ok) (hi : i < n) (hil : i < l) (hn : n ≤ 64) (hg : ∀ j, j < n → 0 ≤ g j ∧ g j ≤ 127) (hk : 0 ≤ x i ∧ x i ≤ 127) (h0 : M.ba r g n i (x i) ≠ 0) :
    Calls Try.prog 39 #[.agg #[.int .i64 r.low, .int .i64 r.high, .bool r.above, .int .i64 r.leap, .int .i64 r.classes], .slice ao n c, .slice bo l d, .int .i64 (i : Int)] w fun e w' => e = .returned (.int .i64 (M.ba r g n i (x i))) ∧ Below w.heap.size w w' := by
  obtain ⟨b, off, rfl, hbl, q⟩ := hp.at' (by omega)
  obtain ⟨b2, off2, rfl, hbl2, q2⟩ := hq.at' (by omega)
  have gi := hg i hi
  have r0 := q i hi
  have x0 := q2 i hil
  have HS := fun w => refSound_any (x i) (g i) w (by omega) (by omega) (by omega) (by omega)
  have HM := fun w => May_any r.classes (x i) w hr.c0 hr.cm hk.1 hk.2
  have hilI : (i : Int) < (l : Int) := by omega
  have hiI : (i : Int) < (n : Int) := by omega
  have hbd01 : 0 ≤ M.bit r.classes (x i) ∧ M.bit r.classes (x i) ≤ 1 := by unfold M.bit; omega
  by_cases c1 : x i < r.low
  · rw [M.ba_range (Or.inl c1)]
    clear q q2 hp hq hg hr h0
    go_enter Try.func39, Try.ntmps39
    go_wp2_with fail
    refine (HS _).mono ?_
    rintro e w1 ⟨rfl, hw⟩
    rw [hw]
    clear hw
    go_wp2_with fail
    go_returns
    exact ⟨rfl, by go_grown⟩
  by_cases c2 : r.high < x i
  · rw [M.ba_range (Or.inr (Or.inl c2))]
    clear q q2 hp hq hg hr h0
    go_enter Try.func39, Try.ntmps39
    go_wp2_with fail
    refine (HS _).mono ?_
    rintro e w1 ⟨rfl, hw⟩
    rw [hw]
    clear hw
    go_wp2_with fail
    go_returns
    exact ⟨rfl, by go_grown⟩
  by_cases c3 : M.bit r.classes (x i) = 0
  · rw [M.ba_range (Or.inr (Or.inr c3))]
    have hm1 : decide (M.bit r.classes (x i) = 1) = false := by simp [c3]
    rw [hm1] at HM
    clear q q2 hp hq hg hr h0 c3 hm1 hbd01
    go_enter Try.func39, Try.ntmps39
    go_wp2_with fail
    refine (HS _).mono ?_
    rintro e w1 ⟨rfl, hw⟩
    rw [hw]
    clear hw
    go_wp2_with fail
    refine (HM _).mono ?_
    rintro e w1 ⟨rfl, hw⟩
    rw [hw]
    clear hw
    go_wp2_with fail
    go_returns
    exact ⟨rfl, by go_grown⟩
  have hm1 : decide (M.bit r.classes (x i) = 1) = true := by simp; omega
  rw [hm1] at HM
  have G1 : ¬ (x i < r.low ∨ r.high < x i ∨ M.bit r.classes (x i) = 0) := by omega
  by_cases c4 : r.above = true ∧ x i < g i
  · rw [M.ba_cross G1 c4]
    have d1 := c4.1
    have d2 := c4.2
    rw [d1]
    clear q q2 hp hq hg hr h0 c4 hm1 hbd01 G1 c3 d1
    go_enter Try.func39, Try.ntmps39
    go_wp2_with fail
    refine (HS _).mono ?_
    rintro e w1 ⟨rfl, hw⟩
    rw [hw]
    clear hw
    go_wp2_with fail
    refine (HM _).mono ?_
    rintro e w1 ⟨rfl, hw⟩
    rw [hw]
    clear hw
    go_wp2_with fail
    go_returns
    exact ⟨rfl, by go_grown⟩
  have d1 : (r.above && decide (x i < g i)) = false := by
    cases h : r.above
    · rfl
    · simp only [h, true_and] at c4; simp [c4]
  have d3 : r.above = false ∨ (r.above = true ∧ ¬ x i < g i) := by
    cases h : r.above
    · exact Or.inl rfl
    · exact Or.inr ⟨rfl, fun h2 => c4 ⟨h, h2⟩⟩
  by_cases c5 : M.hs (M.so (x i) (g i)) = true
  · rw [M.ba_sound G1 c4 c5]
    have hs6 := (M.hs_iff _).1 c5
    clear q q2 hp hq hg hr h0 c4 hm1 hbd01 G1 c3 c5 d1
    generalize M.so (x i) (g i) = S at *
    rcases d3 with d3 | ⟨d3, d4⟩ <;> rcases hs6 with h | h | h | h | h | h
    all_goals
      subst h
      rw [d3]
      clear d3
      go_enter Try.func39, Try.ntmps39
      go_wp2_with fail
      refine (HS _).mono ?_
      rintro e w1 ⟨rfl, hw⟩
      rw [hw]
      clear hw
      go_wp2_with fail
      refine (HM _).mono ?_
      rintro e w1 ⟨rfl, hw⟩
      rw [hw]
      clear hw
      go_wp2_with fail
      go_returns
      exact ⟨rfl, by go_grown⟩
  have hE : (i = 0 ∧ M.pf (M.so (x i) (g i)) = false) ∨ (i + 1 = n ∧ M.so (x i) (g i) ≠ 0) := by
    by_cases h : (i = 0 ∧ M.pf (M.so (x i) (g i)) = false) ∨ (i + 1 = n ∧ M.so (x i) (g i) ≠ 0)
    · exact h
    · exact absurd (M.ba_none G1 c4 c5 h) h0
  rw [M.ba_ends G1 c4 c5 hE]
  have hs6 : ¬ _ := fun h => c5 ((M.hs_iff _).2 h)
  have hp7 := M.pf_no (M.so (x i) (g i))
  clear q q2 hp hq hg hr h0 c4 hm1 hbd01 G1 c3 c5 d1
  generalize M.so (x i) (g i) = S at *
  have s1 : (S == 1) = false := by simp; omega
  have s2 : (S == 2) = false := by simp; omega
  have s5 : (S == 5) = false := by simp; omega
  have s6 : (S == 6) = false := by simp; omega
  have s10 : (S == 10) = false := by simp; omega
  have s11 : (S == 11) = false := by simp; omega
  rcases d3 with d3 | ⟨d3, d4⟩
  all_goals
    rw [d3]
    clear d3 hs6
    by_cases e1 : i = 0
    · have e1' : ((i : Int) == 0) = true := by simp [e1]
      by_cases t7 : S = 7
      · have tl : i + 1 = n := by
          rcases hE with h | h
          · exact absurd (Or.inr t7) (hp7.1 h.2)
          · exact h.1
        have u1 : (S != 0) = true := by simp [t7]
        have u2 : (S != 7) = false := by simp [t7]
        have v0 : ((i : Int) == (n : Int) - 1) = true := by simp; omega
        clear hE hp7 e1 t7 tl
        go_enter Try.func39, Try.ntmps39
        go_wp2_with fail
        refine (HS _).mono ?_
        rintro e w1 ⟨rfl, hw⟩
        rw [hw]
        clear hw
        go_wp2_with fail
        refine (HM _).mono ?_
        rintro e w1 ⟨rfl, hw⟩
        rw [hw]
        clear hw
        go_wp2_with fail
        go_returns
        exact ⟨rfl, by go_grown⟩
      · have t0 : S ≠ 0 := by
          rcases hE with h | h
          · exact fun h2 => hp7.1 h.2 (Or.inl h2)
          · exact h.2
        have u1 : (S != 0) = true := by simp [t0]
        have u2 : (S != 7) = true := by simp [t7]
        clear hE hp7 e1 t7 t0
        go_enter Try.func39, Try.ntmps39
        go_wp2_with fail
        refine (HS _).mono ?_
        rintro e w1 ⟨rfl, hw⟩
        rw [hw]
        clear hw
        go_wp2_with fail
        refine (HM _).mono ?_
        rintro e w1 ⟨rfl, hw⟩
        rw [hw]
        clear hw
        go_wp2_with fail
        go_returns
        exact ⟨rfl, by go_grown⟩
    · have e1' : ((i : Int) == 0) = false := by simp; omega
      have tl : i + 1 = n ∧ S ≠ 0 := by
        rcases hE with h | h
        · exact absurd h.1 e1
        · exact h
      have u1 : (S != 0) = true := by simp [tl.2]
      have v0 : ((i : Int) == (n : Int) - 1) = true := by simp; omega
      clear hE hp7 e1 tl
      go_enter Try.func39, Try.ntmps39
      go_wp2_with fail
      refine (HS _).mono ?_
      rintro e w1 ⟨rfl, hw⟩
      rw [hw]
      clear hw
      go_wp2_with fail
      refine (HM _).mono ?_
      rintro e w1 ⟨rfl, hw⟩
      rw [hw]
      clear hw
      go_wp2_with fail
      go_returns
      exact ⟨rfl, by go_grown⟩
end Go.Proofs.Ytmgkbnlmdhnjnae.U
