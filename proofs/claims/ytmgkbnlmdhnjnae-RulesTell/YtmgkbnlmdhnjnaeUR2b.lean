/- The document's Breaks: the first place. -/
import Derived.Test.YtmgkbnlmdhnjnaeUR2a
namespace Go.Proofs.Ytmgkbnlmdhnjnae.U
open Go.RowKit Go.Maps Go.Sort
set_option linter.unusedVariables false
set_option linter.unusedSimpArgs false

set_option maxRecDepth 100000 in
set_option maxHeartbeats 40000000 in
theorem Breaks_first (r : M.Ru) (ao : Option Addr) (n c i : Nat) (g : Nat → Int) (bo : Option Addr) (l d : Nat) (x : Nat → Int) (w : World) (hp : LI w ao n g) (hc : n ≤ c) (hcm : c ≤ 9223372036854775807) (hq : LI w bo l x) (hd : l ≤ d) (hdm : d ≤ 9223372036854775807)
    (hr : r.Ok) (hi : i < n) (hil : i < l) (hn : n ≤ 64) (hg : ∀ j, j < n → 0 ≤ g j ∧ g j ≤ 127) (hk : 0 ≤ x i ∧ x i ≤ 127) (h0 : M.ba r g n i (x i) = 0) (e1 : i = 0) :
    Calls Try.prog 39 #[.agg #[.int .i64 r.low, .int .i64 r.high, .bool r.above, .int .i64 r.leap, .int .i64 r.classes], .slice ao n c, .slice bo l d, .int .i64 (i : Int)] w fun e w' => e = .returned (.int .i64 0) ∧ Below w.heap.size w w' := by
  obtain ⟨b, off, rfl, hbl, q⟩ := hp.at' (by omega)
  obtain ⟨b2, off2, rfl, hbl2, q2⟩ := hq.at' (by omega)
  have gi := hg i hi
  have r0 := q i hi
  have x0 := q2 i hil
  have HS := fun w => refSound_any (x i) (g i) w (by omega) (by omega) (by omega) (by omega)
  have HM := fun w => May_any r.classes (x i) w hr.c0 hr.cm hk.1 hk.2
  have hilI : (i : Int) < (l : Int) := by omega
  have hiI : (i : Int) < (n : Int) := by omega
  obtain ⟨G1, c4, c5, hE⟩ := M.ba_zero h0
  have c1 : ¬ x i < r.low := fun h => G1 (Or.inl h)
  have c2 : ¬ r.high < x i := fun h => G1 (Or.inr (Or.inl h))
  have hbd01 : 0 ≤ M.bit r.classes (x i) ∧ M.bit r.classes (x i) ≤ 1 := by unfold M.bit; omega
  have hm1 : decide (M.bit r.classes (x i) = 1) = true := by simp; omega
  rw [hm1] at HM
  have d3 : r.above = false ∨ (r.above = true ∧ ¬ x i < g i) := by
    cases h : r.above
    · exact Or.inl rfl
    · exact Or.inr ⟨rfl, fun h2 => c4 ⟨h, h2⟩⟩
  have hs6 : ¬ _ := fun h => c5 ((M.hs_iff _).2 h)
  have hp7 := M.pf_no (M.so (x i) (g i))
  have e1' : ((i : Int) == 0) = true := by simp [e1]
  clear q q2 hp hq hg hr h0 c4 hm1 hbd01 G1 c5
  generalize M.so (x i) (g i) = S at *
  have s1 : (S == 1) = false := by simp; omega
  have s2 : (S == 2) = false := by simp; omega
  have s5 : (S == 5) = false := by simp; omega
  have s6 : (S == 6) = false := by simp; omega
  have s10 : (S == 10) = false := by simp; omega
  have s11 : (S == 11) = false := by simp; omega
  have t07 : S = 0 ∨ (S = 7 ∧ i + 1 ≠ n) := by
    by_cases a : S = 0
    · exact Or.inl a
    · by_cases b : S = 7
      · exact Or.inr ⟨b, fun h => hE (Or.inr ⟨h, a⟩)⟩
      · exact absurd (Or.inl ⟨e1, hp7.2 (by omega)⟩) hE
  clear hE hp7 hs6
  rcases d3 with d3 | ⟨d3, d4⟩
  all_goals
    rw [d3]
    clear d3
    rcases t07 with t | ⟨t, tl⟩
    · have u1 : (S != 0) = false := by simp [t]
      by_cases tl : i + 1 = n
      · have v0 : ((i : Int) == (n : Int) - 1) = true := by simp; omega
        clear t tl e1
        go_enter Try.func39, Try.ntmps39
        go_wp2_with fail
        refine (HS _).mono ?_
        rintro e w1 ⟨rfl, hw⟩
        rw [hw]
        clear hw
        go_wp2_with fail
        refine (HM _).mono ?_
        rintro e w1 ⟨rfl, hw⟩
        rw [hw]
        clear hw
        go_wp2_with fail
        go_returns
        exact ⟨rfl, by go_grown⟩
      · have v0 : ((i : Int) == (n : Int) - 1) = false := by simp; omega
        clear t tl e1
        go_enter Try.func39, Try.ntmps39
        go_wp2_with fail
        refine (HS _).mono ?_
        rintro e w1 ⟨rfl, hw⟩
        rw [hw]
        clear hw
        go_wp2_with fail
        refine (HM _).mono ?_
        rintro e w1 ⟨rfl, hw⟩
        rw [hw]
        clear hw
        go_wp2_with fail
        go_returns
        exact ⟨rfl, by go_grown⟩
    · have u1 : (S != 0) = true := by simp [t]
      have u2 : (S != 7) = false := by simp [t]
      have v0 : ((i : Int) == (n : Int) - 1) = false := by simp; omega
      clear t tl e1
      go_enter Try.func39, Try.ntmps39
      go_wp2_with fail
      refine (HS _).mono ?_
      rintro e w1 ⟨rfl, hw⟩
      rw [hw]
      clear hw
      go_wp2_with fail
      refine (HM _).mono ?_
      rintro e w1 ⟨rfl, hw⟩
      rw [hw]
      clear hw
      go_wp2_with fail
      go_returns
      exact ⟨rfl, by go_grown⟩
end Go.Proofs.Ytmgkbnlmdhnjnae.U
