/- What the program's follows comes to: may a line come from one state into another one? -/
import Derived.Test.YtmgkbnlmdhnjnaeU4
import Derived.Lib.QuietBelow
namespace Go.Proofs.Ytmgkbnlmdhnjnae.U
open Go.RowKit Go.Sort
set_option linter.unusedVariables false
set_option linter.unusedSimpArgs false

/-- How a search lies in memory. -/
structure SR (w : World) (sb : Nat) (r : M.Ru) (ao : Option Addr) (n c : Nat) (g : Nat → Int) (wb : Nat) : Prop where
  lt : sb < w.heap.size
  c0 : w.cell? ⟨sb, 0, none⟩ = some (.int .i64 r.low)
  c1 : w.cell? ⟨sb, 1, none⟩ = some (.int .i64 r.high)
  c2 : w.cell? ⟨sb, 2, none⟩ = some (.bool r.above)
  c3 : w.cell? ⟨sb, 3, none⟩ = some (.int .i64 r.leap)
  c4 : w.cell? ⟨sb, 4, none⟩ = some (.int .i64 r.classes)
  c5 : w.cell? ⟨sb, 5, none⟩ = some (.slice ao n c)
  c6 : w.cell? ⟨sb, 6, none⟩ = some (.slice (some ⟨wb, 0, none⟩) n n)
  li : LI w ao n g
theorem SR.step {w w' : World} {sb : Nat} {r : M.Ru} {ao : Option Addr} {n c : Nat} {g : Nat → Int} {wb : Nat} (h : SR w sb r ao n c g wb) (hb : Below w.heap.size w w') : SR w' sb r ao n c g wb :=
  ⟨Nat.lt_of_lt_of_le h.lt hb.size, keepC hb h.lt h.c0, keepC hb h.lt h.c1, keepC hb h.lt h.c2, keepC hb h.lt h.c3, keepC hb h.lt h.c4, keepC hb h.lt h.c5, keepC hb h.lt h.c6, h.li.step hb⟩

def M.fo (r : M.Ru) (g : Nat → Int) (i : Nat) (pk : Int) (pa : Bool) (k : Int) (a : Bool) : Bool := decide (a = (k == pk)) && decide (M.bb r g i pk pa k = 0)

set_option maxHeartbeats 4000000 in
theorem follows_any (r : M.Ru) (ao : Option Addr) (n c i : Nat) (g : Nat → Int) (sb wb : Nat) (pk : Int) (pa : Bool) (k : Int) (a : Bool) (w : World) (hs : SR w sb r ao n c g wb) (hc : n ≤ c) (hcm : c ≤ 9223372036854775807)
    (hk0 : 0 ≤ k) (hkm : k ≤ 127) (hp0 : -1 ≤ pk) (hpm : pk ≤ 127) (hi : i < n) (hn : n ≤ 64) (hg : ∀ j, j < n → 0 ≤ g j ∧ g j ≤ 127) :
    Calls Try.prog 56 #[.pointer (some ⟨sb, 0, none⟩), .int .i64 (i : Int), .agg #[.int .i64 pk, .bool pa], .agg #[.int .i64 k, .bool a]] w fun e w' => e = .returned (.bool (M.fo r g i pk pa k a)) ∧ Below w.heap.size w w' := by
  have HB := fun w hp => breaksBehind_any r ao n c i g pk pa k w hp hc hcm hk0 hkm hp0 hpm hi hn hg
  have HF : Hid (M.fo r g i pk pa k a = (decide (a = (k == pk)) && decide (M.bb r g i pk pa k = 0))) := rfl
  generalize M.fo r g i pk pa k a = V at *
  generalize M.bb r g i pk pa k = B at *
  obtain ⟨W, hW⟩ : ∃ W, W = (w.alloc (.cells #[.int .i64 pk, .bool pa] 55)).alloc (.cells #[.int .i64 k, .bool a] 55) := ⟨_, rfl⟩
  have hbW : Below w.heap.size w W := by rw [hW]; go_grown
  have sW : w.heap.size + 2 = W.heap.size := by rw [hW]; simp
  have x0 : W.cell? ⟨w.heap.size, 0, none⟩ = some (.int .i64 pk) := by rw [hW]; simp [go_sem]
  have x1 : W.cell? ⟨w.heap.size, 1, none⟩ = some (.bool pa) := by rw [hW]; simp [go_sem]
  have y0 : W.cell? ⟨w.heap.size + 1, 0, none⟩ = some (.int .i64 k) := by rw [hW]; simp [go_sem]
  have y1 : W.cell? ⟨w.heap.size + 1, 1, none⟩ = some (.bool a) := by rw [hW]; simp [go_sem]
  have hsW := hs.step hbW
  go_enter Try.func56, Try.ntmps56
  go_wp2_with fail
  rw [← hW]
  clear hW
  have kx0 := cell_regrown x0
  have kx1 := cell_regrown x1
  have ky0 := cell_regrown y0
  have ky1 := cell_regrown y1
  have k0 := cell_regrown hsW.c0
  have k1 := cell_regrown hsW.c1
  have k2 := cell_regrown hsW.c2
  have k3 := cell_regrown hsW.c3
  have k4 := cell_regrown hsW.c4
  have k5 := cell_regrown hsW.c5
  have cT : ∀ d os, Calls Try.prog 38 #[.agg #[.int .i64 pk, .bool pa], .int .i64 k] (grow (redrawn W d) os) fun e w'' => e = .returned (.agg #[.int .i64 k, .bool (k == pk)]) ∧ ∃ p : Regrown, w'' = grow (redrawn W p.d) p.os := fun d os => Calls.regrown_of (then_any pk k pa _)
  have cB : ∀ d os, Calls Try.prog 37 #[.agg #[.int .i64 r.low, .int .i64 r.high, .bool r.above, .int .i64 r.leap, .int .i64 r.classes], .slice ao n c, .int .i64 (i : Int), .agg #[.int .i64 pk, .bool pa], .int .i64 k] (grow (redrawn W d) os) fun e w'' => e = .returned (.int .i64 B) ∧ ∃ p : Regrown, w'' = grow (redrawn W p.d) p.os := fun d os => Calls.regrown_of (HB _ (hsW.li.step (below_regrown W d os)))
  clear HB hs x0 x1 y0 y1 hsW
  generalize hq : (k == pk) = q at *
  clear hq
  have hfin : ∀ d os, Below w.heap.size w (grow (redrawn W d) os) := fun d os => hbW.trans ((below_regrown W d os).mono (by omega))
  by_cases hB : B = 0
  · have hB' : (B == 0) = true := by simp [hB]
    cases q <;> cases a
    · have hV : V = true := by rw [HF.out]; simp [hB]
      subst hV
      clear HF hB
      refine wp_region_quiet_below (by kernel_rfl) (by kernel_rfl) ?_
      repeat (go_big_quiet_step (first | exact cT _ _ | exact cB _ _))
      refine wpQuiet_nil ?_
      intro _ hw'
      obtain ⟨⟨dq, osq⟩, hw''⟩ := hw'
      subst hw''
      go_wp2_with fail
      go_returns
      exact ⟨rfl, hfin _ _⟩
    · have hV : V = false := by rw [HF.out]; simp [hB]
      subst hV
      clear HF hB
      refine wp_region_quiet_below (by kernel_rfl) (by kernel_rfl) ?_
      repeat (go_big_quiet_step (first | exact cT _ _ | exact cB _ _))
      refine wpQuiet_nil ?_
      intro _ hw'
      obtain ⟨⟨dq, osq⟩, hw''⟩ := hw'
      subst hw''
      go_wp2_with fail
      go_returns
      exact ⟨rfl, hfin _ _⟩
    · have hV : V = false := by rw [HF.out]; simp [hB]
      subst hV
      clear HF hB
      refine wp_region_quiet_below (by kernel_rfl) (by kernel_rfl) ?_
      repeat (go_big_quiet_step (first | exact cT _ _ | exact cB _ _))
      refine wpQuiet_nil ?_
      intro _ hw'
      obtain ⟨⟨dq, osq⟩, hw''⟩ := hw'
      subst hw''
      go_wp2_with fail
      go_returns
      exact ⟨rfl, hfin _ _⟩
    · have hV : V = true := by rw [HF.out]; simp [hB]
      subst hV
      clear HF hB
      refine wp_region_quiet_below (by kernel_rfl) (by kernel_rfl) ?_
      repeat (go_big_quiet_step (first | exact cT _ _ | exact cB _ _))
      refine wpQuiet_nil ?_
      intro _ hw'
      obtain ⟨⟨dq, osq⟩, hw''⟩ := hw'
      subst hw''
      go_wp2_with fail
      go_returns
      exact ⟨rfl, hfin _ _⟩
  · have hB' : (B == 0) = false := by simp [hB]
    cases q <;> cases a
    · have hV : V = false := by rw [HF.out]; simp [hB]
      subst hV
      clear HF hB
      refine wp_region_quiet_below (by kernel_rfl) (by kernel_rfl) ?_
      repeat (go_big_quiet_step (first | exact cT _ _ | exact cB _ _))
      refine wpQuiet_nil ?_
      intro _ hw'
      obtain ⟨⟨dq, osq⟩, hw''⟩ := hw'
      subst hw''
      go_wp2_with fail
      go_returns
      exact ⟨rfl, hfin _ _⟩
    · have hV : V = false := by rw [HF.out]; simp [hB]
      subst hV
      clear HF hB
      refine wp_region_quiet_below (by kernel_rfl) (by kernel_rfl) ?_
      repeat (go_big_quiet_step (first | exact cT _ _ | exact cB _ _))
      refine wpQuiet_nil ?_
      intro _ hw'
      obtain ⟨⟨dq, osq⟩, hw''⟩ := hw'
      subst hw''
      go_wp2_with fail
      go_returns
      exact ⟨rfl, hfin _ _⟩
    · have hV : V = false := by rw [HF.out]; simp [hB]
      subst hV
      clear HF hB
      refine wp_region_quiet_below (by kernel_rfl) (by kernel_rfl) ?_
      repeat (go_big_quiet_step (first | exact cT _ _ | exact cB _ _))
      refine wpQuiet_nil ?_
      intro _ hw'
      obtain ⟨⟨dq, osq⟩, hw''⟩ := hw'
      subst hw''
      go_wp2_with fail
      go_returns
      exact ⟨rfl, hfin _ _⟩
    · have hV : V = false := by rw [HF.out]; simp [hB]
      subst hV
      clear HF hB
      refine wp_region_quiet_below (by kernel_rfl) (by kernel_rfl) ?_
      repeat (go_big_quiet_step (first | exact cT _ _ | exact cB _ _))
      refine wpQuiet_nil ?_
      intro _ hw'
      obtain ⟨⟨dq, osq⟩, hw''⟩ := hw'
      subst hw''
      go_wp2_with fail
      go_returns
      exact ⟨rfl, hfin _ _⟩
end Go.Proofs.Ytmgkbnlmdhnjnae.U
