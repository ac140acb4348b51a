/- The law RulesMoved: what is kept; the ways out at once. -/
import Derived.Test.YtmgkbnlmdhnjnafU14
import Derived.Test.YtmgkbnlmdhnjnafUMath7
import Derived.Test.YtmgkbnlmdhnjnafUOpen
namespace Go.Proofs.Ytmgkbnlmdhnjnaf.U
open Go.RowKit Go.Maps Go.Sort
set_option linter.unusedVariables false
set_option linter.unusedSimpArgs false

/-- What is kept from the list that is made on: r, the given line, the moved one, s. -/
structure MvI (w : World) (wr : World) (S : Nat) (r : M.Ru) (L H C : Int) (v : Value) (n : Nat) (g : Nat → Int) : Prop where
  bel : Below w.heap.size w wr
  rs : w.heap.size < wr.heap.size
  ss : S < wr.heap.size
  sw : w.heap.size < S
  r0 : wr.cell? ⟨w.heap.size, 0, none⟩ = some (.int .i64 r.low)
  r1 : wr.cell? ⟨w.heap.size, 1, none⟩ = some (.int .i64 r.high)
  r2 : wr.cell? ⟨w.heap.size, 2, none⟩ = some (.bool r.above)
  r3 : wr.cell? ⟨w.heap.size, 3, none⟩ = some (.int .i64 r.leap)
  r4 : wr.cell? ⟨w.heap.size, 4, none⟩ = some (.int .i64 r.classes)
  s0 : wr.cell? ⟨S, 0, none⟩ = some (.int .i64 L)
  s1 : wr.cell? ⟨S, 1, none⟩ = some (.int .i64 H)
  s2 : wr.cell? ⟨S, 2, none⟩ = some (.bool r.above)
  s3 : wr.cell? ⟨S, 3, none⟩ = some (.int .i64 r.leap)
  s4 : wr.cell? ⟨S, 4, none⟩ = some (.int .i64 C)
  f4 : wr.frozen? ⟨S, 4, none⟩ = false
  own : wr.ownsRow w.heap.size 3 1 v n (rows (ic g) n)
  ne : v.ownBlock ≠ some S
theorem MvI.set {w wr : World} {S : Nat} {r : M.Ru} {L H C : Int} {v : Value} {n : Nat} {g : Nat → Int} (h : MvI w wr S r L H C v n g) (D : Int) : MvI w (wr.setCell ⟨S, 4, none⟩ (.int .i64 D)) S r L H D v n g := by
  have hne : w.heap.size ≠ S := by have := h.sw; omega
  have k : ∀ {j : Nat} {u : Value}, wr.cell? ⟨w.heap.size, j, none⟩ = some u → (wr.setCell ⟨S, 4, none⟩ (.int .i64 D)).cell? ⟨w.heap.size, j, none⟩ = some u := fun h => (World.cell?_setCell_other _ _ _ _ (by intro e; cases e; exact hne rfl)).trans h
  have k2 : ∀ {j : Nat} {u : Value}, j ≠ 4 → wr.cell? ⟨S, j, none⟩ = some u → (wr.setCell ⟨S, 4, none⟩ (.int .i64 D)).cell? ⟨S, j, none⟩ = some u := fun hj h => (World.cell?_setCell_other _ _ _ _ (by intro e; cases e; exact hj rfl)).trans h
  exact ⟨h.bel.setCell (by have := h.sw; simp; omega) _, by simpa using h.rs, by simpa using h.ss, h.sw, k h.r0, k h.r1, k h.r2, k h.r3, k h.r4, k2 (by omega) h.s0, k2 (by omega) h.s1, k2 (by omega) h.s2, k2 (by omega) h.s3,
    World.cell?_setCell_same _ _ _ h.s4, by simpa using h.f4, ownsRow_setCell_other h.own h.ne _, h.ne⟩
theorem MvI.step {w wr wx : World} {S : Nat} {r : M.Ru} {L H C : Int} {v : Value} {n : Nat} {g : Nat → Int} (h : MvI w wr S r L H C v n g) (hb : Below wr.heap.size wr wx) : MvI w wx S r L H C v n g :=
  ⟨h.bel.trans (hb.mono (Nat.le_of_lt h.rs)), Nat.lt_of_lt_of_le h.rs hb.size, Nat.lt_of_lt_of_le h.ss hb.size, h.sw, keepC hb h.rs h.r0, keepC hb h.rs h.r1, keepC hb h.rs h.r2, keepC hb h.rs h.r3, keepC hb h.rs h.r4,
    keepC hb h.ss h.s0, keepC hb h.ss h.s1, keepC hb h.ss h.s2, keepC hb h.ss h.s3, keepC hb h.ss h.s4, keepF hb h.ss h.f4, own_step h.own hb, h.ne⟩

set_option maxRecDepth 100000 in
set_option maxHeartbeats 8000000 in
theorem moved_early (r : M.Ru) (ao : Option Addr) (n c : Nat) (g : Nat → Int) (y : Int) (w : World) (hp : LI w ao n g) (hc : n ≤ c) (hcm : c ≤ 9223372036854775807) (hby : n * 8 ≤ 140737488355328) (bl : B64 r.low) (bh : B64 r.high) (bc : B64 r.classes) (hy : B64 y)
    (he : y < 1 ∨ 127 < y ∨ r.high < 0 ∨ 127 < r.low ∨ 127 < IntKind.i64.wrap (r.high + y) ∨ r.classes < 0 ∨ 4095 < r.classes) :
    Calls Try.prog 4 #[.agg #[.int .i64 r.low, .int .i64 r.high, .bool r.above, .int .i64 r.leap, .int .i64 r.classes], .slice ao n c, .int .i64 y] w fun e w' => e = .returned (.bool true) ∧ Below w.heap.size w w' := by
  obtain ⟨bl0, bl1⟩ := bl
  obtain ⟨bh0, bh1⟩ := bh
  by_cases c1 : y < 1
  · clear he bl0 bl1 bh0 bh1 bc hp
    go_enter Try.func4, Try.ntmps4
    go_wp2_with fail
    refine (alive_any _).mono ?_
    rintro e w1 ⟨rfl, hb1⟩
    have q0 := keepC hb1 (by simp) (show (w.alloc (.cells #[.int .i64 r.low, .int .i64 r.high, .bool r.above, .int .i64 r.leap, .int .i64 r.classes] 23)).cell? ⟨w.heap.size, 0, none⟩ = some (.int .i64 r.low) by simp [go_sem])
    have q1 := keepC hb1 (by simp) (show (w.alloc (.cells #[.int .i64 r.low, .int .i64 r.high, .bool r.above, .int .i64 r.leap, .int .i64 r.classes] 23)).cell? ⟨w.heap.size, 1, none⟩ = some (.int .i64 r.high) by simp [go_sem])
    have q4 := keepC hb1 (by simp) (show (w.alloc (.cells #[.int .i64 r.low, .int .i64 r.high, .bool r.above, .int .i64 r.leap, .int .i64 r.classes] 23)).cell? ⟨w.heap.size, 4, none⟩ = some (.int .i64 r.classes) by simp [go_sem])
    have sW : w.heap.size < w1.heap.size := by have := hb1.size; simp at this; omega
    have k1 : Below w.heap.size w w1 := Below.trans (by go_grown) (hb1.mono (by simp))
    go_wp2_with fail
    go_returns
    exact ⟨rfl, k1⟩
  by_cases c2 : 127 < y
  · clear he bl0 bl1 bh0 bh1 bc hp
    go_enter Try.func4, Try.ntmps4
    go_wp2_with fail
    refine (alive_any _).mono ?_
    rintro e w1 ⟨rfl, hb1⟩
    have q0 := keepC hb1 (by simp) (show (w.alloc (.cells #[.int .i64 r.low, .int .i64 r.high, .bool r.above, .int .i64 r.leap, .int .i64 r.classes] 23)).cell? ⟨w.heap.size, 0, none⟩ = some (.int .i64 r.low) by simp [go_sem])
    have q1 := keepC hb1 (by simp) (show (w.alloc (.cells #[.int .i64 r.low, .int .i64 r.high, .bool r.above, .int .i64 r.leap, .int .i64 r.classes] 23)).cell? ⟨w.heap.size, 1, none⟩ = some (.int .i64 r.high) by simp [go_sem])
    have q4 := keepC hb1 (by simp) (show (w.alloc (.cells #[.int .i64 r.low, .int .i64 r.high, .bool r.above, .int .i64 r.leap, .int .i64 r.classes] 23)).cell? ⟨w.heap.size, 4, none⟩ = some (.int .i64 r.classes) by simp [go_sem])
    have sW : w.heap.size < w1.heap.size := by have := hb1.size; simp at this; omega
    have k1 : Below w.heap.size w w1 := Below.trans (by go_grown) (hb1.mono (by simp))
    go_wp2_with fail
    go_returns
    exact ⟨rfl, k1⟩
  obtain ⟨b, rfl⟩ : ∃ b : Nat, y = b := ⟨y.toNat, by omega⟩
  by_cases c3 : r.high < 0
  · clear he bl0 bl1 bh0 bh1 bc hp
    go_enter Try.func4, Try.ntmps4
    go_wp2_with fail
    refine (alive_any _).mono ?_
    rintro e w1 ⟨rfl, hb1⟩
    have q0 := keepC hb1 (by simp) (show (w.alloc (.cells #[.int .i64 r.low, .int .i64 r.high, .bool r.above, .int .i64 r.leap, .int .i64 r.classes] 23)).cell? ⟨w.heap.size, 0, none⟩ = some (.int .i64 r.low) by simp [go_sem])
    have q1 := keepC hb1 (by simp) (show (w.alloc (.cells #[.int .i64 r.low, .int .i64 r.high, .bool r.above, .int .i64 r.leap, .int .i64 r.classes] 23)).cell? ⟨w.heap.size, 1, none⟩ = some (.int .i64 r.high) by simp [go_sem])
    have q4 := keepC hb1 (by simp) (show (w.alloc (.cells #[.int .i64 r.low, .int .i64 r.high, .bool r.above, .int .i64 r.leap, .int .i64 r.classes] 23)).cell? ⟨w.heap.size, 4, none⟩ = some (.int .i64 r.classes) by simp [go_sem])
    have sW : w.heap.size < w1.heap.size := by have := hb1.size; simp at this; omega
    have k1 : Below w.heap.size w w1 := Below.trans (by go_grown) (hb1.mono (by simp))
    go_wp2_with fail
    go_returns
    exact ⟨rfl, k1⟩
  by_cases c4 : 127 < r.low
  · clear he bl0 bl1 bh0 bh1 bc hp
    go_enter Try.func4, Try.ntmps4
    go_wp2_with fail
    refine (alive_any _).mono ?_
    rintro e w1 ⟨rfl, hb1⟩
    have q0 := keepC hb1 (by simp) (show (w.alloc (.cells #[.int .i64 r.low, .int .i64 r.high, .bool r.above, .int .i64 r.leap, .int .i64 r.classes] 23)).cell? ⟨w.heap.size, 0, none⟩ = some (.int .i64 r.low) by simp [go_sem])
    have q1 := keepC hb1 (by simp) (show (w.alloc (.cells #[.int .i64 r.low, .int .i64 r.high, .bool r.above, .int .i64 r.leap, .int .i64 r.classes] 23)).cell? ⟨w.heap.size, 1, none⟩ = some (.int .i64 r.high) by simp [go_sem])
    have q4 := keepC hb1 (by simp) (show (w.alloc (.cells #[.int .i64 r.low, .int .i64 r.high, .bool r.above, .int .i64 r.leap, .int .i64 r.classes] 23)).cell? ⟨w.heap.size, 4, none⟩ = some (.int .i64 r.classes) by simp [go_sem])
    have sW : w.heap.size < w1.heap.size := by have := hb1.size; simp at this; omega
    have k1 : Below w.heap.size w w1 := Below.trans (by go_grown) (hb1.mono (by simp))
    go_wp2_with fail
    go_returns
    exact ⟨rfl, k1⟩
  obtain ⟨H, hH⟩ : ∃ H, IntKind.i64.wrap (r.high + (b : Int)) = H := ⟨_, rfl⟩
  have hH2 : H = r.high + b ∨ (H < 0 ∧ 127 < r.high) := by rw [← hH, IntKind.wrap_i64]; omega
  by_cases c5 : 127 < H
  · clear he bl0 bl1 bh0 bh1 bc hp hH2
    go_enter Try.func4, Try.ntmps4
    go_wp2_with fail
    refine (alive_any _).mono ?_
    rintro e w1 ⟨rfl, hb1⟩
    have q0 := keepC hb1 (by simp) (show (w.alloc (.cells #[.int .i64 r.low, .int .i64 r.high, .bool r.above, .int .i64 r.leap, .int .i64 r.classes] 23)).cell? ⟨w.heap.size, 0, none⟩ = some (.int .i64 r.low) by simp [go_sem])
    have q1 := keepC hb1 (by simp) (show (w.alloc (.cells #[.int .i64 r.low, .int .i64 r.high, .bool r.above, .int .i64 r.leap, .int .i64 r.classes] 23)).cell? ⟨w.heap.size, 1, none⟩ = some (.int .i64 r.high) by simp [go_sem])
    have q4 := keepC hb1 (by simp) (show (w.alloc (.cells #[.int .i64 r.low, .int .i64 r.high, .bool r.above, .int .i64 r.leap, .int .i64 r.classes] 23)).cell? ⟨w.heap.size, 4, none⟩ = some (.int .i64 r.classes) by simp [go_sem])
    have sW : w.heap.size < w1.heap.size := by have := hb1.size; simp at this; omega
    have k1 : Below w.heap.size w w1 := Below.trans (by go_grown) (hb1.mono (by simp))
    go_wp2_with fail
    go_returns
    exact ⟨rfl, k1⟩
  by_cases c6 : r.classes < 0
  · clear he bl0 bl1 bh0 bh1 bc hp hH2
    go_enter Try.func4, Try.ntmps4
    go_wp2_with fail
    refine (alive_any _).mono ?_
    rintro e w1 ⟨rfl, hb1⟩
    have q0 := keepC hb1 (by simp) (show (w.alloc (.cells #[.int .i64 r.low, .int .i64 r.high, .bool r.above, .int .i64 r.leap, .int .i64 r.classes] 23)).cell? ⟨w.heap.size, 0, none⟩ = some (.int .i64 r.low) by simp [go_sem])
    have q1 := keepC hb1 (by simp) (show (w.alloc (.cells #[.int .i64 r.low, .int .i64 r.high, .bool r.above, .int .i64 r.leap, .int .i64 r.classes] 23)).cell? ⟨w.heap.size, 1, none⟩ = some (.int .i64 r.high) by simp [go_sem])
    have q4 := keepC hb1 (by simp) (show (w.alloc (.cells #[.int .i64 r.low, .int .i64 r.high, .bool r.above, .int .i64 r.leap, .int .i64 r.classes] 23)).cell? ⟨w.heap.size, 4, none⟩ = some (.int .i64 r.classes) by simp [go_sem])
    have sW : w.heap.size < w1.heap.size := by have := hb1.size; simp at this; omega
    have k1 : Below w.heap.size w w1 := Below.trans (by go_grown) (hb1.mono (by simp))
    go_wp2_with fail
    go_returns
    exact ⟨rfl, k1⟩
  by_cases c7 : 4095 < r.classes
  · clear he bl0 bl1 bh0 bh1 bc hp hH2
    go_enter Try.func4, Try.ntmps4
    go_wp2_with fail
    refine (alive_any _).mono ?_
    rintro e w1 ⟨rfl, hb1⟩
    have q0 := keepC hb1 (by simp) (show (w.alloc (.cells #[.int .i64 r.low, .int .i64 r.high, .bool r.above, .int .i64 r.leap, .int .i64 r.classes] 23)).cell? ⟨w.heap.size, 0, none⟩ = some (.int .i64 r.low) by simp [go_sem])
    have q1 := keepC hb1 (by simp) (show (w.alloc (.cells #[.int .i64 r.low, .int .i64 r.high, .bool r.above, .int .i64 r.leap, .int .i64 r.classes] 23)).cell? ⟨w.heap.size, 1, none⟩ = some (.int .i64 r.high) by simp [go_sem])
    have q4 := keepC hb1 (by simp) (show (w.alloc (.cells #[.int .i64 r.low, .int .i64 r.high, .bool r.above, .int .i64 r.leap, .int .i64 r.classes] 23)).cell? ⟨w.heap.size, 4, none⟩ = some (.int .i64 r.classes) by simp [go_sem])
    have sW : w.heap.size < w1.heap.size := by have := hb1.size; simp at this; omega
    have k1 : Below w.heap.size w w1 := Below.trans (by go_grown) (hb1.mono (by simp))
    go_wp2_with fail
    go_returns
    exact ⟨rfl, k1⟩
  exfalso
  rcases he with h | h | h | h | h | h | h
  · exact c1 h
  · exact c2 h
  · exact c3 h
  · exact c4 h
  · rw [hH] at h; exact c5 h
  · exact c6 h
  · exact c7 h
end Go.Proofs.Ytmgkbnlmdhnjnaf.U
