/- Read's deferred function: where nothing was thrown, where a fault was. -/
import Derived.Test.YtaohahahhjkcdaeGreatDoorSG25
import Derived.Defers
import Derived.Recover
namespace Go.Proofs.YtaohahahhjkcdaeGreatDoor.J
open Go.RowKit
set_option linter.unusedVariables false
set_option linter.unusedSimpArgs false

theorem catch_idle (a b : Addr) (w : World) :
    CallsD Tryz.prog 17 #[.pointer (some a), .pointer (some b)] .returning w fun e u' w' => e = .returned (.tuple #[]) ∧ u' = .returning ∧ w' = w := by
  refine callsD_of_wpS Tryz.func17 rfl fun c₀ cs hu => ?_
  apply wpS_seq
  apply wpS_region
  simp [wpOpsS, go_sem, recoverD, hu, Tryz.ntmps17, Exit.thenS]
  refine wpS_of_wp ?_
  go_wp2_with fail
  cases c₀
  simp_all [bodyPostS, results, Tryz.results17]

set_option maxRecDepth 100000 in
set_option maxHeartbeats 1000000 in
theorem catch_fault (x y : Nat) (e a : Int) (v0 v1 v2 : Value) (w : World) (h0 : w.cell? ⟨x, 0, none⟩ = some v0) (h1 : w.cell? ⟨y, 0, none⟩ = some v1) (h2 : w.cell? ⟨y, 1, none⟩ = some v2) (f0 : w.frozen? ⟨x, 0, none⟩ = false) (f1 : w.frozen? ⟨y, 0, none⟩ = false) (f2 : w.frozen? ⟨y, 1, none⟩ = false) (hx : x < w.heap.size) (hy : y < w.heap.size) (hne : x ≠ y) :
    CallsD Tryz.prog 17 #[.pointer (some ⟨x, 0, none⟩), .pointer (some ⟨y, 0, none⟩)] (.panicking ({ v := .iface 47 (.agg #[.int .i64 e, .int .i64 a]), recovered := false } :: [])) w fun z u' w' => z = .returned (.tuple #[]) ∧ u' = .panicking ({ v := .iface 47 (.agg #[.int .i64 e, .int .i64 a]), recovered := true } :: []) ∧ ∃ n, w' = ((((w.setCell ⟨x, 0, none⟩ (.slice none 0 0)).setCell ⟨y, 0, none⟩ (.int .i64 e)).setCell ⟨y, 1, none⟩ (.int .i64 a)).alloc (.cells #[.int .i64 e, .int .i64 a] 47)).drewN n := by
  have hne' : y ≠ x := fun h => hne h.symm
  have hta : ∀ (w : World), (Instr.typeAssert (.iface 47 (.agg #[.int .i64 e, .int .i64 a])) 20 47 true).run Tryz.prog w = .ok (.tuple #[.agg #[.int .i64 e, .int .i64 a], .bool true]) w := fun w => by kernel_rfl
  refine callsD_of_wpS Tryz.func17 rfl fun c₀ cs hu => ?_
  apply wpS_seq
  apply wpS_region
  simp [wpOpsS, go_sem, recoverD, hu, Tryz.ntmps17, Exit.thenS]
  refine wpS_of_wp ?_
  generalize hF : ({ fn := c₀.fn, tmps := c₀.tmps, todo := c₀.todo, defers := c₀.defers, mode := FrameMode.panicking [{ v := Value.iface 47 (Value.agg #[Value.int IntKind.i64 e, Value.int IntKind.i64 a]), recovered := true }], kind := c₀.kind, roundOf := c₀.roundOf } : Frame) = FR
  change Code.wp _ _ _ { tmps := #[.pointer (some ⟨x, 0, none⟩), .pointer (some ⟨y, 0, none⟩), undef, undef, undef, .iface 47 (.agg #[.int .i64 e, .int .i64 a]), undef, undef, undef, undef, undef, undef], defers := [] } _
  go_wp2_with fail
  go_region
  all_goals go_wp2_with fail
  subst hF
  have hd : ∀ W : World, W.drew = W.drewN 1 := fun _ => rfl
  rw [hd]
  cases c₀
  simp_all [bodyPostS, results, Tryz.results17]
  exact ⟨1, rfl⟩
end Go.Proofs.YtaohahahhjkcdaeGreatDoor.J
