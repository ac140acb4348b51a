/- Len, behind, New of a ring. -/
import Derived.Test.YtggbbekgmjkplaaRg1
namespace Go.Proofs.Ytggbbekgmjkplaa.Rg
open Go.RowKit Go.Maps Go.Sort
set_option linter.unusedVariables false
set_option linter.unusedSimpArgs false

set_option maxHeartbeats 2000000 in
theorem Len_any (b : Nat) (x : Int) (w : World) (h0 : w.cell? ⟨b, 3, none⟩ = some (.int .i64 x)) :
    Calls Try.prog 14 #[.pointer (some ⟨b, 0, none⟩)] w fun e w' => e = .returned (.int .i64 x) ∧ w' = w := by
  have hL := Load_any b 3 x w h0
  go_enter Try.func14, Try.ntmps14
  go_wp2_with fail
  refine hL.mono ?_
  rintro e w1 ⟨rfl, hw⟩
  rw [hw]
  go_wp2_with fail
  go_ret
  exact ⟨rfl, rfl⟩
set_option maxHeartbeats 2000000 in
theorem behind_any (b sb n s : Nat) (w : World) (h0 : w.cell? ⟨b, 0, none⟩ = some (.slice (some ⟨sb, 0, none⟩) n n)) (hs : s < n) (hn : n ≤ 65536) :
    Calls Try.prog 22 #[.pointer (some ⟨b, 0, none⟩), .int .i64 s] w fun e w' => e = .returned (.int .i64 ((s + 1) % n : Nat)) ∧ w' = w := by
  have h1 : Int.tmod ((s : Int) + 1) (n : Int) = (((s + 1) % n : Nat) : Int) := by
    rw [Int.tmod_eq_emod_of_nonneg (by omega), Int.natCast_emod]; push_cast; rfl
  have h2 : IntKind.i64.wrap ((s : Int) + 1) = (s : Int) + 1 := wid (by omega) (by omega)
  have h3 : ((n : Int) == 0) = false := by simp; omega
  have h4 : ¬ (n : Int) = 0 := by omega
  have h5 : IntKind.i64.wrap (((s + 1) % n : Nat) : Int) = (((s + 1) % n : Nat) : Int) := wid (by omega) (by have := Nat.mod_lt (s + 1) (show 0 < n by omega); omega)
  generalize hR : (s + 1) % n = R at *
  clear hR
  go_enter Try.func22, Try.ntmps22
  go_wp2_with fail
  go_ret
  exact ⟨rfl, rfl⟩
/-- What New leaves. -/
structure NwQ (w : World) (n : Int) (e : Ending) (w' : World) : Prop where
  b : Below w.heap.size w w'
  o : ((n < 1 ∨ 65536 < n) ∧ e = .returned (.tuple #[.pointer none, .int .i64 3]) ∧ w' = w) ∨ ∃ N : Nat, n = N ∧ e = .returned (.tuple #[.pointer (some ⟨w.heap.size + 1, 0, none⟩), .int .i64 0]) ∧ RL w' (w.heap.size + 1) w.heap.size N [] 0 0 (fun _ => 0)
set_option maxHeartbeats 2000000 in
theorem New_any (n : Int) (w : World) :
    Calls Try.prog 11 #[.int .i64 n] w fun e w' => NwQ w n e w' := by
  by_cases h1 : n < 1
  · have hd : decide (n < 1) = true := by simp [h1]
    have HQ : Hid (NwQ w n (.returned (.tuple #[.pointer none, .int .i64 3])) w) := ⟨Below.refl _ _, .inl ⟨.inl h1, rfl, rfl⟩⟩
    go_enter Try.func11, Try.ntmps11
    go_wp2_with fail
    go_returns
    exact HQ.out
  · by_cases h2 : 65536 < n
    · have hd : decide (n < 1) = false := by simp; omega
      have hd2 : decide (65536 < n) = true := by simp [h2]
      have HQ : Hid (NwQ w n (.returned (.tuple #[.pointer none, .int .i64 3])) w) := ⟨Below.refl _ _, .inl ⟨.inr h2, rfl, rfl⟩⟩
      go_enter Try.func11, Try.ntmps11
      go_wp2_with fail
      go_returns
      exact HQ.out
    · obtain ⟨N, rfl⟩ : ∃ N : Nat, n = N := ⟨n.toNat, by omega⟩
      have mk : (Instr.makeSlice 22 (.int .i64 (N : Int)) (.int .i64 (N : Int))).run Try.prog w = .ok (.slice (some ⟨w.heap.size, 0, none⟩) N N) (w.alloc (.cells (madeCells #[.int .i64 0] N) 3)) := run_make_row' (P := Try.prog) 22 3 (.int .i64 0) 8 Try.underlying22 infoI rfl .i64 .i64 N (by omega) (by omega) w
      have HS := World.rowIs_made w (.int .i64 0) N 3
      have hd : decide ((N : Int) < 1) = false := by simp; omega
      have hd2 : decide (65536 < (N : Int)) = false := by simp; omega
      have hzs : (w.alloc (.cells (madeCells #[.int .i64 0] N) 3)).heap.size = w.heap.size + 1 := by simp
      have hbA : Below w.heap.size w (w.alloc (.cells (madeCells #[.int .i64 0] N) 3)) := (Below.refl _ _).alloc (Nat.le_refl _) _
      have HQ : Hid (NwQ w N (.returned (.tuple #[.pointer (some ⟨w.heap.size + 1, 0, none⟩), .int .i64 0])) ((w.alloc (.cells (madeCells #[.int .i64 0] N) 3)).alloc (.cells #[.slice (some ⟨w.heap.size, 0, none⟩) N N, .int .i64 0, .int .i64 0, .int .i64 0] 62))) := by
        refine ⟨hbA.alloc (by omega) _, .inr ⟨N, rfl, rfl, ?_, ?_, by omega, by omega, by omega, Nat.zero_le _, by omega, by rw [List.length_nil, Nat.add_zero, Nat.zero_mod], fun i y h => by simp at h⟩⟩
        · have := World.rowIs_alloc (w.alloc (.cells (madeCells #[.int .i64 0] N) 3)) #[.slice (some ⟨w.heap.size, 0, none⟩) N N, .int .i64 0, .int .i64 0, .int .i64 0] 62 (rc w.heap.size N 0 0 0) (fun i hi => by
            match i, hi with
            | 0, _ => rfl
            | 1, _ => rfl
            | 2, _ => rfl
            | 3, _ => rfl
            | i + 4, hi => exact absurd hi (by show ¬ (i + 4 < 4); omega))
          rw [hzs] at this
          exact this
        · exact World.rowIs.of_block HS ((((Below.refl _ _).alloc (Nat.le_refl _) _).block w.heap.size (by omega)))
      clear HS hbA
      go_enter Try.func11, Try.ntmps11
      go_wp2_with (simp only [mk])
      go_returns
      exact HQ.out
end Go.Proofs.Ytggbbekgmjkplaa.Rg
