/- What the document's Named comes to: no letters, out of range, and where a name is looked for. -/
import Derived.Test.YtmccbokjigjpnaaDoorQD17a
import Derived.Test.YtmccbokjigjpnaaDoorQN34
import Derived.Test.YtmccbokjigjpnaaDoorQN56
namespace Go.Proofs.YtmccbokjigjpnaaDoor
open Go.RowKit
set_option linter.unusedVariables false
set_option linter.unusedSimpArgs false

set_option maxRecDepth 20000 in
set_option maxHeartbeats 4000000 in
theorem refNamed_none (s : ByteArray) (F E : Nat) (w : World) (hs : s.size ≤ 140737488355328) (hl : M.Lets s F E) (hn : M.isN (s.extract E s.size) = true) (N : Int) (hN : M.valN (s.extract E s.size) = N) (hv : 1 ≤ N) (hEF : E = F) :
    Calls Tryd.prog 24 #[.string s] w fun e w' => e = .returned (.tuple #[.agg #[.int .i64 0, .int .i64 0], .int .i64 2]) ∧ Below w.heap.size w w' := by
  have hst : ∀ X, Calls Tryd.prog 47 #[.string s, .int .i64 0, .string ⟨#[45]⟩] X fun e w' => e = .returned (.bool (M.sts s 0 ⟨#[45]⟩)) ∧ w' = X := fun X => starts_any s ⟨#[45]⟩ 0 X hs (by decide) (by omega)
  rw [hl.sg] at hst
  have hNum := fun X => Number_any (s.extract E s.size) X (by rw [ByteArray.size_extract]; omega)
  rw [hn, hN] at hNum
  replace hNum : ∀ X, Calls Tryd.prog 48 #[.string (s.extract E s.size)] X fun e w' => e = .returned (.tuple #[.int .i64 N, .bool true]) ∧ w' = X := hNum
  have HL : Hid (M.Lets s F E) := hl
  have b1 := hl.f1
  have b2 := hl.fe
  have b3 := hl.es
  have k0 : (0 : Int) ≤ (E : Nat) := by omega
  have k1 : ((E : Nat) : Int) ≤ s.size := by omega
  clear hl hn hN
  have HEF : Hid (E = F) := hEF
  clear hEF
  have I0 : (w.alloc (Obj.cells #[.int .i64 0, .int .i64 0] 25)).cell? ⟨w.heap.size, 0, none⟩ = some (.int .i64 0) := by simp [go_sem]
  rcases (show F = 0 ∨ F = 1 by omega) with rfl | rfl
  all_goals
    go_enter Tryd.func24, Tryd.ntmps24
    go_wp2_with (go_at_call 47; refine (hst _).mono ?_; rintro e w' ⟨rfl, hw⟩; rw [hw])
    go_loopw [4] (fun i wr => ∃ k : Nat, i = .int .i64 k ∧ k ≤ E ∧ Hid (∀ j, k ≤ j → j < E → M.isq (M.by s j)) ∧ wr = w.alloc (Obj.cells #[.int .i64 0, .int .i64 0] 25)) (fun i _ => E - (intOf i).toNat)
    case atStart => exact ⟨_, by first | rfl | go_num, by omega, fun j h1 h2 => HL.out.q j (by omega) h2, rfl⟩
    case round =>
      obtain ⟨k, rfl, hk2, hq, rfl⟩ := hrel
      by_cases hlt : k < E
      · have hks : k < s.size := by omega
        have hbk := M.by_is s k hks
        have hkI : (k : Int) < (s.size : Int) := by omega
        have hq2 : Hid (∀ j, k + 1 ≤ j → j < E → M.isq (M.by s j)) := fun j h1 h2 => hq.out j (by omega) h2
        rcases hq.out k (Nat.le_refl _) hlt with q | q | q | q | q
        all_goals
          rw [q] at hbk
          clear q hq
          go_wp2_with fail
          go_roundw
          case rel => exact ⟨k + 1, by go_num, by omega, hq2, by first | rfl | trivial | simp⟩
          case measure => simp [intOf]; omega
      · obtain rfl : k = E := by omega
        by_cases hE : k < s.size
        · have hbk := M.by_is s k hE
          have hkI : (k : Int) < (s.size : Int) := by omega
          have hne := HL.out.e hE
          have c1 : ((M.by s k : Int) == 80) = false := by simpa using fun h => hne (.inl (by omega))
          have c2 : ((M.by s k : Int) == 77) = false := by simpa using fun h => hne (.inr (.inl (by omega)))
          have c3 : ((M.by s k : Int) == 109) = false := by simpa using fun h => hne (.inr (.inr (.inl (by omega))))
          have c4 : ((M.by s k : Int) == 65) = false := by simpa using fun h => hne (.inr (.inr (.inr (.inl (by omega)))))
          have c5 : ((M.by s k : Int) == 100) = false := by simpa using fun h => hne (.inr (.inr (.inr (.inr (by omega)))))
          clear hne hq HL
          generalize M.by s k = B at *
          go_wp2_with (go_at_call 48; refine (hNum _).mono ?_; rintro e w' ⟨rfl, hw⟩; rw [hw])
          all_goals first
            | (exfalso; have hh := HEF.out; simp_all; done)
            | (exfalso; have hh := HEF.out; simp at *; omega)
            | (refine bodyPost_ret (v := .tuple #[.agg #[.int .i64 0, .int .i64 0], .int .i64 2]) (by simp [results, Tryd.results24, go_sem]) rfl ⟨rfl, ?_⟩; go_grown)
        · have hkI : ¬ (k : Int) < (s.size : Int) := by omega
          clear hq HL
          go_wp2_with (go_at_call 48; refine (hNum _).mono ?_; rintro e w' ⟨rfl, hw⟩; rw [hw])
          all_goals first
            | (exfalso; have hh := HEF.out; simp_all; done)
            | (exfalso; have hh := HEF.out; simp at *; omega)
            | (refine bodyPost_ret (v := .tuple #[.agg #[.int .i64 0, .int .i64 0], .int .i64 2]) (by simp [results, Tryd.results24, go_sem]) rfl ⟨rfl, ?_⟩; go_grown)
set_option maxRecDepth 20000 in
set_option maxHeartbeats 4000000 in
theorem refNamed_high (s : ByteArray) (F E : Nat) (w : World) (hs : s.size ≤ 140737488355328) (hl : M.Lets s F E) (hn : M.isN (s.extract E s.size) = true) (N : Int) (hN : M.valN (s.extract E s.size) = N) (hv : 201 < N) (hEF : E ≠ F) :
    Calls Tryd.prog 24 #[.string s] w fun e w' => e = .returned (.tuple #[.agg #[.int .i64 0, .int .i64 0], .int .i64 3]) ∧ Below w.heap.size w w' := by
  have hst : ∀ X, Calls Tryd.prog 47 #[.string s, .int .i64 0, .string ⟨#[45]⟩] X fun e w' => e = .returned (.bool (M.sts s 0 ⟨#[45]⟩)) ∧ w' = X := fun X => starts_any s ⟨#[45]⟩ 0 X hs (by decide) (by omega)
  rw [hl.sg] at hst
  have hNum := fun X => Number_any (s.extract E s.size) X (by rw [ByteArray.size_extract]; omega)
  rw [hn, hN] at hNum
  replace hNum : ∀ X, Calls Tryd.prog 48 #[.string (s.extract E s.size)] X fun e w' => e = .returned (.tuple #[.int .i64 N, .bool true]) ∧ w' = X := hNum
  have HL : Hid (M.Lets s F E) := hl
  have b1 := hl.f1
  have b2 := hl.fe
  have b3 := hl.es
  have k0 : (0 : Int) ≤ (E : Nat) := by omega
  have k1 : ((E : Nat) : Int) ≤ s.size := by omega
  clear hl hn hN
  have HEF : Hid (E ≠ F) := hEF
  clear hEF
  have I0 : (w.alloc (Obj.cells #[.int .i64 0, .int .i64 0] 25)).cell? ⟨w.heap.size, 0, none⟩ = some (.int .i64 0) := by simp [go_sem]
  rcases (show F = 0 ∨ F = 1 by omega) with rfl | rfl
  all_goals
    go_enter Tryd.func24, Tryd.ntmps24
    go_wp2_with (go_at_call 47; refine (hst _).mono ?_; rintro e w' ⟨rfl, hw⟩; rw [hw])
    go_loopw [4] (fun i wr => ∃ k : Nat, i = .int .i64 k ∧ k ≤ E ∧ Hid (∀ j, k ≤ j → j < E → M.isq (M.by s j)) ∧ wr = w.alloc (Obj.cells #[.int .i64 0, .int .i64 0] 25)) (fun i _ => E - (intOf i).toNat)
    case atStart => exact ⟨_, by first | rfl | go_num, by omega, fun j h1 h2 => HL.out.q j (by omega) h2, rfl⟩
    case round =>
      obtain ⟨k, rfl, hk2, hq, rfl⟩ := hrel
      by_cases hlt : k < E
      · have hks : k < s.size := by omega
        have hbk := M.by_is s k hks
        have hkI : (k : Int) < (s.size : Int) := by omega
        have hq2 : Hid (∀ j, k + 1 ≤ j → j < E → M.isq (M.by s j)) := fun j h1 h2 => hq.out j (by omega) h2
        rcases hq.out k (Nat.le_refl _) hlt with q | q | q | q | q
        all_goals
          rw [q] at hbk
          clear q hq
          go_wp2_with fail
          go_roundw
          case rel => exact ⟨k + 1, by go_num, by omega, hq2, by first | rfl | trivial | simp⟩
          case measure => simp [intOf]; omega
      · obtain rfl : k = E := by omega
        by_cases hE : k < s.size
        · have hbk := M.by_is s k hE
          have hkI : (k : Int) < (s.size : Int) := by omega
          have hne := HL.out.e hE
          have c1 : ((M.by s k : Int) == 80) = false := by simpa using fun h => hne (.inl (by omega))
          have c2 : ((M.by s k : Int) == 77) = false := by simpa using fun h => hne (.inr (.inl (by omega)))
          have c3 : ((M.by s k : Int) == 109) = false := by simpa using fun h => hne (.inr (.inr (.inl (by omega))))
          have c4 : ((M.by s k : Int) == 65) = false := by simpa using fun h => hne (.inr (.inr (.inr (.inl (by omega)))))
          have c5 : ((M.by s k : Int) == 100) = false := by simpa using fun h => hne (.inr (.inr (.inr (.inr (by omega)))))
          clear hne hq HL
          generalize M.by s k = B at *
          go_wp2_with (go_at_call 48; refine (hNum _).mono ?_; rintro e w' ⟨rfl, hw⟩; rw [hw])
          all_goals first
            | (exfalso; have hh := HEF.out; simp_all; done)
            | (exfalso; have hh := HEF.out; simp at *; omega)
            | (refine bodyPost_ret (v := .tuple #[.agg #[.int .i64 0, .int .i64 0], .int .i64 3]) (by simp [results, Tryd.results24, go_sem]) rfl ⟨rfl, ?_⟩; go_grown)
        · have hkI : ¬ (k : Int) < (s.size : Int) := by omega
          clear hq HL
          go_wp2_with (go_at_call 48; refine (hNum _).mono ?_; rintro e w' ⟨rfl, hw⟩; rw [hw])
          all_goals first
            | (exfalso; have hh := HEF.out; simp_all; done)
            | (exfalso; have hh := HEF.out; simp at *; omega)
            | (refine bodyPost_ret (v := .tuple #[.agg #[.int .i64 0, .int .i64 0], .int .i64 3]) (by simp [results, Tryd.results24, go_sem]) rfl ⟨rfl, ?_⟩; go_grown)
end Go.Proofs.YtmccbokjigjpnaaDoor
