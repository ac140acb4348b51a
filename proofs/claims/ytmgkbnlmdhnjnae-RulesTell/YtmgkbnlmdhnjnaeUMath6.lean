/- Where all is moved as far, all stays as it was: the plain part, on. -/
import Derived.Test.YtmgkbnlmdhnjnaeUMath6a
namespace Go.Proofs.Ytmgkbnlmdhnjnae.U
set_option linter.unusedVariables false

theorem M.clc0 (c : Int) (k : Nat) (hk : k < 12) : (0 ≤ M.cls c 0 12 ∧ M.cls c 0 12 ≤ 4095) ∧ M.cls c 0 12 / 2 ^ ((k + 0) % 12) % 2 = c / 2 ^ k % 2 := by
  obtain ⟨hb, h0, h1, h2, h3, h4, h5, h6, h7, h8, h9, h10, h11⟩ := M.rot0 (c / 1 % 2) (c / 2 % 2) (c / 4 % 2) (c / 8 % 2) (c / 16 % 2) (c / 32 % 2) (c / 64 % 2) (c / 128 % 2) (c / 256 % 2) (c / 512 % 2) (c / 1024 % 2) (c / 2048 % 2) (by omega) (by omega) (by omega) (by omega) (by omega) (by omega) (by omega) (by omega) (by omega) (by omega) (by omega) (by omega)
  have e : M.cls c 0 12 = c / 1 % 2 * 1 + c / 2 % 2 * 2 + c / 4 % 2 * 4 + c / 8 % 2 * 8 + c / 16 % 2 * 16 + c / 32 % 2 * 32 + c / 64 % 2 * 64 + c / 128 % 2 * 128 + c / 256 % 2 * 256 + c / 512 % 2 * 512 + c / 1024 % 2 * 1024 + c / 2048 % 2 * 2048 := by
    simp only [M.cls, Nat.reduceAdd, Nat.reduceMod, Int.reducePow, Int.zero_add]
  rw [e]
  refine ⟨hb, ?_⟩
  clear e hb
  match k, hk with
  | 0, _ => exact h0
  | 1, _ => exact h1
  | 2, _ => exact h2
  | 3, _ => exact h3
  | 4, _ => exact h4
  | 5, _ => exact h5
  | 6, _ => exact h6
  | 7, _ => exact h7
  | 8, _ => exact h8
  | 9, _ => exact h9
  | 10, _ => exact h10
  | 11, _ => exact h11
theorem M.clc1 (c : Int) (k : Nat) (hk : k < 12) : (0 ≤ M.cls c 1 12 ∧ M.cls c 1 12 ≤ 4095) ∧ M.cls c 1 12 / 2 ^ ((k + 1) % 12) % 2 = c / 2 ^ k % 2 := by
  obtain ⟨hb, h0, h1, h2, h3, h4, h5, h6, h7, h8, h9, h10, h11⟩ := M.rot1 (c / 1 % 2) (c / 2 % 2) (c / 4 % 2) (c / 8 % 2) (c / 16 % 2) (c / 32 % 2) (c / 64 % 2) (c / 128 % 2) (c / 256 % 2) (c / 512 % 2) (c / 1024 % 2) (c / 2048 % 2) (by omega) (by omega) (by omega) (by omega) (by omega) (by omega) (by omega) (by omega) (by omega) (by omega) (by omega) (by omega)
  have e : M.cls c 1 12 = c / 1 % 2 * 2 + c / 2 % 2 * 4 + c / 4 % 2 * 8 + c / 8 % 2 * 16 + c / 16 % 2 * 32 + c / 32 % 2 * 64 + c / 64 % 2 * 128 + c / 128 % 2 * 256 + c / 256 % 2 * 512 + c / 512 % 2 * 1024 + c / 1024 % 2 * 2048 + c / 2048 % 2 * 1 := by
    simp only [M.cls, Nat.reduceAdd, Nat.reduceMod, Int.reducePow, Int.zero_add]
  rw [e]
  refine ⟨hb, ?_⟩
  clear e hb
  match k, hk with
  | 0, _ => exact h0
  | 1, _ => exact h1
  | 2, _ => exact h2
  | 3, _ => exact h3
  | 4, _ => exact h4
  | 5, _ => exact h5
  | 6, _ => exact h6
  | 7, _ => exact h7
  | 8, _ => exact h8
  | 9, _ => exact h9
  | 10, _ => exact h10
  | 11, _ => exact h11
theorem M.clc2 (c : Int) (k : Nat) (hk : k < 12) : (0 ≤ M.cls c 2 12 ∧ M.cls c 2 12 ≤ 4095) ∧ M.cls c 2 12 / 2 ^ ((k + 2) % 12) % 2 = c / 2 ^ k % 2 := by
  obtain ⟨hb, h0, h1, h2, h3, h4, h5, h6, h7, h8, h9, h10, h11⟩ := M.rot2 (c / 1 % 2) (c / 2 % 2) (c / 4 % 2) (c / 8 % 2) (c / 16 % 2) (c / 32 % 2) (c / 64 % 2) (c / 128 % 2) (c / 256 % 2) (c / 512 % 2) (c / 1024 % 2) (c / 2048 % 2) (by omega) (by omega) (by omega) (by omega) (by omega) (by omega) (by omega) (by omega) (by omega) (by omega) (by omega) (by omega)
  have e : M.cls c 2 12 = c / 1 % 2 * 4 + c / 2 % 2 * 8 + c / 4 % 2 * 16 + c / 8 % 2 * 32 + c / 16 % 2 * 64 + c / 32 % 2 * 128 + c / 64 % 2 * 256 + c / 128 % 2 * 512 + c / 256 % 2 * 1024 + c / 512 % 2 * 2048 + c / 1024 % 2 * 1 + c / 2048 % 2 * 2 := by
    simp only [M.cls, Nat.reduceAdd, Nat.reduceMod, Int.reducePow, Int.zero_add]
  rw [e]
  refine ⟨hb, ?_⟩
  clear e hb
  match k, hk with
  | 0, _ => exact h0
  | 1, _ => exact h1
  | 2, _ => exact h2
  | 3, _ => exact h3
  | 4, _ => exact h4
  | 5, _ => exact h5
  | 6, _ => exact h6
  | 7, _ => exact h7
  | 8, _ => exact h8
  | 9, _ => exact h9
  | 10, _ => exact h10
  | 11, _ => exact h11
theorem M.clc3 (c : Int) (k : Nat) (hk : k < 12) : (0 ≤ M.cls c 3 12 ∧ M.cls c 3 12 ≤ 4095) ∧ M.cls c 3 12 / 2 ^ ((k + 3) % 12) % 2 = c / 2 ^ k % 2 := by
  obtain ⟨hb, h0, h1, h2, h3, h4, h5, h6, h7, h8, h9, h10, h11⟩ := M.rot3 (c / 1 % 2) (c / 2 % 2) (c / 4 % 2) (c / 8 % 2) (c / 16 % 2) (c / 32 % 2) (c / 64 % 2) (c / 128 % 2) (c / 256 % 2) (c / 512 % 2) (c / 1024 % 2) (c / 2048 % 2) (by omega) (by omega) (by omega) (by omega) (by omega) (by omega) (by omega) (by omega) (by omega) (by omega) (by omega) (by omega)
  have e : M.cls c 3 12 = c / 1 % 2 * 8 + c / 2 % 2 * 16 + c / 4 % 2 * 32 + c / 8 % 2 * 64 + c / 16 % 2 * 128 + c / 32 % 2 * 256 + c / 64 % 2 * 512 + c / 128 % 2 * 1024 + c / 256 % 2 * 2048 + c / 512 % 2 * 1 + c / 1024 % 2 * 2 + c / 2048 % 2 * 4 := by
    simp only [M.cls, Nat.reduceAdd, Nat.reduceMod, Int.reducePow, Int.zero_add]
  rw [e]
  refine ⟨hb, ?_⟩
  clear e hb
  match k, hk with
  | 0, _ => exact h0
  | 1, _ => exact h1
  | 2, _ => exact h2
  | 3, _ => exact h3
  | 4, _ => exact h4
  | 5, _ => exact h5
  | 6, _ => exact h6
  | 7, _ => exact h7
  | 8, _ => exact h8
  | 9, _ => exact h9
  | 10, _ => exact h10
  | 11, _ => exact h11
theorem M.clc4 (c : Int) (k : Nat) (hk : k < 12) : (0 ≤ M.cls c 4 12 ∧ M.cls c 4 12 ≤ 4095) ∧ M.cls c 4 12 / 2 ^ ((k + 4) % 12) % 2 = c / 2 ^ k % 2 := by
  obtain ⟨hb, h0, h1, h2, h3, h4, h5, h6, h7, h8, h9, h10, h11⟩ := M.rot4 (c / 1 % 2) (c / 2 % 2) (c / 4 % 2) (c / 8 % 2) (c / 16 % 2) (c / 32 % 2) (c / 64 % 2) (c / 128 % 2) (c / 256 % 2) (c / 512 % 2) (c / 1024 % 2) (c / 2048 % 2) (by omega) (by omega) (by omega) (by omega) (by omega) (by omega) (by omega) (by omega) (by omega) (by omega) (by omega) (by omega)
  have e : M.cls c 4 12 = c / 1 % 2 * 16 + c / 2 % 2 * 32 + c / 4 % 2 * 64 + c / 8 % 2 * 128 + c / 16 % 2 * 256 + c / 32 % 2 * 512 + c / 64 % 2 * 1024 + c / 128 % 2 * 2048 + c / 256 % 2 * 1 + c / 512 % 2 * 2 + c / 1024 % 2 * 4 + c / 2048 % 2 * 8 := by
    simp only [M.cls, Nat.reduceAdd, Nat.reduceMod, Int.reducePow, Int.zero_add]
  rw [e]
  refine ⟨hb, ?_⟩
  clear e hb
  match k, hk with
  | 0, _ => exact h0
  | 1, _ => exact h1
  | 2, _ => exact h2
  | 3, _ => exact h3
  | 4, _ => exact h4
  | 5, _ => exact h5
  | 6, _ => exact h6
  | 7, _ => exact h7
  | 8, _ => exact h8
  | 9, _ => exact h9
  | 10, _ => exact h10
  | 11, _ => exact h11
theorem M.clc5 (c : Int) (k : Nat) (hk : k < 12) : (0 ≤ M.cls c 5 12 ∧ M.cls c 5 12 ≤ 4095) ∧ M.cls c 5 12 / 2 ^ ((k + 5) % 12) % 2 = c / 2 ^ k % 2 := by
  obtain ⟨hb, h0, h1, h2, h3, h4, h5, h6, h7, h8, h9, h10, h11⟩ := M.rot5 (c / 1 % 2) (c / 2 % 2) (c / 4 % 2) (c / 8 % 2) (c / 16 % 2) (c / 32 % 2) (c / 64 % 2) (c / 128 % 2) (c / 256 % 2) (c / 512 % 2) (c / 1024 % 2) (c / 2048 % 2) (by omega) (by omega) (by omega) (by omega) (by omega) (by omega) (by omega) (by omega) (by omega) (by omega) (by omega) (by omega)
  have e : M.cls c 5 12 = c / 1 % 2 * 32 + c / 2 % 2 * 64 + c / 4 % 2 * 128 + c / 8 % 2 * 256 + c / 16 % 2 * 512 + c / 32 % 2 * 1024 + c / 64 % 2 * 2048 + c / 128 % 2 * 1 + c / 256 % 2 * 2 + c / 512 % 2 * 4 + c / 1024 % 2 * 8 + c / 2048 % 2 * 16 := by
    simp only [M.cls, Nat.reduceAdd, Nat.reduceMod, Int.reducePow, Int.zero_add]
  rw [e]
  refine ⟨hb, ?_⟩
  clear e hb
  match k, hk with
  | 0, _ => exact h0
  | 1, _ => exact h1
  | 2, _ => exact h2
  | 3, _ => exact h3
  | 4, _ => exact h4
  | 5, _ => exact h5
  | 6, _ => exact h6
  | 7, _ => exact h7
  | 8, _ => exact h8
  | 9, _ => exact h9
  | 10, _ => exact h10
  | 11, _ => exact h11
theorem M.clc6 (c : Int) (k : Nat) (hk : k < 12) : (0 ≤ M.cls c 6 12 ∧ M.cls c 6 12 ≤ 4095) ∧ M.cls c 6 12 / 2 ^ ((k + 6) % 12) % 2 = c / 2 ^ k % 2 := by
  obtain ⟨hb, h0, h1, h2, h3, h4, h5, h6, h7, h8, h9, h10, h11⟩ := M.rot6 (c / 1 % 2) (c / 2 % 2) (c / 4 % 2) (c / 8 % 2) (c / 16 % 2) (c / 32 % 2) (c / 64 % 2) (c / 128 % 2) (c / 256 % 2) (c / 512 % 2) (c / 1024 % 2) (c / 2048 % 2) (by omega) (by omega) (by omega) (by omega) (by omega) (by omega) (by omega) (by omega) (by omega) (by omega) (by omega) (by omega)
  have e : M.cls c 6 12 = c / 1 % 2 * 64 + c / 2 % 2 * 128 + c / 4 % 2 * 256 + c / 8 % 2 * 512 + c / 16 % 2 * 1024 + c / 32 % 2 * 2048 + c / 64 % 2 * 1 + c / 128 % 2 * 2 + c / 256 % 2 * 4 + c / 512 % 2 * 8 + c / 1024 % 2 * 16 + c / 2048 % 2 * 32 := by
    simp only [M.cls, Nat.reduceAdd, Nat.reduceMod, Int.reducePow, Int.zero_add]
  rw [e]
  refine ⟨hb, ?_⟩
  clear e hb
  match k, hk with
  | 0, _ => exact h0
  | 1, _ => exact h1
  | 2, _ => exact h2
  | 3, _ => exact h3
  | 4, _ => exact h4
  | 5, _ => exact h5
  | 6, _ => exact h6
  | 7, _ => exact h7
  | 8, _ => exact h8
  | 9, _ => exact h9
  | 10, _ => exact h10
  | 11, _ => exact h11
theorem M.clc7 (c : Int) (k : Nat) (hk : k < 12) : (0 ≤ M.cls c 7 12 ∧ M.cls c 7 12 ≤ 4095) ∧ M.cls c 7 12 / 2 ^ ((k + 7) % 12) % 2 = c / 2 ^ k % 2 := by
  obtain ⟨hb, h0, h1, h2, h3, h4, h5, h6, h7, h8, h9, h10, h11⟩ := M.rot7 (c / 1 % 2) (c / 2 % 2) (c / 4 % 2) (c / 8 % 2) (c / 16 % 2) (c / 32 % 2) (c / 64 % 2) (c / 128 % 2) (c / 256 % 2) (c / 512 % 2) (c / 1024 % 2) (c / 2048 % 2) (by omega) (by omega) (by omega) (by omega) (by omega) (by omega) (by omega) (by omega) (by omega) (by omega) (by omega) (by omega)
  have e : M.cls c 7 12 = c / 1 % 2 * 128 + c / 2 % 2 * 256 + c / 4 % 2 * 512 + c / 8 % 2 * 1024 + c / 16 % 2 * 2048 + c / 32 % 2 * 1 + c / 64 % 2 * 2 + c / 128 % 2 * 4 + c / 256 % 2 * 8 + c / 512 % 2 * 16 + c / 1024 % 2 * 32 + c / 2048 % 2 * 64 := by
    simp only [M.cls, Nat.reduceAdd, Nat.reduceMod, Int.reducePow, Int.zero_add]
  rw [e]
  refine ⟨hb, ?_⟩
  clear e hb
  match k, hk with
  | 0, _ => exact h0
  | 1, _ => exact h1
  | 2, _ => exact h2
  | 3, _ => exact h3
  | 4, _ => exact h4
  | 5, _ => exact h5
  | 6, _ => exact h6
  | 7, _ => exact h7
  | 8, _ => exact h8
  | 9, _ => exact h9
  | 10, _ => exact h10
  | 11, _ => exact h11
theorem M.clc8 (c : Int) (k : Nat) (hk : k < 12) : (0 ≤ M.cls c 8 12 ∧ M.cls c 8 12 ≤ 4095) ∧ M.cls c 8 12 / 2 ^ ((k + 8) % 12) % 2 = c / 2 ^ k % 2 := by
  obtain ⟨hb, h0, h1, h2, h3, h4, h5, h6, h7, h8, h9, h10, h11⟩ := M.rot8 (c / 1 % 2) (c / 2 % 2) (c / 4 % 2) (c / 8 % 2) (c / 16 % 2) (c / 32 % 2) (c / 64 % 2) (c / 128 % 2) (c / 256 % 2) (c / 512 % 2) (c / 1024 % 2) (c / 2048 % 2) (by omega) (by omega) (by omega) (by omega) (by omega) (by omega) (by omega) (by omega) (by omega) (by omega) (by omega) (by omega)
  have e : M.cls c 8 12 = c / 1 % 2 * 256 + c / 2 % 2 * 512 + c / 4 % 2 * 1024 + c / 8 % 2 * 2048 + c / 16 % 2 * 1 + c / 32 % 2 * 2 + c / 64 % 2 * 4 + c / 128 % 2 * 8 + c / 256 % 2 * 16 + c / 512 % 2 * 32 + c / 1024 % 2 * 64 + c / 2048 % 2 * 128 := by
    simp only [M.cls, Nat.reduceAdd, Nat.reduceMod, Int.reducePow, Int.zero_add]
  rw [e]
  refine ⟨hb, ?_⟩
  clear e hb
  match k, hk with
  | 0, _ => exact h0
  | 1, _ => exact h1
  | 2, _ => exact h2
  | 3, _ => exact h3
  | 4, _ => exact h4
  | 5, _ => exact h5
  | 6, _ => exact h6
  | 7, _ => exact h7
  | 8, _ => exact h8
  | 9, _ => exact h9
  | 10, _ => exact h10
  | 11, _ => exact h11
theorem M.clc9 (c : Int) (k : Nat) (hk : k < 12) : (0 ≤ M.cls c 9 12 ∧ M.cls c 9 12 ≤ 4095) ∧ M.cls c 9 12 / 2 ^ ((k + 9) % 12) % 2 = c / 2 ^ k % 2 := by
  obtain ⟨hb, h0, h1, h2, h3, h4, h5, h6, h7, h8, h9, h10, h11⟩ := M.rot9 (c / 1 % 2) (c / 2 % 2) (c / 4 % 2) (c / 8 % 2) (c / 16 % 2) (c / 32 % 2) (c / 64 % 2) (c / 128 % 2) (c / 256 % 2) (c / 512 % 2) (c / 1024 % 2) (c / 2048 % 2) (by omega) (by omega) (by omega) (by omega) (by omega) (by omega) (by omega) (by omega) (by omega) (by omega) (by omega) (by omega)
  have e : M.cls c 9 12 = c / 1 % 2 * 512 + c / 2 % 2 * 1024 + c / 4 % 2 * 2048 + c / 8 % 2 * 1 + c / 16 % 2 * 2 + c / 32 % 2 * 4 + c / 64 % 2 * 8 + c / 128 % 2 * 16 + c / 256 % 2 * 32 + c / 512 % 2 * 64 + c / 1024 % 2 * 128 + c / 2048 % 2 * 256 := by
    simp only [M.cls, Nat.reduceAdd, Nat.reduceMod, Int.reducePow, Int.zero_add]
  rw [e]
  refine ⟨hb, ?_⟩
  clear e hb
  match k, hk with
  | 0, _ => exact h0
  | 1, _ => exact h1
  | 2, _ => exact h2
  | 3, _ => exact h3
  | 4, _ => exact h4
  | 5, _ => exact h5
  | 6, _ => exact h6
  | 7, _ => exact h7
  | 8, _ => exact h8
  | 9, _ => exact h9
  | 10, _ => exact h10
  | 11, _ => exact h11
theorem M.clc10 (c : Int) (k : Nat) (hk : k < 12) : (0 ≤ M.cls c 10 12 ∧ M.cls c 10 12 ≤ 4095) ∧ M.cls c 10 12 / 2 ^ ((k + 10) % 12) % 2 = c / 2 ^ k % 2 := by
  obtain ⟨hb, h0, h1, h2, h3, h4, h5, h6, h7, h8, h9, h10, h11⟩ := M.rot10 (c / 1 % 2) (c / 2 % 2) (c / 4 % 2) (c / 8 % 2) (c / 16 % 2) (c / 32 % 2) (c / 64 % 2) (c / 128 % 2) (c / 256 % 2) (c / 512 % 2) (c / 1024 % 2) (c / 2048 % 2) (by omega) (by omega) (by omega) (by omega) (by omega) (by omega) (by omega) (by omega) (by omega) (by omega) (by omega) (by omega)
  have e : M.cls c 10 12 = c / 1 % 2 * 1024 + c / 2 % 2 * 2048 + c / 4 % 2 * 1 + c / 8 % 2 * 2 + c / 16 % 2 * 4 + c / 32 % 2 * 8 + c / 64 % 2 * 16 + c / 128 % 2 * 32 + c / 256 % 2 * 64 + c / 512 % 2 * 128 + c / 1024 % 2 * 256 + c / 2048 % 2 * 512 := by
    simp only [M.cls, Nat.reduceAdd, Nat.reduceMod, Int.reducePow, Int.zero_add]
  rw [e]
  refine ⟨hb, ?_⟩
  clear e hb
  match k, hk with
  | 0, _ => exact h0
  | 1, _ => exact h1
  | 2, _ => exact h2
  | 3, _ => exact h3
  | 4, _ => exact h4
  | 5, _ => exact h5
  | 6, _ => exact h6
  | 7, _ => exact h7
  | 8, _ => exact h8
  | 9, _ => exact h9
  | 10, _ => exact h10
  | 11, _ => exact h11
theorem M.clc11 (c : Int) (k : Nat) (hk : k < 12) : (0 ≤ M.cls c 11 12 ∧ M.cls c 11 12 ≤ 4095) ∧ M.cls c 11 12 / 2 ^ ((k + 11) % 12) % 2 = c / 2 ^ k % 2 := by
  obtain ⟨hb, h0, h1, h2, h3, h4, h5, h6, h7, h8, h9, h10, h11⟩ := M.rot11 (c / 1 % 2) (c / 2 % 2) (c / 4 % 2) (c / 8 % 2) (c / 16 % 2) (c / 32 % 2) (c / 64 % 2) (c / 128 % 2) (c / 256 % 2) (c / 512 % 2) (c / 1024 % 2) (c / 2048 % 2) (by omega) (by omega) (by omega) (by omega) (by omega) (by omega) (by omega) (by omega) (by omega) (by omega) (by omega) (by omega)
  have e : M.cls c 11 12 = c / 1 % 2 * 2048 + c / 2 % 2 * 1 + c / 4 % 2 * 2 + c / 8 % 2 * 4 + c / 16 % 2 * 8 + c / 32 % 2 * 16 + c / 64 % 2 * 32 + c / 128 % 2 * 64 + c / 256 % 2 * 128 + c / 512 % 2 * 256 + c / 1024 % 2 * 512 + c / 2048 % 2 * 1024 := by
    simp only [M.cls, Nat.reduceAdd, Nat.reduceMod, Int.reducePow, Int.zero_add]
  rw [e]
  refine ⟨hb, ?_⟩
  clear e hb
  match k, hk with
  | 0, _ => exact h0
  | 1, _ => exact h1
  | 2, _ => exact h2
  | 3, _ => exact h3
  | 4, _ => exact h4
  | 5, _ => exact h5
  | 6, _ => exact h6
  | 7, _ => exact h7
  | 8, _ => exact h8
  | 9, _ => exact h9
  | 10, _ => exact h10
  | 11, _ => exact h11
theorem M.cls_mod (c : Int) (b m : Nat) : M.cls c b m = M.cls c (b % 12) m := by
  induction m with
  | zero => rfl
  | succ m ih =>
    simp only [M.cls]
    rw [ih]
    have : (m + b) % 12 = (m + b % 12) % 12 := by omega
    rw [this]
theorem M.cls_any (c : Int) (b k : Nat) (hk : k < 12) : (0 ≤ M.cls c b 12 ∧ M.cls c b 12 ≤ 4095) ∧ M.cls c b 12 / 2 ^ ((k + b) % 12) % 2 = c / 2 ^ k % 2 := by
  rw [M.cls_mod c b]
  have e : (k + b) % 12 = (k + b % 12) % 12 := by omega
  rw [e]
  have hb : b % 12 < 12 := by omega
  generalize b % 12 = d at *
  match d, hb with
  | 0, _ => exact M.clc0 c k hk
  | 1, _ => exact M.clc1 c k hk
  | 2, _ => exact M.clc2 c k hk
  | 3, _ => exact M.clc3 c k hk
  | 4, _ => exact M.clc4 c k hk
  | 5, _ => exact M.clc5 c k hk
  | 6, _ => exact M.clc6 c k hk
  | 7, _ => exact M.clc7 c k hk
  | 8, _ => exact M.clc8 c k hk
  | 9, _ => exact M.clc9 c k hk
  | 10, _ => exact M.clc10 c k hk
  | 11, _ => exact M.clc11 c k hk
theorem M.bit_mv (c : Int) (b : Nat) (k : Int) (hk : 0 ≤ k) : M.bit (M.cls c b 12) (k + b) = M.bit c k := by
  have h := (M.cls_any c b (k % 12).toNat (by omega)).2
  unfold M.bit
  have e : ((k + (b : Int)) % 12).toNat = ((k % 12).toNat + b) % 12 := by omega
  rw [e]; exact h

theorem M.sm_shift {f f' : Nat → Int} {s N : Nat} (hs : s ≤ N) (h1 : ∀ j, f' (j + s) = f j) (h2 : ∀ j, j < s → f' j = 0) (h3 : ∀ j, N - s ≤ j → j < N → f j = 0) : M.sm f' N = M.sm f N := by
  have a : ∀ m, M.sm f' (m + s) = M.sm f m := by
    intro m
    induction m with
    | zero => rw [Nat.zero_add]; exact M.sm_zero h2
    | succ m ih =>
      have : m + 1 + s = (m + s) + 1 := by omega
      rw [this]; simp only [M.sm]; rw [ih, h1]
  have b : ∀ t, t ≤ s → M.sm f (N - s + t) = M.sm f (N - s) := by
    intro t
    induction t with
    | zero => intro _; rfl
    | succ t ih =>
      intro ht
      have : N - s + (t + 1) = (N - s + t) + 1 := by omega
      rw [this]; simp only [M.sm]; rw [ih (by omega), h3 _ (by omega) (by omega)]; omega
  have e1 : N = (N - s) + s := by omega
  have e2 := b s (Nat.le_refl _)
  rw [← e1] at e2
  have e3 := a (N - s)
  rw [← e1] at e3
  rw [e2, e3]

/-- All is moved by B. -/
structure Mv (r r' : M.Ru) (g g' : Nat → Int) (n : Nat) (B : Nat) : Prop where
  ok : r.Ok
  ok' : r'.Ok
  lo : r'.low = r.low + B
  hi : r'.high = r.high + B
  ab : r'.above = r.above
  lp : r'.leap = r.leap
  cl : ∀ k : Int, 0 ≤ k → M.bit r'.classes (k + B) = M.bit r.classes k
  gi : ∀ i, i < n → g' i = g i + B
theorem M.ap_mv (a b B : Int) : M.ap (a + B) (b + B) = M.ap a b := by
  unfold M.ap
  by_cases h : a ≤ b
  · rw [if_pos h, if_pos (by omega)]; omega
  · rw [if_neg h, if_neg (by omega)]; omega
theorem M.so_mv (a b B : Int) : M.so (a + B) (b + B) = M.so a b := by unfold M.so; rw [M.ap_mv]
theorem Mv.ba {r r' : M.Ru} {g g' : Nat → Int} {n B : Nat} (h : Mv r r' g g' n B) {i : Nat} (hi : i < n) (k : Int) : M.ba r' g' n i (k + B) = M.ba r g n i k := by
  by_cases c : k < r.low
  · rw [M.ba_range (Or.inl c), M.ba_range (Or.inl (by rw [h.lo]; omega))]
  · have hk : 0 ≤ k := by have := h.ok.l0; omega
    unfold M.ba
    rw [h.lo, h.hi, h.ab, h.cl k hk, h.gi i hi, M.so_mv]
    have e1 : (k + (B : Int) < r.low + B ∨ r.high + B < k + B ∨ M.bit r.classes k = 0) ↔ (k < r.low ∨ r.high < k ∨ M.bit r.classes k = 0) := by
      constructor <;> intro x <;> rcases x with x | x | x
      · exact Or.inl (by omega)
      · exact Or.inr (Or.inl (by omega))
      · exact Or.inr (Or.inr x)
      · exact Or.inl (by omega)
      · exact Or.inr (Or.inl (by omega))
      · exact Or.inr (Or.inr x)
    have e2 : (r.above = true ∧ k + (B : Int) < g i + B) ↔ (r.above = true ∧ k < g i) := by
      constructor <;> intro x <;> exact ⟨x.1, by have := x.2; omega⟩
    simp only [e1, e2]
theorem Mv.bb {r r' : M.Ru} {g g' : Nat → Int} {n B : Nat} (h : Mv r r' g g' n B) {i : Nat} (hi : i < n) (pk k : Int) (pa : Bool) : M.bb r' g' i (pk + B) pa (k + B) = M.bb r g i pk pa k := by
  by_cases c : i = 0
  · rw [M.bb_first c, M.bb_first c]
  · unfold M.bb
    rw [h.lp, M.ap_mv, h.gi i hi, h.gi (i - 1) (by omega), M.so_mv, M.so_mv]
/-- Sums over states that are moved. -/
theorem M.wy_mv {V V' : Int → Bool → Option Int} {F F' : Int → Bool → Bool} {B : Nat} (hB : B ≤ 127)
    (h : ∀ k a, (if F' (k + B) a = true then (V' (k + B) a).getD 0 else 0) = (if F k a = true then (V k a).getD 0 else 0))
    (h0 : ∀ k a, k < 0 → (if F k a = true then (V k a).getD 0 else 0) = 0) (h1 : ∀ k a, 127 < k + (B : Int) → (if F k a = true then (V k a).getD 0 else 0) = 0) : M.wy V' F' = M.wy V F := by
  unfold M.wy
  rw [M.sm_shift (f := fun j => if F (M.ck j) (M.ca j) = true then (V (M.ck j) (M.ca j)).getD 0 else 0) (s := 2 * B) (by omega)]
  · intro j
    have e1 : M.ck (j + 2 * B) = M.ck j + B := by unfold M.ck; omega
    have e2 : M.ca (j + 2 * B) = M.ca j := by unfold M.ca; rw [show (j + 2 * B) % 2 = j % 2 by omega]
    simp only [e1, e2, h]
  · intro j hj
    have e1 : M.ck j = (M.ck j - B) + B := by omega
    have e2 : M.ck j - B < 0 := by unfold M.ck; omega
    rw [e1, h, h0 _ _ e2]
  · intro j h2 h3
    exact h1 _ _ (by unfold M.ck; omega)
theorem Mv.vs {r r' : M.Ru} {g g' : Nat → Int} {n B : Nat} (h : Mv r r' g g' n B) {i : Nat} (hi : i < n) {Wb Wb' : Int → Bool → Int} (hw : ∀ k a, Wb' (k + B) a = Wb k a) (k : Int) (a : Bool) : M.vs r' g' n i Wb' (k + B) a = M.vs r g n i Wb k a := by
  unfold M.vs
  rw [h.ba hi, hw]
theorem Mv.zero {r : M.Ru} (hr : r.Ok) {g : Nat → Int} {n i : Nat} {Wb : Int → Bool → Int} {F : Int → Bool → Bool} (k : Int) (a : Bool) (hk : k < r.low ∨ r.high < k) : (if F k a = true then (M.vs r g n i Wb k a).getD 0 else 0) = 0 := by
  have : M.vs r g n i Wb k a = none := by
    unfold M.vs
    rw [if_neg (fun x => by have := M.ba_keys hr x.1; omega)]
  rw [this]; simp
theorem Mv.ct {r r' : M.Ru} {g g' : Nat → Int} {n B : Nat} (h : Mv r r' g g' n B) : ∀ d, d < n → ∀ pk pa, M.ct r' g' n d (pk + B) pa = M.ct r g n d pk pa := by
  intro d
  induction d with
  | zero => intro _ pk pa; rfl
  | succ d ih =>
    intro hd pk pa
    have hi : n - (d + 1) < n := by omega
    have hB : B ≤ 127 := by have := h.ok'.hm; have := h.hi; have := h.ok.lh; have := h.ok.l0; omega
    simp only [M.ct]
    refine M.wy_mv hB (fun k a => ?_) (fun k a hk => Mv.zero h.ok k a (Or.inl (by have := h.ok.l0; omega))) (fun k a hk => Mv.zero h.ok k a (Or.inr (by have := h.ok'.hm; have := h.hi; omega)))
    have e1 : M.fo r' g' (n - (d + 1)) (pk + B) pa (k + B) a = M.fo r g (n - (d + 1)) pk pa k a := by
      unfold M.fo
      rw [h.bb hi]
      have : (k + (B : Int) == pk + B) = (k == pk) := by
        by_cases c : k = pk
        · subst c; simp
        · have h1 : (k == pk) = false := by simp [c]
          have h2 : (k + (B : Int) == pk + B) = false := by simp; omega
          rw [h1, h2]
      rw [this]
    rw [e1, h.vs hi (fun k a => ih (by omega) k a)]
theorem Mv.all {r r' : M.Ru} {g g' : Nat → Int} {n B : Nat} (h : Mv r r' g g' n B) (hn : 1 ≤ n) : M.ct r' g' n n (-1) false = M.ct r g n n (-1) false := by
  have hB : B ≤ 127 := by have := h.ok'.hm; have := h.hi; have := h.ok.lh; have := h.ok.l0; omega
  have e0 := M.ct_step r g n 0 (by omega) (-1) false
  have e0' := M.ct_step r' g' n 0 (by omega) (-1) false
  rw [Nat.sub_zero] at e0 e0'
  rw [e0, e0']
  refine M.wy_mv hB (fun k a => ?_) (fun k a hk => Mv.zero h.ok k a (Or.inl (by have := h.ok.l0; omega))) (fun k a hk => Mv.zero h.ok k a (Or.inr (by have := h.ok'.hm; have := h.hi; omega)))
  by_cases hk : k < 0
  · rw [Mv.zero h.ok k a (Or.inl (by have := h.ok.l0; omega)), Mv.zero h.ok' (k + B) a (Or.inl (by have := h.ok.l0; have := h.lo; omega))]
  · have e1 : M.fo r' g' 0 (-1) false (k + B) a = M.fo r g 0 (-1) false k a := by
      unfold M.fo
      rw [M.bb_first rfl, M.bb_first rfl]
      have h1 : (k == -1) = false := by simp; omega
      have h2 : (k + (B : Int) == -1) = false := by simp; omega
      rw [h1, h2]
    rw [e1, h.vs (by omega) (fun k a => h.ct _ (by omega) k a)]
theorem Mv.stk {x : Nat → Int} {B : Nat} {i : Nat} (hi : 1 ≤ i) : M.stk (fun j => x j + B) i = M.stk x i + B := by
  cases i with
  | zero => omega
  | succ i => rfl
theorem Mv.sta {x : Nat → Int} {B : Nat} {i : Nat} (hx : ∀ j, j < i → 0 ≤ x j) : M.sta (fun j => x j + B) i = M.sta x i := by
  cases i with
  | zero => rfl
  | succ i =>
    simp only [M.sta]
    cases i with
    | zero =>
      have := hx 0 (by omega)
      have h1 : (x 0 == M.stk x 0) = false := by simp [M.stk]; omega
      have h2 : (x 0 + (B : Int) == M.stk (fun j => x j + B) 0) = false := by simp [M.stk]; omega
      rw [h1, h2]
    | succ i =>
      rw [Mv.stk (by omega)]
      by_cases c : x (i + 1) = M.stk x (i + 1)
      · rw [c]; simp
      · have h1 : (x (i + 1) == M.stk x (i + 1)) = false := by simp [c]
        have h2 : (x (i + 1) + (B : Int) == M.stk x (i + 1) + B) = false := by simp; omega
        rw [h1, h2]
theorem Mv.fq {r r' : M.Ru} {g g' : Nat → Int} {n B : Nat} (h : Mv r r' g g' n B) {x : Nat → Int} (hx : ∀ i, i < n → FQ r g n x i) : ∀ i, i < n → FQ r' g' n (fun j => x j + B) i := by
  intro i hi
  have h0 : ∀ j, j < n → 0 ≤ x j := fun j hj => by have := M.ba_keys h.ok (hx j hj).1; have := h.ok.l0; omega
  obtain ⟨h1, h2, h3, h4⟩ := hx i hi
  have ebb : ∀ k, M.bb r' g' i (M.stk (fun j => x j + B) i) (M.sta (fun j => x j + B) i) (k + B) = M.bb r g i (M.stk x i) (M.sta x i) k := fun k => by
    by_cases c : i = 0
    · rw [M.bb_first c, M.bb_first c]
    · rw [Mv.stk (by omega), Mv.sta (fun j hj => h0 j (by omega)), h.bb hi]
  refine ⟨?_, ?_, ?_, ?_⟩
  · show M.ba r' g' n i (x i + B) = 0
    rw [h.ba hi]; exact h1
  · show M.bb r' g' i _ _ (x i + B) = 0
    rw [ebb]; exact h2
  · show 0 < M.ct r' g' n (n - (i + 1)) (x i + B) _
    rw [Mv.sta (fun j hj => h0 j (by omega)), h.ct _ (by omega)]; exact h3
  · intro k p q s
    have hk := M.ba_keys h.ok' p
    have e : k = (k - B) + B := by omega
    have hk0 : 0 ≤ k - B := by have := h.lo; have := h.ok.l0; omega
    rw [e, h.ba hi] at p
    rw [e, ebb] at q
    have es : (k == M.stk (fun j => x j + B) i) = (k - B == M.stk x i) := by
      cases i with
      | zero =>
        have a1 : (k == M.stk (fun j => x j + B) 0) = false := by simp [M.stk]; omega
        have a2 : (k - B == M.stk x 0) = false := by simp [M.stk]; omega
        rw [a1, a2]
      | succ i =>
        rw [Mv.stk (by omega)]
        by_cases c : k - B = M.stk x (i + 1)
        · have : k = M.stk x (i + 1) + B := by omega
          rw [this]; simp
        · have a1 : (k == M.stk x (i + 1) + B) = false := by simp; omega
          have a2 : (k - B == M.stk x (i + 1)) = false := by simp [c]
          rw [a1, a2]
    rw [es] at s
    have s2 : 0 < M.ct r g n (n - (i + 1)) (k - B) (k - B == M.stk x i) := by
      rw [← h.ct _ (by omega)]
      rw [← e]; exact s
    have := h4 (k - B) p q s2
    show x i + B ≤ k
    omega
end Go.Proofs.Ytmgkbnlmdhnjnae.U
