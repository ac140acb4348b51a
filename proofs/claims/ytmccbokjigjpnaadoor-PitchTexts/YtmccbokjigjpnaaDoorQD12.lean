/- The letter at a text's beginning: what the document looks for and what the program finds are one. -/
import Derived.Test.YtmccbokjigjpnaaDoorQD11
import Derived.Test.YtmccbokjigjpnaaDoorQD1
namespace Go.Proofs.YtmccbokjigjpnaaDoor
set_option linter.unusedVariables false
set_option linter.unusedSimpArgs false
theorem M.all_u8 (p : UInt8 → Bool) (h : (List.range 256).all (fun n => p (UInt8.ofNat n)) = true) (x : UInt8) : p x = true := by
  have := List.all_eq_true.1 h x.toNat (List.mem_range.2 (UInt8.toNat_lt x))
  simpa using this
theorem M.ib_iff (n : Int) (c : UInt8) (h : (List.range 256).all (fun m => decide (Lib.indexByte [67, 68, 69, 70, 71, 65, 66] (UInt8.ofNat m) = n) == decide (UInt8.ofNat m = c)) = true) (x : UInt8) : Lib.indexByte [67, 68, 69, 70, 71, 65, 66] x = n ↔ x = c := by
  have := M.all_u8 (fun x => decide (Lib.indexByte [67, 68, 69, 70, 71, 65, 66] x = n) == decide (x = c)) h x
  simpa using this
theorem M.lt_sts (s : ByteArray) (k : Nat) (hk : k < 7) : M.sts s 0 ⟨(M.lt' k).toArray⟩ = decide (M.ix s = k) := by
  have hl := M.len_data s
  have hix : ∀ c : UInt8, s.data.toList.headD 0 = c → M.ix s = Lib.indexByte [67, 68, 69, 70, 71, 65, 66] c := fun c h => by unfold M.ix; rw [h]
  have e : ∀ c : UInt8, c ≠ 0 → (M.sts s 0 ⟨#[c]⟩ = true ↔ s.data.toList.headD 0 = c) := fun c hc => by
    have key := (M.sts_iff s 0 [c] (by simp)).trans (M.stl_take s [c] 0)
    have e2 : (⟨[c].toArray⟩ : ByteArray) = ⟨#[c]⟩ := rfl
    rw [e2] at key
    rw [key]
    cases hd : s.data.toList with
    | nil => simp; exact fun h => hc h.symm
    | cons x r =>
      simp
      intro _
      rw [hd] at hl
      simp at hl
      omega
  have fin : ∀ (c : UInt8) (n : Int), c ≠ 0 → (∀ x : UInt8, Lib.indexByte [67, 68, 69, 70, 71, 65, 66] x = n ↔ x = c) → M.sts s 0 ⟨#[c]⟩ = decide (M.ix s = n) := fun c n hc h => by
    rw [Bool.eq_iff_iff, e c hc, decide_eq_true_eq]
    unfold M.ix
    exact (h _).symm
  rcases (show k = 0 ∨ k = 1 ∨ k = 2 ∨ k = 3 ∨ k = 4 ∨ k = 5 ∨ k = 6 by omega) with rfl | rfl | rfl | rfl | rfl | rfl | rfl
  · exact fin 67 0 (by decide) (M.ib_iff 0 67 (by decide +kernel))
  · exact fin 68 1 (by decide) (M.ib_iff 1 68 (by decide +kernel))
  · exact fin 69 2 (by decide) (M.ib_iff 2 69 (by decide +kernel))
  · exact fin 70 3 (by decide) (M.ib_iff 3 70 (by decide +kernel))
  · exact fin 71 4 (by decide) (M.ib_iff 4 71 (by decide +kernel))
  · exact fin 65 5 (by decide) (M.ib_iff 5 65 (by decide +kernel))
  · exact fin 66 6 (by decide) (M.ib_iff 6 66 (by decide +kernel))
theorem M.ix_bd (s : ByteArray) : -1 ≤ M.ix s ∧ M.ix s ≤ 6 := by
  have := M.all_u8 (fun x => decide (-1 ≤ Lib.indexByte [67, 68, 69, 70, 71, 65, 66] x ∧ Lib.indexByte [67, 68, 69, 70, 71, 65, 66] x ≤ 6)) (by decide +kernel) (s.data.toList.headD 0)
  exact of_decide_eq_true this
theorem M.ix_pos (s : ByteArray) (h : 0 ≤ M.ix s) : 1 ≤ s.size := by
  have hl := M.len_data s
  cases hd : s.data.toList with
  | nil =>
    have : M.ix s = -1 := by unfold M.ix; rw [hd]; decide
    omega
  | cons x r => rw [hd] at hl; simp at hl; omega
end Go.Proofs.YtmccbokjigjpnaaDoor
