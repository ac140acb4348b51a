/- What the program's Write comes to. -/
import Derived.Test.YtgcnmmjgdpdmbadR1
import Derived.Test.YtgcnmmjgdpdmbadRRow
import Derived.Laws.MakeOwn
namespace Go.Proofs.Ytgcnmmjgdpdmbad.F
open Go.RowKit
set_option linter.unusedVariables false
set_option linter.unusedSimpArgs false

theorem infoV : (Try.prog.info? 43).map (fun i => (i.zero, i.size, i.bytes)) = some (some (.agg #[.int .i64 0, .int .i64 0]), 2, 16) := by kernel_rfl
def vF (q r k : Nat) : List Value := [.int .i64 (M.eV q r k).1, .int .i64 (M.eV q r k).2]
theorem vF_len (q r j : Nat) : (vF q r j).length = 2 := rfl

/-- What make lays: whole notes alone. -/
theorem made_rows (q r : Nat) : (madeCells (Value.agg #[.int .i64 0, .int .i64 0]).cells (q * 2)).toList = rows (vF q r) q := by
  apply List.ext_getElem?
  intro i
  by_cases hi : i < q * 2
  · have e1 : (madeCells (Value.agg #[.int .i64 0, .int .i64 0]).cells (q * 2)).toList[i]? = some (.int .i64 0) := by
      have hm : i % 2 = 0 ∨ i % 2 = 1 := by omega
      have hc : (Value.agg #[.int .i64 0, .int .i64 0]).cells = #[.int .i64 0, .int .i64 0] := rfl
      rw [hc]
      simp only [madeCells, Array.getElem?_toList, Array.getElem?_map]
      rw [show (Array.range (q * 2))[i]? = some i by simp [hi]]
      rcases hm with e | e <;> simp [e]
    rw [e1]
    obtain ⟨j, k, rfl, hk⟩ : ∃ j k, i = j * 2 + k ∧ k < 2 := ⟨i / 2, i % 2, by omega, by omega⟩
    rw [rows_get (vF_len q r) q j k (by omega) hk]
    unfold vF
    rw [M.eV_whole q r j (by omega)]
    rcases (show k = 0 ∨ k = 1 by omega) with rfl | rfl <;> rfl
  · rw [List.getElem?_eq_none (by simp [size_madeCells]; omega), List.getElem?_eq_none (by rw [rows_len (vF_len q r)]; omega)]
theorem own_made (w : World) (base q r : Nat) (hb : base ≤ w.heap.size) (hq : q ≤ 65536) :
    (w.alloc (.cells (madeCells (Value.agg #[.int .i64 0, .int .i64 0]).cells (q * 2)) 43)).ownsRow base 43 2 (.slice (some ⟨w.heap.size, 0, none⟩) q q) q (rows (vF q r) q) := by
  refine ⟨by rw [rows_len (vF_len q r)], .inr ⟨w.heap.size, q, madeCells (Value.agg #[.int .i64 0, .int .i64 0]).cells (q * 2), rfl, hb, ?_, Nat.le_refl _, by unfold maxLen; omega, size_madeCells _ _, ?_⟩⟩
  · show (w.heap.push _)[w.heap.size]? = _
    simp
  · rw [← made_rows q r]
    exact List.take_of_length_le (by simp [size_madeCells])

theorem Write_form (u d : Int) (w : World) (h1 : -9223372036854775808 ≤ u) (h2 : u ≤ 9223372036854775807) (h3 : -9223372036854775808 ≤ d) (h4 : d ≤ 9223372036854775807) (hk : M.ok u d = false) :
    Calls Try.prog 10 #[.agg #[.int .i64 u, .int .i64 d]] w fun e w' => e = .returned (.tuple #[.slice none 0 0, .int .i64 2]) ∧ Below w.heap.size w w' := by
  go_enter Try.func10, Try.ntmps10
  go_wp2_with fail
  refine (wrongLength_form u d _ h1 h2 h3 h4 hk).mono ?_
  rintro e w1 ⟨rfl, hb1⟩
  go_wp2_with fail
  go_returns
  exact ⟨rfl, Below.trans (by go_grown) (hb1.mono (by go_size))⟩
theorem Write_range (u d : Int) (w : World) (hk : M.ok u d = true) (hu : u ≤ 0) :
    Calls Try.prog 10 #[.agg #[.int .i64 u, .int .i64 d]] w fun e w' => e = .returned (.tuple #[.slice none 0 0, .int .i64 3]) ∧ Below w.heap.size w w' := by
  go_enter Try.func10, Try.ntmps10
  go_wp2_with fail
  refine (wrongLength_range u d _ hk hu).mono ?_
  rintro e w1 ⟨rfl, hb1⟩
  go_wp2_with fail
  go_returns
  exact ⟨rfl, Below.trans (by go_grown) (hb1.mono (by go_size))⟩
theorem Write_much (u d : Int) (w : World) (hk : M.ok u d = true) (hu : 65536 * d < u) :
    Calls Try.prog 10 #[.agg #[.int .i64 u, .int .i64 d]] w fun e w' => e = .returned (.tuple #[.slice none 0 0, .int .i64 3]) ∧ Below w.heap.size w w' := by
  obtain ⟨k1, k2, k3, k4, _⟩ := M.ok_yes _ _ hk
  go_enter Try.func10, Try.ntmps10
  go_wp2_with fail
  refine (wrongLength_yes u d _ hk (by omega)).mono ?_
  rintro e w1 ⟨rfl, hb1⟩
  have A0 : w1.cell? ⟨w.heap.size, 0, none⟩ = some (.int .i64 u) := keepC hb1 (by go_size) (by simp [go_sem])
  have A1 : w1.cell? ⟨w.heap.size, 1, none⟩ = some (.int .i64 d) := keepC hb1 (by go_size) (by simp [go_sem])
  have z1 := hb1.size
  simp at z1
  go_wp2_with fail
  go_returns
  exact ⟨rfl, Below.trans (by go_grown) (hb1.mono (by go_size))⟩
theorem Write_none (u d : Int) (w : World) (hk : M.ok u d = true) (h0 : 0 < u) (hu : u ≤ 65536 * d) (hd : 1024 % d ≠ 0) :
    Calls Try.prog 10 #[.agg #[.int .i64 u, .int .i64 d]] w fun e w' => e = .returned (.tuple #[.slice none 0 0, .int .i64 6]) ∧ Below w.heap.size w w' := by
  obtain ⟨k1, k2, k3, k4, _⟩ := M.ok_yes _ _ hk
  have hne : d ≠ 0 := by omega
  have hdb : (1024 % d != 0) = true := by simpa using hd
  go_enter Try.func10, Try.ntmps10
  go_wp2_with fail
  refine (wrongLength_yes u d _ hk (by omega)).mono ?_
  rintro e w1 ⟨rfl, hb1⟩
  have A0 : w1.cell? ⟨w.heap.size, 0, none⟩ = some (.int .i64 u) := keepC hb1 (by go_size) (by simp [go_sem])
  have A1 : w1.cell? ⟨w.heap.size, 1, none⟩ = some (.int .i64 d) := keepC hb1 (by go_size) (by simp [go_sem])
  have z1 := hb1.size
  simp at z1
  go_wp2_with fail
  go_returns
  exact ⟨rfl, Below.trans (by go_grown) (hb1.mono (by go_size))⟩
end Go.Proofs.Ytgcnmmjgdpdmbad.F
