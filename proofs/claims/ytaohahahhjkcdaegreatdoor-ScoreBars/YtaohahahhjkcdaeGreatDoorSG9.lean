/- What the program's Length and wrongLength come to. -/
import Derived.Test.YtaohahahhjkcdaeGreatDoorSG6
import Derived.Test.YtaohahahhjkcdaeGreatDoorSG1
import Derived.LoopTactic
import Derived.Deep.RegionWith
namespace Go.Proofs.YtaohahahhjkcdaeGreatDoor.F
open Go.RowKit
set_option linter.unusedVariables false
set_option linter.unusedSimpArgs false

theorem wid {x : Int} (h1 : -9223372036854775808 ≤ x) (h2 : x ≤ 9223372036854775807) : IntKind.i64.wrap x = x := by
  rw [IntKind.wrap_i64]; omega
/-- What a cell holds, whatever it is. -/
def cv (w : World) (b o : Nat) : Value := (w.cell? ⟨b, o, none⟩).getD (.bool false)
theorem cv_some {w : World} {b o : Nat} {v : Value} (h : w.cell? ⟨b, o, none⟩ = some v) : w.cell? ⟨b, o, none⟩ = some (cv w b o) := by unfold cv; rw [h]; rfl
theorem shl1 (n : Nat) (v : Int) (hn : n ≤ 13) (hv : v = 2 ^ n) : Op.shift .shl .i64 1 .i64 (n : Int) = pure (.int .i64 v) := by
  have h2 : (2 : Int) ^ n ≤ 2 ^ 13 := M.pow_le n 13 hn
  have h3 : (0 : Int) ≤ 2 ^ n := by exact Int.pow_nonneg (by omega)
  rw [shift_shl .i64 .i64 1 n (by omega) (by show (n : Int) ≤ 64; omega)]
  simp only [Int.toNat_natCast, Int.one_mul]
  rw [wid (by omega) (by omega), hv]
theorem wrongLength_form (u d : Int) (w : World) (h1 : -9223372036854775808 ≤ u) (h2 : u ≤ 9223372036854775807) (h3 : -9223372036854775808 ≤ d) (h4 : d ≤ 9223372036854775807) (hk : M.ok u d = false) :
    Calls Tryz.prog 33 #[.agg #[.int .i64 u, .int .i64 d]] w fun e w' => e = .returned (.int .i64 2) ∧ Below w.heap.size w w' := by
  go_enter Tryz.func33, Tryz.ntmps33
  go_wp2_with fail
  refine (Right_any u d _ h1 h2 h3 h4).mono ?_
  rintro e w1 ⟨rfl, hb1⟩
  rw [hk]
  go_wp2_with fail
  go_ret
  exact ⟨rfl, Below.trans (by go_grown) (hb1.mono (by go_size))⟩
theorem wrongLength_range (u d : Int) (w : World) (hk : M.ok u d = true) (hu : u ≤ 0) :
    Calls Tryz.prog 33 #[.agg #[.int .i64 u, .int .i64 d]] w fun e w' => e = .returned (.int .i64 3) ∧ Below w.heap.size w w' := by
  obtain ⟨k1, k2, k3, k4, _⟩ := M.ok_yes _ _ hk
  go_enter Tryz.func33, Tryz.ntmps33
  go_wp2_with fail
  refine (Right_any u d _ (by omega) (by omega) (by omega) (by omega)).mono ?_
  rintro e w1 ⟨rfl, hb1⟩
  rw [hk]
  have A0 : w1.cell? ⟨w.heap.size, 0, none⟩ = some (.int .i64 u) := keepC hb1 (by go_size) (by simp [go_sem])
  have z1 := hb1.size
  simp at z1
  go_wp2_with fail
  go_ret
  exact ⟨rfl, Below.trans (by go_grown) (hb1.mono (by go_size))⟩
theorem wrongLength_yes (u d : Int) (w : World) (hk : M.ok u d = true) (hu : 0 < u) :
    Calls Tryz.prog 33 #[.agg #[.int .i64 u, .int .i64 d]] w fun e w' => e = .returned (.int .i64 0) ∧ Below w.heap.size w w' := by
  obtain ⟨k1, k2, k3, k4, _⟩ := M.ok_yes _ _ hk
  go_enter Tryz.func33, Tryz.ntmps33
  go_wp2_with fail
  refine (Right_any u d _ (by omega) (by omega) (by omega) (by omega)).mono ?_
  rintro e w1 ⟨rfl, hb1⟩
  rw [hk]
  have A0 : w1.cell? ⟨w.heap.size, 0, none⟩ = some (.int .i64 u) := keepC hb1 (by go_size) (by simp [go_sem])
  have z1 := hb1.size
  simp at z1
  go_wp2_with fail
  go_ret
  exact ⟨rfl, Below.trans (by go_grown) (hb1.mono (by go_size))⟩
end Go.Proofs.YtaohahahhjkcdaeGreatDoor.F
