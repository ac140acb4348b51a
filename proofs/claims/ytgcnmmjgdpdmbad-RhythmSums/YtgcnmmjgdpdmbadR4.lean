/- What the law's alive comes to; what the program's Write comes to, in parts of 1/1024. -/
import Derived.Test.YtgcnmmjgdpdmbadR3
namespace Go.Proofs.Ytgcnmmjgdpdmbad.F
open Go.RowKit
set_option linter.unusedVariables false
set_option linter.unusedSimpArgs false

theorem alive_any (w : World) :
    Calls Try.prog 5 #[] w fun e w' => e = .returned (.bool true) ∧ Below w.heap.size w w' := by
  have hL := fun w => Length_yes 2 1 w (by omega) (by omega)
  have e1 : M.LU 1 = 3 := by decide
  have e2 : M.LD 2 1 = 8 := by decide
  rw [e1, e2] at hL
  go_enter Try.func5, Try.ntmps5
  go_wp2_with fail
  refine (hL _).mono ?_
  rintro e w1 ⟨rfl, hb1⟩
  have h01 : Below w.heap.size w w1 := hb1
  have z1 := hb1.size
  go_wp2_with fail
  go_ret
  exact ⟨rfl, h01.trans (Below.mono (by go_grown) z1)⟩

/-- A length that is written, in parts of 1/1024. -/
theorem parts_of (u d : Int) (hk : M.ok u d = true) (h0 : 0 < u) (hu : u ≤ 65536 * d) (hd : 1024 % d = 0) :
    ∃ (T P : Int) (q r : Nat), 1024 / d = P ∧ 0 ≤ P ∧ P ≤ 1024 ∧ u * P = T ∧ T = q * 1024 + r ∧ q ≤ 65536 ∧ r < 1024 ∧ T * d = u * 1024 ∧ 1 ≤ T ∧ T ≤ 67108864 := by
  obtain ⟨k1, k2, k3, k4, _⟩ := M.ok_yes _ _ hk
  have hp : d * (1024 / d) = 1024 := Int.mul_ediv_cancel' (Int.dvd_of_emod_eq_zero hd)
  have hp1 : 0 ≤ 1024 / d := Int.ediv_nonneg (by omega) (by omega)
  have hp3 : 1 ≤ 1024 / d := by
    by_cases e : 1024 / d = 0
    · rw [e] at hp; omega
    · omega
  have hp2 : 1024 / d ≤ 1024 := Int.ediv_le_self _ (by omega)
  have hm : u * (1024 / d) ≤ 65536 * d * (1024 / d) := Int.mul_le_mul_of_nonneg_right hu hp1
  have hm2 : 65536 * d * (1024 / d) = 67108864 := by rw [Int.mul_assoc, hp]; rfl
  have hm3 := M.mul_pos' u (1024 / d) (by omega) hp3
  have hTd : u * (1024 / d) * d = u * 1024 := by rw [Int.mul_assoc, Int.mul_comm (1024 / d) d, hp]
  refine ⟨u * (1024 / d), 1024 / d, (u * (1024 / d) / 1024).toNat, (u * (1024 / d) % 1024).toNat, rfl, hp1, hp2, rfl, by omega, by omega, by omega, hTd, by omega, by omega⟩
theorem Write_ok (u d T : Int) (P : Int) (q r : Nat) (w : World) (hk : M.ok u d = true) (h0 : 0 < u) (hu : u ≤ 65536 * d) (hd : 1024 % d = 0) (e1 : 1024 / d = P) (e2 : 0 ≤ P) (e3 : P ≤ 1024) (e4 : u * P = T) (e5 : T = q * 1024 + r) (e6 : q ≤ 65536) (e7 : r < 1024) :
    Calls Try.prog 10 #[.agg #[.int .i64 u, .int .i64 d]] w (WriteOk q r w) :=
  Write_gen u d T P q r w hk h0 hu (by simpa using hd) e1 e2 e3 e4 e5 e6 e7
end Go.Proofs.Ytgcnmmjgdpdmbad.F
