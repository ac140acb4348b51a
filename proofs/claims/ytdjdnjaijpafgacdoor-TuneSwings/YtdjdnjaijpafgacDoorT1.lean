/- What the program's power comes to: so many factors, as long as what is there is not above the greatest part. -/
import Derived.Test.YtdjdnjaijpafgacDoorFW2
import Derived.Test.YtdjdnjaijpafgacDoorTMath
import Derived.LoopTactic
namespace Go.Proofs.YtdjdnjaijpafgacDoor.F
open Go.RowKit
set_option linter.unusedVariables false

set_option maxHeartbeats 400000 in
theorem power_any (b n : Int) (w : World) (hb : 1 ≤ b) (hb2 : b ≤ 3) (h2 : n ≤ 9223372036854775807) :
    Calls Tryd.prog 36 #[.int .i64 b, .int .i64 n] w fun e w' => e = .returned (.int .i64 (M.cp b n.toNat)) ∧ w' = w := by
  go_enter Tryd.func36, Tryd.ntmps36
  go_wp2
  go_loop [5, 7] (fun s i => ∃ k : Nat, k ≤ n.toNat ∧ i = .int .i64 k ∧ s = .int .i64 (M.cp b k)) (fun _ i => n.toNat - (intOf i).toNat)
  case atStart => exact ⟨0, Nat.zero_le _, rfl, rfl⟩
  case round =>
    obtain ⟨k, hk, rfl, rfl⟩ := hrel
    have c1 := M.cp_pos b hb k
    have HG : Hid (¬ 1073741824 < M.cp b k → M.cp b (k + 1) = M.cp b k * b) := fun h => M.cp_go h
    have HS : Hid (1073741824 < M.cp b k → ∀ m, k ≤ m → M.cp b m = M.cp b k) := fun h => M.cp_stay h
    by_cases hlt : (k : Int) < n
    · by_cases hbig : 1073741824 < M.cp b k
      · have HE := HS.out hbig n.toNat hk
        replace HE : Hid (M.cp b n.toNat = M.cp b k) := HE
        generalize M.cp b k = C at *
        go_wp2
        go_ret
        exact ⟨ret_int HE.out.symm, rfl⟩
      · have hnew := HG.out hbig
        have hle : M.cp b k * b ≤ 3221225472 := by
          have := Int.mul_le_mul_of_nonneg_right (show M.cp b k ≤ 1073741824 by omega) (show 0 ≤ b by omega)
          omega
        have hge : 0 ≤ M.cp b k * b := Int.mul_nonneg (by omega) (by omega)
        have HN : Hid (M.cp b (k + 1) = M.cp b k * b) := hnew
        clear hnew
        generalize M.cp b k = C at *
        go_wp2
        go_round
        case rel => exact ⟨k + 1, by omega, by go_num, by rw [HN.out]⟩
        case measure => simp [intOf]; omega
    · have ek : k = n.toNat := by omega
      have HE : Hid (k = n.toNat) := ek
      clear ek
      go_wp2
      go_ret
      exact ⟨ret_int (by rw [HE.out]), rfl⟩
end Go.Proofs.YtdjdnjaijpafgacDoor.F
