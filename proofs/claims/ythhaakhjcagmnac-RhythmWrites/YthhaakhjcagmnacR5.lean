/- What the document's power and Length come to. -/
import Derived.Test.YthhaakhjcagmnacR1
import Derived.Test.YthhaakhjcagmnacFW5
import Derived.Test.YthhaakhjcagmnacRMath5
namespace Go.Proofs.Ythhaakhjcagmnac.F
open Go.RowKit
set_option linter.unusedVariables false
set_option linter.unusedSimpArgs false

set_option maxHeartbeats 400000 in
theorem power_any (n : Int) (w : World) (h1 : 0 ≤ n) (h2 : n ≤ 13) :
    Calls Try.prog 35 #[.int .i64 n] w fun e w' => e = .returned (.int .i64 (M.pw n.toNat)) ∧ w' = w := by
  go_enter Try.func35, Try.ntmps35
  go_wp2
  go_loop [3, 4] (fun s i => ∃ k : Nat, k ≤ n.toNat ∧ i = .int .i64 k ∧ s = .int .i64 (M.pw k)) (fun _ i => n.toNat - (intOf i).toNat)
  case atStart => exact ⟨0, Nat.zero_le _, rfl, rfl⟩
  case round =>
    obtain ⟨k, hk, rfl, rfl⟩ := hrel
    obtain ⟨c1, c2⟩ := M.pw_bd k (by omega)
    by_cases hlt : (k : Int) < n
    · have HN : Hid (M.pw (k + 1) = 2 * M.pw k) := M.pw_succ k
      generalize M.pw k = C at *
      go_wp2
      go_round
      case rel => exact ⟨k + 1, by omega, by go_num, by rw [HN.out]⟩
      case measure => simp [intOf]; omega
    · have HE : Hid (k = n.toNat) := by show k = n.toNat; omega
      go_wp2
      go_ret
      exact ⟨ret_int (by rw [HE.out]), rfl⟩

theorem refLength_no (h d : Int) (w : World) (hk : h < 0 ∨ 10 < h ∨ d < 0 ∨ 3 < d) :
    Calls Try.prog 16 #[.agg #[.int .i64 h, .int .i64 d]] w fun e w' => e = .returned (.tuple #[.agg #[.int .i64 0, .int .i64 0], .int .i64 3]) ∧ Below w.heap.size w w' := by
  by_cases h1 : h < 0
  · go_enter Try.func16, Try.ntmps16
    go_wp2_with fail
    go_returns
    exact ⟨rfl, by go_grown⟩
  by_cases h2 : 10 < h
  · go_enter Try.func16, Try.ntmps16
    go_wp2_with fail
    go_returns
    exact ⟨rfl, by go_grown⟩
  by_cases h3 : d < 0
  · go_enter Try.func16, Try.ntmps16
    go_wp2_with fail
    go_returns
    exact ⟨rfl, by go_grown⟩
  have h4 : 3 < d := by omega
  clear hk
  go_enter Try.func16, Try.ntmps16
  go_wp2_with fail
  go_returns
  exact ⟨rfl, by go_grown⟩

/-- What the loop of the document's Length needs of a dot. -/
def LenI (h k : Int) (a b : Int) : Prop := a = M.sU k.toNat ∧ b = M.sD h.toNat k.toNat

set_option maxRecDepth 20000 in
set_option maxHeartbeats 4000000 in
theorem refLength_gen (h d UU DD : Int) (w : World) (h1 : 0 ≤ h) (h2 : h ≤ 10) (h3 : 0 ≤ d) (h4 : d ≤ 3)
    (HS : Hid (∀ k a b : Int, 0 ≤ k → k ≤ d → LenI h k a b → ∃ p a' b' ee : Int, p = M.pw (h + k).toNat ∧ M.ok a b = true ∧ M.ok 1 p = true ∧ -8192 ≤ a ∧ a ≤ 8192 ∧ 1 ≤ b ∧ b ≤ 8192 ∧ 1 ≤ p ∧ p ≤ 8192 ∧ a' = M.up (a * p + 1 * b) (b * p) ∧ b' = M.dn (a * p + 1 * b) (b * p) ∧ ee = M.er (a * p + 1 * b) (b * p) ∧ LenI h (k + 1) a' b'))
    (HE : Hid (∀ a b : Int, LenI h (d + 1) a b → a = UU ∧ b = DD)) :
    Calls Try.prog 16 #[.agg #[.int .i64 h, .int .i64 d]] w fun e w' => e = .returned (.tuple #[.agg #[.int .i64 UU, .int .i64 DD], .int .i64 0]) ∧ Below w.heap.size w w' := by
  have hst : Hid (LenI h 0 0 1) := ⟨rfl, rfl⟩
  go_enter Try.func16, Try.ntmps16
  go_wp2_with fail
  go_loopw [5] (fun i wr => ∃ k a b : Int, i = .int .i64 k ∧ 0 ≤ k ∧ k ≤ d + 1 ∧ Hid (LenI h k a b) ∧ w.heap.size + 1 + 1 < wr.heap.size
      ∧ wr.cell? ⟨w.heap.size, 0, none⟩ = some (.int .i64 h) ∧ wr.cell? ⟨w.heap.size, 1, none⟩ = some (.int .i64 d)
      ∧ wr.cell? ⟨w.heap.size + 1, 0, none⟩ = some (.int .i64 0) ∧ wr.cell? ⟨w.heap.size + 1, 1, none⟩ = some (.int .i64 0) ∧ wr.frozen? ⟨w.heap.size + 1, 0, none⟩ = false ∧ wr.frozen? ⟨w.heap.size + 1, 1, none⟩ = false
      ∧ wr.cell? ⟨w.heap.size + 1 + 1, 0, none⟩ = some (.int .i64 a) ∧ wr.cell? ⟨w.heap.size + 1 + 1, 1, none⟩ = some (.int .i64 b) ∧ wr.frozen? ⟨w.heap.size + 1 + 1, 0, none⟩ = false ∧ wr.frozen? ⟨w.heap.size + 1 + 1, 1, none⟩ = false ∧ Below w.heap.size w wr)
    (fun i _ => (d + 1 - intOf i).toNat)
  case atStart => exact ⟨0, 0, 1, rfl, by omega, by omega, hst, by simp, by simp [go_sem], by simp [go_sem], by simp [go_sem], by simp [go_sem], by simp [go_sem], by simp [go_sem], by simp [go_sem], by simp [go_sem], by simp [go_sem], by simp [go_sem], by go_grown⟩
  case round =>
    obtain ⟨k, a, b, rfl, k1, k2, hI, zr, A0, A1, R0, R1, F0, F1, S0, S1, G0, G1, hbr⟩ := hrel
    have s0 : w.heap.size < wr.heap.size := by omega
    have s1 : w.heap.size + 1 < wr.heap.size := by omega
    by_cases hlt : k ≤ d
    · obtain ⟨p, a', b', ee, hp, ok1, ok2, a1, a2, b1, b2, p1, p2, ea, eb, ec, hN⟩ := HS.out k a b k1 hlt hI.out
      have hw1 : IntKind.i64.wrap (h + k) = h + k := wid (by omega) (by omega)
      have hPw := fun w => power_any (h + k) w (by omega) (by omega)
      rw [← hp] at hPw
      have hPl := fun w => Plus_refyes a b 1 p w (by omega) (by omega) (by omega) (by omega) (by omega) (by omega) (by omega) (by omega) ok1 ok2
      rw [← ea, ← eb, ← ec] at hPl
      have HN : Hid (LenI h (k + 1) a' b') := hN
      clear hN ea eb ec hp HS hI
      go_wp2_with fail
      go_region_with (first
        | (go_at_call 35; refine (hPw _).mono ?_; rintro e wp ⟨rfl, hwp⟩; rw [hwp])
        | (go_at_call 34; refine (hPl _).mono ?_; rintro e wa ⟨rfl, hba⟩; have hbw : Below wr.heap.size wr wa := Below.trans (by go_grown) (hba.mono (by simp)); have A0 := keepC hbw s0 A0; have A1 := keepC hbw s0 A1; have R0 := keepC hbw s1 R0; have R1 := keepC hbw s1 R1; have F0 := keepF hbw s1 F0; have F1 := keepF hbw s1 F1; have S0 := keepC hbw zr S0; have S1 := keepC hbw zr S1; have G0 := keepF hbw zr G0; have G1 := keepF hbw zr G1; have za := hbw.size; have zs : w.heap.size + 1 + 1 < wa.heap.size := (by omega)))
      all_goals
        go_wp2_with fail
        go_roundw
        case rel => exact ⟨k + 1, a', b', by go_num, by omega, by omega, HN, by simp; omega, by simp [go_sem, A0], by simp [go_sem, A1], by simp [go_sem, R0], by simp [go_sem, R1], by simp [go_sem, F0], by simp [go_sem, F1], by simp [go_sem, S0], by simp [go_sem, S1], by simp [go_sem, G0], by simp [go_sem, G1], ((hbr.trans (hbw.mono hbr.size)).setCell (p := ⟨w.heap.size + 1 + 1, 0, none⟩) (show w.heap.size ≤ w.heap.size + 1 + 1 by omega) _).setCell (p := ⟨w.heap.size + 1 + 1, 1, none⟩) (show w.heap.size ≤ w.heap.size + 1 + 1 by omega) _⟩
        case measure => simp [intOf]; omega
    · obtain rfl : k = d + 1 := by omega
      obtain ⟨rfl, rfl⟩ := HE.out a b hI.out
      clear HS HE hI
      go_wp2_with fail
      refine bodyPost_ret (v := .tuple #[.agg #[.int .i64 a, .int .i64 b], .int .i64 0]) (by simp [results, Try.results16, go_sem, R0, R1]) rfl ⟨rfl, ?_⟩
      exact (hbr.setCell (by simp) _).setCell (by simp) _

theorem refLength_yes (h d : Nat) (w : World) (hh : h ≤ 10) (hd : d ≤ 3) :
    Calls Try.prog 16 #[.agg #[.int .i64 h, .int .i64 d]] w fun e w' => e = .returned (.tuple #[.agg #[.int .i64 (M.LU d), .int .i64 (M.LD h d)], .int .i64 0]) ∧ Below w.heap.size w w' := by
  refine refLength_gen h d (M.LU d) (M.LD h d) w (by omega) (by omega) (by omega) (by omega) ?_ ?_
  · intro k a b k1 k2 hI
    obtain ⟨n, rfl⟩ : ∃ n : Nat, k = n := ⟨k.toNat, by omega⟩
    obtain ⟨rfl, rfl⟩ := hI
    obtain ⟨s1, s2, s3, s4, s5, s6, s7, s8⟩ := M.s_step h n hh (by omega)
    obtain ⟨p1, p2⟩ := M.pw_bd (h + n) (by omega)
    have e : ((h : Int) + n).toNat = h + n := by omega
    refine ⟨M.pw (h + n), _, _, _, by rw [e], s1, s2, s3, s4, s5, s6, p1, p2, rfl, rfl, rfl, ?_⟩
    unfold LenI
    have e2 : ((n : Int) + 1).toNat = n + 1 := by omega
    rw [e2]
    exact ⟨s7, s8⟩
  · intro a b hI
    obtain ⟨rfl, rfl⟩ := hI
    have e2 : ((d : Int) + 1).toNat = d + 1 := by omega
    rw [e2]
    exact M.s_end h d
end Go.Proofs.Ythhaakhjcagmnac.F
