/- The statement RhythmWhole: the walk of its text. -/
import Derived.Test.YthhaakhjcagmnadR4
import Derived.Test.YthhaakhjcagmnadFW5
import Derived.Test.YthhaakhjcagmnadFW10
import Derived.Test.YthhaakhjcagmnadRMath4
namespace Go.Proofs.Ythhaakhjcagmnad.F
open Go.RowKit
set_option linter.unusedVariables false
set_option linter.unusedSimpArgs false

theorem whole_no (u d E : Int) (w : World) (hE : (E != 0) = true) (hW : ∀ w, Calls Try.prog 10 #[.agg #[.int .i64 u, .int .i64 d]] w fun e w' => e = .returned (.tuple #[.slice none 0 0, .int .i64 E]) ∧ Below w.heap.size w w') :
    Calls Try.prog 4 #[.agg #[.int .i64 u, .int .i64 d]] w fun e w' => e = .returned (.bool true) ∧ Below w.heap.size w w' := by
  go_enter Try.func4, Try.ntmps4
  go_wp2_with fail
  refine (alive_any _).mono ?_
  rintro e w1 ⟨rfl, hb1⟩
  have A0 : w1.cell? ⟨w.heap.size, 0, none⟩ = some (.int .i64 u) := keepC hb1 (by go_size) (by simp [go_sem])
  have A1 : w1.cell? ⟨w.heap.size, 1, none⟩ = some (.int .i64 d) := keepC hb1 (by go_size) (by simp [go_sem])
  have h01 : Below w.heap.size w w1 := Below.trans (by go_grown) (hb1.mono (by go_size))
  have z1 := hb1.size
  simp at z1
  go_wp2_with fail
  refine (hW _).mono ?_
  rintro e w2 ⟨rfl, hb2⟩
  go_wp2_with fail
  go_ret
  exact ⟨rfl, h01.trans (hb2.mono h01.size)⟩

set_option maxRecDepth 20000 in
set_option maxHeartbeats 4000000 in
theorem whole_yes (u d T P : Int) (q r : Nat) (w : World) (hk : M.ok u d = true) (h0 : 0 < u) (hu : u ≤ 65536 * d) (hd : 1024 % d = 0) (e1 : 1024 / d = P) (e2 : 0 ≤ P) (e3 : P ≤ 1024) (e4 : u * P = T) (HT : Hid (T = q * 1024 + r)) (e6 : q ≤ 65536) (e7 : r < 1024) (HD : Hid (T * d = u * 1024)) (t1 : 1 ≤ T) (t2 : T ≤ 67108864) :
    Calls Try.prog 4 #[.agg #[.int .i64 u, .int .i64 d]] w fun e w' => e = .returned (.bool true) ∧ Below w.heap.size w w' := by
  have hW := fun w => Write_ok u d T P q r w hk h0 hu hd e1 e2 e3 e4 HT.out e6 e7
  have hq : q * 1024 + r ≤ 67108864 := by have := HT.out; omega
  have HE : ∀ a b c e : Int, M.LawI q r (M.eN q r) a b c e → a = u ∧ b = d := fun a b c e h => M.law_end q r u d T a b c e h e7 HT.out hk HD.out
  replace HE : Hid (∀ a b c e : Int, M.LawI q r (M.eN q r) a b c e → a = u ∧ b = d) := HE
  have hN1 : 1 ≤ M.eN q r := by
    have := M.pS_all q r e7
    by_cases e : M.eN q r = 0
    · rw [e] at this; have := HT.out; simp [M.pS] at *; omega
    · omega
  have hN2 : M.eN q r ≤ 65541 := by have := M.tl_len r e7; unfold M.eN; omega
  have HG : Hid (∀ (k : Nat) (a b c e : Int), M.LawI q r k a b c e → k < M.eN q r → 1 ≤ e → ∃ (x y U D : Int), (∀ w, Calls Try.prog 11 #[.agg #[.int .i64 x, .int .i64 y]] w fun e w' => e = .returned (.tuple #[.agg #[.int .i64 U, .int .i64 D], .int .i64 0]) ∧ Below w.heap.size w w') ∧ vF q r k = [.int .i64 x, .int .i64 y] ∧ M.ok U D = true ∧ 1 ≤ U ∧ U ≤ 15 ∧ 1 ≤ D ∧ D ≤ 8192 ∧ M.sg (U * e) (c * D) ≤ 0 ∧ M.er (a * D + U * b) (b * D) = 0 ∧ M.LawI q r (k + 1) (M.up (a * D + U * b) (b * D)) (M.dn (a * D + U * b) (b * D)) U D) := by
    intro k a b c e hI hk2 he
    obtain ⟨g1, g2, g3, g4, g5⟩ := M.law_go q r k a b c e hI e7 hq hk2 he
    obtain ⟨l0, l1, l2, l3, l4⟩ := M.L_ok _ _ g1 g2
    exact ⟨_, _, _, _, fun w => Length_yes _ _ w g1 g2, rfl, l0, l1, l2, l3, l4, g3, g4, g5⟩
  have HB : Hid (∀ (k : Nat) (a b c e : Int), M.LawI q r k a b c e → k ≤ M.eN q r → M.ok a b = true ∧ 0 ≤ a ∧ a ≤ 67108864 ∧ 1 ≤ b ∧ b ≤ 1024) := fun k a b c e h hk2 => M.law_bd q r k a b c e h e7 hq hk2
  obtain ⟨N, hN⟩ : ∃ N, M.eN q r = N := ⟨_, rfl⟩
  obtain ⟨R, hR⟩ : ∃ R : List Value, rows (vF q r) N = R := ⟨_, rfl⟩
  have HR : Hid (∀ k i : Nat, k < N → i < 2 → R[k * 2 + i]? = (vF q r k)[i]?) := fun k i h1 h2 => by rw [← hR]; exact rows_get (vF_len q r) N k i h1 h2
  unfold WriteOk at hW
  rw [hN] at hN1 hN2 HE HG HB
  simp only [hN, hR] at hW
  have HN : Hid (M.eN q r = N) := hN
  clear hN hR
  have hst : Hid (M.LawI q r 0 0 1 2 1) := M.law_start q r
  clear HT HD hd e1 e4 hu
  go_enter Try.func4, Try.ntmps4
  go_wp2_with fail
  refine (alive_any _).mono ?_
  rintro e w1 ⟨rfl, hb1⟩
  have A0 : w1.cell? ⟨w.heap.size, 0, none⟩ = some (.int .i64 u) := keepC hb1 (by go_size) (by simp [go_sem])
  have A1 : w1.cell? ⟨w.heap.size, 1, none⟩ = some (.int .i64 d) := keepC hb1 (by go_size) (by simp [go_sem])
  have h01 : Below w.heap.size w w1 := Below.trans (by go_grown) (hb1.mono (by go_size))
  have z1 := hb1.size
  simp at z1
  have s1 : w.heap.size < w1.heap.size := by omega
  go_wp2_with fail
  refine (hW _).mono ?_
  rintro e w2 ⟨v, rfl, hb2, hown⟩
  have z2 := hb2.size
  obtain ⟨g, cap, rfl, c1, c2, c3, c4⟩ := own_cells hown (by omega)
  replace A0 := keepC hb2 s1 A0
  replace A1 := keepC hb2 s1 A1
  have h02 : Below w.heap.size w w2 := h01.trans (hb2.mono h01.size)
  have s2 : w.heap.size < w2.heap.size := by omega
  have HC : Hid (∀ j, j < N * 2 → w2.cell? ⟨g, j, none⟩ = R[j]?) := c4
  clear c4 hown hb1 hW
  go_wp2_with fail
  go_loopw [27] (fun i wr => ∃ (k : Nat) (a b c e : Int), k ≤ N ∧ i = .int .i64 k ∧ Hid (M.LawI q r k a b c e) ∧ 1 ≤ e ∧ e ≤ 8192 ∧ 1 ≤ c ∧ c ≤ 15
      ∧ w2.heap.size + 1 < wr.heap.size ∧ wr.cell? ⟨w2.heap.size, 0, none⟩ = some (.int .i64 a) ∧ wr.cell? ⟨w2.heap.size, 1, none⟩ = some (.int .i64 b) ∧ wr.cell? ⟨w2.heap.size + 1, 0, none⟩ = some (.int .i64 c) ∧ wr.cell? ⟨w2.heap.size + 1, 1, none⟩ = some (.int .i64 e)
      ∧ wr.frozen? ⟨w2.heap.size, 0, none⟩ = false ∧ wr.frozen? ⟨w2.heap.size, 1, none⟩ = false ∧ wr.frozen? ⟨w2.heap.size + 1, 0, none⟩ = false ∧ wr.frozen? ⟨w2.heap.size + 1, 1, none⟩ = false ∧ Below w2.heap.size w2 wr)
    (fun i _ => N - (intOf i).toNat)
  case atStart => exact ⟨0, 0, 1, 2, 1, by omega, rfl, hst, by omega, by omega, by omega, by omega, by simp, by simp [go_sem], by simp [go_sem], by simp [go_sem], by simp [go_sem], by simp [go_sem], by simp [go_sem], by simp [go_sem], by simp [go_sem], by go_grown⟩
  case round =>
    obtain ⟨k, a, b, c, e, hkN, rfl, hI, b1, b2, b3, b4, zr, S0, S1, L0, L1, F0, F1, G0, G1, hbr⟩ := hrel
    obtain ⟨ok1, a1, a2, a3, a4⟩ := HB.out k a b c e hI.out hkN
    have q1 := keepC hbr s2 A0
    have q2 := keepC hbr s2 A1
    have sr : w.heap.size < wr.heap.size := by omega
    have sr0 : w2.heap.size < wr.heap.size := by omega
    by_cases hlt : k < N
    · obtain ⟨x, y, U, D, hL, hv, ok2, u1, u2, d1, d2, hsg, her, hnx⟩ := HG.out k a b c e hI.out hlt b1
      have x0 : wr.cell? ⟨g, k * 2, none⟩ = some (.int .i64 x) := keepC hbr c2 ((HC.out (k * 2) (by omega)).trans (by have := HR.out k 0 hlt (by omega); rw [Nat.add_zero] at this; rw [this, hv]; rfl))
      have x1 : wr.cell? ⟨g, k * 2 + 1, none⟩ = some (.int .i64 y) := keepC hbr c2 ((HC.out (k * 2 + 1) (by omega)).trans (by rw [HR.out k 1 hlt (by omega), hv]; rfl))
      have gr : g < wr.heap.size := by omega
      obtain ⟨m1, m2⟩ := M.mul_bd U e (by omega) (by omega) (by omega) (by omega)
      obtain ⟨m3, m4⟩ := M.mul_bd c D (by omega) (by omega) (by omega) (by omega)
      have hSg := fun w => Sign_any U D c e w m1 m2 m3 m4
      have hPl := fun w => Plus_refyes a b U D w (by omega) (by omega) (by omega) (by omega) (by omega) (by omega) (by omega) (by omega) ok1 ok2
      generalize M.sg (U * e) (c * D) = sgv at *
      generalize M.er (a * D + U * b) (b * D) = ev at *
      subst her
      have hnx' : Hid (M.LawI q r (k + 1) (M.up (a * D + U * b) (b * D)) (M.dn (a * D + U * b) (b * D)) U D) := hnx
      have hbd := HB.out (k + 1) _ _ _ _ hnx (by omega)
      clear hnx hv m1 m2 m3 m4
      generalize M.up (a * D + U * b) (b * D) = a' at *
      generalize M.dn (a * D + U * b) (b * D) = b' at *
      clear HG HB HE hI
      go_wp2_with fail
      refine (hL _).mono ?_
      rintro e w4 ⟨rfl, hb4⟩
      have hbA : Below wr.heap.size wr w4 := Below.trans (by go_grown) (hb4.mono (by simp))
      replace S0 := keepC hbA sr0 S0
      replace S1 := keepC hbA sr0 S1
      replace L0 := keepC hbA zr L0
      replace L1 := keepC hbA zr L1
      replace F0 := keepF hbA sr0 F0
      replace F1 := keepF hbA sr0 F1
      replace G0 := keepF hbA zr G0
      replace G1 := keepF hbA zr G1
      have zA := hbA.size
      have z4a : w2.heap.size < w4.heap.size := by omega
      have z4b : w2.heap.size + 1 < w4.heap.size := by omega
      clear x0 x1 q1 q2 hb4
      go_wp2_with fail
      refine (hSg _).mono ?_
      rintro e w5 ⟨rfl, hb5⟩
      have hbB : Below w4.heap.size w4 w5 := Below.trans (by go_grown) (hb5.mono (by simp))
      have X0 : w5.cell? ⟨w4.heap.size, 0, none⟩ = some (.int .i64 U) := keepC hb5 (by simp) (by simp [go_sem])
      have X1 : w5.cell? ⟨w4.heap.size, 1, none⟩ = some (.int .i64 D) := keepC hb5 (by simp) (by simp [go_sem])
      replace S0 := keepC hbB z4a S0
      replace S1 := keepC hbB z4a S1
      replace L0 := keepC hbB z4b L0
      replace L1 := keepC hbB z4b L1
      replace F0 := keepF hbB z4a F0
      replace F1 := keepF hbB z4a F1
      replace G0 := keepF hbB z4b G0
      replace G1 := keepF hbB z4b G1
      have zB := hb5.size
      simp at zB
      have z5a : w2.heap.size < w5.heap.size := by omega
      have z5b : w2.heap.size + 1 < w5.heap.size := by omega
      have z5c : w4.heap.size < w5.heap.size := by omega
      have hne : w4.heap.size ≠ w2.heap.size + 1 := by omega
      have hne2 : w4.heap.size ≠ w2.heap.size := by omega
      clear hb5
      go_wp2_with fail
      refine (hPl _).mono ?_
      rintro e w7 ⟨rfl, hb7⟩
      have z7 := hb7.size
      simp at z7
      have M0 : w7.cell? ⟨w2.heap.size, 0, none⟩ = some (.int .i64 a) := keepC hb7 (by simp; omega) (by simp [go_sem, S0])
      have M1 : w7.cell? ⟨w2.heap.size, 1, none⟩ = some (.int .i64 b) := keepC hb7 (by simp; omega) (by simp [go_sem, S1])
      have N0 : w7.cell? ⟨w2.heap.size + 1, 0, none⟩ = some (.int .i64 U) := keepC hb7 (by simp; omega) (by simp [go_sem, L0])
      have N1 : w7.cell? ⟨w2.heap.size + 1, 1, none⟩ = some (.int .i64 D) := keepC hb7 (by simp; omega) (by simp [go_sem, L1])
      have P0 : w7.frozen? ⟨w2.heap.size, 0, none⟩ = false := keepF hb7 (by simp; omega) (by simp [go_sem, F0])
      have P1 : w7.frozen? ⟨w2.heap.size, 1, none⟩ = false := keepF hb7 (by simp; omega) (by simp [go_sem, F1])
      have Q0 : w7.frozen? ⟨w2.heap.size + 1, 0, none⟩ = false := keepF hb7 (by simp; omega) (by simp [go_sem, G0])
      have Q1 : w7.frozen? ⟨w2.heap.size + 1, 1, none⟩ = false := keepF hb7 (by simp; omega) (by simp [go_sem, G1])
      have h25 : Below w2.heap.size w2 w5 := hbr.trans ((hbA.trans (hbB.mono hbA.size)).mono (by omega))
      have h26 : Below w2.heap.size w2 ((w5.setCell ⟨w2.heap.size + 1, 0, none⟩ (.int .i64 U)).setCell ⟨w2.heap.size + 1, 1, none⟩ (.int .i64 D)) := (h25.setCell (p := ⟨w2.heap.size + 1, 0, none⟩) (show w2.heap.size ≤ w2.heap.size + 1 by omega) _).setCell (p := ⟨w2.heap.size + 1, 1, none⟩) (show w2.heap.size ≤ w2.heap.size + 1 by omega) _
      have h27 : Below w2.heap.size w2 w7 := h26.trans (hb7.mono (by simp; omega))
      have z7a : w2.heap.size < w7.heap.size := by omega
      have z7b : w2.heap.size + 1 < w7.heap.size := by omega
      clear S0 S1 L0 L1 F0 F1 G0 G1 X0 X1 hb7 h25 h26 hbA hbB hL hSg hPl
      go_wp2_with fail
      go_roundw
      case rel => exact ⟨k + 1, a', b', U, D, by omega, by go_num, hnx', by omega, by omega, by omega, by omega, by simp; omega, by simp [go_sem, M0], by simp [go_sem, M1], by simp [go_sem, N0], by simp [go_sem, N1], by simp [go_sem, P0], by simp [go_sem, P1], by simp [go_sem, Q0], by simp [go_sem, Q1], (h27.setCell (p := ⟨w2.heap.size, 0, none⟩) (Nat.le_refl _) _).setCell (p := ⟨w2.heap.size, 1, none⟩) (Nat.le_refl _) _⟩
      case measure => simp [intOf]; omega
    · obtain rfl : k = N := by omega
      obtain ⟨rfl, rfl⟩ := HE.out a b c e hI.out
      clear HG HB HE hI
      go_wp2_with fail
      go_ret
      exact ⟨rfl, h02.trans (hbr.mono (by omega))⟩
end Go.Proofs.Ythhaakhjcagmnad.F
