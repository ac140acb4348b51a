/- What the program's breaksBehind comes to. -/
import Derived.Test.YtmgkbnlmdhnjnaeU1
namespace Go.Proofs.Ytmgkbnlmdhnjnae.U
open Go.RowKit
set_option linter.unusedVariables false
set_option linter.unusedSimpArgs false

theorem M.ap_bd {a b : Int} (h1 : -1 ≤ a) (h2 : a ≤ 127) (h3 : -1 ≤ b) (h4 : b ≤ 127) : 0 ≤ M.ap a b ∧ M.ap a b ≤ 128 := by unfold M.ap; split <;> omega
theorem M.bb_first {r : M.Ru} {g : Nat → Int} {i : Nat} {pk : Int} {pa : Bool} {k : Int} (h : i = 0) : M.bb r g i pk pa k = 0 := by
  unfold M.bb; rw [if_pos h]
theorem M.bb_leap {r : M.Ru} {g : Nat → Int} {i : Nat} {pk : Int} {pa : Bool} {k : Int} (h : ¬ i = 0) (h2 : r.leap < M.ap k pk ∨ M.ap k pk = 6) : M.bb r g i pk pa k = 5 := by
  unfold M.bb; rw [if_neg h, if_pos h2]
theorem M.bb_par {r : M.Ru} {g : Nat → Int} {i : Nat} {pk : Int} {pa : Bool} {k : Int} (h : ¬ i = 0) (h2 : ¬ (r.leap < M.ap k pk ∨ M.ap k pk = 6)) (h3 : M.ap k pk ≠ 0 ∧ M.pf (M.so k (g i)) = true ∧ M.so k (g i) = M.so pk (g (i - 1))) : M.bb r g i pk pa k = 6 := by
  unfold M.bb; rw [if_neg h, if_neg h2, if_pos h3]
theorem M.bb_rep {r : M.Ru} {g : Nat → Int} {i : Nat} {pk : Int} {pa : Bool} {k : Int} (h : ¬ i = 0) (h2 : ¬ (r.leap < M.ap k pk ∨ M.ap k pk = 6)) (h3 : ¬ (M.ap k pk ≠ 0 ∧ M.pf (M.so k (g i)) = true ∧ M.so k (g i) = M.so pk (g (i - 1))))
    (h4 : M.ap k pk = 0 ∧ pa = true) : M.bb r g i pk pa k = 7 := by
  unfold M.bb; rw [if_neg h, if_neg h2, if_neg h3, if_pos h4]
theorem M.bb_none {r : M.Ru} {g : Nat → Int} {i : Nat} {pk : Int} {pa : Bool} {k : Int} (h : ¬ i = 0) (h2 : ¬ (r.leap < M.ap k pk ∨ M.ap k pk = 6)) (h3 : ¬ (M.ap k pk ≠ 0 ∧ M.pf (M.so k (g i)) = true ∧ M.so k (g i) = M.so pk (g (i - 1))))
    (h4 : ¬ (M.ap k pk = 0 ∧ pa = true)) : M.bb r g i pk pa k = 0 := by
  unfold M.bb; rw [if_neg h, if_neg h2, if_neg h3, if_neg h4]

set_option maxHeartbeats 8000000 in
theorem breaksBehind_any (r : M.Ru) (ao : Option Addr) (n c i : Nat) (g : Nat → Int) (pk : Int) (pa : Bool) (k : Int) (w : World) (hp : LI w ao n g) (hc : n ≤ c) (hcm : c ≤ 9223372036854775807)
    (hk0 : 0 ≤ k) (hkm : k ≤ 127) (hp0 : -1 ≤ pk) (hpm : pk ≤ 127) (hi : i < n) (hn : n ≤ 64) (hg : ∀ j, j < n → 0 ≤ g j ∧ g j ≤ 127) :
    Calls Try.prog 37 #[.agg #[.int .i64 r.low, .int .i64 r.high, .bool r.above, .int .i64 r.leap, .int .i64 r.classes], .slice ao n c, .int .i64 (i : Int), .agg #[.int .i64 pk, .bool pa], .int .i64 k] w fun e w' => e = .returned (.int .i64 (M.bb r g i pk pa k)) ∧ Below w.heap.size w w' := by
  by_cases e1 : i = 0
  · rw [M.bb_first e1]
    have e1' : ((i : Int) == 0) = true := by simp [e1]
    clear e1
    go_enter Try.func37, Try.ntmps37
    go_wp2_with fail
    go_returns
    exact ⟨rfl, by go_grown⟩
  have e1' : ((i : Int) == 0) = false := by simp; omega
  obtain ⟨b, off, rfl, hbl, q⟩ := hp.at' (by omega)
  have gi := hg i hi
  have r0 := q i hi
  have gj := hg (i - 1) (by omega)
  have r1 := q (i - 1) (by omega)
  have k1 : (0 : Int) < i := by omega
  have k2 : decide (0 < i) = true := by simp; omega
  have k3 : IntKind.i64.wrap ((i : Int) - 1) = ((i - 1 : Nat) : Int) := by rw [wid (by omega) (by omega)]; omega
  have HA := fun w => apart_any k pk w (by omega) (by omega) (by omega) (by omega)
  have HS := fun w => sound_any k (g i) w (by omega) (by omega) (by omega) (by omega)
  have HT := fun w => sound_any pk (g (i - 1)) w (by omega) (by omega) (by omega) (by omega)
  have H2 : Hid ((r.leap < M.ap k pk ∨ M.ap k pk = 6) → M.bb r g i pk pa k = 5) := M.bb_leap e1
  have H3 : Hid (¬ (r.leap < M.ap k pk ∨ M.ap k pk = 6) → (M.ap k pk ≠ 0 ∧ M.pf (M.so k (g i)) = true ∧ M.so k (g i) = M.so pk (g (i - 1))) → M.bb r g i pk pa k = 6) := M.bb_par e1
  have H4 : Hid (¬ (r.leap < M.ap k pk ∨ M.ap k pk = 6) → ¬ (M.ap k pk ≠ 0 ∧ M.pf (M.so k (g i)) = true ∧ M.so k (g i) = M.so pk (g (i - 1))) → (M.ap k pk = 0 ∧ pa = true) → M.bb r g i pk pa k = 7) := M.bb_rep e1
  have H5 : Hid (¬ (r.leap < M.ap k pk ∨ M.ap k pk = 6) → ¬ (M.ap k pk ≠ 0 ∧ M.pf (M.so k (g i)) = true ∧ M.so k (g i) = M.so pk (g (i - 1))) → ¬ (M.ap k pk = 0 ∧ pa = true) → M.bb r g i pk pa k = 0) := M.bb_none e1
  clear hg q hp e1
  generalize M.bb r g i pk pa k = V at *
  generalize M.ap k pk = A at *
  generalize M.so k (g i) = S at *
  generalize M.so pk (g (i - 1)) = T at *
  have HP := fun w => perfect_any S w
  generalize M.pf S = Y at *
  by_cases c1 : r.leap < A
  · have hV : V = 5 := H2.out (Or.inl c1)
    subst hV
    clear H2 H3 H4 H5
    go_enter Try.func37, Try.ntmps37
    go_wp2_with fail
    refine (HA _).mono ?_
    rintro e w1 ⟨rfl, hw⟩
    rw [hw]
    go_wp2_with fail
    refine (HS _).mono ?_
    rintro e w2 ⟨rfl, hw2⟩
    rw [hw2]
    go_wp2_with fail
    go_returns
    exact ⟨rfl, by go_grown⟩
  by_cases c2 : A = 6
  · have hV : V = 5 := H2.out (Or.inr c2)
    have c2' : (A == 6) = true := by simp [c2]
    subst hV
    clear H2 H3 H4 H5 c2
    go_enter Try.func37, Try.ntmps37
    go_wp2_with fail
    refine (HA _).mono ?_
    rintro e w1 ⟨rfl, hw⟩
    rw [hw]
    go_wp2_with fail
    refine (HS _).mono ?_
    rintro e w2 ⟨rfl, hw2⟩
    rw [hw2]
    go_wp2_with fail
    go_returns
    exact ⟨rfl, by go_grown⟩
  have G1 : Hid (¬ (r.leap < A ∨ A = 6)) := fun h => by omega
  have c2' : (A == 6) = false := by simp [c2]
  by_cases c3 : A = 0
  · have c3' : (A != 0) = false := by simp [c3]
    have c3'' : (A == 0) = true := by simp [c3]
    have G2 : Hid (¬ (A ≠ 0 ∧ Y = true ∧ S = T)) := fun h => h.1 c3
    cases pa
    · have hV : V = 0 := H5.out G1.out G2.out (fun h => by cases h.2)
      subst hV
      clear H2 H3 H4 H5 c2 G1 G2 c3
      go_enter Try.func37, Try.ntmps37
      go_wp2_with fail
      refine (HA _).mono ?_
      rintro e w1 ⟨rfl, hw⟩
      rw [hw]
      go_wp2_with fail
      refine (HS _).mono ?_
      rintro e w2 ⟨rfl, hw2⟩
      rw [hw2]
      go_wp2_with fail
      go_quiet (fail)
      go_wp2_with fail
      go_returns
      exact ⟨rfl, below_drewN (by go_grown) _⟩
    · have hV : V = 7 := H4.out G1.out G2.out ⟨c3, rfl⟩
      subst hV
      clear H2 H3 H4 H5 c2 G1 G2 c3
      go_enter Try.func37, Try.ntmps37
      go_wp2_with fail
      refine (HA _).mono ?_
      rintro e w1 ⟨rfl, hw⟩
      rw [hw]
      go_wp2_with fail
      refine (HS _).mono ?_
      rintro e w2 ⟨rfl, hw2⟩
      rw [hw2]
      go_wp2_with fail
      go_quiet (fail)
      go_wp2_with fail
      go_returns
      exact ⟨rfl, below_drewN (by go_grown) _⟩
  have c3' : (A != 0) = true := by simp [c3]
  have c3'' : (A == 0) = false := by simp [c3]
  have G3 : Hid (¬ (A = 0 ∧ pa = true)) := fun h => c3 h.1
  cases Y
  · have hV : V = 0 := H5.out G1.out (fun h => by cases h.2.1) G3.out
    subst hV
    clear H2 H3 H4 H5 c2 G1 c3 G3
    go_enter Try.func37, Try.ntmps37
    go_wp2_with fail
    refine (HA _).mono ?_
    rintro e w1 ⟨rfl, hw⟩
    rw [hw]
    go_wp2_with fail
    refine (HS _).mono ?_
    rintro e w2 ⟨rfl, hw2⟩
    rw [hw2]
    go_wp2_with fail
    go_quiet (first | (go_at_call 50; exact Calls.quiet_of_same (HP _)) | (go_at_call 48; exact Calls.quiet_of_same (HT _)))
    go_wp2_with fail
    go_returns
    exact ⟨rfl, below_drewN (by go_grown) _⟩
  by_cases c4 : S = T
  · have c4' : (S == T) = true := by simp [c4]
    have hV : V = 6 := H3.out G1.out ⟨c3, rfl, c4⟩
    subst hV
    clear H2 H3 H4 H5 c2 G1 c3 G3 c4
    go_enter Try.func37, Try.ntmps37
    go_wp2_with fail
    refine (HA _).mono ?_
    rintro e w1 ⟨rfl, hw⟩
    rw [hw]
    go_wp2_with fail
    refine (HS _).mono ?_
    rintro e w2 ⟨rfl, hw2⟩
    rw [hw2]
    go_wp2_with fail
    go_quiet (first | (go_at_call 50; exact Calls.quiet_of_same (HP _)) | (go_at_call 48; exact Calls.quiet_of_same (HT _)))
    go_wp2_with fail
    go_returns
    exact ⟨rfl, below_drewN (by go_grown) _⟩
  · have c4' : (S == T) = false := by simp [c4]
    have hV : V = 0 := H5.out G1.out (fun h => c4 h.2.2) G3.out
    subst hV
    clear H2 H3 H4 H5 c2 G1 c3 G3 c4
    go_enter Try.func37, Try.ntmps37
    go_wp2_with fail
    refine (HA _).mono ?_
    rintro e w1 ⟨rfl, hw⟩
    rw [hw]
    go_wp2_with fail
    refine (HS _).mono ?_
    rintro e w2 ⟨rfl, hw2⟩
    rw [hw2]
    go_wp2_with fail
    go_quiet (first | (go_at_call 50; exact Calls.quiet_of_same (HP _)) | (go_at_call 48; exact Calls.quiet_of_same (HT _)))
    go_wp2_with fail
    go_returns
    exact ⟨rfl, below_drewN (by go_grown) _⟩
end Go.Proofs.Ytmgkbnlmdhnjnae.U
