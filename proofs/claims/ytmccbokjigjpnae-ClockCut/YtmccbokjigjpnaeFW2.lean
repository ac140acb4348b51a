/- What the program's and the document's tests of fractions, and lowest terms, come to. -/
import Derived.Test.YtmccbokjigjpnaeFW1
import Derived.WalkSmall
namespace Go.Proofs.Ytmccbokjigjpnae.F
open Go.RowKit

theorem bcell {W w1 : World} (hb : Below W.heap.size W w1) : (∀ b o, b < W.heap.size → w1.cell? ⟨b, o, none⟩ = W.cell? ⟨b, o, none⟩) ∧ (∀ b o, b < W.heap.size → w1.frozen? ⟨b, o, none⟩ = W.frozen? ⟨b, o, none⟩) :=
  ⟨fun b o h => hb.cell (p := ⟨b, o, none⟩) h, fun b o h => hb.frozen (p := ⟨b, o, none⟩) h⟩

theorem keepC {B : Nat} {W w1 : World} (hb : Below B W w1) {b o : Nat} {v : Value} (hlt : b < B) (h : W.cell? ⟨b, o, none⟩ = some v) : w1.cell? ⟨b, o, none⟩ = some v :=
  (hb.cell (p := ⟨b, o, none⟩) hlt).trans h
theorem keepF {B : Nat} {W w1 : World} (hb : Below B W w1) {b o : Nat} {v : Bool} (hlt : b < B) (h : W.frozen? ⟨b, o, none⟩ = v) : w1.frozen? ⟨b, o, none⟩ = v :=
  (hb.frozen (p := ⟨b, o, none⟩) hlt).trans h

theorem ret_bool {a b : Bool} (h : a = b) : Ending.returned (.bool a) = .returned (.bool b) := by rw [h]

theorem bounded_any (u d : Int) (w : World) :
    Calls Try.prog 27 #[.agg #[.int .i64 u, .int .i64 d]] w fun e w' => e = .returned (.bool (M.bd u d)) ∧ Below w.heap.size w w' := by
  have hb : M.bd u d = decide (-1073741824 ≤ u ∧ u ≤ 1073741824 ∧ 1 ≤ d ∧ d ≤ 1073741824) := rfl
  have HB : Hid (M.bd u d = decide (-1073741824 ≤ u ∧ u ≤ 1073741824 ∧ 1 ≤ d ∧ d ≤ 1073741824)) := hb
  clear hb
  by_cases c1 : -1073741824 ≤ u
  · by_cases c2 : u ≤ 1073741824
    · by_cases c3 : 1 ≤ d
      · by_cases c4 : d ≤ 1073741824
        · go_enter Try.func27, Try.ntmps27
          go_wp2
          go_ret
          exact ⟨ret_bool (by rw [HB.out]; simp; omega), (Below.refl _ _).alloc (Nat.le_refl _) _⟩
        · go_enter Try.func27, Try.ntmps27
          go_wp2
          go_ret
          exact ⟨ret_bool (by rw [HB.out]; simp; omega), (Below.refl _ _).alloc (Nat.le_refl _) _⟩
      · go_enter Try.func27, Try.ntmps27
        go_wp2
        go_ret
        exact ⟨ret_bool (by rw [HB.out]; simp; omega), (Below.refl _ _).alloc (Nat.le_refl _) _⟩
    · go_enter Try.func27, Try.ntmps27
      go_wp2
      go_ret
      exact ⟨ret_bool (by rw [HB.out]; simp; omega), (Below.refl _ _).alloc (Nat.le_refl _) _⟩
  · go_enter Try.func27, Try.ntmps27
    go_wp2
    go_ret
    exact ⟨ret_bool (by rw [HB.out]; simp; omega), (Below.refl _ _).alloc (Nat.le_refl _) _⟩

theorem Right_any (u d : Int) (w : World) (h1 : -9223372036854775808 ≤ u) (h2 : u ≤ 9223372036854775807) (_h3 : -9223372036854775808 ≤ d) (h4 : d ≤ 9223372036854775807) :
    Calls Try.prog 25 #[.agg #[.int .i64 u, .int .i64 d]] w fun e w' => e = .returned (.bool (M.ok u d)) ∧ Below w.heap.size w w' := by
  cases hb : M.bd u d
  · have ho := M.ok_no u d hb
    go_enter Try.func25, Try.ntmps25
    go_wp2_with fail
    refine (bounded_any _ _ _).mono ?_
    rintro e w1 ⟨rfl, hb1⟩
    rw [hb]
    go_wp2
    go_ret
    exact ⟨ret_bool ho.symm, ((Below.refl _ _).alloc (Nat.le_refl _) _).trans (hb1.mono (by simp))⟩
  · have ho := M.ok_bd u d hb
    have HO : Hid (M.ok u d = (M.gi u d == 1)) := ho
    clear ho
    have hbb := M.bd_yes u d hb
    go_enter Try.func25, Try.ntmps25
    go_wp2_with fail
    refine (bounded_any _ _ _).mono ?_
    rintro e w1 ⟨rfl, hb1⟩
    rw [hb]
    obtain ⟨hc, hf⟩ := bcell hb1
    go_wp2_with fail
    refine (divisor_any _ _ _ (by omega) (by omega) (by omega) (by omega)).mono ?_
    rintro e w2 ⟨rfl, hb2⟩
    go_wp2
    go_ret
    exact ⟨ret_bool HO.out.symm, (((Below.refl _ _).alloc (Nat.le_refl _) _).trans (hb1.mono (by simp))).trans (hb2.mono (by have := hb1.size; simp at this; omega))⟩

theorem abs_q (n : Int) (w : World) (h0 : -9223372036854775807 ≤ n) (h : n ≤ 9223372036854775807) :
    Calls Try.prog 30 #[.int .i64 n] w fun e w' => e = .returned (.int .i64 (n.natAbs : Nat)) ∧ w' = w := (abs_any n w h0 h).mono fun _ _ ⟨a, b⟩ => ⟨a, b.symm⟩
theorem Divisor_q (a b : Int) (w : World) (h1 : 0 ≤ a) (h2 : a ≤ 9223372036854775807) (h3 : 1 ≤ b) (h4 : b ≤ 9223372036854775807) :
    Calls Try.prog 29 #[.int .i64 a, .int .i64 b] w fun e w' => e = .returned (.int .i64 (M.gi a b)) ∧ w' = w := (Divisor_all a b w h1 h2 h3 h4).mono fun _ _ ⟨a, b⟩ => ⟨a, b.symm⟩

set_option maxHeartbeats 400000 in
theorem refRight_any (u d : Int) (w : World) (_h1 : -9223372036854775808 ≤ u) (_h2 : u ≤ 9223372036854775807) (_h3 : -9223372036854775808 ≤ d) (_h4 : d ≤ 9223372036854775807) :
    Calls Try.prog 26 #[.agg #[.int .i64 u, .int .i64 d]] w fun e w' => e = .returned (.bool (M.ok u d)) ∧ Below w.heap.size w w' := by
  cases hb : M.bd u d
  · have ho := M.ok_no u d hb
    have hbb := M.bd_no u d hb
    rw [ho]
    by_cases c1 : 0 < d
    · by_cases c2 : d ≤ 1073741824
      · by_cases c3 : u ≤ 1073741824
        · have e4 : decide (-1073741824 ≤ u) = false := by simp; omega
          clear hbb
          go_enter Try.func26, Try.ntmps26
          go_wp2_with fail
          go_quiet (fail)
          go_wp2
          go_ret
          exact ⟨rfl, below_drewN ((Below.refl _ _).alloc (Nat.le_refl _) _) _⟩
        · have e3 : decide (u ≤ 1073741824) = false := by simp; omega
          clear hbb
          go_enter Try.func26, Try.ntmps26
          go_wp2_with fail
          go_quiet (fail)
          go_wp2
          go_ret
          exact ⟨rfl, below_drewN ((Below.refl _ _).alloc (Nat.le_refl _) _) _⟩
      · have e3 : decide (d ≤ 1073741824) = false := by simp; omega
        clear hbb
        go_enter Try.func26, Try.ntmps26
        go_wp2_with fail
        go_quiet (fail)
        go_wp2
        go_ret
        exact ⟨rfl, below_drewN ((Below.refl _ _).alloc (Nat.le_refl _) _) _⟩
    · have e3 : decide (0 < d) = false := by simp; omega
      clear hbb
      go_enter Try.func26, Try.ntmps26
      go_wp2_with fail
      go_quiet (fail)
      go_wp2
      go_ret
      exact ⟨rfl, below_drewN ((Below.refl _ _).alloc (Nat.le_refl _) _) _⟩
  · have ho := M.ok_bd u d hb
    have HO : Hid (M.ok u d = (M.gi (u.natAbs : Nat) d == 1)) := by show _ = _; rw [M.gi_abs]; exact ho
    clear ho
    have hbb := M.bd_yes u d hb
    obtain ⟨b1, b2, b3, b4⟩ := hbb
    have b5 : 0 < d := by omega
    go_enter Try.func26, Try.ntmps26
    go_wp2_with fail
    go_quiet (first | (go_at_call 30; exact Calls.quiet_of_same (abs_q _ _ (by omega) (by omega))) | (go_at_call 29; exact Calls.quiet_of_same (Divisor_q _ _ _ (by omega) (by omega) (by omega) (by omega))))
    go_wp2
    go_ret
    exact ⟨ret_bool HO.out.symm, below_drewN ((Below.refl _ _).alloc (Nat.le_refl _) _) _⟩
end Go.Proofs.Ytmccbokjigjpnae.F
