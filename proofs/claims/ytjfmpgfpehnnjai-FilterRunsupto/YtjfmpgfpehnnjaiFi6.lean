/- What Stable, alive, Like, LikeAll, equal and back come to. -/
import Derived.Test.YtjfmpgfpehnnjaiFi5
import Derived.Test.YtjfmpgfpehnnjaiRFloat
import Derived.Test.YtjfmpgfpehnnjaiFiMath4
namespace Go.Proofs.Ytjfmpgfpehnnjai.Fi
open Go.RowKit Go.Maps Go.Sort Fl
set_option linter.unusedSimpArgs false
set_option linter.unusedVariables false

theorem isPart_yes (n : Int) (w : World) (h1 : -2147483648 ≤ n) (h2 : n ≤ 2147483648) : Calls Try.prog 43 #[.int .i64 n] w fun e w' => e = .returned (.bool true) ∧ w' = w := by
  go_enter Try.func43, Try.ntmps43
  go_wp2
  go_ret
  exact ⟨rfl, rfl⟩
theorem square_nat (n : Nat) (w : World) (h : n * n ≤ 1152921504606846976) : Calls Try.prog 38 #[.int .i64 n] w fun e w' => e = .returned (.int .u64 ((n : Int) * (n : Int))) ∧ w' = w := by
  have h0 : (0 : Int) ≤ (n : Int) * (n : Int) := Int.mul_nonneg (by omega) (by omega)
  have h1 : (n : Int) * (n : Int) ≤ 1152921504606846976 := by rw [← Int.natCast_mul]; exact Int.ofNat_le.2 h
  generalize hq : (n : Int) * (n : Int) = q at *
  have HQ : Hid ((n : Int) * (n : Int) = q) := hq
  go_enter Try.func38, Try.ntmps38
  go_wp2
  go_ret
  exact ⟨rfl, rfl⟩
set_option maxHeartbeats 1000000 in
theorem fair_one (n : Int) (b : Nat) (w : World) (h1 : -2147483648 ≤ n) (h2 : n ≤ 2147483648) (c0 : w.cell? ⟨b, 0, none⟩ = some (.int .i64 n)) (c1 : w.cell? ⟨b, 1, none⟩ = some (.int .i64 0)) :
    Calls Try.prog 37 #[.slice (some ⟨b, 0, none⟩) 1 1] w fun e w' => e = .returned (.bool true) ∧ Below w.heap.size w w' := by
  have lt := block_lt_of_cell c0
  simp only at lt
  go_enter Try.func37, Try.ntmps37
  go_wp2_with fail
  go_loopw [7] (fun i ww => ∃ k : Nat, k ≤ 1 ∧ i = .int .i64 k ∧ (k = 0 → ww = w) ∧ Below w.heap.size w ww) (fun i _ => 1 - (intOf i).toNat)
  case atStart => exact ⟨0, by omega, rfl, fun _ => rfl, Below.refl _ _⟩
  case round =>
    obtain ⟨k, hk, rfl, hw0, hbr⟩ := hrel
    rcases (show k = 0 ∨ k = 1 by omega) with rfl | rfl
    · obtain rfl := hw0 rfl
      clear hw0 hbr
      rw [show ((0 : Nat) : Int) = 0 from rfl]
      go_wp2_with fail
      refine (isPart_yes n _ h1 h2).mono ?_
      rintro e w1 ⟨rfl, hw⟩
      rw [hw]
      go_wp2_with fail
      refine (isPart_yes 0 _ (by decide) (by decide)).mono ?_
      rintro e w1 ⟨rfl, hw⟩
      rw [hw]
      go_wp2_with fail
      go_roundw
      case rel => exact ⟨1, by omega, by go_num, (fun h => absurd h (by decide)), by go_grown⟩
      case measure => simp [intOf]
    · rw [show ((1 : Nat) : Int) = 1 from rfl]
      go_wp2_with fail
      go_ret
      exact ⟨rfl, hbr⟩
set_option maxHeartbeats 2000000 in
theorem Stable_at (n : Nat) (w : World) (h : n ≤ 1073741824) : Calls Try.prog 25 #[.agg #[.int .i64 n, .int .i64 0]] w fun e w' => e = .returned (.bool (decide ((n : Int) * (n : Int) < 1152921504606846976))) ∧ Below w.heap.size w w' := by
  have hnn : n * n ≤ 1152921504606846976 := Nat.le_trans (Nat.mul_le_mul h h) (by decide)
  have q0 := fun w => square_nat n w hnn
  have q1 := fun w => square_nat 0 w (by decide)
  have h0 : (0 : Int) ≤ (n : Int) * (n : Int) := Int.mul_nonneg (by omega) (by omega)
  have h1 : (n : Int) * (n : Int) ≤ 1152921504606846976 := by rw [← Int.natCast_mul]; exact Int.ofNat_le.2 hnn
  have hb : Below w.heap.size w (w.alloc (Obj.cells #[.int .i64 n, .int .i64 0] 61)) := (Below.refl _ _).alloc (Nat.le_refl _) _
  have a0 : (w.alloc (Obj.cells #[.int .i64 n, .int .i64 0] 61)).cell? ⟨w.heap.size, 0, none⟩ = some (.int .i64 n) := by simp [go_sem]
  have a1 : (w.alloc (Obj.cells #[.int .i64 n, .int .i64 0] 61)).cell? ⟨w.heap.size, 1, none⟩ = some (.int .i64 0) := by simp [go_sem]
  have hz : w.heap.size < (w.alloc (Obj.cells #[.int .i64 n, .int .i64 0] 61)).heap.size := by simp
  go_enter Try.func25, Try.ntmps25
  go_wp2_with fail
  generalize w.alloc (Obj.cells #[.int .i64 n, .int .i64 0] 61) = W1 at *
  have g0 := cell_regrown a0
  have g1 := cell_regrown a1
  refine RF.wp_region_float (fun k => k != 1 && k != 2 && k != 6 && k != 9) (by kernel_rfl) (by kernel_rfl) (by kernel_rfl) ?_
  repeat (refine RF.wpFl_read rfl (fun K hK => ?_); go_simp; refine hK _ ?_; clear hK K)
  refine RF.wpFl_do rfl rfl (fun K hK => ?_)
  go_wp2_with fail
  refine hK _ _ (((Below.refl _ _).drew).alloc (by simp) _) ?_
  clear hK K
  refine RF.wpFl_do rfl rfl (fun K hK => ?_)
  go_wp2_with fail
  refine (fair_one n W1.heap.size _ (by omega) (by omega) (by simp [go_sem]) (by simp [go_sem])).mono ?_
  rintro e w2 ⟨rfl, hb2⟩
  go_wp2_with fail
  have hb12 : Below W1.heap.size W1 w2 := ((((Below.refl _ W1).alloc (Nat.le_refl _) _).drew).trans (hb2.mono (by simp)))
  refine hK _ _ hb12 ?_
  clear hK K
  repeat (refine RF.wpFl_read rfl (fun K hK => ?_); go_simp; refine hK _ ?_; clear hK K)
  refine RF.wpFl_dog rfl rfl (fun K hK => ?_)
  go_wp2_with fail
  refine (q0 _).mono ?_
  rintro e w3 ⟨rfl, hw3⟩
  rw [hw3]
  go_wp2_with fail
  refine hK _ _ hb12 ?_
  clear hK K
  repeat (refine RF.wpFl_read rfl (fun K hK => ?_); go_simp; refine hK _ ?_; clear hK K)
  refine RF.wpFl_dog rfl rfl (fun K hK => ?_)
  go_wp2_with fail
  refine (q1 _).mono ?_
  rintro e w4 ⟨rfl, hw4⟩
  rw [hw4]
  go_wp2_with fail
  refine hK _ _ hb12 ?_
  clear hK K
  repeat (refine RF.wpFl_read rfl (fun K hK => ?_); go_simp; refine hK _ ?_; clear hK K)
  refine RF.wpFl_nil ?_
  go_wp2_with fail
  go_ret
  have wq : IntKind.u64.wrap ((n : Int) * (n : Int)) = (n : Int) * (n : Int) := by
    generalize (n : Int) * (n : Int) = q at *
    simp [IntKind.wrap, IntKind.bits, IntKind.signed]; omega
  refine ⟨?_, hb.trans (hb12.mono (by omega))⟩
  rw [wq]; rfl
theorem alive_any (w : World) : Calls Try.prog 14 #[] w fun e w' => e = .returned (.bool true) ∧ Below w.heap.size w w' := by
  have q1 := fun w => Stable_at 5 w (by decide)
  have q2 := fun w => Stable_at 1073741824 w (by decide)
  rw [show decide (((5 : Nat) : Int) * ((5 : Nat) : Int) < 1152921504606846976) = true from by decide] at q1
  rw [show decide (((1073741824 : Nat) : Int) * ((1073741824 : Nat) : Int) < 1152921504606846976) = false from by decide] at q2
  rw [show ((5 : Nat) : Int) = 5 from rfl] at q1
  rw [show ((1073741824 : Nat) : Int) = 1073741824 from rfl] at q2
  go_enter Try.func14, Try.ntmps14
  go_wp2_with fail
  refine (q1 _).mono ?_
  rintro e w1 ⟨rfl, hb1⟩
  go_wp2_with fail
  refine (q2 _).mono ?_
  rintro e w2 ⟨rfl, hb2⟩
  go_wp2_with fail
  go_ret
  exact ⟨rfl, hb1.trans (hb2.mono hb1.size)⟩
@[go_sem] theorem call_bits (args : Array Value) (w : World) : (callFunc 34 args).run Try.prog w = ((Extern.MathFloatBits.float64bits args).run Try.prog w).andThen fun v w' => .ok (.value v) w' :=
  run_callFunc_extern Try.func34 (by kernel_rfl) (by kernel_rfl) (by kernel_rfl) (by kernel_rfl) args w
@[go_sem] theorem run_bits (b : Nat) (w : World) : (Extern.MathFloatBits.float64bits #[.float .f64 b]).run Try.prog w = .ok (.int .u64 b) w := rfl
theorem nn_ways (x : Nat) : (FloatKind.f64.format.order x x != some .eq) = nn x := ord_self x
set_option maxHeartbeats 1000000 in
theorem Like_any (x y : Nat) (w : World) : Calls Try.prog 23 #[.float .f64 x, .float .f64 y] w fun e w' => e = .returned (.bool (alike x y)) ∧ w' = w := by
  by_cases c : x = y
  · subst c
    rw [ab_same]
    go_enter Try.func23, Try.ntmps23
    go_wp2
    go_ret
    exact ⟨rfl, rfl⟩
  · rw [ab_eq c]
    have hne : ((x : Int) == (y : Int)) = false := by simp; omega
    have h1 := nn_ways x
    have h2 := nn_ways y
    generalize nn x = A at *
    generalize nn y = B at *
    clear c
    cases A <;> cases B
    all_goals
      go_enter Try.func23, Try.ntmps23
      go_wp2_with fail
      go_ret
      exact ⟨rfl, rfl⟩
/-- The document's 'back': nought ahead of a list. -/
theorem back_neg (n : Int) (v : Value) (w : World) (h : n < 0) : Calls Try.prog 24 #[v, .int .i64 n] w fun e w' => e = .returned (.float .f64 0) ∧ w' = w := by
  go_enter Try.func24, Try.ntmps24
  go_wp2
  go_ret
  exact ⟨rfl, rfl⟩
theorem back_at (k m c b of x : Nat) (w : World) (h : k < m) (hc : m ≤ c) (hcm : c ≤ 9223372036854775807) (hx : w.cell? ⟨b, of + k, none⟩ = some (.float .f64 x)) : Calls Try.prog 24 #[.slice (some ⟨b, of, none⟩) m c, .int .i64 k] w fun e w' => e = .returned (.float .f64 x) ∧ w' = w := by
  have h' : (k : Int) < (m : Int) := by omega
  go_enter Try.func24, Try.ntmps24
  go_wp2
  go_ret
  exact ⟨rfl, rfl⟩
end Go.Proofs.Ytjfmpgfpehnnjai.Fi
