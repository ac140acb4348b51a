/- The document's dither: one sum. -/
import Derived.Test.YtdlcnbfiklbiiaaMx4
namespace Go.Proofs.Ytdlcnbfiklbiiaa.Mx
open Go.RowKit Go.Maps Go.Sort
set_option linter.unusedVariables false
set_option linter.unusedSimpArgs false

def sv (s : Dt) : Value := .agg #[.int .u32 s.seed, .int .i64 s.rest, .int .i64 s.loud, .int .i64 s.clip]
set_option maxHeartbeats 1000000 in
theorem small_any (n m : Int) (hm0 : 0 ≤ m) (hm1 : m ≤ 9007199254740992) (w : World) :
    Calls Try.prog 24 #[.int .i64 n, .int .i64 m] w fun e w' => e = .returned (.bool (inB m n)) ∧ w' = w := by
  have wm : IntKind.i64.wrap (-m) = -m := wid (by omega) (by omega)
  by_cases c1 : m < n
  · rw [inB_no2 c1]
    have c1' : ¬ n ≤ m := by omega
    go_enter Try.func24, Try.ntmps24
    go_wp2_with fail
    go_ret
    exact ⟨rfl, rfl⟩
  · have c1' : n ≤ m := by omega
    by_cases c2 : n < -m
    · rw [inB_no1 c2]
      have c2' : ¬ -m ≤ n := by omega
      go_enter Try.func24, Try.ntmps24
      go_wp2_with fail
      go_ret
      exact ⟨rfl, rfl⟩
    · rw [inB_iff.2 ⟨by omega, c1'⟩]
      have c2' : -m ≤ n := by omega
      go_enter Try.func24, Try.ntmps24
      go_wp2_with fail
      go_ret
      exact ⟨rfl, rfl⟩
set_option maxHeartbeats 1000000 in
theorem Abs_any (n : Int) (h1 : -32768 ≤ n) (h2 : n ≤ 32768) (w : World) :
    Calls Try.prog 52 #[.int .i64 n] w fun e w' => e = .returned (.int .i64 (ab n)) ∧ w' = w := by
  by_cases c : n < 0
  · have e : ab n = -n := if_pos c
    rw [e]
    go_enter Try.func52, Try.ntmps52
    go_wp2_with fail
    go_ret
    exact ⟨rfl, rfl⟩
  · have e : ab n = n := if_neg c
    rw [e]
    go_enter Try.func52, Try.ntmps52
    go_wp2_with fail
    go_ret
    exact ⟨rfl, rfl⟩
set_option maxHeartbeats 4000000 in
theorem One_gen (S Z N : Nat) (T L R CC x A Q0 M0 LL RE : Int) (C CL : Nat) (w : World) (hs : ((S : Int) * 1664525 + 1013904223) % 4294967296 = (Z : Int)) (hZ : Z < 4294967296) (hN : (Z : Int) / 65536 = (N : Int)) (hNl : N < 65536)
    (hx1 : -4503599627370496 ≤ x) (hx2 : x ≤ 4503599627370496) (hT1 : -65536 < T) (hT2 : T < 65536) (hA : x + T + (N : Int) = A) (hQ : A.tdiv 65536 = Q0) (hM : A.tmod 65536 = M0)
    (hR : (M0 < 0 ∧ Q0 - 1 = R) ∨ (¬ M0 < 0 ∧ Q0 = R)) (hRb : -137438953472 ≤ R ∧ R ≤ 137438953472) (hC : C < 2305843009213693952)
    (hc : (32767 < R ∧ CC = 32767 ∧ RE = 0 ∧ CL = C + 1) ∨ (¬ 32767 < R ∧ R < -32768 ∧ CC = -32768 ∧ RE = 0 ∧ CL = C + 1) ∨ (¬ 32767 < R ∧ ¬ R < -32768 ∧ CC = R ∧ RE = x + T - 65536 * R ∧ CL = C))
    (hL : (L < ab CC ∧ LL = ab CC) ∨ (¬ L < ab CC ∧ LL = L)) :
    Calls Try.prog 30 #[.agg #[.int .u32 S, .int .i64 T, .int .i64 L, .int .i64 C], .int .i64 x] w fun e w' => e = .returned (.tuple #[.agg #[.int .u32 Z, .int .i64 RE, .int .i64 LL, .int .i64 CL], .int .i64 CC]) ∧ Below w.heap.size w w' := by
  have wa : IntKind.i64.wrap (x + T) = x + T := wid (by omega) (by omega)
  have wA : IntKind.i64.wrap A = A := wid (by omega) (by omega)
  have wc : IntKind.i64.wrap ((C : Int) + 1) = (C : Int) + 1 := wid (by omega) (by omega)
  have hAb : ∀ w, Calls Try.prog 52 #[.int .i64 CC] w fun e w' => e = .returned (.int .i64 (ab CC)) ∧ w' = w := fun w => Abs_any CC (by omega) (by omega) w
  have hbx : ∀ (o1 o2 : Obj) (n : Nat), Below w.heap.size w (((w.alloc o1).alloc o2).drewN n) := fun o1 o2 n => below_drewN (((Below.refl w.heap.size w).alloc (Nat.le_refl _) o1).alloc (by simp) o2) n
  generalize ab CC = AB at *
  have hQb : -9223372036854775808 ≤ Q0 - 1 ∧ Q0 - 1 ≤ 9223372036854775807 := by omega
  rcases hR with ⟨m1, q1⟩ | ⟨m1, rfl⟩ <;> rcases hc with ⟨c1, rfl, rfl, rfl⟩ | ⟨c1, c2, rfl, rfl, rfl⟩ | ⟨c1, c2, rfl, rfl, rfl⟩ <;> rcases hL with ⟨l1, rfl⟩ | ⟨l1, rfl⟩
  all_goals
    go_enter Try.func30, Try.ntmps30
    go_wp2_with fail
    go_quiet (exact (hAb _).mono fun _ _ ⟨he, hm⟩ => ⟨he, _, hm⟩)
    go_wp2_with fail
    first
      | (refine (hAb _).mono ?_
         rintro e w1 ⟨rfl, hw⟩
         rw [hw]
         go_wp2_with fail
         go_returns
         exact ⟨rfl, by go_grown; exact hbx _ _ _⟩)
      | (go_returns
         exact ⟨rfl, by go_grown; exact hbx _ _ _⟩)
end Go.Proofs.Ytdlcnbfiklbiiaa.Mx
