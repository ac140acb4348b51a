/- The document's back and next. -/
import Derived.Test.YtdlcnbfiklbiiaaCo33
import Derived.Test.YtdlcnbfiklbiiaaCo24
namespace Go.Proofs.Ytdlcnbfiklbiiaa.Co
open Go.RowKit Go.Maps Go.Sort
set_option linter.unusedVariables false
set_option linter.unusedSimpArgs false

theorem back_any (m : Nat) (w : World) (hm : m ≤ 1099511627776) :
    Calls Try.prog 47 #[.int .i64 (m : Int)] w fun e w' => e = .returned (.int .i64 (un m)) ∧ w' = w := by
  by_cases c : m % 2 = 1
  · have e : un m = -(((m + 1) / 2 : Nat) : Int) := by unfold un; rw [if_pos c]
    rw [e]
    obtain ⟨q, hq⟩ : ∃ q, q = (m + 1) / 2 := ⟨_, rfl⟩
    rw [← hq]
    obtain rfl : m = 2 * q - 1 := by omega
    obtain ⟨z, rfl⟩ : ∃ z, q = z + 1 := ⟨q - 1, by omega⟩
    have e2 : 2 * (z + 1) - 1 = 2 * z + 1 := by omega
    rw [e2]
    have h1' : (2 * (z : Int) + 1) % 2 = 1 := by omega
    have w1 : IntKind.i64.wrap (2 * (z : Int) + 1 + 1) = 2 * (z : Int) + 2 := by rw [wid (by omega) (by omega)]; omega
    have h3 : Int.tdiv (2 * (z : Int) + 2) 2 = (z : Int) + 1 := by
      rw [show (2 * (z : Int) + 2) = 2 * ((z : Int) + 1) by omega, Int.mul_tdiv_cancel_left _ (by omega)]
    have h4 : (2 * (z : Int) + 2) / 2 = (z : Int) + 1 := by omega
    have w2 : IntKind.i64.wrap (-((z : Int) + 1)) = -((z : Int) + 1) := wid (by omega) (by omega)
    clear hq c e e2
    go_enter Try.func47, Try.ntmps47
    go_wp2_with (simp only [w1, w2, h3, h4])
    go_ret
    exact ⟨congrArg Ending.returned (by go_num), rfl⟩
  · have e : un m = ((m / 2 : Nat) : Int) := by unfold un; rw [if_neg c]
    rw [e]
    have h1 : ¬ (m : Int) % 2 = 1 := by omega
    clear e
    go_enter Try.func47, Try.ntmps47
    go_wp2_with fail
    go_ret
    exact ⟨rfl, rfl⟩
set_option maxHeartbeats 4000000 in
theorem next_any (l : List Int) (S : Nat → Prop) (xa : Option Addr) (n c o : Nat) (X : Int) (w : World) (hI : IL w S xa l) (hn : l.length = n) (hc : n ≤ c) (hc2 : c ≤ 9223372036854775807) (hr : ∀ x ∈ l, inR x) (ho : o ≤ 3) (hon : o ≤ n) (hX1 : -1099511627776 ≤ X) (hX2 : X ≤ 1099511627776) :
    Calls Try.prog 46 #[.slice xa n c, .int .i64 (o : Int), .int .i64 X] w fun e w' => e = .returned (.int .i64 (ge l n o + X)) ∧ Below w.heap.size w w' := by
  have hq : ∀ i, -32768 ≤ l.getD i 0 ∧ l.getD i 0 ≤ 32767 := getD_in l hr
  obtain rfl | h : o = 0 ∨ 0 < o := by omega
  · have e : ge l n 0 + X = X := by show (0 : Int) + X = X; omega
    rw [e]
    go_enter Try.func46, Try.ntmps46
    go_wp2_with fail
    go_ret
    exact ⟨rfl, by go_grown⟩
  obtain ⟨b, off, rfl, lb, _, _⟩ := hI.at' (by omega)
  have c1 := hI.getD rfl (n - 1) (by omega)
  have h1 := hq (n - 1)
  obtain rfl | h' : o = 1 ∨ 1 < o := by omega
  · have e : ge l n 1 = l.getD (n - 1) 0 := rfl
    rw [e]
    clear hI hr hq
    generalize l.getD (n - 1) 0 = A at *
    obtain ⟨m, rfl⟩ : ∃ m, n = m + 1 := ⟨n - 1, by omega⟩
    rw [show m + 1 - 1 = m by omega] at c1
    have w1 : IntKind.i64.wrap (((m + 1 : Nat) : Int) - 1) = (m : Int) := by rw [wid (by omega) (by omega)]; omega
    clear hn
    go_enter Try.func46, Try.ntmps46
    go_wp2_with fail
    go_ret
    exact ⟨congrArg Ending.returned (by refine congrArg (Value.int .i64) ?_; omega), by go_grown⟩
  have c2 := hI.getD rfl (n - 2) (by omega)
  have h2 := hq (n - 2)
  obtain rfl | h'' : o = 2 ∨ o = 3 := by omega
  · have e : ge l n 2 = 2 * l.getD (n - 1) 0 - l.getD (n - 2) 0 := rfl
    rw [e]
    clear hI hr hq
    generalize l.getD (n - 1) 0 = A at *
    generalize l.getD (n - 2) 0 = B at *
    obtain ⟨m, rfl⟩ : ∃ m, n = m + 2 := ⟨n - 2, by omega⟩
    rw [show m + 2 - 1 = m + 1 by omega] at c1
    rw [show m + 2 - 2 = m by omega] at c2
    have w1 : IntKind.i64.wrap (((m + 2 : Nat) : Int) - 1) = ((m + 1 : Nat) : Int) := by rw [wid (by omega) (by omega)]; omega
    have w2 : IntKind.i64.wrap (((m + 2 : Nat) : Int) - 2) = (m : Int) := by rw [wid (by omega) (by omega)]; omega
    clear hn
    go_enter Try.func46, Try.ntmps46
    go_wp2_with fail
    go_region
    go_wp2_with fail
    go_ret
    exact ⟨congrArg Ending.returned (by refine congrArg (Value.int .i64) ?_; omega), by go_grown⟩
  · subst h''
    have c3 := hI.getD rfl (n - 3) (by omega)
    have h3 := hq (n - 3)
    have e : ge l n 3 = 3 * l.getD (n - 1) 0 - 3 * l.getD (n - 2) 0 + l.getD (n - 3) 0 := rfl
    rw [e]
    clear hI hr hq
    generalize l.getD (n - 1) 0 = A at *
    generalize l.getD (n - 2) 0 = B at *
    generalize l.getD (n - 3) 0 = C at *
    obtain ⟨m, rfl⟩ : ∃ m, n = m + 3 := ⟨n - 3, by omega⟩
    rw [show m + 3 - 1 = m + 2 by omega] at c1
    rw [show m + 3 - 2 = m + 1 by omega] at c2
    rw [show m + 3 - 3 = m by omega] at c3
    have w1 : IntKind.i64.wrap (((m + 3 : Nat) : Int) - 1) = ((m + 2 : Nat) : Int) := by rw [wid (by omega) (by omega)]; omega
    have w2 : IntKind.i64.wrap (((m + 3 : Nat) : Int) - 2) = ((m + 1 : Nat) : Int) := by rw [wid (by omega) (by omega)]; omega
    have w3 : IntKind.i64.wrap (((m + 3 : Nat) : Int) - 3) = (m : Int) := by rw [wid (by omega) (by omega)]; omega
    clear hn
    go_enter Try.func46, Try.ntmps46
    go_wp2_with fail
    go_region
    go_wp2_with fail
    go_ret
    exact ⟨congrArg Ending.returned (by refine congrArg (Value.int .i64) ?_; omega), by go_grown⟩
end Go.Proofs.Ytdlcnbfiklbiiaa.Co
