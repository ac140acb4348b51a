/- What the document's Better and Same come to. -/
import Derived.Test.YtiffppnaaenalagV1
namespace Go.Proofs.Ytiffppnaaenalag.V
open Go.RowKit
set_option linter.unusedVariables false
set_option linter.unusedSimpArgs false

theorem Same_yes (ao bo : Option Addr) (n c l d : Nat) (x y : Nat → Int) (w : World) (hp : LI w ao n x) (hc : n ≤ c) (hcm : c ≤ 9223372036854775807) (hq : LI w bo l y) (hd : l ≤ d) (hdm : d ≤ 9223372036854775807) (hnl : n = l) (hxy : ∀ j, j < n → x j = y j) :
    Calls Try.prog 10 #[.slice ao n c, .slice bo l d] w fun e w' => e = .returned (.bool true) ∧ Below w.heap.size w w' := by
  subst hnl
  go_enter Try.func10, Try.ntmps10
  go_wp2_with fail
  go_loopw [13] (fun i wr => ∃ k : Nat, k ≤ n ∧ i = .int .i64 k ∧ Below w.heap.size w wr) (fun i _ => n - (intOf i).toNat)
  case atStart => exact ⟨0, by omega, rfl, Below.refl _ _⟩
  case round =>
    obtain ⟨k, hkn, rfl, hbr⟩ := hrel
    by_cases hlt : k < n
    · obtain ⟨q, off, rfl, hbl, q0⟩ := (hp.step hbr).at' (by omega)
      obtain ⟨q2, off2, rfl, hbl2, q1⟩ := (hq.step hbr).at' (by omega)
      have r0 := q0 k hlt
      have r1 := q1 k hlt
      rw [← hxy k hlt] at r1
      have w3 : IntKind.i64.wrap ((k : Int) + 1) = (k : Int) + 1 := wid (by omega) (by omega)
      clear q0 q1 hxy
      generalize x k = X at *
      go_wp2_with fail
      go_quiet (fail)
      go_wp2_with fail
      go_roundw
      case rel => exact ⟨k + 1, by omega, by go_num, below_drewN hbr _⟩
      case measure => simp [intOf]; omega
    · obtain rfl : k = n := by omega
      go_wp2_with fail
      go_ret
      exact ⟨rfl, hbr⟩

set_option maxHeartbeats 4000000 in
theorem Better_any (C D : Int) (ao bo : Option Addr) (n c l d : Nat) (x y : Nat → Int) (w : World) (hp : LI w ao n x) (hc : n ≤ c) (hcm : c ≤ 9223372036854775807) (hq : LI w bo l y) (hd : l ≤ d) (hdm : d ≤ 9223372036854775807) (hx : ∀ j, j < n → 0 ≤ x j) (hy : ∀ j, j < l → 0 ≤ y j) :
    Calls Try.prog 14 #[.int .i64 C, .slice ao n c, .int .i64 D, .slice bo l d] w fun e w' => e = .returned (.bool (M.bt C (M.ls x 0 n) D (M.ls y 0 l))) ∧ Below w.heap.size w w' := by
  have HE : Hid (M.bt C (M.ls x 0 n) D (M.ls y 0 l) = if C = D then (if n = l then M.lx (M.ls x 0 n) (M.ls y 0 l) else decide (n < l)) else decide (C < D)) := by
    show M.bt _ _ _ _ = _
    unfold M.bt; rw [M.ls_len, M.ls_len]
  generalize M.bt C (M.ls x 0 n) D (M.ls y 0 l) = V at *
  by_cases c1 : C = D
  rotate_left
  · have hV : V = decide (C < D) := by have := HE.out; rw [if_neg c1] at this; exact this
    subst hV
    have c1' : (C != D) = true := by simp [c1]
    clear HE c1
    go_enter Try.func14, Try.ntmps14
    go_wp2_with fail
    go_ret
    exact ⟨rfl, Below.refl _ _⟩
  subst c1
  by_cases c2 : n = l
  rotate_left
  · have hV : V = decide (n < l) := by have := HE.out; rw [if_pos rfl, if_neg c2] at this; exact this
    have c2' : ((n : Int) != (l : Int)) = true := by simp; omega
    subst hV
    clear HE c2
    go_enter Try.func14, Try.ntmps14
    go_wp2_with fail
    go_ret
    exact ⟨ret_bool (by first | rfl | exact decide_eq_decide.2 (by omega)), Below.refl _ _⟩
  subst c2
  have HP : Hid (∀ i, i < n → (∀ j, j < i → x j = y j) → x i ≠ y i → V = decide (y i < x i)) := fun i hi he hne => by
    rw [HE.out, if_pos rfl, if_pos rfl]
    exact M.lx_part (fun j _ hj => ⟨hx j (by omega), hy j (by omega)⟩) (by omega) (by omega) (fun j _ hj => he j hj) hne
  have HS : Hid ((∀ j, j < n → x j = y j) → V = false) := fun h => by
    rw [HE.out, if_pos rfl, if_pos rfl]
    exact M.lx_same (fun j _ hj => h j (by omega))
  clear HE hx hy
  go_enter Try.func14, Try.ntmps14
  go_wp2_with fail
  go_loopw [28] (fun i wr => ∃ k : Nat, k ≤ n ∧ i = .int .i64 k ∧ Hid (∀ j, j < k → x j = y j) ∧ Below w.heap.size w wr) (fun i _ => n - (intOf i).toNat)
  case atStart => exact ⟨0, by omega, rfl, fun j hj => by omega, Below.refl _ _⟩
  case round =>
    obtain ⟨k, hkn, rfl, hk, hbr⟩ := hrel
    by_cases hlt : k < n
    · obtain ⟨q, off, rfl, hbl, q0⟩ := (hp.step hbr).at' (by omega)
      obtain ⟨q2, off2, rfl, hbl2, q1⟩ := (hq.step hbr).at' (by omega)
      have r0 := q0 k hlt
      have r1 := q1 k hlt
      have w3 : IntKind.i64.wrap ((k : Int) + 1) = (k : Int) + 1 := wid (by omega) (by omega)
      have HPk : Hid (x k ≠ y k → V = decide (y k < x k)) := HP.out k hlt hk.out
      have hk2 : Hid (x k = y k → ∀ j, j < k + 1 → x j = y j) := fun h j hj => by
        rcases Nat.lt_succ_iff_lt_or_eq.1 hj with h1 | rfl
        · exact hk.out j h1
        · exact h
      clear q0 q1 HP HS hk
      by_cases c3 : x k = y k
      · have hk3 : Hid (∀ j, j < k + 1 → x j = y j) := hk2.out c3
        rw [← c3] at r1
        clear hk2 HPk c3
        generalize x k = X at *
        go_wp2_with fail
        go_quiet (fail)
        go_wp2_with fail
        go_roundw
        case rel => exact ⟨k + 1, by omega, by go_num, hk3, below_drewN hbr _⟩
        case measure => simp [intOf]; omega
      · have hV := HPk.out c3
        have c3' : (x k != y k) = true := by simp [c3]
        clear hk2 HPk c3
        generalize x k = X at *
        generalize y k = Y at *
        subst hV
        go_wp2_with fail
        go_quiet (fail)
        go_wp2_with fail
        go_quiet (fail)
        go_wp2_with fail
        go_ret
        exact ⟨rfl, below_drewN (below_drewN hbr _) _⟩
    · obtain rfl : k = n := by omega
      have hV := HS.out hk.out
      subst hV
      clear HP HS hk
      go_wp2_with fail
      go_ret
      exact ⟨rfl, hbr⟩
end Go.Proofs.Ytiffppnaaenalag.V
