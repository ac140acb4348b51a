/- alive, and the document's order of lists. -/
import Derived.Test.YtmgkbnlmdhnjnaeUMath5
import Derived.Test.YtmgkbnlmdhnjnaeU12
namespace Go.Proofs.Ytmgkbnlmdhnjnae.U
open Go.RowKit Go.Maps Go.Sort
set_option linter.unusedVariables false
set_option linter.unusedSimpArgs false

set_option maxHeartbeats 4000000 in
theorem Less_yes (ao bo : Option Addr) (n c m d : Nat) (x y : Nat → Int) (w : World) (hp : LI w ao n x) (hc : n ≤ c) (hcm : c ≤ 9223372036854775807) (hq : LI w bo m y) (hd : m ≤ d) (hdm : d ≤ 9223372036854775807) (hnm : n ≤ m)
    (hl : ∀ i, i < n → (∀ j, j < i → x j = y j) → x i ≤ y i) :
    Calls Try.prog 44 #[.slice ao n c, .slice bo m d] w fun e w' => e = .returned (.bool true) ∧ Below w.heap.size w w' := by
  by_cases hz : n = 0
  · subst hz
    go_enter Try.func44, Try.ntmps44
    go_wp2_with fail
    refine wp_loop_rounds 1 ?_
    rw [rounds_succ]
    go_wp2_with fail
    go_returns
    exact ⟨rfl, by go_grown⟩
  obtain ⟨a, ao', rfl, hal, qa⟩ := hp.at' (by omega)
  obtain ⟨b, bo', rfl, hbl, qb⟩ := hq.at' (by omega)
  have HL : Hid (∀ i, i < n → (∀ j, j < i → x j = y j) → x i ≤ y i) := hl
  clear hp hq hl
  go_enter Try.func44, Try.ntmps44
  go_wp2_with fail
  go_loopw [8] (fun i wr => ∃ k : Nat, k ≤ n ∧ i = .int .i64 k ∧ Hid (∀ j, j < k → x j = y j) ∧ Below w.heap.size w wr) (fun i _ => n - (intOf i).toNat)
  case atStart => exact ⟨0, by omega, rfl, fun j hj => by omega, Below.refl _ _⟩
  case round =>
    obtain ⟨k, hkn, rfl, hk, hbr⟩ := hrel
    have zr := hbr.size
    by_cases hlt : k < n
    rotate_left
    · clear HL hk qa qb
      go_wp2_with fail
      go_returns
      exact ⟨rfl, hbr⟩
    have r0 := keepC hbr hal (qa k hlt)
    have r1 := keepC hbr hbl (qb k (by omega))
    have w3 : IntKind.i64.wrap ((k : Int) + 1) = (k : Int) + 1 := wid (by omega) (by omega)
    have hle := HL.out k hlt hk.out
    have hkm : (k : Int) < m := by omega
    have hkm' : k < m := by omega
    have za : a < wr.heap.size := by omega
    have zb : b < wr.heap.size := by omega
    by_cases e : x k = y k
    · have hk2 : Hid (∀ j, j < k + 1 → x j = y j) := fun j hj => by
        rcases Nat.lt_succ_iff_lt_or_eq.1 hj with h | rfl
        · exact hk.out j h
        · exact e
      have e' : (x k != y k) = false := by simp [e]
      clear HL hk qa qb e
      go_wp2_with fail
      go_region
      go_wp2_with fail
      go_roundw
      case rel => exact ⟨k + 1, by omega, by push_cast; rfl, hk2, by first | exact hbr | go_grown⟩
      case measure => simp [intOf]; omega
    · have e' : (x k != y k) = true := by simp [e]
      have e2 : x k < y k := by omega
      clear HL hk qa qb e
      go_wp2_with fail
      go_region
      go_wp2_with fail
      go_region
      go_wp2_with fail
      go_returns
      exact ⟨rfl, by go_grown⟩
end Go.Proofs.Ytmgkbnlmdhnjnae.U
