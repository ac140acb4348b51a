/- alive, and the document's order of lists. -/
import Derived.Test.YtmgkbnlmdhnjnafUMath5
import Derived.Test.YtmgkbnlmdhnjnafU12
namespace Go.Proofs.Ytmgkbnlmdhnjnaf.U
open Go.RowKit Go.Maps Go.Sort
set_option linter.unusedVariables false
set_option linter.unusedSimpArgs false

theorem alive_any (w : World) : Calls Try.prog 5 #[] w fun e w' => e = .returned (.bool true) ∧ Below w.heap.size w w' := by
  have hli : LI (w.alloc (.cells #[.int .i64 60] 3)) (some ⟨w.heap.size, 0, none⟩) 1 (fun _ => 60) := ⟨fun _ => ⟨_, 0, rfl, by simp, fun j hj => by
    have : j = 0 := by omega
    subst this; simp [go_sem]⟩⟩
  have HC1 : Calls Try.prog 7 #[.agg #[.int .i64 0, .int .i64 127, .bool false, .int .i64 0, .int .i64 1], .slice (some ⟨w.heap.size, 0, none⟩) 1 1] (w.alloc (.cells #[.int .i64 60] 3)) fun e w' => e = .returned (.tuple #[.int .i64 11, .int .i64 0]) ∧ Below (w.alloc (.cells #[.int .i64 60] 3)).heap.size (w.alloc (.cells #[.int .i64 60] 3)) w' := by
    have := Count_any ⟨0, 127, false, 0, 1⟩ (some ⟨w.heap.size, 0, none⟩) 1 1 (fun _ => 60) (w.alloc (.cells #[.int .i64 60] 3)) hli (by omega) (by omega)
    rw [M.cn_alive.1, M.cn_alive.2] at this
    exact this
  clear hli
  go_enter Try.func5, Try.ntmps5
  go_wp2_with fail
  refine HC1.mono ?_
  rintro e w1 ⟨rfl, hb1⟩
  go_wp2_with fail
  go_returns
  exact ⟨rfl, Below.trans (by go_grown) (hb1.mono (by simp))⟩

set_option maxHeartbeats 4000000 in
theorem Less_yes (ao bo : Option Addr) (n c m d : Nat) (x y : Nat → Int) (w : World) (hp : LI w ao n x) (hc : n ≤ c) (hcm : c ≤ 9223372036854775807) (hq : LI w bo m y) (hd : m ≤ d) (hdm : d ≤ 9223372036854775807) (hnm : n ≤ m)
    (hl : ∀ i, i < n → (∀ j, j < i → x j = y j) → x i ≤ y i) :
    Calls Try.prog 9 #[.slice ao n c, .slice bo m d] w fun e w' => e = .returned (.bool true) ∧ Below w.heap.size w w' := by
  by_cases hz : n = 0
  · subst hz
    go_enter Try.func9, Try.ntmps9
    go_wp2_with fail
    refine wp_loop_rounds 1 ?_
    rw [rounds_succ]
    go_wp2_with fail
    go_returns
    exact ⟨rfl, by go_grown⟩
  obtain ⟨a, ao', rfl, hal, qa⟩ := hp.at' (by omega)
  obtain ⟨b, bo', rfl, hbl, qb⟩ := hq.at' (by omega)
  have HL : Hid (∀ i, i < n → (∀ j, j < i → x j = y j) → x i ≤ y i) := hl
  clear hp hq hl
  go_enter Try.func9, Try.ntmps9
  go_wp2_with fail
  go_loopw [8] (fun i wr => ∃ k : Nat, k ≤ n ∧ i = .int .i64 k ∧ Hid (∀ j, j < k → x j = y j) ∧ Below w.heap.size w wr) (fun i _ => n - (intOf i).toNat)
  case atStart => exact ⟨0, by omega, rfl, fun j hj => by omega, Below.refl _ _⟩
  case round =>
    obtain ⟨k, hkn, rfl, hk, hbr⟩ := hrel
    have zr := hbr.size
    by_cases hlt : k < n
    rotate_left
    · clear HL hk qa qb
      go_wp2_with fail
      go_returns
      exact ⟨rfl, hbr⟩
    have r0 := keepC hbr hal (qa k hlt)
    have r1 := keepC hbr hbl (qb k (by omega))
    have w3 : IntKind.i64.wrap ((k : Int) + 1) = (k : Int) + 1 := wid (by omega) (by omega)
    have hle := HL.out k hlt hk.out
    have hkm : (k : Int) < m := by omega
    have hkm' : k < m := by omega
    have za : a < wr.heap.size := by omega
    have zb : b < wr.heap.size := by omega
    by_cases e : x k = y k
    · have hk2 : Hid (∀ j, j < k + 1 → x j = y j) := fun j hj => by
        rcases Nat.lt_succ_iff_lt_or_eq.1 hj with h | rfl
        · exact hk.out j h
        · exact e
      have e' : (x k != y k) = false := by simp [e]
      clear HL hk qa qb e
      go_wp2_with fail
      go_region
      go_wp2_with fail
      go_roundw
      case rel => exact ⟨k + 1, by omega, by push_cast; rfl, hk2, by first | exact hbr | go_grown⟩
      case measure => simp [intOf]; omega
    · have e' : (x k != y k) = true := by simp [e]
      have e2 : x k < y k := by omega
      clear HL hk qa qb e
      go_wp2_with fail
      go_region
      go_wp2_with fail
      go_region
      go_wp2_with fail
      go_returns
      exact ⟨rfl, by go_grown⟩
end Go.Proofs.Ytmgkbnlmdhnjnaf.U
