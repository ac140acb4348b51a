/- What the program's naming of an interval comes to, part by part. -/
import Derived.Test.YtmccbokjigjpnaaDoorQT5
import Derived.Lib.Repeat
namespace Go.Proofs.YtmccbokjigjpnaaDoor
open Go.RowKit Go.Lib Go.Joins
set_option linter.unusedSimpArgs false
set_option linter.unusedVariables false

namespace M
def pf (s : Int) : Bool := decide (s % 7 = 0) || (decide (s % 7 = 3) || decide (s % 7 = 4))
/-- The letter of an interval that goes up, and how often it stands there: m is what it is beyond its plain size. -/
def qc (p : Bool) (m : Int) : UInt8 := if 0 < m then 65 else if p = true then (if m = 0 then 80 else 100) else if m = 0 then 77 else if m = -1 then 109 else 100
def qn (p : Bool) (m : Int) : Int := if 0 < m then m else if p = true then (if m = 0 then 1 else -m) else if m = 0 then 1 else if m = -1 then 1 else -m - 1
end M

theorem plainSize_any (s : Int) (w : World) (ht : Tab w) (h1 : -1000 ≤ s) (h2 : s ≤ 1000) :
    Calls Tryd.prog 53 #[.int .i64 s] w fun e w' => e = .returned (.int .i64 (M.wh s)) ∧ Below w.heap.size w w' := by
  have e0 : M.hv (s % 7) 0 (s / 7) = M.wh s := by rw [M.hv_at]; omega
  go_enter Tryd.func53, Tryd.ntmps53
  go_wp2_with fail
  refine (plainAt_any s _ (by omega) (by omega)).mono ?_
  rintro e w1 ⟨rfl, hb1⟩
  go_wp2_with fail
  refine (halvesOf_any (s % 7) 0 (s / 7) _ (ht.step hb1) (by omega) (by omega) (by omega) (by omega) (by omega) (by omega)).mono ?_
  rintro e w2 ⟨rfl, hb2⟩
  go_wp2_with fail
  go_ret
  exact ⟨ret_int (by first | rfl | exact e0), hb1.trans (hb2.mono hb1.size)⟩

theorem isPerfect_any (s : Int) (w : World) (h1 : 0 ≤ s) (h2 : s ≤ 1000) :
    Calls Tryd.prog 54 #[.int .i64 s] w fun e w' => e = .returned (.bool (M.pf s)) ∧ w' = w := by
  have key : s % 7 = 0 ∨ s % 7 = 3 ∨ s % 7 = 4 ∨ (s % 7 ≠ 0 ∧ s % 7 ≠ 3 ∧ s % 7 ≠ 4) := by omega
  rcases key with h | h | h | ⟨g1, g2, g3⟩
  case inr.inr.inr =>
    have e : M.pf s = false := by unfold M.pf; simp [g1, g2, g3]
    have b1 : (s % 7 == 0) = false := by simp [g1]
    have b2 : (s % 7 == 3) = false := by simp [g2]
    have b3 : (s % 7 == 4) = false := by simp [g3]
    rw [e]
    clear g1 g2 g3 e
    go_enter Tryd.func54, Tryd.ntmps54
    go_wp2
    go_ret
    exact ⟨rfl, rfl⟩
  all_goals
    have e : M.pf s = true := by unfold M.pf; simp [h]
    rw [e]
    clear e
    go_enter Tryd.func54, Tryd.ntmps54
    go_wp2
    go_ret
    exact ⟨rfl, rfl⟩

theorem turned_any (s h : Int) (w : World) (h1 : -100000 ≤ s) (h2 : s ≤ 100000) (h3 : -100000 ≤ h) (h4 : h ≤ 100000) :
    Calls Tryd.prog 38 #[.agg #[.int .i64 s, .int .i64 h]] w fun e w' => e = .returned (.agg #[.int .i64 (-s), .int .i64 (-h)]) ∧ Below w.heap.size w w' := by
  go_enter Tryd.func38, Tryd.ntmps38
  go_wp2
  go_returns
  exact ⟨rfl, by go_grown⟩

set_option maxHeartbeats 1000000 in
theorem qualityOf_any (s h : Int) (w : World) (ht : Tab w) (h1 : 0 ≤ s) (h2 : s ≤ 1000) (h3 : -100000 ≤ h) (h4 : h ≤ 100000) :
    Calls Tryd.prog 39 #[.agg #[.int .i64 s, .int .i64 h]] w fun e w' => e = .returned (.tuple #[.string ⟨#[M.qc (M.pf s) (h - M.wh s)]⟩, .int .i64 (M.qn (M.pf s) (h - M.wh s))]) ∧ Below w.heap.size w w' := by
  have hwb := M.wh_bd s
  have hd : Below (w.heap.size + 1) (w.alloc (Obj.cells #[.int .i64 s, .int .i64 h] 25)) (w.alloc (Obj.cells #[.int .i64 s, .int .i64 h] 25)).drew := (Below.refl _ _).drew
  have mkS : ∀ w', Below (w.heap.size + 1) (w.alloc (Obj.cells #[.int .i64 s, .int .i64 h] 25)) w' → (Below w.heap.size w w' ∧ w'.cell? ⟨w.heap.size, 0, none⟩ = some (.int .i64 s) ∧ w'.cell? ⟨w.heap.size, 1, none⟩ = some (.int .i64 h)) := fun w' k =>
    ⟨Below.trans (by go_grown) (k.mono (by omega)), keepC k (by omega) (by simp [go_sem]), keepC k (by omega) (by simp [go_sem])⟩
  have key : (0 < h - M.wh s) ∨ (¬ 0 < h - M.wh s ∧ h - M.wh s = 0) ∨ (¬ 0 < h - M.wh s ∧ h - M.wh s ≠ 0 ∧ h - M.wh s = -1) ∨ (¬ 0 < h - M.wh s ∧ h - M.wh s ≠ 0 ∧ h - M.wh s ≠ -1) := by omega
  cases hp : M.pf s
  all_goals
    rcases key with k1 | ⟨k1, k2⟩ | ⟨k1, k2, k3⟩ | ⟨k1, k2, k3⟩
  all_goals
    generalize hm : h - M.wh s = m at *
    have hmb : -200000 ≤ m ∧ m ≤ 200000 := by omega
    first
      | (have b1 : (m == 0) = false := by simp [k2]
         have b2 : (m == -1) = false := by simp [k3])
      | (have b1 : (m == 0) = false := by simp [k2])
      | skip
    simp only [M.qc, M.qn, k1, if_true, if_false]
    try simp only [k2, if_true, if_false]
    try simp only [k3, if_true, if_false]
    go_enter Tryd.func39, Tryd.ntmps39
    go_wp2_with fail
    go_region_held3 (fun w' => Below w.heap.size w w' ∧ w'.cell? ⟨w.heap.size, 0, none⟩ = some (.int .i64 s) ∧ w'.cell? ⟨w.heap.size, 1, none⟩ = some (.int .i64 h))
      (first | exact mkS _ hbn | exact mkS _ hd)
      (first | (go_at_call 53; refine (plainSize_any s _ ?_ ?_ ?_).mono ?_; exact ht.step (Below.trans (by go_grown) (hd.mono (by omega))); omega; omega; rintro e wa ⟨rfl, hba⟩; have hbn : Below (w.heap.size + 1) (w.alloc (Obj.cells #[.int .i64 s, .int .i64 h] 25)) wa := hd.trans (hba.mono (by simp))))
    obtain ⟨c0, c1, c2⟩ := mkS _ hbn
    have cz : w.heap.size < wa.heap.size := by have := hbn.size; simp at this; omega
    first
      | rw [wid (show -9223372036854775808 ≤ m by omega) (by omega)]
      | rw [show IntKind.i64.wrap 0 = 0 from wid (by omega) (by omega)]
      | rw [show IntKind.i64.wrap (-1) = -1 from wid (by omega) (by omega)]
    go_wp2_with (go_at_call 54; refine (isPerfect_any _ _ (by omega) (by omega)).mono ?_; rintro e w' ⟨rfl, hw⟩; rw [hw, hp])
    go_returns
    exact ⟨by first | rfl | simp_all, c0⟩
end Go.Proofs.YtmccbokjigjpnaaDoor
