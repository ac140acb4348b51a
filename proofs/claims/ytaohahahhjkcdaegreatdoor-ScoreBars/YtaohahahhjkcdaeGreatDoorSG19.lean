/- What the program's reading of a pitch's signs comes to. -/
import Derived.Test.YtaohahahhjkcdaeGreatDoorSG6
import Derived.Test.YtaohahahhjkcdaeGreatDoorSG17
import Derived.Laws.RangeString
import Derived.Laws.RangeAny
import Derived.LoopTactic
namespace Go.Proofs.YtaohahahhjkcdaeGreatDoor
open Go.RowKit
set_option linter.unusedSimpArgs false

namespace M
/-- What a sign adds. -/
def wo (r : Nat) : Int := if r = 9839 ∨ r = 35 then 1 else if r = 119082 ∨ r = 120 then 2 else if r = 9837 ∨ r = 98 then -1 else if r = 119083 then -2 else 0
theorem wo_bd (r : Nat) : -2 ≤ wo r ∧ wo r ≤ 2 := by unfold wo; repeat' split <;> omega
def bad (a v : Int) : Bool := decide (a * v < 0) || !(wi a 3)
/-- The signs that a text begins with, from a place on: their sum, where they end, the error. -/
def scan (s : ByteArray) : Nat → Nat → Int → Int × Int × Int
  | 0, _, a => (a, s.size, 0)
  | b + 1, pos, a => if pos < s.size then (if wo (Utf8.decode s pos).1 = 0 then (a, pos, 0) else if bad (a + wo (Utf8.decode s pos).1) (wo (Utf8.decode s pos).1) = true then (0, pos, 3) else scan s b (pos + (Utf8.decode s pos).2) (a + wo (Utf8.decode s pos).1)) else (a, s.size, 0)
theorem scan_end (s : ByteArray) (b pos : Nat) (a : Int) (h : ¬ pos < s.size) : scan s b pos a = (a, (s.size : Int), 0) := by
  cases b with
  | zero => rfl
  | succ b => simp [scan, h]
theorem scan_stop (s : ByteArray) (b pos : Nat) (a : Int) (h : pos < s.size) (h0 : wo (Utf8.decode s pos).1 = 0) : scan s (b + 1) pos a = (a, (pos : Int), 0) := by
  simp [scan, h, h0]
theorem scan_bad (s : ByteArray) (b pos : Nat) (a : Int) (h : pos < s.size) (h0 : wo (Utf8.decode s pos).1 ≠ 0) (h1 : bad (a + wo (Utf8.decode s pos).1) (wo (Utf8.decode s pos).1) = true) : scan s (b + 1) pos a = (0, (pos : Int), 3) := by
  simp [scan, h, h0, h1]
theorem scan_on (s : ByteArray) (b pos : Nat) (a : Int) (h : pos < s.size) (h0 : wo (Utf8.decode s pos).1 ≠ 0) (h1 : bad (a + wo (Utf8.decode s pos).1) (wo (Utf8.decode s pos).1) = false) : scan s (b + 1) pos a = scan s b (pos + (Utf8.decode s pos).2) (a + wo (Utf8.decode s pos).1) := by
  simp [scan, h, h0, h1]
/-- readSigns. -/
def sg (s : ByteArray) : Int × Int × Int := if Lib.hasPrefix s.data.toList [226, 153, 174] = true then (0, 3, 0) else scan s s.size 0 0
end M

theorem width_pos (s : ByteArray) (pos : Nat) (h : pos < s.size) : 1 ≤ (Utf8.decode s pos).2 := by
  by_cases ha : (s[pos]'h).toNat < 128
  · rw [decode_ascii s pos h ha]
    exact Nat.le_refl _
  · exact (decode_high s pos h (by omega)).2

theorem worth_any (r : Nat) (w : World) :
    Calls Tryz.prog 148 #[.int .i32 r] w fun e w' => e = .returned (.int .i64 (M.wo r)) ∧ w' = w := by
  have key : r = 9839 ∨ r = 35 ∨ r = 119082 ∨ r = 120 ∨ r = 9837 ∨ r = 98 ∨ r = 119083 ∨ (r ≠ 9839 ∧ r ≠ 35 ∧ r ≠ 119082 ∧ r ≠ 120 ∧ r ≠ 9837 ∧ r ≠ 98 ∧ r ≠ 119083) := by omega
  rcases key with rfl | rfl | rfl | rfl | rfl | rfl | rfl | ⟨h1, h2, h3, h4, h5, h6, h7⟩
  case inr.inr.inr.inr.inr.inr.inr =>
    have e0 : M.wo r = 0 := by unfold M.wo; rw [if_neg (by omega), if_neg (by omega), if_neg (by omega), if_neg (by omega)]
    rw [e0]
    have g1 : ((r : Int) == 9839) = false := by simp; omega
    have g2 : ((r : Int) == 35) = false := by simp; omega
    have g3 : ((r : Int) == 119082) = false := by simp; omega
    have g4 : ((r : Int) == 120) = false := by simp; omega
    have g5 : ((r : Int) == 9837) = false := by simp; omega
    have g6 : ((r : Int) == 98) = false := by simp; omega
    have g7 : ((r : Int) == 119083) = false := by simp; omega
    clear h1 h2 h3 h4 h5 h6 h7
    go_enter Tryz.func148, Tryz.ntmps148
    go_wp2
    go_ret
    exact ⟨rfl, rfl⟩
  all_goals
    go_enter Tryz.func148, Tryz.ntmps148
    go_wp2
    go_ret
    exact ⟨rfl, rfl⟩

theorem iter_below (w : World) (s : ByteArray) (pos : Nat) : Below w.heap.size w (w.iter s pos) := (Below.refl _ _).alloc (Nat.le_refl _) _

set_option maxRecDepth 100000 in
set_option maxHeartbeats 2000000 in
theorem readSigns_any (s : ByteArray) (w : World) (_hs : s.size ≤ 140737488355328) :
    Calls Tryz.prog 133 #[.string s] w fun e w' => e = .returned (.tuple #[.int .i64 (M.sg s).1, .int .i64 (M.sg s).2.1, .int .i64 (M.sg s).2.2]) ∧ Below w.heap.size w w' := by
  cases hp : Lib.hasPrefix s.data.toList [226, 153, 174]
  · have HE : M.sg s = M.scan s s.size 0 0 := by unfold M.sg; rw [if_neg (by rw [hp]; decide)]
    rw [HE]
    clear HE
    go_enter Tryz.func133, Tryz.ntmps133
    go_wp2_with (go_at_call 101; refine (Tryz.strings_HasPrefix _ _ _).mono ?_; rintro e w' ⟨rfl, hw⟩; rw [hp, hw])
    go_loopw [2] (fun n w' => ∃ (pos b : Nat) (a : Int), w' = w.iter s pos ∧ n = .int .i64 a ∧ Hid (M.scan s b pos a = M.scan s s.size 0 0) ∧ s.size ≤ pos + b ∧ -3 ≤ a ∧ a ≤ 3) (fun _ w' => s.size - w'.iterPos w.heap.size)
    case atStart => exact ⟨0, s.size, 0, rfl, rfl, rfl, by omega, by omega, by omega⟩
    case round =>
      obtain ⟨pos, b, a, rfl, rfl, hc, hb, ha1, ha2⟩ := hrel
      by_cases hq : pos < s.size
      · have hnx : ∀ ty, (Instr.next (.pointer (some ⟨w.heap.size, 0, none⟩)) true ty).run Tryz.prog (w.iter s pos) = _ := fun ty => run_next_any w s pos ty hq
        have hwd := width_pos s pos hq
        have hv := M.wo_bd (Utf8.decode s pos).1
        obtain ⟨b, rfl⟩ : ∃ b', b = b' + 1 := ⟨b - 1, by omega⟩
        by_cases h0 : M.wo (Utf8.decode s pos).1 = 0
        · have HC : Hid (M.scan s s.size 0 0 = (a, (pos : Int), 0)) := by show _ = _; rw [← hc.out, M.scan_stop s b pos a hq h0]
          go_wp2_with (go_at_call 148; refine (worth_any _ _).mono ?_; rintro e w' ⟨rfl, hw⟩; rw [hw, h0])
          go_returns
          exact ⟨by rw [HC.out]; rfl, iter_below w s _⟩
        · generalize hv' : M.wo (Utf8.decode s pos).1 = v at *
          have HON : M.bad (a + v) v = false → Hid (M.scan s b (pos + (Utf8.decode s pos).2) (a + v) = M.scan s s.size 0 0) := fun hbad => by
            show _ = _
            rw [← hc.out, M.scan_on s b pos a hq (by rw [hv']; exact h0) (by rw [hv']; exact hbad), hv']
          have HBAD : M.bad (a + v) v = true → Hid (M.scan s s.size 0 0 = (0, (pos : Int), 3)) := fun hbad => by
            show _ = _
            rw [← hc.out, M.scan_bad s b pos a hq (by rw [hv']; exact h0) (by rw [hv']; exact hbad)]
          have kv : v = -2 ∨ v = -1 ∨ v = 1 ∨ v = 2 := by omega
          have ka : a = -3 ∨ a = -2 ∨ a = -1 ∨ a = 0 ∨ a = 1 ∨ a = 2 ∨ a = 3 := by omega
          clear hc hv
          cases hbad : M.bad (a + v) v
          · have HN := HON hbad
            clear HON HBAD
            rcases kv with rfl | rfl | rfl | rfl <;> rcases ka with rfl | rfl | rfl | rfl | rfl | rfl | rfl
            all_goals first
              | exact absurd hbad (by decide)
              | (go_wp2_with (first
                    | (go_at_call 148; refine (worth_any _ _).mono ?_; rintro e w' ⟨rfl, hw⟩; rw [hw, hv'])
                    | (go_at_call 95; refine (within_any _ _ _ (by omega) (by omega)).mono ?_; rintro e w' ⟨rfl, hw⟩; rw [hw]; simp only [M.wi]))
                 go_roundw
                 case rel => exact ⟨pos + (Utf8.decode s pos).2, b, _, rfl, rfl, HN, by omega, by omega, by omega⟩
                 case measure =>
                   simp
                   omega)
          · have HN := HBAD hbad
            clear HON HBAD
            rcases kv with rfl | rfl | rfl | rfl <;> rcases ka with rfl | rfl | rfl | rfl | rfl | rfl | rfl
            all_goals first
              | exact absurd hbad (by decide)
              | (go_wp2_with (first
                    | (go_at_call 148; refine (worth_any _ _).mono ?_; rintro e w' ⟨rfl, hw⟩; rw [hw, hv'])
                    | (go_at_call 95; refine (within_any _ _ _ (by omega) (by omega)).mono ?_; rintro e w' ⟨rfl, hw⟩; rw [hw]; simp only [M.wi]))
                 go_returns
                 exact ⟨by rw [HN.out]; rfl, iter_below w s _⟩)
      · have hnx : ∀ ty, (Instr.next (.pointer (some ⟨w.heap.size, 0, none⟩)) true ty).run Tryz.prog (w.iter s pos) = _ := fun ty => run_next_end w s pos ty hq
        have HC : Hid (M.scan s s.size 0 0 = (a, (s.size : Int), 0)) := by show _ = _; rw [← hc.out, M.scan_end s b pos a hq]
        go_wp2_with fail
        go_returns
        exact ⟨by rw [HC.out]; rfl, iter_below w s _⟩
  · have HE : M.sg s = (0, 3, 0) := by unfold M.sg; rw [if_pos hp]
    rw [HE]
    go_enter Tryz.func133, Tryz.ntmps133
    go_wp2_with (go_at_call 101; refine (Tryz.strings_HasPrefix _ _ _).mono ?_; rintro e w' ⟨rfl, hw⟩; rw [hp, hw])
    go_returns
    exact ⟨rfl, Below.refl _ _⟩
end Go.Proofs.YtaohahahhjkcdaeGreatDoor
