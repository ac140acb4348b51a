/- What the document's Letter, Digits, starts and times come to. -/
import Derived.Test.YtmccbokjigjpnaaDoorQW1
import Derived.Lib.ItoaNum
import Derived.WalkLawsBesides
import Derived.Deep.DeepCutAuto
namespace Go.Proofs.YtmccbokjigjpnaaDoor
open Go.RowKit
set_option linter.unusedSimpArgs false
set_option linter.unusedVariables false

theorem ret_str {a b : ByteArray} (h : a = b) : Ending.returned (.string a) = .returned (.string b) := by rw [h]
/-- The letters' signs. -/
def M.lt' (l : Int) : List UInt8 := if l = 0 then [67] else if l = 1 then [68] else if l = 2 then [69] else if l = 3 then [70] else if l = 4 then [71] else if l = 5 then [65] else if l = 6 then [66] else []
theorem Letter_any (l : Int) (w : World) (h1 : 0 ≤ l) (h2 : l ≤ 6) :
    Calls Tryd.prog 36 #[.int .i64 l] w fun e w' => e = .returned (.string ⟨(M.lt' l).toArray⟩) ∧ Below w.heap.size w w' := by
  rcases (show l = 0 ∨ l = 1 ∨ l = 2 ∨ l = 3 ∨ l = 4 ∨ l = 5 ∨ l = 6 by omega) with rfl | rfl | rfl | rfl | rfl | rfl | rfl
  all_goals
    go_enter Tryd.func36, Tryd.ntmps36
    go_wp2
    go_ret
    exact ⟨rfl, by go_grown⟩

theorem conv1 (w : World) (n : Int) : (convert 74 9 (.slice (some ⟨w.heap.size, 0, none⟩) 1 1)).run Tryd.prog (w.alloc (Obj.cells #[.int .u8 n] 5)) = .ok (.string ⟨#[UInt8.ofNat n.toNat]⟩) (w.alloc (Obj.cells #[.int .u8 n] 5)) := by
  rw [run_convert_bytes_string (w.alloc _) 74 9 5 _ _ _ Tryd.underlying74 Tryd.underlying5 Tryd.underlying9]
  exact run_bytesToString _ _ 1 1 [n] (by simp [loadCells, go_sem])

set_option maxRecDepth 20000 in
theorem Digits_1 (n : Int) (w : World) (h1 : 0 ≤ n) (h2 : n ≤ 9) :
    Calls Tryd.prog 37 #[.int .i64 n] w fun e w' => e = .returned (.string ⟨#[UInt8.ofNat (48 + n.toNat)]⟩) ∧ Below w.heap.size w w' := by
  have hc := conv1 w
  rcases (show n = 0 ∨ n = 1 ∨ n = 2 ∨ n = 3 ∨ n = 4 ∨ n = 5 ∨ n = 6 ∨ n = 7 ∨ n = 8 ∨ n = 9 by omega) with rfl | rfl | rfl | rfl | rfl | rfl | rfl | rfl | rfl | rfl
  all_goals
    go_enter Tryd.func37, Tryd.ntmps37
    go_wp2_with (simp only [hc])
    go_ret
    exact ⟨ret_str rfl, by go_grown⟩

/-- The digits of a number below 1,000. -/
def M.dg' (u : Nat) : ByteArray := if u < 10 then ⟨#[UInt8.ofNat (48 + u)]⟩ else if u < 100 then ⟨#[UInt8.ofNat (48 + u / 10)]⟩ ++ ⟨#[UInt8.ofNat (48 + u % 10)]⟩ else (⟨#[UInt8.ofNat (48 + u / 10 / 10)]⟩ ++ ⟨#[UInt8.ofNat (48 + u / 10 % 10)]⟩) ++ ⟨#[UInt8.ofNat (48 + u % 10)]⟩
theorem sz1 (c : UInt8) : (⟨#[c]⟩ : ByteArray).size = 1 := rfl
theorem Digits_2 (n : Nat) (w : World) (h1 : 10 ≤ n) (h2 : n < 100) :
    Calls Tryd.prog 37 #[.int .i64 n] w fun e w' => e = .returned (.string (⟨#[UInt8.ofNat (48 + n / 10)]⟩ ++ ⟨#[UInt8.ofNat (48 + n % 10)]⟩)) ∧ Below w.heap.size w w' := by
  have d1 := fun W => Digits_1 ((n : Int) / 10) W (by omega) (by omega)
  have d2 := fun W => Digits_1 ((n : Int) % 10) W (by omega) (by omega)
  rw [show ((n : Int) / 10).toNat = n / 10 by omega] at d1
  rw [show ((n : Int) % 10).toNat = n % 10 by omega] at d2
  generalize hA : (⟨#[UInt8.ofNat (48 + n / 10)]⟩ : ByteArray) = SA at *
  generalize hB : (⟨#[UInt8.ofNat (48 + n % 10)]⟩ : ByteArray) = SB at *
  have zA : SA.size = 1 := by rw [← hA]; rfl
  have zB : SB.size = 1 := by rw [← hB]; rfl
  have zz : ¬ 9223372036854775807 < SA.size + SB.size := by omega
  clear hA hB
  go_enter Tryd.func37, Tryd.ntmps37
  go_wp2_with fail
  refine (d1 _).mono ?_
  rintro e w1 ⟨rfl, hb1⟩
  go_wp2_with fail
  refine (d2 _).mono ?_
  rintro e w2 ⟨rfl, hb2⟩
  go_wp2_with fail
  go_ret
  exact ⟨rfl, hb1.trans (hb2.mono hb1.size)⟩
end Go.Proofs.YtmccbokjigjpnaaDoor
