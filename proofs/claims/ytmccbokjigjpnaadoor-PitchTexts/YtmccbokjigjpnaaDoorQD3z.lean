/- What the document's Name comes to: a prime. -/
import Derived.Test.YtmccbokjigjpnaaDoorQD3
import Derived.Test.YtmccbokjigjpnaaDoorQR1
namespace Go.Proofs.YtmccbokjigjpnaaDoor
open Go.RowKit
attribute [local go_sem ↓] Go.wp_at_zero Go.wp_at_succ
set_option linter.unusedSimpArgs false
set_option linter.unusedVariables false

set_option maxRecDepth 20000 in
set_option maxHeartbeats 1000000 in
theorem refName_zP (h : Int) (w : World) (hi : M.inb 0 h = true) (hup : 0 ≤ h) (hm : h = 0) :
    Calls Tryd.prog 20 #[.agg #[.int .i64 0, .int .i64 h]] w fun e w' => e = .returned (.tuple #[.string (⟨#[80]⟩ ++ ⟨(Lib.itoa 1).toArray⟩), .int .i64 0]) ∧ Below w.heap.size w w' := by
  have hb := M.inb_yes hi
  have hW0 : M.wh 0 = 0 := by decide
  have hWh : ∀ W, Calls Tryd.prog 41 #[.int .i64 0] W fun e w' => e = .returned (.int .i64 0) ∧ w' = W := fun W => by have := White_any 0 W (by omega) (by omega); rw [hW0] at this; exact this
  have hDg := fun W => Digits_any 1 W (by omega) (by omega)
  have zD := itoa_size 1 (by omega) (by omega)
  generalize (⟨(Lib.itoa 1).toArray⟩ : ByteArray) = SD at *
  have hE : (⟨#[80]⟩ : ByteArray).toList.isEmpty = false := full_of (by decide)
  have zz : ¬ 9223372036854775807 < 1 + SD.size := by omega
  have f1 : (h == 0) = true := by simp; omega
  have hs1 : decide (h < 0) = false := by simp; omega
  clear hm
  go_enter Tryd.func20, Tryd.ntmps20
  go_wp2_with fail
  refine (Within_any 0 h _).mono ?_
  rintro e w1 ⟨rfl, hb1⟩
  rw [hi]
  have z1 := hb1.size
  simp at z1
  have h01 : Below w.heap.size w w1 := Below.trans (by go_grown) (hb1.mono (by simp))
  have p0 : w1.cell? ⟨w.heap.size, 0, none⟩ = some (.int .i64 0) := keepC hb1 (by simp) (by simp [go_sem])
  have p1 : w1.cell? ⟨w.heap.size, 1, none⟩ = some (.int .i64 h) := keepC hb1 (by simp) (by simp [go_sem])
  have sp : w.heap.size < w1.heap.size := by omega
  go_wp2_with fail
  go_quiet (first | (go_at_call 41; exact Calls.quiet_of_same (hWh _)))
  go_wp2_with fail
  refine (hDg _).mono ?_
  rintro e w3 ⟨rfl, hb3⟩
  go_wp2_with fail
  go_returns
  exact ⟨rfl, (below_drewN h01 _).trans (hb3.mono (by simpa using h01.size))⟩

set_option maxRecDepth 20000 in
set_option maxHeartbeats 1000000 in
theorem refName_zA (h : Int) (w : World) (hi : M.inb 0 h = true) (hup : 0 ≤ h) (hm : 0 < h ∧ h ≤ 6) :
    Calls Tryd.prog 20 #[.agg #[.int .i64 0, .int .i64 h]] w fun e w' => e = .returned (.tuple #[.string (M.rep ⟨#[65]⟩ (h).toNat ++ ⟨(Lib.itoa 1).toArray⟩), .int .i64 0]) ∧ Below w.heap.size w w' := by
  have hb := M.inb_yes hi
  have hW0 : M.wh 0 = 0 := by decide
  have hWh : ∀ W, Calls Tryd.prog 41 #[.int .i64 0] W fun e w' => e = .returned (.int .i64 0) ∧ w' = W := fun W => by have := White_any 0 W (by omega) (by omega); rw [hW0] at this; exact this
  have hDg := fun W => Digits_any 1 W (by omega) (by omega)
  have zD := itoa_size 1 (by omega) (by omega)
  generalize (⟨(Lib.itoa 1).toArray⟩ : ByteArray) = SD at *
  have zT := M.rep_size ⟨#[65]⟩ rfl (h).toNat
  have hTm : ∀ W, Calls Tryd.prog 42 #[.string ⟨#[65]⟩, .int .i64 (h)] W fun e w' => e = .returned (.string (M.rep ⟨#[65]⟩ (h).toNat)) ∧ w' = W := fun W => times_any _ _ W rfl (by omega)
  generalize M.rep ⟨#[65]⟩ (h).toNat = ST at *
  have hE : ST.toList.isEmpty = false := full_of (by omega)
  have zz : ¬ 9223372036854775807 < ST.size + SD.size := by omega
  have f1 : (h == 0) = false := by simp; omega
  have f2 : (h == -1) = false := by simp; omega
  have f3 : 0 < h := by omega
  have f4 : h ≤ 6 := by omega
  have hs1 : decide (h < 0) = false := by simp; omega
  clear hm
  go_enter Tryd.func20, Tryd.ntmps20
  go_wp2_with fail
  refine (Within_any 0 h _).mono ?_
  rintro e w1 ⟨rfl, hb1⟩
  rw [hi]
  have z1 := hb1.size
  simp at z1
  have h01 : Below w.heap.size w w1 := Below.trans (by go_grown) (hb1.mono (by simp))
  have p0 : w1.cell? ⟨w.heap.size, 0, none⟩ = some (.int .i64 0) := keepC hb1 (by simp) (by simp [go_sem])
  have p1 : w1.cell? ⟨w.heap.size, 1, none⟩ = some (.int .i64 h) := keepC hb1 (by simp) (by simp [go_sem])
  have sp : w.heap.size < w1.heap.size := by omega
  go_wp2_with fail
  go_quiet (first | (go_at_call 41; exact Calls.quiet_of_same (hWh _)))
  go_wp2_with (go_at_call 42; refine (hTm _).mono ?_; rintro e wt ⟨rfl, hwt⟩; rw [hwt])
  refine (hDg _).mono ?_
  rintro e w3 ⟨rfl, hb3⟩
  go_wp2_with fail
  go_returns
  exact ⟨rfl, (below_drewN h01 _).trans (hb3.mono (by simpa using h01.size))⟩

set_option maxRecDepth 20000 in
set_option maxHeartbeats 1000000 in
theorem refName_zxA (h : Int) (w : World) (hi : M.inb 0 h = true) (hup : 0 ≤ h) (hm : 6 < h) :
    Calls Tryd.prog 20 #[.agg #[.int .i64 0, .int .i64 h]] w fun e w' => e = .returned (.tuple #[.string ⟨#[]⟩, .int .i64 3]) ∧ Below w.heap.size w w' := by
  have hb := M.inb_yes hi
  have hW0 : M.wh 0 = 0 := by decide
  have hWh : ∀ W, Calls Tryd.prog 41 #[.int .i64 0] W fun e w' => e = .returned (.int .i64 0) ∧ w' = W := fun W => by have := White_any 0 W (by omega) (by omega); rw [hW0] at this; exact this
  have f1 : (h == 0) = false := by simp; omega
  have f2 : (h == -1) = false := by simp; omega
  have f3 : 0 < h := by omega
  have f4 : decide (h ≤ 6) = false := by simp; omega
  have f5 : decide (h < 0) = false := by simp; omega
  have f6 : decide (h < -1) = false := by simp; omega
  have hs1 : decide (h < 0) = false := by simp; omega
  clear hm
  go_enter Tryd.func20, Tryd.ntmps20
  go_wp2_with fail
  refine (Within_any 0 h _).mono ?_
  rintro e w1 ⟨rfl, hb1⟩
  rw [hi]
  have z1 := hb1.size
  simp at z1
  have h01 : Below w.heap.size w w1 := Below.trans (by go_grown) (hb1.mono (by simp))
  have p0 : w1.cell? ⟨w.heap.size, 0, none⟩ = some (.int .i64 0) := keepC hb1 (by simp) (by simp [go_sem])
  have p1 : w1.cell? ⟨w.heap.size, 1, none⟩ = some (.int .i64 h) := keepC hb1 (by simp) (by simp [go_sem])
  have sp : w.heap.size < w1.heap.size := by omega
  go_wp2_with fail
  go_quiet (first | (go_at_call 41; exact Calls.quiet_of_same (hWh _)))
  go_wp2_with fail
  go_returns
  exact ⟨rfl, below_drewN h01 _⟩

end Go.Proofs.YtmccbokjigjpnaaDoor
