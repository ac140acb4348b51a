/- What the document's Name comes to: the rest. -/
import Derived.Test.YtmccbokjigjpnaaDoorQD3
import Derived.Test.YtmccbokjigjpnaaDoorQR1
namespace Go.Proofs.YtmccbokjigjpnaaDoor
open Go.RowKit
attribute [local go_sem ↓] Go.wp_at_zero Go.wp_at_succ
set_option linter.unusedSimpArgs false
set_option linter.unusedVariables false

set_option maxRecDepth 20000 in
set_option maxHeartbeats 1000000 in
theorem refName_4P (s h : Int) (w : World) (hi : M.inb s h = true) (hup : 0 < s) (hk : s % 7 = 4) (hm : h - M.wh s = 0) :
    Calls Tryd.prog 20 #[.agg #[.int .i64 s, .int .i64 h]] w fun e w' => e = .returned (.tuple #[.string (⟨#[80]⟩ ++ ⟨(Lib.itoa (s + 1)).toArray⟩), .int .i64 0]) ∧ Below w.heap.size w w' := by
  have hb := M.inb_yes hi
  have hwb := M.wh_bd s
  have hWh : ∀ W, Calls Tryd.prog 41 #[.int .i64 s] W fun e w' => e = .returned (.int .i64 (M.wh s)) ∧ w' = W := fun W => White_any s W (by omega) (by omega)
  have hDg := fun W => Digits_any (s + 1) W (by omega) (by omega)
  have zD := itoa_size (s + 1) (by omega) (by omega)
  generalize (⟨(Lib.itoa (s + 1)).toArray⟩ : ByteArray) = SD at *
  have hE : (⟨#[80]⟩ : ByteArray).toList.isEmpty = false := full_of (by decide)
  have zz : ¬ 9223372036854775807 < 1 + SD.size := by omega
  generalize M.wh s = WH at *
  have f0 : (s % 7 == 0) = false := by simp; omega
  have f1 : (s % 7 == 3) = false := by simp; omega
  have f2 : (s % 7 == 4) = true := by simp; omega
  have f3 : (h - WH == 0) = true := by simp; omega
  have hs1 : decide (s < 0) = false := by simp; omega
  have hs2 : (s == 0) = false := by simp; omega
  clear hm hk
  go_enter Tryd.func20, Tryd.ntmps20
  go_wp2_with fail
  refine (Within_any s h _).mono ?_
  rintro e w1 ⟨rfl, hb1⟩
  rw [hi]
  have z1 := hb1.size
  simp at z1
  have h01 : Below w.heap.size w w1 := Below.trans (by go_grown) (hb1.mono (by simp))
  have p0 : w1.cell? ⟨w.heap.size, 0, none⟩ = some (.int .i64 s) := keepC hb1 (by simp) (by simp [go_sem])
  have p1 : w1.cell? ⟨w.heap.size, 1, none⟩ = some (.int .i64 h) := keepC hb1 (by simp) (by simp [go_sem])
  have sp : w.heap.size < w1.heap.size := by omega
  go_wp2_with fail
  go_quiet (first | (go_at_call 41; exact Calls.quiet_of_same (hWh _)))
  go_wp2_with fail
  refine (hDg _).mono ?_
  rintro e w3 ⟨rfl, hb3⟩
  go_wp2_with fail
  go_returns
  exact ⟨rfl, (below_drewN h01 _).trans (hb3.mono (by simpa using h01.size))⟩

set_option maxRecDepth 20000 in
set_option maxHeartbeats 1000000 in
theorem refName_4A (s h : Int) (w : World) (hi : M.inb s h = true) (hup : 0 < s) (hk : s % 7 = 4) (hm : 0 < h - M.wh s ∧ h - M.wh s ≤ 6) :
    Calls Tryd.prog 20 #[.agg #[.int .i64 s, .int .i64 h]] w fun e w' => e = .returned (.tuple #[.string (M.rep ⟨#[65]⟩ (h - M.wh s).toNat ++ ⟨(Lib.itoa (s + 1)).toArray⟩), .int .i64 0]) ∧ Below w.heap.size w w' := by
  have hb := M.inb_yes hi
  have hwb := M.wh_bd s
  have hWh : ∀ W, Calls Tryd.prog 41 #[.int .i64 s] W fun e w' => e = .returned (.int .i64 (M.wh s)) ∧ w' = W := fun W => White_any s W (by omega) (by omega)
  have hDg := fun W => Digits_any (s + 1) W (by omega) (by omega)
  have zD := itoa_size (s + 1) (by omega) (by omega)
  generalize (⟨(Lib.itoa (s + 1)).toArray⟩ : ByteArray) = SD at *
  have zT := M.rep_size ⟨#[65]⟩ rfl (h - M.wh s).toNat
  have hTm : ∀ W, Calls Tryd.prog 42 #[.string ⟨#[65]⟩, .int .i64 (h - M.wh s)] W fun e w' => e = .returned (.string (M.rep ⟨#[65]⟩ (h - M.wh s).toNat)) ∧ w' = W := fun W => times_any _ _ W rfl (by omega)
  generalize M.rep ⟨#[65]⟩ (h - M.wh s).toNat = ST at *
  have hE : ST.toList.isEmpty = false := full_of (by omega)
  have zz : ¬ 9223372036854775807 < ST.size + SD.size := by omega
  generalize M.wh s = WH at *
  have f0 : (s % 7 == 0) = false := by simp; omega
  have f1 : (s % 7 == 3) = false := by simp; omega
  have f2 : (s % 7 == 4) = true := by simp; omega
  have f3 : (h - WH == 0) = false := by simp; omega
  have f4 : (h - WH == -1) = false := by simp; omega
  have f5 : 0 < h - WH := by omega
  have f6 : h - WH ≤ 6 := by omega
  have hs1 : decide (s < 0) = false := by simp; omega
  have hs2 : (s == 0) = false := by simp; omega
  clear hm hk
  go_enter Tryd.func20, Tryd.ntmps20
  go_wp2_with fail
  refine (Within_any s h _).mono ?_
  rintro e w1 ⟨rfl, hb1⟩
  rw [hi]
  have z1 := hb1.size
  simp at z1
  have h01 : Below w.heap.size w w1 := Below.trans (by go_grown) (hb1.mono (by simp))
  have p0 : w1.cell? ⟨w.heap.size, 0, none⟩ = some (.int .i64 s) := keepC hb1 (by simp) (by simp [go_sem])
  have p1 : w1.cell? ⟨w.heap.size, 1, none⟩ = some (.int .i64 h) := keepC hb1 (by simp) (by simp [go_sem])
  have sp : w.heap.size < w1.heap.size := by omega
  go_wp2_with fail
  go_quiet (first | (go_at_call 41; exact Calls.quiet_of_same (hWh _)))
  go_wp2_with (go_at_call 42; refine (hTm _).mono ?_; rintro e wt ⟨rfl, hwt⟩; rw [hwt])
  refine (hDg _).mono ?_
  rintro e w3 ⟨rfl, hb3⟩
  go_wp2_with fail
  go_returns
  exact ⟨rfl, (below_drewN h01 _).trans (hb3.mono (by simpa using h01.size))⟩

set_option maxRecDepth 20000 in
set_option maxHeartbeats 1000000 in
theorem refName_4d (s h : Int) (w : World) (hi : M.inb s h = true) (hup : 0 < s) (hk : s % 7 = 4) (hm : h - M.wh s < 0 ∧ -6 ≤ h - M.wh s) :
    Calls Tryd.prog 20 #[.agg #[.int .i64 s, .int .i64 h]] w fun e w' => e = .returned (.tuple #[.string (M.rep ⟨#[100]⟩ (-(h - M.wh s)).toNat ++ ⟨(Lib.itoa (s + 1)).toArray⟩), .int .i64 0]) ∧ Below w.heap.size w w' := by
  have hb := M.inb_yes hi
  have hwb := M.wh_bd s
  have hWh : ∀ W, Calls Tryd.prog 41 #[.int .i64 s] W fun e w' => e = .returned (.int .i64 (M.wh s)) ∧ w' = W := fun W => White_any s W (by omega) (by omega)
  have hDg := fun W => Digits_any (s + 1) W (by omega) (by omega)
  have zD := itoa_size (s + 1) (by omega) (by omega)
  generalize (⟨(Lib.itoa (s + 1)).toArray⟩ : ByteArray) = SD at *
  have zT := M.rep_size ⟨#[100]⟩ rfl (-(h - M.wh s)).toNat
  have hTm : ∀ W, Calls Tryd.prog 42 #[.string ⟨#[100]⟩, .int .i64 (-(h - M.wh s))] W fun e w' => e = .returned (.string (M.rep ⟨#[100]⟩ (-(h - M.wh s)).toNat)) ∧ w' = W := fun W => times_any _ _ W rfl (by omega)
  generalize M.rep ⟨#[100]⟩ (-(h - M.wh s)).toNat = ST at *
  have hE : ST.toList.isEmpty = false := full_of (by omega)
  have zz : ¬ 9223372036854775807 < ST.size + SD.size := by omega
  generalize M.wh s = WH at *
  have f0 : (s % 7 == 0) = false := by simp; omega
  have f1 : (s % 7 == 3) = false := by simp; omega
  have f2 : (s % 7 == 4) = true := by simp; omega
  have f3 : (h - WH == 0) = false := by simp; omega
  have f4 : decide (0 < h - WH) = false := by simp; omega
  have f5 : h - WH < 0 := by omega
  have f6 : -6 ≤ h - WH := by omega
  have hs1 : decide (s < 0) = false := by simp; omega
  have hs2 : (s == 0) = false := by simp; omega
  clear hm hk
  go_enter Tryd.func20, Tryd.ntmps20
  go_wp2_with fail
  refine (Within_any s h _).mono ?_
  rintro e w1 ⟨rfl, hb1⟩
  rw [hi]
  have z1 := hb1.size
  simp at z1
  have h01 : Below w.heap.size w w1 := Below.trans (by go_grown) (hb1.mono (by simp))
  have p0 : w1.cell? ⟨w.heap.size, 0, none⟩ = some (.int .i64 s) := keepC hb1 (by simp) (by simp [go_sem])
  have p1 : w1.cell? ⟨w.heap.size, 1, none⟩ = some (.int .i64 h) := keepC hb1 (by simp) (by simp [go_sem])
  have sp : w.heap.size < w1.heap.size := by omega
  go_wp2_with fail
  go_quiet (first | (go_at_call 41; exact Calls.quiet_of_same (hWh _)))
  go_wp2_with (go_at_call 42; refine (hTm _).mono ?_; rintro e wt ⟨rfl, hwt⟩; rw [hwt])
  refine (hDg _).mono ?_
  rintro e w3 ⟨rfl, hb3⟩
  go_wp2_with fail
  go_returns
  exact ⟨rfl, (below_drewN h01 _).trans (hb3.mono (by simpa using h01.size))⟩

set_option maxRecDepth 20000 in
set_option maxHeartbeats 1000000 in
theorem refName_4xA (s h : Int) (w : World) (hi : M.inb s h = true) (hup : 0 < s) (hk : s % 7 = 4) (hm : 6 < h - M.wh s) :
    Calls Tryd.prog 20 #[.agg #[.int .i64 s, .int .i64 h]] w fun e w' => e = .returned (.tuple #[.string ⟨#[]⟩, .int .i64 3]) ∧ Below w.heap.size w w' := by
  have hb := M.inb_yes hi
  have hwb := M.wh_bd s
  have hWh : ∀ W, Calls Tryd.prog 41 #[.int .i64 s] W fun e w' => e = .returned (.int .i64 (M.wh s)) ∧ w' = W := fun W => White_any s W (by omega) (by omega)
  generalize M.wh s = WH at *
  have f0 : (s % 7 == 0) = false := by simp; omega
  have f1 : (s % 7 == 3) = false := by simp; omega
  have f2 : (s % 7 == 4) = true := by simp; omega
  have f3 : (h - WH == 0) = false := by simp; omega
  have f4 : (h - WH == -1) = false := by simp; omega
  have f5 : 0 < h - WH := by omega
  have f6 : decide (h - WH ≤ 6) = false := by simp; omega
  have f7 : decide (h - WH < 0) = false := by simp; omega
  have f8 : decide (h - WH < -1) = false := by simp; omega
  have hs1 : decide (s < 0) = false := by simp; omega
  have hs2 : (s == 0) = false := by simp; omega
  clear hm hk
  go_enter Tryd.func20, Tryd.ntmps20
  go_wp2_with fail
  refine (Within_any s h _).mono ?_
  rintro e w1 ⟨rfl, hb1⟩
  rw [hi]
  have z1 := hb1.size
  simp at z1
  have h01 : Below w.heap.size w w1 := Below.trans (by go_grown) (hb1.mono (by simp))
  have p0 : w1.cell? ⟨w.heap.size, 0, none⟩ = some (.int .i64 s) := keepC hb1 (by simp) (by simp [go_sem])
  have p1 : w1.cell? ⟨w.heap.size, 1, none⟩ = some (.int .i64 h) := keepC hb1 (by simp) (by simp [go_sem])
  have sp : w.heap.size < w1.heap.size := by omega
  go_wp2_with fail
  go_quiet (first | (go_at_call 41; exact Calls.quiet_of_same (hWh _)))
  go_wp2_with fail
  go_returns
  exact ⟨rfl, below_drewN h01 _⟩

set_option maxRecDepth 20000 in
set_option maxHeartbeats 1000000 in
theorem refName_4xd (s h : Int) (w : World) (hi : M.inb s h = true) (hup : 0 < s) (hk : s % 7 = 4) (hm : h - M.wh s < -6) :
    Calls Tryd.prog 20 #[.agg #[.int .i64 s, .int .i64 h]] w fun e w' => e = .returned (.tuple #[.string ⟨#[]⟩, .int .i64 3]) ∧ Below w.heap.size w w' := by
  have hb := M.inb_yes hi
  have hwb := M.wh_bd s
  have hWh : ∀ W, Calls Tryd.prog 41 #[.int .i64 s] W fun e w' => e = .returned (.int .i64 (M.wh s)) ∧ w' = W := fun W => White_any s W (by omega) (by omega)
  generalize M.wh s = WH at *
  have f0 : (s % 7 == 0) = false := by simp; omega
  have f1 : (s % 7 == 3) = false := by simp; omega
  have f2 : (s % 7 == 4) = true := by simp; omega
  have f3 : (h - WH == 0) = false := by simp; omega
  have f4 : decide (0 < h - WH) = false := by simp; omega
  have f5 : h - WH < 0 := by omega
  have f6 : decide (-6 ≤ h - WH) = false := by simp; omega
  have hs1 : decide (s < 0) = false := by simp; omega
  have hs2 : (s == 0) = false := by simp; omega
  clear hm hk
  go_enter Tryd.func20, Tryd.ntmps20
  go_wp2_with fail
  refine (Within_any s h _).mono ?_
  rintro e w1 ⟨rfl, hb1⟩
  rw [hi]
  have z1 := hb1.size
  simp at z1
  have h01 : Below w.heap.size w w1 := Below.trans (by go_grown) (hb1.mono (by simp))
  have p0 : w1.cell? ⟨w.heap.size, 0, none⟩ = some (.int .i64 s) := keepC hb1 (by simp) (by simp [go_sem])
  have p1 : w1.cell? ⟨w.heap.size, 1, none⟩ = some (.int .i64 h) := keepC hb1 (by simp) (by simp [go_sem])
  have sp : w.heap.size < w1.heap.size := by omega
  go_wp2_with fail
  go_quiet (first | (go_at_call 41; exact Calls.quiet_of_same (hWh _)))
  go_wp2_with fail
  go_returns
  exact ⟨rfl, below_drewN h01 _⟩

set_option maxRecDepth 20000 in
set_option maxHeartbeats 1000000 in
theorem refName_nP (s h : Int) (w : World) (hi : M.inb s h = true) (hup : 0 < s) (hk : s % 7 ≠ 0 ∧ s % 7 ≠ 3 ∧ s % 7 ≠ 4) (hm : h - M.wh s = 0) :
    Calls Tryd.prog 20 #[.agg #[.int .i64 s, .int .i64 h]] w fun e w' => e = .returned (.tuple #[.string (⟨#[77]⟩ ++ ⟨(Lib.itoa (s + 1)).toArray⟩), .int .i64 0]) ∧ Below w.heap.size w w' := by
  have hb := M.inb_yes hi
  have hwb := M.wh_bd s
  have hWh : ∀ W, Calls Tryd.prog 41 #[.int .i64 s] W fun e w' => e = .returned (.int .i64 (M.wh s)) ∧ w' = W := fun W => White_any s W (by omega) (by omega)
  have hDg := fun W => Digits_any (s + 1) W (by omega) (by omega)
  have zD := itoa_size (s + 1) (by omega) (by omega)
  generalize (⟨(Lib.itoa (s + 1)).toArray⟩ : ByteArray) = SD at *
  have hE : (⟨#[77]⟩ : ByteArray).toList.isEmpty = false := full_of (by decide)
  have zz : ¬ 9223372036854775807 < 1 + SD.size := by omega
  generalize M.wh s = WH at *
  have f0 : (s % 7 == 0) = false := by simp; omega
  have f1 : (s % 7 == 3) = false := by simp; omega
  have f2 : (s % 7 == 4) = false := by simp; omega
  have f3 : (h - WH == 0) = true := by simp; omega
  have hs1 : decide (s < 0) = false := by simp; omega
  have hs2 : (s == 0) = false := by simp; omega
  clear hm hk
  go_enter Tryd.func20, Tryd.ntmps20
  go_wp2_with fail
  refine (Within_any s h _).mono ?_
  rintro e w1 ⟨rfl, hb1⟩
  rw [hi]
  have z1 := hb1.size
  simp at z1
  have h01 : Below w.heap.size w w1 := Below.trans (by go_grown) (hb1.mono (by simp))
  have p0 : w1.cell? ⟨w.heap.size, 0, none⟩ = some (.int .i64 s) := keepC hb1 (by simp) (by simp [go_sem])
  have p1 : w1.cell? ⟨w.heap.size, 1, none⟩ = some (.int .i64 h) := keepC hb1 (by simp) (by simp [go_sem])
  have sp : w.heap.size < w1.heap.size := by omega
  go_wp2_with fail
  go_quiet (first | (go_at_call 41; exact Calls.quiet_of_same (hWh _)))
  go_wp2_with fail
  refine (hDg _).mono ?_
  rintro e w3 ⟨rfl, hb3⟩
  go_wp2_with fail
  go_returns
  exact ⟨rfl, (below_drewN h01 _).trans (hb3.mono (by simpa using h01.size))⟩

set_option maxRecDepth 20000 in
set_option maxHeartbeats 1000000 in
theorem refName_nm (s h : Int) (w : World) (hi : M.inb s h = true) (hup : 0 < s) (hk : s % 7 ≠ 0 ∧ s % 7 ≠ 3 ∧ s % 7 ≠ 4) (hm : h - M.wh s = -1) :
    Calls Tryd.prog 20 #[.agg #[.int .i64 s, .int .i64 h]] w fun e w' => e = .returned (.tuple #[.string (⟨#[109]⟩ ++ ⟨(Lib.itoa (s + 1)).toArray⟩), .int .i64 0]) ∧ Below w.heap.size w w' := by
  have hb := M.inb_yes hi
  have hwb := M.wh_bd s
  have hWh : ∀ W, Calls Tryd.prog 41 #[.int .i64 s] W fun e w' => e = .returned (.int .i64 (M.wh s)) ∧ w' = W := fun W => White_any s W (by omega) (by omega)
  have hDg := fun W => Digits_any (s + 1) W (by omega) (by omega)
  have zD := itoa_size (s + 1) (by omega) (by omega)
  generalize (⟨(Lib.itoa (s + 1)).toArray⟩ : ByteArray) = SD at *
  have hE : (⟨#[109]⟩ : ByteArray).toList.isEmpty = false := full_of (by decide)
  have zz : ¬ 9223372036854775807 < 1 + SD.size := by omega
  generalize M.wh s = WH at *
  have f0 : (s % 7 == 0) = false := by simp; omega
  have f1 : (s % 7 == 3) = false := by simp; omega
  have f2 : (s % 7 == 4) = false := by simp; omega
  have f3 : (h - WH == 0) = false := by simp; omega
  have f4 : (h - WH == -1) = true := by simp; omega
  have hs1 : decide (s < 0) = false := by simp; omega
  have hs2 : (s == 0) = false := by simp; omega
  clear hm hk
  go_enter Tryd.func20, Tryd.ntmps20
  go_wp2_with fail
  refine (Within_any s h _).mono ?_
  rintro e w1 ⟨rfl, hb1⟩
  rw [hi]
  have z1 := hb1.size
  simp at z1
  have h01 : Below w.heap.size w w1 := Below.trans (by go_grown) (hb1.mono (by simp))
  have p0 : w1.cell? ⟨w.heap.size, 0, none⟩ = some (.int .i64 s) := keepC hb1 (by simp) (by simp [go_sem])
  have p1 : w1.cell? ⟨w.heap.size, 1, none⟩ = some (.int .i64 h) := keepC hb1 (by simp) (by simp [go_sem])
  have sp : w.heap.size < w1.heap.size := by omega
  go_wp2_with fail
  go_quiet (first | (go_at_call 41; exact Calls.quiet_of_same (hWh _)))
  go_wp2_with fail
  refine (hDg _).mono ?_
  rintro e w3 ⟨rfl, hb3⟩
  go_wp2_with fail
  go_returns
  exact ⟨rfl, (below_drewN h01 _).trans (hb3.mono (by simpa using h01.size))⟩

set_option maxRecDepth 20000 in
set_option maxHeartbeats 1000000 in
theorem refName_nA (s h : Int) (w : World) (hi : M.inb s h = true) (hup : 0 < s) (hk : s % 7 ≠ 0 ∧ s % 7 ≠ 3 ∧ s % 7 ≠ 4) (hm : 0 < h - M.wh s ∧ h - M.wh s ≤ 6) :
    Calls Tryd.prog 20 #[.agg #[.int .i64 s, .int .i64 h]] w fun e w' => e = .returned (.tuple #[.string (M.rep ⟨#[65]⟩ (h - M.wh s).toNat ++ ⟨(Lib.itoa (s + 1)).toArray⟩), .int .i64 0]) ∧ Below w.heap.size w w' := by
  have hb := M.inb_yes hi
  have hwb := M.wh_bd s
  have hWh : ∀ W, Calls Tryd.prog 41 #[.int .i64 s] W fun e w' => e = .returned (.int .i64 (M.wh s)) ∧ w' = W := fun W => White_any s W (by omega) (by omega)
  have hDg := fun W => Digits_any (s + 1) W (by omega) (by omega)
  have zD := itoa_size (s + 1) (by omega) (by omega)
  generalize (⟨(Lib.itoa (s + 1)).toArray⟩ : ByteArray) = SD at *
  have zT := M.rep_size ⟨#[65]⟩ rfl (h - M.wh s).toNat
  have hTm : ∀ W, Calls Tryd.prog 42 #[.string ⟨#[65]⟩, .int .i64 (h - M.wh s)] W fun e w' => e = .returned (.string (M.rep ⟨#[65]⟩ (h - M.wh s).toNat)) ∧ w' = W := fun W => times_any _ _ W rfl (by omega)
  generalize M.rep ⟨#[65]⟩ (h - M.wh s).toNat = ST at *
  have hE : ST.toList.isEmpty = false := full_of (by omega)
  have zz : ¬ 9223372036854775807 < ST.size + SD.size := by omega
  generalize M.wh s = WH at *
  have f0 : (s % 7 == 0) = false := by simp; omega
  have f1 : (s % 7 == 3) = false := by simp; omega
  have f2 : (s % 7 == 4) = false := by simp; omega
  have f3 : (h - WH == 0) = false := by simp; omega
  have f4 : (h - WH == -1) = false := by simp; omega
  have f5 : 0 < h - WH := by omega
  have f6 : h - WH ≤ 6 := by omega
  have hs1 : decide (s < 0) = false := by simp; omega
  have hs2 : (s == 0) = false := by simp; omega
  clear hm hk
  go_enter Tryd.func20, Tryd.ntmps20
  go_wp2_with fail
  refine (Within_any s h _).mono ?_
  rintro e w1 ⟨rfl, hb1⟩
  rw [hi]
  have z1 := hb1.size
  simp at z1
  have h01 : Below w.heap.size w w1 := Below.trans (by go_grown) (hb1.mono (by simp))
  have p0 : w1.cell? ⟨w.heap.size, 0, none⟩ = some (.int .i64 s) := keepC hb1 (by simp) (by simp [go_sem])
  have p1 : w1.cell? ⟨w.heap.size, 1, none⟩ = some (.int .i64 h) := keepC hb1 (by simp) (by simp [go_sem])
  have sp : w.heap.size < w1.heap.size := by omega
  go_wp2_with fail
  go_quiet (first | (go_at_call 41; exact Calls.quiet_of_same (hWh _)))
  go_wp2_with (go_at_call 42; refine (hTm _).mono ?_; rintro e wt ⟨rfl, hwt⟩; rw [hwt])
  refine (hDg _).mono ?_
  rintro e w3 ⟨rfl, hb3⟩
  go_wp2_with fail
  go_returns
  exact ⟨rfl, (below_drewN h01 _).trans (hb3.mono (by simpa using h01.size))⟩

set_option maxRecDepth 20000 in
set_option maxHeartbeats 1000000 in
theorem refName_nd (s h : Int) (w : World) (hi : M.inb s h = true) (hup : 0 < s) (hk : s % 7 ≠ 0 ∧ s % 7 ≠ 3 ∧ s % 7 ≠ 4) (hm : h - M.wh s < -1 ∧ -7 ≤ h - M.wh s) :
    Calls Tryd.prog 20 #[.agg #[.int .i64 s, .int .i64 h]] w fun e w' => e = .returned (.tuple #[.string (M.rep ⟨#[100]⟩ (-(h - M.wh s) - 1).toNat ++ ⟨(Lib.itoa (s + 1)).toArray⟩), .int .i64 0]) ∧ Below w.heap.size w w' := by
  have hb := M.inb_yes hi
  have hwb := M.wh_bd s
  have hWh : ∀ W, Calls Tryd.prog 41 #[.int .i64 s] W fun e w' => e = .returned (.int .i64 (M.wh s)) ∧ w' = W := fun W => White_any s W (by omega) (by omega)
  have hDg := fun W => Digits_any (s + 1) W (by omega) (by omega)
  have zD := itoa_size (s + 1) (by omega) (by omega)
  generalize (⟨(Lib.itoa (s + 1)).toArray⟩ : ByteArray) = SD at *
  have zT := M.rep_size ⟨#[100]⟩ rfl (-(h - M.wh s) - 1).toNat
  have hTm : ∀ W, Calls Tryd.prog 42 #[.string ⟨#[100]⟩, .int .i64 (-(h - M.wh s) - 1)] W fun e w' => e = .returned (.string (M.rep ⟨#[100]⟩ (-(h - M.wh s) - 1).toNat)) ∧ w' = W := fun W => times_any _ _ W rfl (by omega)
  generalize M.rep ⟨#[100]⟩ (-(h - M.wh s) - 1).toNat = ST at *
  have hE : ST.toList.isEmpty = false := full_of (by omega)
  have zz : ¬ 9223372036854775807 < ST.size + SD.size := by omega
  generalize M.wh s = WH at *
  have f0 : (s % 7 == 0) = false := by simp; omega
  have f1 : (s % 7 == 3) = false := by simp; omega
  have f2 : (s % 7 == 4) = false := by simp; omega
  have f3 : (h - WH == 0) = false := by simp; omega
  have f4 : (h - WH == -1) = false := by simp; omega
  have f5 : decide (0 < h - WH) = false := by simp; omega
  have f6 : h - WH < -1 := by omega
  have f7 : -7 ≤ h - WH := by omega
  have hs1 : decide (s < 0) = false := by simp; omega
  have hs2 : (s == 0) = false := by simp; omega
  clear hm hk
  go_enter Tryd.func20, Tryd.ntmps20
  go_wp2_with fail
  refine (Within_any s h _).mono ?_
  rintro e w1 ⟨rfl, hb1⟩
  rw [hi]
  have z1 := hb1.size
  simp at z1
  have h01 : Below w.heap.size w w1 := Below.trans (by go_grown) (hb1.mono (by simp))
  have p0 : w1.cell? ⟨w.heap.size, 0, none⟩ = some (.int .i64 s) := keepC hb1 (by simp) (by simp [go_sem])
  have p1 : w1.cell? ⟨w.heap.size, 1, none⟩ = some (.int .i64 h) := keepC hb1 (by simp) (by simp [go_sem])
  have sp : w.heap.size < w1.heap.size := by omega
  go_wp2_with fail
  go_quiet (first | (go_at_call 41; exact Calls.quiet_of_same (hWh _)))
  go_wp2_with (go_at_call 42; refine (hTm _).mono ?_; rintro e wt ⟨rfl, hwt⟩; rw [hwt])
  refine (hDg _).mono ?_
  rintro e w3 ⟨rfl, hb3⟩
  go_wp2_with fail
  go_returns
  exact ⟨rfl, (below_drewN h01 _).trans (hb3.mono (by simpa using h01.size))⟩

set_option maxRecDepth 20000 in
set_option maxHeartbeats 1000000 in
theorem refName_nxA (s h : Int) (w : World) (hi : M.inb s h = true) (hup : 0 < s) (hk : s % 7 ≠ 0 ∧ s % 7 ≠ 3 ∧ s % 7 ≠ 4) (hm : 6 < h - M.wh s) :
    Calls Tryd.prog 20 #[.agg #[.int .i64 s, .int .i64 h]] w fun e w' => e = .returned (.tuple #[.string ⟨#[]⟩, .int .i64 3]) ∧ Below w.heap.size w w' := by
  have hb := M.inb_yes hi
  have hwb := M.wh_bd s
  have hWh : ∀ W, Calls Tryd.prog 41 #[.int .i64 s] W fun e w' => e = .returned (.int .i64 (M.wh s)) ∧ w' = W := fun W => White_any s W (by omega) (by omega)
  generalize M.wh s = WH at *
  have f0 : (s % 7 == 0) = false := by simp; omega
  have f1 : (s % 7 == 3) = false := by simp; omega
  have f2 : (s % 7 == 4) = false := by simp; omega
  have f3 : (h - WH == 0) = false := by simp; omega
  have f4 : (h - WH == -1) = false := by simp; omega
  have f5 : 0 < h - WH := by omega
  have f6 : decide (h - WH ≤ 6) = false := by simp; omega
  have f7 : decide (h - WH < 0) = false := by simp; omega
  have f8 : decide (h - WH < -1) = false := by simp; omega
  have hs1 : decide (s < 0) = false := by simp; omega
  have hs2 : (s == 0) = false := by simp; omega
  clear hm hk
  go_enter Tryd.func20, Tryd.ntmps20
  go_wp2_with fail
  refine (Within_any s h _).mono ?_
  rintro e w1 ⟨rfl, hb1⟩
  rw [hi]
  have z1 := hb1.size
  simp at z1
  have h01 : Below w.heap.size w w1 := Below.trans (by go_grown) (hb1.mono (by simp))
  have p0 : w1.cell? ⟨w.heap.size, 0, none⟩ = some (.int .i64 s) := keepC hb1 (by simp) (by simp [go_sem])
  have p1 : w1.cell? ⟨w.heap.size, 1, none⟩ = some (.int .i64 h) := keepC hb1 (by simp) (by simp [go_sem])
  have sp : w.heap.size < w1.heap.size := by omega
  go_wp2_with fail
  go_quiet (first | (go_at_call 41; exact Calls.quiet_of_same (hWh _)))
  go_wp2_with fail
  go_returns
  exact ⟨rfl, below_drewN h01 _⟩

set_option maxRecDepth 20000 in
set_option maxHeartbeats 1000000 in
theorem refName_nxd (s h : Int) (w : World) (hi : M.inb s h = true) (hup : 0 < s) (hk : s % 7 ≠ 0 ∧ s % 7 ≠ 3 ∧ s % 7 ≠ 4) (hm : h - M.wh s < -7) :
    Calls Tryd.prog 20 #[.agg #[.int .i64 s, .int .i64 h]] w fun e w' => e = .returned (.tuple #[.string ⟨#[]⟩, .int .i64 3]) ∧ Below w.heap.size w w' := by
  have hb := M.inb_yes hi
  have hwb := M.wh_bd s
  have hWh : ∀ W, Calls Tryd.prog 41 #[.int .i64 s] W fun e w' => e = .returned (.int .i64 (M.wh s)) ∧ w' = W := fun W => White_any s W (by omega) (by omega)
  generalize M.wh s = WH at *
  have f0 : (s % 7 == 0) = false := by simp; omega
  have f1 : (s % 7 == 3) = false := by simp; omega
  have f2 : (s % 7 == 4) = false := by simp; omega
  have f3 : (h - WH == 0) = false := by simp; omega
  have f4 : (h - WH == -1) = false := by simp; omega
  have f5 : decide (0 < h - WH) = false := by simp; omega
  have f6 : h - WH < -1 := by omega
  have f7 : decide (-7 ≤ h - WH) = false := by simp; omega
  have hs1 : decide (s < 0) = false := by simp; omega
  have hs2 : (s == 0) = false := by simp; omega
  clear hm hk
  go_enter Tryd.func20, Tryd.ntmps20
  go_wp2_with fail
  refine (Within_any s h _).mono ?_
  rintro e w1 ⟨rfl, hb1⟩
  rw [hi]
  have z1 := hb1.size
  simp at z1
  have h01 : Below w.heap.size w w1 := Below.trans (by go_grown) (hb1.mono (by simp))
  have p0 : w1.cell? ⟨w.heap.size, 0, none⟩ = some (.int .i64 s) := keepC hb1 (by simp) (by simp [go_sem])
  have p1 : w1.cell? ⟨w.heap.size, 1, none⟩ = some (.int .i64 h) := keepC hb1 (by simp) (by simp [go_sem])
  have sp : w.heap.size < w1.heap.size := by omega
  go_wp2_with fail
  go_quiet (first | (go_at_call 41; exact Calls.quiet_of_same (hWh _)))
  go_wp2_with fail
  go_returns
  exact ⟨rfl, below_drewN h01 _⟩

end Go.Proofs.YtmccbokjigjpnaaDoor
