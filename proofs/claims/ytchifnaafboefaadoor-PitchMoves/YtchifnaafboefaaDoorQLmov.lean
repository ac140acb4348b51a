/- The statement PitchMoves: the walk of its text. -/
import Derived.Test.YtchifnaafboefaaDoorQW5
import Derived.Test.YtchifnaafboefaaDoorQR5
namespace Go.Proofs.YtchifnaafboefaaDoor
open Go.RowKit
attribute [local go_sem ↓] Go.wp_at_zero Go.wp_at_succ
set_option linter.unusedSimpArgs false

theorem set_else {W : World} {b o c k : Nat} {v u : Value} (hne : b ≠ c) (h : W.cell? ⟨b, o, none⟩ = some v) : (W.setCell ⟨c, k, none⟩ u).cell? ⟨b, o, none⟩ = some v := by
  simp [go_sem, h, hne]

set_option maxRecDepth 100000 in
set_option maxHeartbeats 4000000 in
theorem moves_walk (l a o l' a' o' s h s' h' : Int) (w : World) (ht : Tab w) (a1 : -9223372036854775808 ≤ a) (a2 : a ≤ 9223372036854775807) (a3 : -9223372036854775808 ≤ a') (a4 : a' ≤ 9223372036854775807) :
    Calls Tryd.prog 3 #[.agg #[.int .i64 l, .int .i64 a, .int .i64 o], .agg #[.int .i64 l', .int .i64 a', .int .i64 o'], .agg #[.int .i64 s, .int .i64 h], .agg #[.int .i64 s', .int .i64 h']] w fun e w' => e = .returned (.bool true) ∧ Below w.heap.size w w' := by
  go_enter Tryd.func3, Tryd.ntmps3
  go_wp2_with fail
  refine (Key_any l a o _ (ht.step (by go_grown))).mono ?_
  rintro e w1 ⟨rfl, hb1⟩
  have sz1 := hb1.size
  try simp at sz1
  have k1 : Below w.heap.size w w1 := Below.trans (by go_grown) (hb1.mono (by (first | (simp; done) | (simp; omega))))
  have h0w1 : Below w.heap.size w w1 := k1
  have Cp0 : w1.cell? ⟨w.heap.size, 0, none⟩ = some (.int .i64 l) := keepC hb1 (by (first | (simp; done) | (simp; omega))) (by simp [go_sem])
  have Cp1 : w1.cell? ⟨w.heap.size, 1, none⟩ = some (.int .i64 a) := keepC hb1 (by (first | (simp; done) | (simp; omega))) (by simp [go_sem])
  have Cp2 : w1.cell? ⟨w.heap.size, 2, none⟩ = some (.int .i64 o) := keepC hb1 (by (first | (simp; done) | (simp; omega))) (by simp [go_sem])
  have tCp : w.heap.size < w1.heap.size := by omega
  have Cq0 : w1.cell? ⟨w.heap.size + 1, 0, none⟩ = some (.int .i64 l') := keepC hb1 (by (first | (simp; done) | (simp; omega))) (by simp [go_sem])
  have Cq1 : w1.cell? ⟨w.heap.size + 1, 1, none⟩ = some (.int .i64 a') := keepC hb1 (by (first | (simp; done) | (simp; omega))) (by simp [go_sem])
  have Cq2 : w1.cell? ⟨w.heap.size + 1, 2, none⟩ = some (.int .i64 o') := keepC hb1 (by (first | (simp; done) | (simp; omega))) (by simp [go_sem])
  have tCq : w.heap.size + 1 < w1.heap.size := by omega
  have Cv0 : w1.cell? ⟨w.heap.size + 1 + 1, 0, none⟩ = some (.int .i64 s) := keepC hb1 (by (first | (simp; done) | (simp; omega))) (by simp [go_sem])
  have Cv1 : w1.cell? ⟨w.heap.size + 1 + 1, 1, none⟩ = some (.int .i64 h) := keepC hb1 (by (first | (simp; done) | (simp; omega))) (by simp [go_sem])
  have tCv : w.heap.size + 1 + 1 < w1.heap.size := by omega
  have Cu0 : w1.cell? ⟨w.heap.size + 1 + 1 + 1, 0, none⟩ = some (.int .i64 s') := keepC hb1 (by (first | (simp; done) | (simp; omega))) (by simp [go_sem])
  have Cu1 : w1.cell? ⟨w.heap.size + 1 + 1 + 1, 1, none⟩ = some (.int .i64 h') := keepC hb1 (by (first | (simp; done) | (simp; omega))) (by simp [go_sem])
  have tCu : w.heap.size + 1 + 1 + 1 < w1.heap.size := by omega
  go_wp2_with fail
  refine (refKey_any l a o _ a1 a2).mono ?_
  rintro e w2 ⟨rfl, hb2⟩
  have sz2 := hb2.size
  try simp at sz2
  have k2 : Below w1.heap.size w1 w2 := Below.trans (by go_grown) (hb2.mono (by (first | (simp; done) | (simp; omega))))
  have h0w2 : Below w.heap.size w w2 := h0w1.trans (k2.mono h0w1.size)
  replace Cp0 := keepC k2 (by omega) Cp0
  replace Cp1 := keepC k2 (by omega) Cp1
  replace Cp2 := keepC k2 (by omega) Cp2
  have tCp : w.heap.size < w2.heap.size := by omega
  replace Cq0 := keepC k2 (by omega) Cq0
  replace Cq1 := keepC k2 (by omega) Cq1
  replace Cq2 := keepC k2 (by omega) Cq2
  have tCq : w.heap.size + 1 < w2.heap.size := by omega
  replace Cv0 := keepC k2 (by omega) Cv0
  replace Cv1 := keepC k2 (by omega) Cv1
  have tCv : w.heap.size + 1 + 1 < w2.heap.size := by omega
  replace Cu0 := keepC k2 (by omega) Cu0
  replace Cu1 := keepC k2 (by omega) Cu1
  have tCu : w.heap.size + 1 + 1 + 1 < w2.heap.size := by omega
  go_wp2_with fail
  have mkS : ∀ w', Below w2.heap.size w2 w' → (Below w2.heap.size w2 w' ∧ w'.cell? ⟨w.heap.size, 0, none⟩ = some (.int .i64 l) ∧ w'.cell? ⟨w.heap.size, 1, none⟩ = some (.int .i64 a) ∧ w'.cell? ⟨w.heap.size, 2, none⟩ = some (.int .i64 o)) := fun w' k => ⟨k, keepC k (by omega) Cp0, keepC k (by omega) Cp1, keepC k (by omega) Cp2⟩
  go_region_held3 (fun w' => Below w2.heap.size w2 w' ∧ w'.cell? ⟨w.heap.size, 0, none⟩ = some (.int .i64 l) ∧ w'.cell? ⟨w.heap.size, 1, none⟩ = some (.int .i64 a) ∧ w'.cell? ⟨w.heap.size, 2, none⟩ = some (.int .i64 o))
    (first | exact mkS _ hbm | exact mkS _ hbn | (refine mkS _ ?_; (solve | go_grown)))
    (first
      | (go_at_call 7; refine (Right_any l a o _).mono ?_; rintro e wz ⟨rfl, hba⟩; have hbn : Below w2.heap.size w2 wz := Below.trans (by go_grown) (hba.mono (by simp)))
      | (go_at_call 8; refine (refRight_any l a o _ a1 a2).mono ?_; rintro e w3 ⟨rfl, hb3⟩; have hbm : Below w2.heap.size w2 w3 := hbn.trans (hb3.mono hbn.size)))
  have sz3 := hbm.size
  have h0w3 : Below w.heap.size w w3 := h0w2.trans (hbm.mono h0w2.size)
  replace Cp0 := keepC hbm (by omega) Cp0
  replace Cp1 := keepC hbm (by omega) Cp1
  replace Cp2 := keepC hbm (by omega) Cp2
  have tCp : w.heap.size < w3.heap.size := by omega
  replace Cq0 := keepC hbm (by omega) Cq0
  replace Cq1 := keepC hbm (by omega) Cq1
  replace Cq2 := keepC hbm (by omega) Cq2
  have tCq : w.heap.size + 1 < w3.heap.size := by omega
  replace Cv0 := keepC hbm (by omega) Cv0
  replace Cv1 := keepC hbm (by omega) Cv1
  have tCv : w.heap.size + 1 + 1 < w3.heap.size := by omega
  replace Cu0 := keepC hbm (by omega) Cu0
  replace Cu1 := keepC hbm (by omega) Cu1
  have tCu : w.heap.size + 1 + 1 + 1 < w3.heap.size := by omega
  clear mkS hbn hbm hb3 hba
  go_wp2_with fail
  refine (Between_any l a o l' a' o' _ ((ht.step h0w3).step (by go_grown))).mono ?_
  rintro e w4 ⟨rfl, hb4⟩
  have sz4 := hb4.size
  try simp at sz4
  have k4 : Below w3.heap.size w3 w4 := Below.trans (by go_grown) (hb4.mono (by (first | (simp; done) | (simp; omega))))
  have h0w4 : Below w.heap.size w w4 := h0w3.trans (k4.mono h0w3.size)
  replace Cp0 := keepC k4 (by omega) Cp0
  replace Cp1 := keepC k4 (by omega) Cp1
  replace Cp2 := keepC k4 (by omega) Cp2
  have tCp : w.heap.size < w4.heap.size := by omega
  replace Cq0 := keepC k4 (by omega) Cq0
  replace Cq1 := keepC k4 (by omega) Cq1
  replace Cq2 := keepC k4 (by omega) Cq2
  have tCq : w.heap.size + 1 < w4.heap.size := by omega
  replace Cv0 := keepC k4 (by omega) Cv0
  replace Cv1 := keepC k4 (by omega) Cv1
  have tCv : w.heap.size + 1 + 1 < w4.heap.size := by omega
  replace Cu0 := keepC k4 (by omega) Cu0
  replace Cu1 := keepC k4 (by omega) Cu1
  have tCu : w.heap.size + 1 + 1 + 1 < w4.heap.size := by omega
  go_wp2_with fail
  refine (refBetween_any l a o l' a' o' _ a1 a2 a3 a4).mono ?_
  rintro e w5 ⟨rfl, hb5⟩
  have sz5 := hb5.size
  try simp at sz5
  have k5 : Below w4.heap.size w4 w5 := Below.trans (by go_grown) (hb5.mono (by (first | (simp; done) | (simp; omega))))
  have h0w5 : Below w.heap.size w w5 := h0w4.trans (k5.mono h0w4.size)
  replace Cp0 := keepC k5 (by omega) Cp0
  replace Cp1 := keepC k5 (by omega) Cp1
  replace Cp2 := keepC k5 (by omega) Cp2
  have tCp : w.heap.size < w5.heap.size := by omega
  replace Cq0 := keepC k5 (by omega) Cq0
  replace Cq1 := keepC k5 (by omega) Cq1
  replace Cq2 := keepC k5 (by omega) Cq2
  have tCq : w.heap.size + 1 < w5.heap.size := by omega
  replace Cv0 := keepC k5 (by omega) Cv0
  replace Cv1 := keepC k5 (by omega) Cv1
  have tCv : w.heap.size + 1 + 1 < w5.heap.size := by omega
  replace Cu0 := keepC k5 (by omega) Cu0
  replace Cu1 := keepC k5 (by omega) Cu1
  have tCu : w.heap.size + 1 + 1 + 1 < w5.heap.size := by omega
  have Ca0 : w5.cell? ⟨w4.heap.size, 0, none⟩ = some (.int .i64 (M.bs l a o l' a' o')) := keepC hb5 (by (first | (simp; done) | (simp; omega))) (by simp [go_sem])
  have Ca1 : w5.cell? ⟨w4.heap.size, 1, none⟩ = some (.int .i64 (M.bh l a o l' a' o')) := keepC hb5 (by (first | (simp; done) | (simp; omega))) (by simp [go_sem])
  have fCa0 : w5.frozen? ⟨w4.heap.size, 0, none⟩ = false := keepF hb5 (by (first | (simp; done) | (simp; omega))) (by simp [go_sem])
  have fCa1 : w5.frozen? ⟨w4.heap.size, 1, none⟩ = false := keepF hb5 (by (first | (simp; done) | (simp; omega))) (by simp [go_sem])
  have tCa : w4.heap.size < w5.heap.size := by omega
  go_wp2_with fail
  refine (Move_any l a o s h _ ((ht.step h0w5).step (by go_grown))).mono ?_
  rintro e w6 ⟨rfl, hb6⟩
  have sz6 := hb6.size
  try simp at sz6
  have k6 : Below w5.heap.size w5 w6 := Below.trans (by go_grown) (hb6.mono (by (first | (simp; done) | (simp; omega))))
  have h0w6 : Below w.heap.size w w6 := h0w5.trans (k6.mono h0w5.size)
  replace Cp0 := keepC k6 (by omega) Cp0
  replace Cp1 := keepC k6 (by omega) Cp1
  replace Cp2 := keepC k6 (by omega) Cp2
  have tCp : w.heap.size < w6.heap.size := by omega
  replace Cq0 := keepC k6 (by omega) Cq0
  replace Cq1 := keepC k6 (by omega) Cq1
  replace Cq2 := keepC k6 (by omega) Cq2
  have tCq : w.heap.size + 1 < w6.heap.size := by omega
  replace Cv0 := keepC k6 (by omega) Cv0
  replace Cv1 := keepC k6 (by omega) Cv1
  have tCv : w.heap.size + 1 + 1 < w6.heap.size := by omega
  replace Cu0 := keepC k6 (by omega) Cu0
  replace Cu1 := keepC k6 (by omega) Cu1
  have tCu : w.heap.size + 1 + 1 + 1 < w6.heap.size := by omega
  replace Ca0 := keepC k6 (by omega) Ca0
  replace Ca1 := keepC k6 (by omega) Ca1
  replace fCa0 := keepF k6 (by omega) fCa0
  replace fCa1 := keepF k6 (by omega) fCa1
  have tCa : w4.heap.size < w6.heap.size := by omega
  have Cb0 : w6.cell? ⟨w5.heap.size, 0, none⟩ = some (.int .i64 (M.bs l a o l' a' o')) := keepC hb6 (by (first | (simp; done) | (simp; omega))) (by simp [go_sem])
  have Cb1 : w6.cell? ⟨w5.heap.size, 1, none⟩ = some (.int .i64 (M.bh l a o l' a' o')) := keepC hb6 (by (first | (simp; done) | (simp; omega))) (by simp [go_sem])
  have fCb0 : w6.frozen? ⟨w5.heap.size, 0, none⟩ = false := keepF hb6 (by (first | (simp; done) | (simp; omega))) (by simp [go_sem])
  have fCb1 : w6.frozen? ⟨w5.heap.size, 1, none⟩ = false := keepF hb6 (by (first | (simp; done) | (simp; omega))) (by simp [go_sem])
  have tCb : w5.heap.size < w6.heap.size := by omega
  go_wp2_with fail
  refine (refMove_any l a o s h _ a1 a2).mono ?_
  rintro e w7 ⟨rfl, hb7⟩
  have sz7 := hb7.size
  try simp at sz7
  have k7 : Below w6.heap.size w6 w7 := Below.trans (by go_grown) (hb7.mono (by (first | (simp; done) | (simp; omega))))
  have h0w7 : Below w.heap.size w w7 := h0w6.trans (k7.mono h0w6.size)
  replace Cp0 := keepC k7 (by omega) Cp0
  replace Cp1 := keepC k7 (by omega) Cp1
  replace Cp2 := keepC k7 (by omega) Cp2
  have tCp : w.heap.size < w7.heap.size := by omega
  replace Cq0 := keepC k7 (by omega) Cq0
  replace Cq1 := keepC k7 (by omega) Cq1
  replace Cq2 := keepC k7 (by omega) Cq2
  have tCq : w.heap.size + 1 < w7.heap.size := by omega
  replace Cv0 := keepC k7 (by omega) Cv0
  replace Cv1 := keepC k7 (by omega) Cv1
  have tCv : w.heap.size + 1 + 1 < w7.heap.size := by omega
  replace Cu0 := keepC k7 (by omega) Cu0
  replace Cu1 := keepC k7 (by omega) Cu1
  have tCu : w.heap.size + 1 + 1 + 1 < w7.heap.size := by omega
  replace Ca0 := keepC k7 (by omega) Ca0
  replace Ca1 := keepC k7 (by omega) Ca1
  replace fCa0 := keepF k7 (by omega) fCa0
  replace fCa1 := keepF k7 (by omega) fCa1
  have tCa : w4.heap.size < w7.heap.size := by omega
  replace Cb0 := keepC k7 (by omega) Cb0
  replace Cb1 := keepC k7 (by omega) Cb1
  replace fCb0 := keepF k7 (by omega) fCb0
  replace fCb1 := keepF k7 (by omega) fCb1
  have tCb : w5.heap.size < w7.heap.size := by omega
  have Cx0 : w7.cell? ⟨w6.heap.size, 0, none⟩ = some (.int .i64 (M.ml l a o s h)) := keepC hb7 (by (first | (simp; done) | (simp; omega))) (by simp [go_sem])
  have Cx1 : w7.cell? ⟨w6.heap.size, 1, none⟩ = some (.int .i64 (M.ma l a o s h)) := keepC hb7 (by (first | (simp; done) | (simp; omega))) (by simp [go_sem])
  have Cx2 : w7.cell? ⟨w6.heap.size, 2, none⟩ = some (.int .i64 (M.mo l a o s h)) := keepC hb7 (by (first | (simp; done) | (simp; omega))) (by simp [go_sem])
  have fCx0 : w7.frozen? ⟨w6.heap.size, 0, none⟩ = false := keepF hb7 (by (first | (simp; done) | (simp; omega))) (by simp [go_sem])
  have fCx1 : w7.frozen? ⟨w6.heap.size, 1, none⟩ = false := keepF hb7 (by (first | (simp; done) | (simp; omega))) (by simp [go_sem])
  have fCx2 : w7.frozen? ⟨w6.heap.size, 2, none⟩ = false := keepF hb7 (by (first | (simp; done) | (simp; omega))) (by simp [go_sem])
  have tCx : w6.heap.size < w7.heap.size := by omega
  go_wp2_with fail
  refine (Sum_any s h s' h' _).mono ?_
  rintro e w8 ⟨rfl, hb8⟩
  have sz8 := hb8.size
  try simp at sz8
  have k8 : Below w7.heap.size w7 w8 := Below.trans (by go_grown) (hb8.mono (by (first | (simp; done) | (simp; omega))))
  have h0w8 : Below w.heap.size w w8 := h0w7.trans (k8.mono h0w7.size)
  replace Cp0 := keepC k8 (by omega) Cp0
  replace Cp1 := keepC k8 (by omega) Cp1
  replace Cp2 := keepC k8 (by omega) Cp2
  have tCp : w.heap.size < w8.heap.size := by omega
  replace Cq0 := keepC k8 (by omega) Cq0
  replace Cq1 := keepC k8 (by omega) Cq1
  replace Cq2 := keepC k8 (by omega) Cq2
  have tCq : w.heap.size + 1 < w8.heap.size := by omega
  replace Cv0 := keepC k8 (by omega) Cv0
  replace Cv1 := keepC k8 (by omega) Cv1
  have tCv : w.heap.size + 1 + 1 < w8.heap.size := by omega
  replace Cu0 := keepC k8 (by omega) Cu0
  replace Cu1 := keepC k8 (by omega) Cu1
  have tCu : w.heap.size + 1 + 1 + 1 < w8.heap.size := by omega
  replace Ca0 := keepC k8 (by omega) Ca0
  replace Ca1 := keepC k8 (by omega) Ca1
  replace fCa0 := keepF k8 (by omega) fCa0
  replace fCa1 := keepF k8 (by omega) fCa1
  have tCa : w4.heap.size < w8.heap.size := by omega
  replace Cb0 := keepC k8 (by omega) Cb0
  replace Cb1 := keepC k8 (by omega) Cb1
  replace fCb0 := keepF k8 (by omega) fCb0
  replace fCb1 := keepF k8 (by omega) fCb1
  have tCb : w5.heap.size < w8.heap.size := by omega
  replace Cx0 := keepC k8 (by omega) Cx0
  replace Cx1 := keepC k8 (by omega) Cx1
  replace Cx2 := keepC k8 (by omega) Cx2
  replace fCx0 := keepF k8 (by omega) fCx0
  replace fCx1 := keepF k8 (by omega) fCx1
  replace fCx2 := keepF k8 (by omega) fCx2
  have tCx : w6.heap.size < w8.heap.size := by omega
  have Cy0 : w8.cell? ⟨w7.heap.size, 0, none⟩ = some (.int .i64 (M.ml l a o s h)) := keepC hb8 (by (first | (simp; done) | (simp; omega))) (by simp [go_sem])
  have Cy1 : w8.cell? ⟨w7.heap.size, 1, none⟩ = some (.int .i64 (M.ma l a o s h)) := keepC hb8 (by (first | (simp; done) | (simp; omega))) (by simp [go_sem])
  have Cy2 : w8.cell? ⟨w7.heap.size, 2, none⟩ = some (.int .i64 (M.mo l a o s h)) := keepC hb8 (by (first | (simp; done) | (simp; omega))) (by simp [go_sem])
  have fCy0 : w8.frozen? ⟨w7.heap.size, 0, none⟩ = false := keepF hb8 (by (first | (simp; done) | (simp; omega))) (by simp [go_sem])
  have fCy1 : w8.frozen? ⟨w7.heap.size, 1, none⟩ = false := keepF hb8 (by (first | (simp; done) | (simp; omega))) (by simp [go_sem])
  have fCy2 : w8.frozen? ⟨w7.heap.size, 2, none⟩ = false := keepF hb8 (by (first | (simp; done) | (simp; omega))) (by simp [go_sem])
  have tCy : w7.heap.size < w8.heap.size := by omega
  go_wp2_with fail
  have hset9 := ((h0w8.setCell (p := ⟨w4.heap.size, 0, none⟩) (show w.heap.size ≤ w4.heap.size by omega) (.int .i64 (M.ss s h s' h'))).setCell (p := ⟨w4.heap.size, 1, none⟩) (show w.heap.size ≤ w4.heap.size by omega) (.int .i64 (M.sh s h s' h')))
  refine (refSum_any s h s' h' _).mono ?_
  rintro e w9 ⟨rfl, hb9⟩
  have sz9 := hb9.size
  try simp at sz9
  try simp [World.setCell] at sz9
  have h0w9 : Below w.heap.size w w9 := hset9.trans (hb9.mono hset9.size)
  replace Cp0 := keepC hb9 (by simpa [World.setCell] using tCp) (set_else (by omega) (set_else (by omega) Cp0))
  replace Cp1 := keepC hb9 (by simpa [World.setCell] using tCp) (set_else (by omega) (set_else (by omega) Cp1))
  replace Cp2 := keepC hb9 (by simpa [World.setCell] using tCp) (set_else (by omega) (set_else (by omega) Cp2))
  replace Cq0 := keepC hb9 (by simpa [World.setCell] using tCq) (set_else (by omega) (set_else (by omega) Cq0))
  replace Cq1 := keepC hb9 (by simpa [World.setCell] using tCq) (set_else (by omega) (set_else (by omega) Cq1))
  replace Cq2 := keepC hb9 (by simpa [World.setCell] using tCq) (set_else (by omega) (set_else (by omega) Cq2))
  replace Cv0 := keepC hb9 (by simpa [World.setCell] using tCv) (set_else (by omega) (set_else (by omega) Cv0))
  replace Cv1 := keepC hb9 (by simpa [World.setCell] using tCv) (set_else (by omega) (set_else (by omega) Cv1))
  replace Cu0 := keepC hb9 (by simpa [World.setCell] using tCu) (set_else (by omega) (set_else (by omega) Cu0))
  replace Cu1 := keepC hb9 (by simpa [World.setCell] using tCu) (set_else (by omega) (set_else (by omega) Cu1))
  have NCa0 : w9.cell? ⟨w4.heap.size, 0, none⟩ = some (.int .i64 (M.ss s h s' h')) := keepC hb9 (by simpa [World.setCell] using tCa) (by simp [go_sem, Ca0])
  have NCa1 : w9.cell? ⟨w4.heap.size, 1, none⟩ = some (.int .i64 (M.sh s h s' h')) := keepC hb9 (by simpa [World.setCell] using tCa) (by simp [go_sem, Ca1])
  replace Ca0 := NCa0
  replace Ca1 := NCa1
  replace fCa0 : w9.frozen? ⟨w4.heap.size, 0, none⟩ = false := keepF hb9 (by simpa [World.setCell] using tCa) (by simp [go_sem, fCa0])
  replace fCa1 : w9.frozen? ⟨w4.heap.size, 1, none⟩ = false := keepF hb9 (by simpa [World.setCell] using tCa) (by simp [go_sem, fCa1])
  replace Cb0 := keepC hb9 (by simpa [World.setCell] using tCb) (set_else (by omega) (set_else (by omega) Cb0))
  replace Cb1 := keepC hb9 (by simpa [World.setCell] using tCb) (set_else (by omega) (set_else (by omega) Cb1))
  replace fCb0 : w9.frozen? ⟨w5.heap.size, 0, none⟩ = false := keepF hb9 (by simpa [World.setCell] using tCb) (by simp [go_sem, fCb0])
  replace fCb1 : w9.frozen? ⟨w5.heap.size, 1, none⟩ = false := keepF hb9 (by simpa [World.setCell] using tCb) (by simp [go_sem, fCb1])
  replace Cx0 := keepC hb9 (by simpa [World.setCell] using tCx) (set_else (by omega) (set_else (by omega) Cx0))
  replace Cx1 := keepC hb9 (by simpa [World.setCell] using tCx) (set_else (by omega) (set_else (by omega) Cx1))
  replace Cx2 := keepC hb9 (by simpa [World.setCell] using tCx) (set_else (by omega) (set_else (by omega) Cx2))
  replace fCx0 : w9.frozen? ⟨w6.heap.size, 0, none⟩ = false := keepF hb9 (by simpa [World.setCell] using tCx) (by simp [go_sem, fCx0])
  replace fCx1 : w9.frozen? ⟨w6.heap.size, 1, none⟩ = false := keepF hb9 (by simpa [World.setCell] using tCx) (by simp [go_sem, fCx1])
  replace fCx2 : w9.frozen? ⟨w6.heap.size, 2, none⟩ = false := keepF hb9 (by simpa [World.setCell] using tCx) (by simp [go_sem, fCx2])
  replace Cy0 := keepC hb9 (by simpa [World.setCell] using tCy) (set_else (by omega) (set_else (by omega) Cy0))
  replace Cy1 := keepC hb9 (by simpa [World.setCell] using tCy) (set_else (by omega) (set_else (by omega) Cy1))
  replace Cy2 := keepC hb9 (by simpa [World.setCell] using tCy) (set_else (by omega) (set_else (by omega) Cy2))
  replace fCy0 : w9.frozen? ⟨w7.heap.size, 0, none⟩ = false := keepF hb9 (by simpa [World.setCell] using tCy) (by simp [go_sem, fCy0])
  replace fCy1 : w9.frozen? ⟨w7.heap.size, 1, none⟩ = false := keepF hb9 (by simpa [World.setCell] using tCy) (by simp [go_sem, fCy1])
  replace fCy2 : w9.frozen? ⟨w7.heap.size, 2, none⟩ = false := keepF hb9 (by simpa [World.setCell] using tCy) (by simp [go_sem, fCy2])
  replace tCp : w.heap.size < w9.heap.size := Nat.lt_of_lt_of_le tCp (by omega)
  replace tCq : w.heap.size + 1 < w9.heap.size := Nat.lt_of_lt_of_le tCq (by omega)
  replace tCv : w.heap.size + 1 + 1 < w9.heap.size := Nat.lt_of_lt_of_le tCv (by omega)
  replace tCu : w.heap.size + 1 + 1 + 1 < w9.heap.size := Nat.lt_of_lt_of_le tCu (by omega)
  replace tCa : w4.heap.size < w9.heap.size := Nat.lt_of_lt_of_le tCa (by omega)
  replace tCb : w5.heap.size < w9.heap.size := Nat.lt_of_lt_of_le tCb (by omega)
  replace tCx : w6.heap.size < w9.heap.size := Nat.lt_of_lt_of_le tCx (by omega)
  replace tCy : w7.heap.size < w9.heap.size := Nat.lt_of_lt_of_le tCy (by omega)
  go_wp2_with fail
  have hset10 := ((h0w9.setCell (p := ⟨w5.heap.size, 0, none⟩) (show w.heap.size ≤ w5.heap.size by omega) (.int .i64 (M.ss s h s' h'))).setCell (p := ⟨w5.heap.size, 1, none⟩) (show w.heap.size ≤ w5.heap.size by omega) (.int .i64 (M.sh s h s' h')))
  refine (Mirror_any l a o l' a' o' _ (ht.step hset10)).mono ?_
  rintro e w10 ⟨rfl, hb10⟩
  have sz10 := hb10.size
  try simp at sz10
  try simp [World.setCell] at sz10
  have h0w10 : Below w.heap.size w w10 := hset10.trans (hb10.mono hset10.size)
  replace Cp0 := keepC hb10 (by simpa [World.setCell] using tCp) (set_else (by omega) (set_else (by omega) Cp0))
  replace Cp1 := keepC hb10 (by simpa [World.setCell] using tCp) (set_else (by omega) (set_else (by omega) Cp1))
  replace Cp2 := keepC hb10 (by simpa [World.setCell] using tCp) (set_else (by omega) (set_else (by omega) Cp2))
  replace Cq0 := keepC hb10 (by simpa [World.setCell] using tCq) (set_else (by omega) (set_else (by omega) Cq0))
  replace Cq1 := keepC hb10 (by simpa [World.setCell] using tCq) (set_else (by omega) (set_else (by omega) Cq1))
  replace Cq2 := keepC hb10 (by simpa [World.setCell] using tCq) (set_else (by omega) (set_else (by omega) Cq2))
  replace Cv0 := keepC hb10 (by simpa [World.setCell] using tCv) (set_else (by omega) (set_else (by omega) Cv0))
  replace Cv1 := keepC hb10 (by simpa [World.setCell] using tCv) (set_else (by omega) (set_else (by omega) Cv1))
  replace Cu0 := keepC hb10 (by simpa [World.setCell] using tCu) (set_else (by omega) (set_else (by omega) Cu0))
  replace Cu1 := keepC hb10 (by simpa [World.setCell] using tCu) (set_else (by omega) (set_else (by omega) Cu1))
  replace Ca0 := keepC hb10 (by simpa [World.setCell] using tCa) (set_else (by omega) (set_else (by omega) Ca0))
  replace Ca1 := keepC hb10 (by simpa [World.setCell] using tCa) (set_else (by omega) (set_else (by omega) Ca1))
  replace fCa0 : w10.frozen? ⟨w4.heap.size, 0, none⟩ = false := keepF hb10 (by simpa [World.setCell] using tCa) (by simp [go_sem, fCa0])
  replace fCa1 : w10.frozen? ⟨w4.heap.size, 1, none⟩ = false := keepF hb10 (by simpa [World.setCell] using tCa) (by simp [go_sem, fCa1])
  have NCb0 : w10.cell? ⟨w5.heap.size, 0, none⟩ = some (.int .i64 (M.ss s h s' h')) := keepC hb10 (by simpa [World.setCell] using tCb) (by simp [go_sem, Cb0])
  have NCb1 : w10.cell? ⟨w5.heap.size, 1, none⟩ = some (.int .i64 (M.sh s h s' h')) := keepC hb10 (by simpa [World.setCell] using tCb) (by simp [go_sem, Cb1])
  replace Cb0 := NCb0
  replace Cb1 := NCb1
  replace fCb0 : w10.frozen? ⟨w5.heap.size, 0, none⟩ = false := keepF hb10 (by simpa [World.setCell] using tCb) (by simp [go_sem, fCb0])
  replace fCb1 : w10.frozen? ⟨w5.heap.size, 1, none⟩ = false := keepF hb10 (by simpa [World.setCell] using tCb) (by simp [go_sem, fCb1])
  replace Cx0 := keepC hb10 (by simpa [World.setCell] using tCx) (set_else (by omega) (set_else (by omega) Cx0))
  replace Cx1 := keepC hb10 (by simpa [World.setCell] using tCx) (set_else (by omega) (set_else (by omega) Cx1))
  replace Cx2 := keepC hb10 (by simpa [World.setCell] using tCx) (set_else (by omega) (set_else (by omega) Cx2))
  replace fCx0 : w10.frozen? ⟨w6.heap.size, 0, none⟩ = false := keepF hb10 (by simpa [World.setCell] using tCx) (by simp [go_sem, fCx0])
  replace fCx1 : w10.frozen? ⟨w6.heap.size, 1, none⟩ = false := keepF hb10 (by simpa [World.setCell] using tCx) (by simp [go_sem, fCx1])
  replace fCx2 : w10.frozen? ⟨w6.heap.size, 2, none⟩ = false := keepF hb10 (by simpa [World.setCell] using tCx) (by simp [go_sem, fCx2])
  replace Cy0 := keepC hb10 (by simpa [World.setCell] using tCy) (set_else (by omega) (set_else (by omega) Cy0))
  replace Cy1 := keepC hb10 (by simpa [World.setCell] using tCy) (set_else (by omega) (set_else (by omega) Cy1))
  replace Cy2 := keepC hb10 (by simpa [World.setCell] using tCy) (set_else (by omega) (set_else (by omega) Cy2))
  replace fCy0 : w10.frozen? ⟨w7.heap.size, 0, none⟩ = false := keepF hb10 (by simpa [World.setCell] using tCy) (by simp [go_sem, fCy0])
  replace fCy1 : w10.frozen? ⟨w7.heap.size, 1, none⟩ = false := keepF hb10 (by simpa [World.setCell] using tCy) (by simp [go_sem, fCy1])
  replace fCy2 : w10.frozen? ⟨w7.heap.size, 2, none⟩ = false := keepF hb10 (by simpa [World.setCell] using tCy) (by simp [go_sem, fCy2])
  replace tCp : w.heap.size < w10.heap.size := Nat.lt_of_lt_of_le tCp (by omega)
  replace tCq : w.heap.size + 1 < w10.heap.size := Nat.lt_of_lt_of_le tCq (by omega)
  replace tCv : w.heap.size + 1 + 1 < w10.heap.size := Nat.lt_of_lt_of_le tCv (by omega)
  replace tCu : w.heap.size + 1 + 1 + 1 < w10.heap.size := Nat.lt_of_lt_of_le tCu (by omega)
  replace tCa : w4.heap.size < w10.heap.size := Nat.lt_of_lt_of_le tCa (by omega)
  replace tCb : w5.heap.size < w10.heap.size := Nat.lt_of_lt_of_le tCb (by omega)
  replace tCx : w6.heap.size < w10.heap.size := Nat.lt_of_lt_of_le tCx (by omega)
  replace tCy : w7.heap.size < w10.heap.size := Nat.lt_of_lt_of_le tCy (by omega)
  go_wp2_with fail
  have hset11 := (((h0w10.setCell (p := ⟨w6.heap.size, 0, none⟩) (show w.heap.size ≤ w6.heap.size by omega) (.int .i64 (M.rl l a o l' a' o'))).setCell (p := ⟨w6.heap.size, 1, none⟩) (show w.heap.size ≤ w6.heap.size by omega) (.int .i64 (M.ra l a o l' a' o'))).setCell (p := ⟨w6.heap.size, 2, none⟩) (show w.heap.size ≤ w6.heap.size by omega) (.int .i64 (M.ro l a o l' a' o')))
  refine (refMirror_any l a o l' a' o' _ a1 a2 a3 a4).mono ?_
  rintro e w11 ⟨rfl, hb11⟩
  have sz11 := hb11.size
  try simp at sz11
  try simp [World.setCell] at sz11
  have h0w11 : Below w.heap.size w w11 := hset11.trans (hb11.mono hset11.size)
  replace Cp0 := keepC hb11 (by simpa [World.setCell] using tCp) (set_else (by omega) (set_else (by omega) (set_else (by omega) Cp0)))
  replace Cp1 := keepC hb11 (by simpa [World.setCell] using tCp) (set_else (by omega) (set_else (by omega) (set_else (by omega) Cp1)))
  replace Cp2 := keepC hb11 (by simpa [World.setCell] using tCp) (set_else (by omega) (set_else (by omega) (set_else (by omega) Cp2)))
  replace Cq0 := keepC hb11 (by simpa [World.setCell] using tCq) (set_else (by omega) (set_else (by omega) (set_else (by omega) Cq0)))
  replace Cq1 := keepC hb11 (by simpa [World.setCell] using tCq) (set_else (by omega) (set_else (by omega) (set_else (by omega) Cq1)))
  replace Cq2 := keepC hb11 (by simpa [World.setCell] using tCq) (set_else (by omega) (set_else (by omega) (set_else (by omega) Cq2)))
  replace Cv0 := keepC hb11 (by simpa [World.setCell] using tCv) (set_else (by omega) (set_else (by omega) (set_else (by omega) Cv0)))
  replace Cv1 := keepC hb11 (by simpa [World.setCell] using tCv) (set_else (by omega) (set_else (by omega) (set_else (by omega) Cv1)))
  replace Cu0 := keepC hb11 (by simpa [World.setCell] using tCu) (set_else (by omega) (set_else (by omega) (set_else (by omega) Cu0)))
  replace Cu1 := keepC hb11 (by simpa [World.setCell] using tCu) (set_else (by omega) (set_else (by omega) (set_else (by omega) Cu1)))
  replace Ca0 := keepC hb11 (by simpa [World.setCell] using tCa) (set_else (by omega) (set_else (by omega) (set_else (by omega) Ca0)))
  replace Ca1 := keepC hb11 (by simpa [World.setCell] using tCa) (set_else (by omega) (set_else (by omega) (set_else (by omega) Ca1)))
  replace fCa0 : w11.frozen? ⟨w4.heap.size, 0, none⟩ = false := keepF hb11 (by simpa [World.setCell] using tCa) (by simp [go_sem, fCa0])
  replace fCa1 : w11.frozen? ⟨w4.heap.size, 1, none⟩ = false := keepF hb11 (by simpa [World.setCell] using tCa) (by simp [go_sem, fCa1])
  replace Cb0 := keepC hb11 (by simpa [World.setCell] using tCb) (set_else (by omega) (set_else (by omega) (set_else (by omega) Cb0)))
  replace Cb1 := keepC hb11 (by simpa [World.setCell] using tCb) (set_else (by omega) (set_else (by omega) (set_else (by omega) Cb1)))
  replace fCb0 : w11.frozen? ⟨w5.heap.size, 0, none⟩ = false := keepF hb11 (by simpa [World.setCell] using tCb) (by simp [go_sem, fCb0])
  replace fCb1 : w11.frozen? ⟨w5.heap.size, 1, none⟩ = false := keepF hb11 (by simpa [World.setCell] using tCb) (by simp [go_sem, fCb1])
  have NCx0 : w11.cell? ⟨w6.heap.size, 0, none⟩ = some (.int .i64 (M.rl l a o l' a' o')) := keepC hb11 (by simpa [World.setCell] using tCx) (by simp [go_sem, Cx0])
  have NCx1 : w11.cell? ⟨w6.heap.size, 1, none⟩ = some (.int .i64 (M.ra l a o l' a' o')) := keepC hb11 (by simpa [World.setCell] using tCx) (by simp [go_sem, Cx1])
  have NCx2 : w11.cell? ⟨w6.heap.size, 2, none⟩ = some (.int .i64 (M.ro l a o l' a' o')) := keepC hb11 (by simpa [World.setCell] using tCx) (by simp [go_sem, Cx2])
  replace Cx0 := NCx0
  replace Cx1 := NCx1
  replace Cx2 := NCx2
  replace fCx0 : w11.frozen? ⟨w6.heap.size, 0, none⟩ = false := keepF hb11 (by simpa [World.setCell] using tCx) (by simp [go_sem, fCx0])
  replace fCx1 : w11.frozen? ⟨w6.heap.size, 1, none⟩ = false := keepF hb11 (by simpa [World.setCell] using tCx) (by simp [go_sem, fCx1])
  replace fCx2 : w11.frozen? ⟨w6.heap.size, 2, none⟩ = false := keepF hb11 (by simpa [World.setCell] using tCx) (by simp [go_sem, fCx2])
  replace Cy0 := keepC hb11 (by simpa [World.setCell] using tCy) (set_else (by omega) (set_else (by omega) (set_else (by omega) Cy0)))
  replace Cy1 := keepC hb11 (by simpa [World.setCell] using tCy) (set_else (by omega) (set_else (by omega) (set_else (by omega) Cy1)))
  replace Cy2 := keepC hb11 (by simpa [World.setCell] using tCy) (set_else (by omega) (set_else (by omega) (set_else (by omega) Cy2)))
  replace fCy0 : w11.frozen? ⟨w7.heap.size, 0, none⟩ = false := keepF hb11 (by simpa [World.setCell] using tCy) (by simp [go_sem, fCy0])
  replace fCy1 : w11.frozen? ⟨w7.heap.size, 1, none⟩ = false := keepF hb11 (by simpa [World.setCell] using tCy) (by simp [go_sem, fCy1])
  replace fCy2 : w11.frozen? ⟨w7.heap.size, 2, none⟩ = false := keepF hb11 (by simpa [World.setCell] using tCy) (by simp [go_sem, fCy2])
  replace tCp : w.heap.size < w11.heap.size := Nat.lt_of_lt_of_le tCp (by omega)
  replace tCq : w.heap.size + 1 < w11.heap.size := Nat.lt_of_lt_of_le tCq (by omega)
  replace tCv : w.heap.size + 1 + 1 < w11.heap.size := Nat.lt_of_lt_of_le tCv (by omega)
  replace tCu : w.heap.size + 1 + 1 + 1 < w11.heap.size := Nat.lt_of_lt_of_le tCu (by omega)
  replace tCa : w4.heap.size < w11.heap.size := Nat.lt_of_lt_of_le tCa (by omega)
  replace tCb : w5.heap.size < w11.heap.size := Nat.lt_of_lt_of_le tCb (by omega)
  replace tCx : w6.heap.size < w11.heap.size := Nat.lt_of_lt_of_le tCx (by omega)
  replace tCy : w7.heap.size < w11.heap.size := Nat.lt_of_lt_of_le tCy (by omega)
  go_wp2_with fail
  go_ret
  exact ⟨rfl, (((h0w11.setCell (p := ⟨w7.heap.size, 0, none⟩) (show w.heap.size ≤ w7.heap.size by omega) (.int .i64 (M.rl l a o l' a' o'))).setCell (p := ⟨w7.heap.size, 1, none⟩) (show w.heap.size ≤ w7.heap.size by omega) (.int .i64 (M.ra l a o l' a' o'))).setCell (p := ⟨w7.heap.size, 2, none⟩) (show w.heap.size ≤ w7.heap.size by omega) (.int .i64 (M.ro l a o l' a' o')))⟩

end Go.Proofs.YtchifnaafboefaaDoor
