/- The statement TuneSwings: the walk of its text. -/
import Derived.Test.YtdjdnjaijpafgacDoorT7
import Derived.Test.YtdjdnjaijpafgacDoorT4
namespace Go.Proofs.YtdjdnjaijpafgacDoor
open Go.RowKit
attribute [local go_sem ↓] Go.wp_at_zero Go.wp_at_succ
set_option linter.unusedVariables false
set_option linter.unusedSimpArgs false

set_option maxHeartbeats 4000000 in
theorem swings_walk (s h l a o : Int) (x : Nat) (w : World) (ht : Tab w) (hT : Twl w) (a1 : -9223372036854775808 ≤ a) (a2 : a ≤ 9223372036854775807) (hx : x < 18446744073709551616) :
    Calls Tryd.prog 4 #[.agg #[.int .i64 s, .int .i64 h], .agg #[.int .i64 l, .int .i64 a, .int .i64 o], .float .f64 x] w fun e w' => e = .returned (.bool true) ∧ Below w.heap.size w w' := by
  generalize hn : M.hn l a o x = HN
  generalize he : M.he l a o x = HE
  generalize tn : M.tn l a o x = TN
  generalize te : M.te l a o x = TE
  cases hi : M.inb s h
  case false =>
    go_enter Tryd.func4, Tryd.ntmps4
    go_wp2_with fail
    refine (F.Ratio_no s h _ hi).mono ?_
    rintro e w1 ⟨rfl, hb1⟩
    have sz1 := hb1.size
    try simp at sz1
    have k1 : Below w.heap.size w w1 := Below.trans (by go_grown) (hb1.mono (by (first | (simp; done) | (simp; omega))))
    have h0w1 : Below w.heap.size w w1 := k1
    have Ci0 : w1.cell? ⟨w.heap.size, 0, none⟩ = some (.int .i64 s) := keepC hb1 (by (first | (simp; done) | (simp; omega))) (by simp [go_sem])
    have Ci1 : w1.cell? ⟨w.heap.size, 1, none⟩ = some (.int .i64 h) := keepC hb1 (by (first | (simp; done) | (simp; omega))) (by simp [go_sem])
    have tCi : w.heap.size < w1.heap.size := by omega
    have Cp0 : w1.cell? ⟨w.heap.size + 1, 0, none⟩ = some (.int .i64 l) := keepC hb1 (by (first | (simp; done) | (simp; omega))) (by simp [go_sem])
    have Cp1 : w1.cell? ⟨w.heap.size + 1, 1, none⟩ = some (.int .i64 a) := keepC hb1 (by (first | (simp; done) | (simp; omega))) (by simp [go_sem])
    have Cp2 : w1.cell? ⟨w.heap.size + 1, 2, none⟩ = some (.int .i64 o) := keepC hb1 (by (first | (simp; done) | (simp; omega))) (by simp [go_sem])
    have tCp : w.heap.size + 1 < w1.heap.size := by omega
    go_wp2_with fail
    refine (F.refRatio_no s h _ hi).mono ?_
    rintro e w2 ⟨rfl, hb2⟩
    have sz2 := hb2.size
    try simp at sz2
    have k2 : Below w1.heap.size w1 w2 := Below.trans (by go_grown) (hb2.mono (by (first | (simp; done) | (simp; omega))))
    have h0w2 : Below w.heap.size w w2 := h0w1.trans (k2.mono h0w1.size)
    replace Ci0 := keepC k2 (by omega) Ci0
    replace Ci1 := keepC k2 (by omega) Ci1
    have tCi : w.heap.size < w2.heap.size := by omega
    replace Cp0 := keepC k2 (by omega) Cp0
    replace Cp1 := keepC k2 (by omega) Cp1
    replace Cp2 := keepC k2 (by omega) Cp2
    have tCp : w.heap.size + 1 < w2.heap.size := by omega
    have Cf0 : w2.cell? ⟨w1.heap.size, 0, none⟩ = some (.int .i64 0) := keepC hb2 (by (first | (simp; done) | (simp; omega))) (by simp [go_sem])
    have Cf1 : w2.cell? ⟨w1.heap.size, 1, none⟩ = some (.int .i64 0) := keepC hb2 (by (first | (simp; done) | (simp; omega))) (by simp [go_sem])
    have tCf : w1.heap.size < w2.heap.size := by omega
    go_wp2_with fail
    refine (Hertz_any l a o x _ ((ht.step h0w2).step (by go_grown)) ((hT.step h0w2).step (by go_grown)) hx).mono ?_
    rintro e w3 ⟨rfl, hb3⟩
    have sz3 := hb3.size
    try simp at sz3
    have k3 : Below w2.heap.size w2 w3 := Below.trans (by go_grown) (hb3.mono (by (first | (simp; done) | (simp; omega))))
    have h0w3 : Below w.heap.size w w3 := h0w2.trans (k3.mono h0w2.size)
    replace Ci0 := keepC k3 (by omega) Ci0
    replace Ci1 := keepC k3 (by omega) Ci1
    have tCi : w.heap.size < w3.heap.size := by omega
    replace Cp0 := keepC k3 (by omega) Cp0
    replace Cp1 := keepC k3 (by omega) Cp1
    replace Cp2 := keepC k3 (by omega) Cp2
    have tCp : w.heap.size + 1 < w3.heap.size := by omega
    replace Cf0 := keepC k3 (by omega) Cf0
    replace Cf1 := keepC k3 (by omega) Cf1
    have tCf : w1.heap.size < w3.heap.size := by omega
    have Cg0 : w3.cell? ⟨w2.heap.size, 0, none⟩ = some (.int .i64 0) := keepC hb3 (by (first | (simp; done) | (simp; omega))) (by simp [go_sem])
    have Cg1 : w3.cell? ⟨w2.heap.size, 1, none⟩ = some (.int .i64 0) := keepC hb3 (by (first | (simp; done) | (simp; omega))) (by simp [go_sem])
    have tCg : w2.heap.size < w3.heap.size := by omega
    rw [hn, he]
    go_wp2_with fail
    refine (refHertz_any l a o x _ a1 a2 hx).mono ?_
    rintro e w4 ⟨rfl, hb4⟩
    have sz4 := hb4.size
    try simp at sz4
    have k4 : Below w3.heap.size w3 w4 := Below.trans (by go_grown) (hb4.mono (by (first | (simp; done) | (simp; omega))))
    have h0w4 : Below w.heap.size w w4 := h0w3.trans (k4.mono h0w3.size)
    replace Ci0 := keepC k4 (by omega) Ci0
    replace Ci1 := keepC k4 (by omega) Ci1
    have tCi : w.heap.size < w4.heap.size := by omega
    replace Cp0 := keepC k4 (by omega) Cp0
    replace Cp1 := keepC k4 (by omega) Cp1
    replace Cp2 := keepC k4 (by omega) Cp2
    have tCp : w.heap.size + 1 < w4.heap.size := by omega
    replace Cf0 := keepC k4 (by omega) Cf0
    replace Cf1 := keepC k4 (by omega) Cf1
    have tCf : w1.heap.size < w4.heap.size := by omega
    replace Cg0 := keepC k4 (by omega) Cg0
    replace Cg1 := keepC k4 (by omega) Cg1
    have tCg : w2.heap.size < w4.heap.size := by omega
    rw [hn, he]
    go_wp2_with fail
    refine (Same_same _ _).mono ?_
    rintro e w5 ⟨rfl, hb5⟩
    have sz5 := hb5.size
    try simp at sz5
    have k5 : Below w4.heap.size w4 w5 := Below.trans (by go_grown) (hb5.mono (by (first | (simp; done) | (simp; omega))))
    have h0w5 : Below w.heap.size w w5 := h0w4.trans (k5.mono h0w4.size)
    replace Ci0 := keepC k5 (by omega) Ci0
    replace Ci1 := keepC k5 (by omega) Ci1
    have tCi : w.heap.size < w5.heap.size := by omega
    replace Cp0 := keepC k5 (by omega) Cp0
    replace Cp1 := keepC k5 (by omega) Cp1
    replace Cp2 := keepC k5 (by omega) Cp2
    have tCp : w.heap.size + 1 < w5.heap.size := by omega
    replace Cf0 := keepC k5 (by omega) Cf0
    replace Cf1 := keepC k5 (by omega) Cf1
    have tCf : w1.heap.size < w5.heap.size := by omega
    replace Cg0 := keepC k5 (by omega) Cg0
    replace Cg1 := keepC k5 (by omega) Cg1
    have tCg : w2.heap.size < w5.heap.size := by omega
    go_wp2_with fail
    refine (Tempered_any l a o x _ ((ht.step h0w5).step (by go_grown)) hx).mono ?_
    rintro e w6 ⟨rfl, hb6⟩
    have sz6 := hb6.size
    try simp at sz6
    have k6 : Below w5.heap.size w5 w6 := Below.trans (by go_grown) (hb6.mono (by (first | (simp; done) | (simp; omega))))
    have h0w6 : Below w.heap.size w w6 := h0w5.trans (k6.mono h0w5.size)
    replace Ci0 := keepC k6 (by omega) Ci0
    replace Ci1 := keepC k6 (by omega) Ci1
    have tCi : w.heap.size < w6.heap.size := by omega
    replace Cp0 := keepC k6 (by omega) Cp0
    replace Cp1 := keepC k6 (by omega) Cp1
    replace Cp2 := keepC k6 (by omega) Cp2
    have tCp : w.heap.size + 1 < w6.heap.size := by omega
    replace Cf0 := keepC k6 (by omega) Cf0
    replace Cf1 := keepC k6 (by omega) Cf1
    have tCf : w1.heap.size < w6.heap.size := by omega
    replace Cg0 := keepC k6 (by omega) Cg0
    replace Cg1 := keepC k6 (by omega) Cg1
    have tCg : w2.heap.size < w6.heap.size := by omega
    rw [tn, te]
    go_wp2_with fail
    refine (refTempered_any l a o x _ a1 a2 hx).mono ?_
    rintro e w7 ⟨rfl, hb7⟩
    have sz7 := hb7.size
    try simp at sz7
    have k7 : Below w6.heap.size w6 w7 := Below.trans (by go_grown) (hb7.mono (by (first | (simp; done) | (simp; omega))))
    have h0w7 : Below w.heap.size w w7 := h0w6.trans (k7.mono h0w6.size)
    replace Ci0 := keepC k7 (by omega) Ci0
    replace Ci1 := keepC k7 (by omega) Ci1
    have tCi : w.heap.size < w7.heap.size := by omega
    replace Cp0 := keepC k7 (by omega) Cp0
    replace Cp1 := keepC k7 (by omega) Cp1
    replace Cp2 := keepC k7 (by omega) Cp2
    have tCp : w.heap.size + 1 < w7.heap.size := by omega
    replace Cf0 := keepC k7 (by omega) Cf0
    replace Cf1 := keepC k7 (by omega) Cf1
    have tCf : w1.heap.size < w7.heap.size := by omega
    replace Cg0 := keepC k7 (by omega) Cg0
    replace Cg1 := keepC k7 (by omega) Cg1
    have tCg : w2.heap.size < w7.heap.size := by omega
    rw [tn, te]
    go_wp2_with fail
    refine (Same_same _ _).mono ?_
    rintro e w8 ⟨rfl, hb8⟩
    have sz8 := hb8.size
    try simp at sz8
    have k8 : Below w7.heap.size w7 w8 := Below.trans (by go_grown) (hb8.mono (by (first | (simp; done) | (simp; omega))))
    have h0w8 : Below w.heap.size w w8 := h0w7.trans (k8.mono h0w7.size)
    replace Ci0 := keepC k8 (by omega) Ci0
    replace Ci1 := keepC k8 (by omega) Ci1
    have tCi : w.heap.size < w8.heap.size := by omega
    replace Cp0 := keepC k8 (by omega) Cp0
    replace Cp1 := keepC k8 (by omega) Cp1
    replace Cp2 := keepC k8 (by omega) Cp2
    have tCp : w.heap.size + 1 < w8.heap.size := by omega
    replace Cf0 := keepC k8 (by omega) Cf0
    replace Cf1 := keepC k8 (by omega) Cf1
    have tCf : w1.heap.size < w8.heap.size := by omega
    replace Cg0 := keepC k8 (by omega) Cg0
    replace Cg1 := keepC k8 (by omega) Cg1
    have tCg : w2.heap.size < w8.heap.size := by omega
    go_wp2_with fail
    go_ret
    exact ⟨rfl, Below.trans h0w8 (Below.mono (by go_grown) h0w8.size)⟩
  generalize hu : F.M.qu (F.M.x5 s h) (F.M.y2 s h) = U
  generalize hd : F.M.qd (F.M.x5 s h) (F.M.y2 s h) = D
  generalize hq : F.M.qe (F.M.x5 s h) (F.M.y2 s h) = E
  go_enter Tryd.func4, Tryd.ntmps4
  go_wp2_with fail
  refine (F.Ratio_in s h _ hi).mono ?_
  rintro e w1 ⟨rfl, hb1⟩
  have sz1 := hb1.size
  try simp at sz1
  have k1 : Below w.heap.size w w1 := Below.trans (by go_grown) (hb1.mono (by (first | (simp; done) | (simp; omega))))
  have h0w1 : Below w.heap.size w w1 := k1
  have Ci0 : w1.cell? ⟨w.heap.size, 0, none⟩ = some (.int .i64 s) := keepC hb1 (by (first | (simp; done) | (simp; omega))) (by simp [go_sem])
  have Ci1 : w1.cell? ⟨w.heap.size, 1, none⟩ = some (.int .i64 h) := keepC hb1 (by (first | (simp; done) | (simp; omega))) (by simp [go_sem])
  have tCi : w.heap.size < w1.heap.size := by omega
  have Cp0 : w1.cell? ⟨w.heap.size + 1, 0, none⟩ = some (.int .i64 l) := keepC hb1 (by (first | (simp; done) | (simp; omega))) (by simp [go_sem])
  have Cp1 : w1.cell? ⟨w.heap.size + 1, 1, none⟩ = some (.int .i64 a) := keepC hb1 (by (first | (simp; done) | (simp; omega))) (by simp [go_sem])
  have Cp2 : w1.cell? ⟨w.heap.size + 1, 2, none⟩ = some (.int .i64 o) := keepC hb1 (by (first | (simp; done) | (simp; omega))) (by simp [go_sem])
  have tCp : w.heap.size + 1 < w1.heap.size := by omega
  rw [hu, hd, hq]
  go_wp2_with fail
  refine (F.refRatio_in s h _ hi).mono ?_
  rintro e w2 ⟨rfl, hb2⟩
  have sz2 := hb2.size
  try simp at sz2
  have k2 : Below w1.heap.size w1 w2 := Below.trans (by go_grown) (hb2.mono (by (first | (simp; done) | (simp; omega))))
  have h0w2 : Below w.heap.size w w2 := h0w1.trans (k2.mono h0w1.size)
  replace Ci0 := keepC k2 (by omega) Ci0
  replace Ci1 := keepC k2 (by omega) Ci1
  have tCi : w.heap.size < w2.heap.size := by omega
  replace Cp0 := keepC k2 (by omega) Cp0
  replace Cp1 := keepC k2 (by omega) Cp1
  replace Cp2 := keepC k2 (by omega) Cp2
  have tCp : w.heap.size + 1 < w2.heap.size := by omega
  have Cf0 : w2.cell? ⟨w1.heap.size, 0, none⟩ = some (.int .i64 U) := keepC hb2 (by (first | (simp; done) | (simp; omega))) (by simp [go_sem])
  have Cf1 : w2.cell? ⟨w1.heap.size, 1, none⟩ = some (.int .i64 D) := keepC hb2 (by (first | (simp; done) | (simp; omega))) (by simp [go_sem])
  have tCf : w1.heap.size < w2.heap.size := by omega
  rw [hu, hd, hq]
  go_wp2_with fail
  refine (Hertz_any l a o x _ ((ht.step h0w2).step (by go_grown)) ((hT.step h0w2).step (by go_grown)) hx).mono ?_
  rintro e w3 ⟨rfl, hb3⟩
  have sz3 := hb3.size
  try simp at sz3
  have k3 : Below w2.heap.size w2 w3 := Below.trans (by go_grown) (hb3.mono (by (first | (simp; done) | (simp; omega))))
  have h0w3 : Below w.heap.size w w3 := h0w2.trans (k3.mono h0w2.size)
  replace Ci0 := keepC k3 (by omega) Ci0
  replace Ci1 := keepC k3 (by omega) Ci1
  have tCi : w.heap.size < w3.heap.size := by omega
  replace Cp0 := keepC k3 (by omega) Cp0
  replace Cp1 := keepC k3 (by omega) Cp1
  replace Cp2 := keepC k3 (by omega) Cp2
  have tCp : w.heap.size + 1 < w3.heap.size := by omega
  replace Cf0 := keepC k3 (by omega) Cf0
  replace Cf1 := keepC k3 (by omega) Cf1
  have tCf : w1.heap.size < w3.heap.size := by omega
  have Cg0 : w3.cell? ⟨w2.heap.size, 0, none⟩ = some (.int .i64 U) := keepC hb3 (by (first | (simp; done) | (simp; omega))) (by simp [go_sem])
  have Cg1 : w3.cell? ⟨w2.heap.size, 1, none⟩ = some (.int .i64 D) := keepC hb3 (by (first | (simp; done) | (simp; omega))) (by simp [go_sem])
  have tCg : w2.heap.size < w3.heap.size := by omega
  rw [hn, he]
  go_wp2_with fail
  refine (refHertz_any l a o x _ a1 a2 hx).mono ?_
  rintro e w4 ⟨rfl, hb4⟩
  have sz4 := hb4.size
  try simp at sz4
  have k4 : Below w3.heap.size w3 w4 := Below.trans (by go_grown) (hb4.mono (by (first | (simp; done) | (simp; omega))))
  have h0w4 : Below w.heap.size w w4 := h0w3.trans (k4.mono h0w3.size)
  replace Ci0 := keepC k4 (by omega) Ci0
  replace Ci1 := keepC k4 (by omega) Ci1
  have tCi : w.heap.size < w4.heap.size := by omega
  replace Cp0 := keepC k4 (by omega) Cp0
  replace Cp1 := keepC k4 (by omega) Cp1
  replace Cp2 := keepC k4 (by omega) Cp2
  have tCp : w.heap.size + 1 < w4.heap.size := by omega
  replace Cf0 := keepC k4 (by omega) Cf0
  replace Cf1 := keepC k4 (by omega) Cf1
  have tCf : w1.heap.size < w4.heap.size := by omega
  replace Cg0 := keepC k4 (by omega) Cg0
  replace Cg1 := keepC k4 (by omega) Cg1
  have tCg : w2.heap.size < w4.heap.size := by omega
  rw [hn, he]
  go_wp2_with fail
  refine (Same_same _ _).mono ?_
  rintro e w5 ⟨rfl, hb5⟩
  have sz5 := hb5.size
  try simp at sz5
  have k5 : Below w4.heap.size w4 w5 := Below.trans (by go_grown) (hb5.mono (by (first | (simp; done) | (simp; omega))))
  have h0w5 : Below w.heap.size w w5 := h0w4.trans (k5.mono h0w4.size)
  replace Ci0 := keepC k5 (by omega) Ci0
  replace Ci1 := keepC k5 (by omega) Ci1
  have tCi : w.heap.size < w5.heap.size := by omega
  replace Cp0 := keepC k5 (by omega) Cp0
  replace Cp1 := keepC k5 (by omega) Cp1
  replace Cp2 := keepC k5 (by omega) Cp2
  have tCp : w.heap.size + 1 < w5.heap.size := by omega
  replace Cf0 := keepC k5 (by omega) Cf0
  replace Cf1 := keepC k5 (by omega) Cf1
  have tCf : w1.heap.size < w5.heap.size := by omega
  replace Cg0 := keepC k5 (by omega) Cg0
  replace Cg1 := keepC k5 (by omega) Cg1
  have tCg : w2.heap.size < w5.heap.size := by omega
  go_wp2_with fail
  refine (Tempered_any l a o x _ ((ht.step h0w5).step (by go_grown)) hx).mono ?_
  rintro e w6 ⟨rfl, hb6⟩
  have sz6 := hb6.size
  try simp at sz6
  have k6 : Below w5.heap.size w5 w6 := Below.trans (by go_grown) (hb6.mono (by (first | (simp; done) | (simp; omega))))
  have h0w6 : Below w.heap.size w w6 := h0w5.trans (k6.mono h0w5.size)
  replace Ci0 := keepC k6 (by omega) Ci0
  replace Ci1 := keepC k6 (by omega) Ci1
  have tCi : w.heap.size < w6.heap.size := by omega
  replace Cp0 := keepC k6 (by omega) Cp0
  replace Cp1 := keepC k6 (by omega) Cp1
  replace Cp2 := keepC k6 (by omega) Cp2
  have tCp : w.heap.size + 1 < w6.heap.size := by omega
  replace Cf0 := keepC k6 (by omega) Cf0
  replace Cf1 := keepC k6 (by omega) Cf1
  have tCf : w1.heap.size < w6.heap.size := by omega
  replace Cg0 := keepC k6 (by omega) Cg0
  replace Cg1 := keepC k6 (by omega) Cg1
  have tCg : w2.heap.size < w6.heap.size := by omega
  rw [tn, te]
  go_wp2_with fail
  refine (refTempered_any l a o x _ a1 a2 hx).mono ?_
  rintro e w7 ⟨rfl, hb7⟩
  have sz7 := hb7.size
  try simp at sz7
  have k7 : Below w6.heap.size w6 w7 := Below.trans (by go_grown) (hb7.mono (by (first | (simp; done) | (simp; omega))))
  have h0w7 : Below w.heap.size w w7 := h0w6.trans (k7.mono h0w6.size)
  replace Ci0 := keepC k7 (by omega) Ci0
  replace Ci1 := keepC k7 (by omega) Ci1
  have tCi : w.heap.size < w7.heap.size := by omega
  replace Cp0 := keepC k7 (by omega) Cp0
  replace Cp1 := keepC k7 (by omega) Cp1
  replace Cp2 := keepC k7 (by omega) Cp2
  have tCp : w.heap.size + 1 < w7.heap.size := by omega
  replace Cf0 := keepC k7 (by omega) Cf0
  replace Cf1 := keepC k7 (by omega) Cf1
  have tCf : w1.heap.size < w7.heap.size := by omega
  replace Cg0 := keepC k7 (by omega) Cg0
  replace Cg1 := keepC k7 (by omega) Cg1
  have tCg : w2.heap.size < w7.heap.size := by omega
  rw [tn, te]
  go_wp2_with fail
  refine (Same_same _ _).mono ?_
  rintro e w8 ⟨rfl, hb8⟩
  have sz8 := hb8.size
  try simp at sz8
  have k8 : Below w7.heap.size w7 w8 := Below.trans (by go_grown) (hb8.mono (by (first | (simp; done) | (simp; omega))))
  have h0w8 : Below w.heap.size w w8 := h0w7.trans (k8.mono h0w7.size)
  replace Ci0 := keepC k8 (by omega) Ci0
  replace Ci1 := keepC k8 (by omega) Ci1
  have tCi : w.heap.size < w8.heap.size := by omega
  replace Cp0 := keepC k8 (by omega) Cp0
  replace Cp1 := keepC k8 (by omega) Cp1
  replace Cp2 := keepC k8 (by omega) Cp2
  have tCp : w.heap.size + 1 < w8.heap.size := by omega
  replace Cf0 := keepC k8 (by omega) Cf0
  replace Cf1 := keepC k8 (by omega) Cf1
  have tCf : w1.heap.size < w8.heap.size := by omega
  replace Cg0 := keepC k8 (by omega) Cg0
  replace Cg1 := keepC k8 (by omega) Cg1
  have tCg : w2.heap.size < w8.heap.size := by omega
  go_wp2_with fail
  go_ret
  exact ⟨rfl, Below.trans h0w8 (Below.mono (by go_grown) h0w8.size)⟩

end Go.Proofs.YtdjdnjaijpafgacDoor
