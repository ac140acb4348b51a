/- The statement TuneRatios: the walk of its text. -/
import Derived.Test.YtdjdnjaijpafgacT2
import Derived.Test.YtdjdnjaijpafgacFW7
namespace Go.Proofs.Ytdjdnjaijpafgac.F
open Go.RowKit
attribute [local go_sem ↓] Go.wp_at_zero Go.wp_at_succ
set_option linter.unusedVariables false
set_option linter.unusedSimpArgs false

theorem tneq0 {x : Int} (h : x ≠ 0) : (x != 0) = true := by simp [h]
theorem M.neg_xy (s h : Int) : M.x5 (-s) (-h) = -M.x5 s h ∧ M.y2 (-s) (-h) = -M.y2 s h := by unfold M.x5 M.y2; omega
theorem M.add_xy (s h s' h' : Int) : M.x5 (s + s') (h + h') = M.x5 s h + M.x5 s' h' ∧ M.y2 (s + s') (h + h') = M.y2 s h + M.y2 s' h' := by unfold M.x5 M.y2; omega
theorem M.neg_in {s h : Int} (hi : Ytdjdnjaijpafgac.M.inb s h = true) : Ytdjdnjaijpafgac.M.inb (-s) (-h) = true := by
  have := Ytdjdnjaijpafgac.M.inb_yes hi
  unfold Ytdjdnjaijpafgac.M.inb; simp; omega

set_option maxHeartbeats 4000000 in
theorem ratios_walk (s h s' h' : Int) (w : World) :
    Calls Try.prog 3 #[.agg #[.int .i64 s, .int .i64 h], .agg #[.int .i64 s', .int .i64 h']] w fun e w' => e = .returned (.bool true) ∧ Below w.heap.size w w' := by
  have HO : Hid (M.qu (M.x5 7 12) (M.y2 7 12) = 2 ∧ M.qd (M.x5 7 12) (M.y2 7 12) = 1 ∧ M.qe (M.x5 7 12) (M.y2 7 12) = 0) := ⟨by decide +kernel, by decide +kernel, by decide +kernel⟩
  cases hi : Ytdjdnjaijpafgac.M.inb s h
  case false =>
    go_enter Try.func3, Try.ntmps3
    go_wp2_with fail
    refine (alive_any _).mono ?_
    rintro e w1 ⟨rfl, hb1⟩
    have sz1 := hb1.size
    try simp at sz1
    have k1 : Below w.heap.size w w1 := Below.trans (by go_grown) (hb1.mono (by (first | (simp; done) | (simp; omega))))
    have h0w1 : Below w.heap.size w w1 := k1
    have Ci0 : w1.cell? ⟨w.heap.size, 0, none⟩ = some (.int .i64 s) := keepC hb1 (by (first | (simp; done) | (simp; omega))) (by simp [go_sem])
    have Ci1 : w1.cell? ⟨w.heap.size, 1, none⟩ = some (.int .i64 h) := keepC hb1 (by (first | (simp; done) | (simp; omega))) (by simp [go_sem])
    have tCi : w.heap.size < w1.heap.size := by omega
    have Cj0 : w1.cell? ⟨w.heap.size + 1, 0, none⟩ = some (.int .i64 s') := keepC hb1 (by (first | (simp; done) | (simp; omega))) (by simp [go_sem])
    have Cj1 : w1.cell? ⟨w.heap.size + 1, 1, none⟩ = some (.int .i64 h') := keepC hb1 (by (first | (simp; done) | (simp; omega))) (by simp [go_sem])
    have tCj : w.heap.size + 1 < w1.heap.size := by omega
    go_wp2_with fail
    refine (Ratio_in 7 12 _ (by decide)).mono ?_
    rintro e w2 ⟨rfl, hb2⟩
    have sz2 := hb2.size
    try simp at sz2
    have k2 : Below w1.heap.size w1 w2 := Below.trans (by go_grown) (hb2.mono (by (first | (simp; done) | (simp; omega))))
    have h0w2 : Below w.heap.size w w2 := h0w1.trans (k2.mono h0w1.size)
    replace Ci0 := keepC k2 (by omega) Ci0
    replace Ci1 := keepC k2 (by omega) Ci1
    have tCi : w.heap.size < w2.heap.size := by omega
    replace Cj0 := keepC k2 (by omega) Cj0
    replace Cj1 := keepC k2 (by omega) Cj1
    have tCj : w.heap.size + 1 < w2.heap.size := by omega
    rw [HO.out.1, HO.out.2.1, HO.out.2.2]
    go_wp2_with fail
    refine (Ratio_no s h _ hi).mono ?_
    rintro e w3 ⟨rfl, hb3⟩
    have sz3 := hb3.size
    try simp at sz3
    have k3 : Below w2.heap.size w2 w3 := Below.trans (by go_grown) (hb3.mono (by (first | (simp; done) | (simp; omega))))
    have h0w3 : Below w.heap.size w w3 := h0w2.trans (k3.mono h0w2.size)
    replace Ci0 := keepC k3 (by omega) Ci0
    replace Ci1 := keepC k3 (by omega) Ci1
    have tCi : w.heap.size < w3.heap.size := by omega
    replace Cj0 := keepC k3 (by omega) Cj0
    replace Cj1 := keepC k3 (by omega) Cj1
    have tCj : w.heap.size + 1 < w3.heap.size := by omega
    have Co0 : w3.cell? ⟨w2.heap.size, 0, none⟩ = some (.int .i64 2) := keepC hb3 (by (first | (simp; done) | (simp; omega))) (by simp [go_sem])
    have Co1 : w3.cell? ⟨w2.heap.size, 1, none⟩ = some (.int .i64 1) := keepC hb3 (by (first | (simp; done) | (simp; omega))) (by simp [go_sem])
    have tCo : w2.heap.size < w3.heap.size := by omega
    go_wp2_with fail
    go_ret
    exact ⟨rfl, Below.trans h0w3 (Below.mono (by go_grown) h0w3.size)⟩
  have hib := Ytdjdnjaijpafgac.M.inb_yes hi
  have hin := M.neg_in hi
  obtain ⟨nx, ny⟩ := M.neg_xy s h
  have HB := M.q_back (M.x5 s h) (M.y2 s h)
  rw [← nx, ← ny] at HB
  clear nx ny
  obtain ⟨ax, ay⟩ := M.add_xy s h s' h'
  have HS := M.q_sum (M.x5 s h) (M.y2 s h) (M.x5 s' h') (M.y2 s' h')
  rw [← ax, ← ay] at HS
  clear ax ay
  have HY := M.q_yes (M.x5 s h) (M.y2 s h)
  have HY' := M.q_yes (M.x5 s' h') (M.y2 s' h')
  by_cases he : M.qe (M.x5 s h) (M.y2 s h) = 0
  case neg =>
    have he' := tneq0 he
    generalize hu : M.qu (M.x5 s h) (M.y2 s h) = Uf at *
    generalize hd : M.qd (M.x5 s h) (M.y2 s h) = Df at *
    generalize hee : M.qe (M.x5 s h) (M.y2 s h) = Ef at *
    clear HB HS HY HY'
    go_enter Try.func3, Try.ntmps3
    go_wp2_with fail
    refine (alive_any _).mono ?_
    rintro e w1 ⟨rfl, hb1⟩
    have sz1 := hb1.size
    try simp at sz1
    have k1 : Below w.heap.size w w1 := Below.trans (by go_grown) (hb1.mono (by (first | (simp; done) | (simp; omega))))
    have h0w1 : Below w.heap.size w w1 := k1
    have Ci0 : w1.cell? ⟨w.heap.size, 0, none⟩ = some (.int .i64 s) := keepC hb1 (by (first | (simp; done) | (simp; omega))) (by simp [go_sem])
    have Ci1 : w1.cell? ⟨w.heap.size, 1, none⟩ = some (.int .i64 h) := keepC hb1 (by (first | (simp; done) | (simp; omega))) (by simp [go_sem])
    have tCi : w.heap.size < w1.heap.size := by omega
    have Cj0 : w1.cell? ⟨w.heap.size + 1, 0, none⟩ = some (.int .i64 s') := keepC hb1 (by (first | (simp; done) | (simp; omega))) (by simp [go_sem])
    have Cj1 : w1.cell? ⟨w.heap.size + 1, 1, none⟩ = some (.int .i64 h') := keepC hb1 (by (first | (simp; done) | (simp; omega))) (by simp [go_sem])
    have tCj : w.heap.size + 1 < w1.heap.size := by omega
    go_wp2_with fail
    refine (Ratio_in 7 12 _ (by decide)).mono ?_
    rintro e w2 ⟨rfl, hb2⟩
    have sz2 := hb2.size
    try simp at sz2
    have k2 : Below w1.heap.size w1 w2 := Below.trans (by go_grown) (hb2.mono (by (first | (simp; done) | (simp; omega))))
    have h0w2 : Below w.heap.size w w2 := h0w1.trans (k2.mono h0w1.size)
    replace Ci0 := keepC k2 (by omega) Ci0
    replace Ci1 := keepC k2 (by omega) Ci1
    have tCi : w.heap.size < w2.heap.size := by omega
    replace Cj0 := keepC k2 (by omega) Cj0
    replace Cj1 := keepC k2 (by omega) Cj1
    have tCj : w.heap.size + 1 < w2.heap.size := by omega
    rw [HO.out.1, HO.out.2.1, HO.out.2.2]
    go_wp2_with fail
    refine (Ratio_in s h _ hi).mono ?_
    rintro e w3 ⟨rfl, hb3⟩
    have sz3 := hb3.size
    try simp at sz3
    have k3 : Below w2.heap.size w2 w3 := Below.trans (by go_grown) (hb3.mono (by (first | (simp; done) | (simp; omega))))
    have h0w3 : Below w.heap.size w w3 := h0w2.trans (k3.mono h0w2.size)
    replace Ci0 := keepC k3 (by omega) Ci0
    replace Ci1 := keepC k3 (by omega) Ci1
    have tCi : w.heap.size < w3.heap.size := by omega
    replace Cj0 := keepC k3 (by omega) Cj0
    replace Cj1 := keepC k3 (by omega) Cj1
    have tCj : w.heap.size + 1 < w3.heap.size := by omega
    have Co0 : w3.cell? ⟨w2.heap.size, 0, none⟩ = some (.int .i64 2) := keepC hb3 (by (first | (simp; done) | (simp; omega))) (by simp [go_sem])
    have Co1 : w3.cell? ⟨w2.heap.size, 1, none⟩ = some (.int .i64 1) := keepC hb3 (by (first | (simp; done) | (simp; omega))) (by simp [go_sem])
    have tCo : w2.heap.size < w3.heap.size := by omega
    rw [hu, hd, hee]
    go_wp2_with fail
    go_ret
    exact ⟨rfl, Below.trans h0w3 (Below.mono (by go_grown) h0w3.size)⟩
  obtain ⟨be, bu, bd⟩ := HB he
  obtain ⟨y1, y2, y3⟩ := HY he
  rw [← y1, ← y2] at y3
  clear HB HY y1 y2
  generalize hu : M.qu (M.x5 s h) (M.y2 s h) = Uf at *
  generalize hd : M.qd (M.x5 s h) (M.y2 s h) = Df at *
  cases hj : Ytdjdnjaijpafgac.M.inb s' h'
  case false =>
    clear HS HY' y3
    generalize hq1 : Ytdjdnjaijpafgac.M.ss s h s' h' = K1
    generalize hq2 : Ytdjdnjaijpafgac.M.sh s h s' h' = K2
    generalize hq3 : Ytdjdnjaijpafgac.M.se s h s' h' = K3
    go_enter Try.func3, Try.ntmps3
    go_wp2_with fail
    refine (alive_any _).mono ?_
    rintro e w1 ⟨rfl, hb1⟩
    have sz1 := hb1.size
    try simp at sz1
    have k1 : Below w.heap.size w w1 := Below.trans (by go_grown) (hb1.mono (by (first | (simp; done) | (simp; omega))))
    have h0w1 : Below w.heap.size w w1 := k1
    have Ci0 : w1.cell? ⟨w.heap.size, 0, none⟩ = some (.int .i64 s) := keepC hb1 (by (first | (simp; done) | (simp; omega))) (by simp [go_sem])
    have Ci1 : w1.cell? ⟨w.heap.size, 1, none⟩ = some (.int .i64 h) := keepC hb1 (by (first | (simp; done) | (simp; omega))) (by simp [go_sem])
    have tCi : w.heap.size < w1.heap.size := by omega
    have Cj0 : w1.cell? ⟨w.heap.size + 1, 0, none⟩ = some (.int .i64 s') := keepC hb1 (by (first | (simp; done) | (simp; omega))) (by simp [go_sem])
    have Cj1 : w1.cell? ⟨w.heap.size + 1, 1, none⟩ = some (.int .i64 h') := keepC hb1 (by (first | (simp; done) | (simp; omega))) (by simp [go_sem])
    have tCj : w.heap.size + 1 < w1.heap.size := by omega
    go_wp2_with fail
    refine (Ratio_in 7 12 _ (by decide)).mono ?_
    rintro e w2 ⟨rfl, hb2⟩
    have sz2 := hb2.size
    try simp at sz2
    have k2 : Below w1.heap.size w1 w2 := Below.trans (by go_grown) (hb2.mono (by (first | (simp; done) | (simp; omega))))
    have h0w2 : Below w.heap.size w w2 := h0w1.trans (k2.mono h0w1.size)
    replace Ci0 := keepC k2 (by omega) Ci0
    replace Ci1 := keepC k2 (by omega) Ci1
    have tCi : w.heap.size < w2.heap.size := by omega
    replace Cj0 := keepC k2 (by omega) Cj0
    replace Cj1 := keepC k2 (by omega) Cj1
    have tCj : w.heap.size + 1 < w2.heap.size := by omega
    rw [HO.out.1, HO.out.2.1, HO.out.2.2]
    go_wp2_with fail
    refine (Ratio_in s h _ hi).mono ?_
    rintro e w3 ⟨rfl, hb3⟩
    have sz3 := hb3.size
    try simp at sz3
    have k3 : Below w2.heap.size w2 w3 := Below.trans (by go_grown) (hb3.mono (by (first | (simp; done) | (simp; omega))))
    have h0w3 : Below w.heap.size w w3 := h0w2.trans (k3.mono h0w2.size)
    replace Ci0 := keepC k3 (by omega) Ci0
    replace Ci1 := keepC k3 (by omega) Ci1
    have tCi : w.heap.size < w3.heap.size := by omega
    replace Cj0 := keepC k3 (by omega) Cj0
    replace Cj1 := keepC k3 (by omega) Cj1
    have tCj : w.heap.size + 1 < w3.heap.size := by omega
    have Co0 : w3.cell? ⟨w2.heap.size, 0, none⟩ = some (.int .i64 2) := keepC hb3 (by (first | (simp; done) | (simp; omega))) (by simp [go_sem])
    have Co1 : w3.cell? ⟨w2.heap.size, 1, none⟩ = some (.int .i64 1) := keepC hb3 (by (first | (simp; done) | (simp; omega))) (by simp [go_sem])
    have tCo : w2.heap.size < w3.heap.size := by omega
    rw [hu, hd, he]
    go_wp2_with fail
    refine (Ratio_in (-s) (-h) _ hin).mono ?_
    rintro e w4 ⟨rfl, hb4⟩
    have sz4 := hb4.size
    try simp at sz4
    have k4 : Below w3.heap.size w3 w4 := Below.trans (by go_grown) (hb4.mono (by (first | (simp; done) | (simp; omega))))
    have h0w4 : Below w.heap.size w w4 := h0w3.trans (k4.mono h0w3.size)
    replace Ci0 := keepC k4 (by omega) Ci0
    replace Ci1 := keepC k4 (by omega) Ci1
    have tCi : w.heap.size < w4.heap.size := by omega
    replace Cj0 := keepC k4 (by omega) Cj0
    replace Cj1 := keepC k4 (by omega) Cj1
    have tCj : w.heap.size + 1 < w4.heap.size := by omega
    replace Co0 := keepC k4 (by omega) Co0
    replace Co1 := keepC k4 (by omega) Co1
    have tCo : w2.heap.size < w4.heap.size := by omega
    have Cf0 : w4.cell? ⟨w3.heap.size, 0, none⟩ = some (.int .i64 Uf) := keepC hb4 (by (first | (simp; done) | (simp; omega))) (by simp [go_sem])
    have Cf1 : w4.cell? ⟨w3.heap.size, 1, none⟩ = some (.int .i64 Df) := keepC hb4 (by (first | (simp; done) | (simp; omega))) (by simp [go_sem])
    have tCf : w3.heap.size < w4.heap.size := by omega
    rw [bu, bd, be]
    go_wp2_with fail
    refine (Ratio_no s' h' _ hj).mono ?_
    rintro e w5 ⟨rfl, hb5⟩
    have sz5 := hb5.size
    try simp at sz5
    have k5 : Below w4.heap.size w4 w5 := Below.trans (by go_grown) (hb5.mono (by (first | (simp; done) | (simp; omega))))
    have h0w5 : Below w.heap.size w w5 := h0w4.trans (k5.mono h0w4.size)
    replace Ci0 := keepC k5 (by omega) Ci0
    replace Ci1 := keepC k5 (by omega) Ci1
    have tCi : w.heap.size < w5.heap.size := by omega
    replace Cj0 := keepC k5 (by omega) Cj0
    replace Cj1 := keepC k5 (by omega) Cj1
    have tCj : w.heap.size + 1 < w5.heap.size := by omega
    replace Co0 := keepC k5 (by omega) Co0
    replace Co1 := keepC k5 (by omega) Co1
    have tCo : w2.heap.size < w5.heap.size := by omega
    replace Cf0 := keepC k5 (by omega) Cf0
    replace Cf1 := keepC k5 (by omega) Cf1
    have tCf : w3.heap.size < w5.heap.size := by omega
    have Cb0 : w5.cell? ⟨w4.heap.size, 0, none⟩ = some (.int .i64 Df) := keepC hb5 (by (first | (simp; done) | (simp; omega))) (by simp [go_sem])
    have Cb1 : w5.cell? ⟨w4.heap.size, 1, none⟩ = some (.int .i64 Uf) := keepC hb5 (by (first | (simp; done) | (simp; omega))) (by simp [go_sem])
    have tCb : w4.heap.size < w5.heap.size := by omega
    go_wp2_with fail
    refine (Sum_any s h s' h' _).mono ?_
    rintro e w6 ⟨rfl, hb6⟩
    have sz6 := hb6.size
    try simp at sz6
    have k6 : Below w5.heap.size w5 w6 := Below.trans (by go_grown) (hb6.mono (by (first | (simp; done) | (simp; omega))))
    have h0w6 : Below w.heap.size w w6 := h0w5.trans (k6.mono h0w5.size)
    replace Ci0 := keepC k6 (by omega) Ci0
    replace Ci1 := keepC k6 (by omega) Ci1
    have tCi : w.heap.size < w6.heap.size := by omega
    replace Cj0 := keepC k6 (by omega) Cj0
    replace Cj1 := keepC k6 (by omega) Cj1
    have tCj : w.heap.size + 1 < w6.heap.size := by omega
    replace Co0 := keepC k6 (by omega) Co0
    replace Co1 := keepC k6 (by omega) Co1
    have tCo : w2.heap.size < w6.heap.size := by omega
    replace Cf0 := keepC k6 (by omega) Cf0
    replace Cf1 := keepC k6 (by omega) Cf1
    have tCf : w3.heap.size < w6.heap.size := by omega
    replace Cb0 := keepC k6 (by omega) Cb0
    replace Cb1 := keepC k6 (by omega) Cb1
    have tCb : w4.heap.size < w6.heap.size := by omega
    have Cg0 : w6.cell? ⟨w5.heap.size, 0, none⟩ = some (.int .i64 0) := keepC hb6 (by (first | (simp; done) | (simp; omega))) (by simp [go_sem])
    have Cg1 : w6.cell? ⟨w5.heap.size, 1, none⟩ = some (.int .i64 0) := keepC hb6 (by (first | (simp; done) | (simp; omega))) (by simp [go_sem])
    have tCg : w5.heap.size < w6.heap.size := by omega
    rw [hq1, hq2, hq3]
    go_wp2_with fail
    go_ret
    exact ⟨rfl, Below.trans h0w6 (Below.mono (by go_grown) h0w6.size)⟩
  by_cases hg : M.qe (M.x5 s' h') (M.y2 s' h') = 0
  case neg =>
    have hg' := tneq0 hg
    clear HS HY' y3
    generalize hq1 : Ytdjdnjaijpafgac.M.ss s h s' h' = K1
    generalize hq2 : Ytdjdnjaijpafgac.M.sh s h s' h' = K2
    generalize hq3 : Ytdjdnjaijpafgac.M.se s h s' h' = K3
    generalize gu : M.qu (M.x5 s' h') (M.y2 s' h') = Ug at *
    generalize gd : M.qd (M.x5 s' h') (M.y2 s' h') = Dg at *
    generalize ge : M.qe (M.x5 s' h') (M.y2 s' h') = Eg at *
    go_enter Try.func3, Try.ntmps3
    go_wp2_with fail
    refine (alive_any _).mono ?_
    rintro e w1 ⟨rfl, hb1⟩
    have sz1 := hb1.size
    try simp at sz1
    have k1 : Below w.heap.size w w1 := Below.trans (by go_grown) (hb1.mono (by (first | (simp; done) | (simp; omega))))
    have h0w1 : Below w.heap.size w w1 := k1
    have Ci0 : w1.cell? ⟨w.heap.size, 0, none⟩ = some (.int .i64 s) := keepC hb1 (by (first | (simp; done) | (simp; omega))) (by simp [go_sem])
    have Ci1 : w1.cell? ⟨w.heap.size, 1, none⟩ = some (.int .i64 h) := keepC hb1 (by (first | (simp; done) | (simp; omega))) (by simp [go_sem])
    have tCi : w.heap.size < w1.heap.size := by omega
    have Cj0 : w1.cell? ⟨w.heap.size + 1, 0, none⟩ = some (.int .i64 s') := keepC hb1 (by (first | (simp; done) | (simp; omega))) (by simp [go_sem])
    have Cj1 : w1.cell? ⟨w.heap.size + 1, 1, none⟩ = some (.int .i64 h') := keepC hb1 (by (first | (simp; done) | (simp; omega))) (by simp [go_sem])
    have tCj : w.heap.size + 1 < w1.heap.size := by omega
    go_wp2_with fail
    refine (Ratio_in 7 12 _ (by decide)).mono ?_
    rintro e w2 ⟨rfl, hb2⟩
    have sz2 := hb2.size
    try simp at sz2
    have k2 : Below w1.heap.size w1 w2 := Below.trans (by go_grown) (hb2.mono (by (first | (simp; done) | (simp; omega))))
    have h0w2 : Below w.heap.size w w2 := h0w1.trans (k2.mono h0w1.size)
    replace Ci0 := keepC k2 (by omega) Ci0
    replace Ci1 := keepC k2 (by omega) Ci1
    have tCi : w.heap.size < w2.heap.size := by omega
    replace Cj0 := keepC k2 (by omega) Cj0
    replace Cj1 := keepC k2 (by omega) Cj1
    have tCj : w.heap.size + 1 < w2.heap.size := by omega
    rw [HO.out.1, HO.out.2.1, HO.out.2.2]
    go_wp2_with fail
    refine (Ratio_in s h _ hi).mono ?_
    rintro e w3 ⟨rfl, hb3⟩
    have sz3 := hb3.size
    try simp at sz3
    have k3 : Below w2.heap.size w2 w3 := Below.trans (by go_grown) (hb3.mono (by (first | (simp; done) | (simp; omega))))
    have h0w3 : Below w.heap.size w w3 := h0w2.trans (k3.mono h0w2.size)
    replace Ci0 := keepC k3 (by omega) Ci0
    replace Ci1 := keepC k3 (by omega) Ci1
    have tCi : w.heap.size < w3.heap.size := by omega
    replace Cj0 := keepC k3 (by omega) Cj0
    replace Cj1 := keepC k3 (by omega) Cj1
    have tCj : w.heap.size + 1 < w3.heap.size := by omega
    have Co0 : w3.cell? ⟨w2.heap.size, 0, none⟩ = some (.int .i64 2) := keepC hb3 (by (first | (simp; done) | (simp; omega))) (by simp [go_sem])
    have Co1 : w3.cell? ⟨w2.heap.size, 1, none⟩ = some (.int .i64 1) := keepC hb3 (by (first | (simp; done) | (simp; omega))) (by simp [go_sem])
    have tCo : w2.heap.size < w3.heap.size := by omega
    rw [hu, hd, he]
    go_wp2_with fail
    refine (Ratio_in (-s) (-h) _ hin).mono ?_
    rintro e w4 ⟨rfl, hb4⟩
    have sz4 := hb4.size
    try simp at sz4
    have k4 : Below w3.heap.size w3 w4 := Below.trans (by go_grown) (hb4.mono (by (first | (simp; done) | (simp; omega))))
    have h0w4 : Below w.heap.size w w4 := h0w3.trans (k4.mono h0w3.size)
    replace Ci0 := keepC k4 (by omega) Ci0
    replace Ci1 := keepC k4 (by omega) Ci1
    have tCi : w.heap.size < w4.heap.size := by omega
    replace Cj0 := keepC k4 (by omega) Cj0
    replace Cj1 := keepC k4 (by omega) Cj1
    have tCj : w.heap.size + 1 < w4.heap.size := by omega
    replace Co0 := keepC k4 (by omega) Co0
    replace Co1 := keepC k4 (by omega) Co1
    have tCo : w2.heap.size < w4.heap.size := by omega
    have Cf0 : w4.cell? ⟨w3.heap.size, 0, none⟩ = some (.int .i64 Uf) := keepC hb4 (by (first | (simp; done) | (simp; omega))) (by simp [go_sem])
    have Cf1 : w4.cell? ⟨w3.heap.size, 1, none⟩ = some (.int .i64 Df) := keepC hb4 (by (first | (simp; done) | (simp; omega))) (by simp [go_sem])
    have tCf : w3.heap.size < w4.heap.size := by omega
    rw [bu, bd, be]
    go_wp2_with fail
    refine (Ratio_in s' h' _ hj).mono ?_
    rintro e w5 ⟨rfl, hb5⟩
    have sz5 := hb5.size
    try simp at sz5
    have k5 : Below w4.heap.size w4 w5 := Below.trans (by go_grown) (hb5.mono (by (first | (simp; done) | (simp; omega))))
    have h0w5 : Below w.heap.size w w5 := h0w4.trans (k5.mono h0w4.size)
    replace Ci0 := keepC k5 (by omega) Ci0
    replace Ci1 := keepC k5 (by omega) Ci1
    have tCi : w.heap.size < w5.heap.size := by omega
    replace Cj0 := keepC k5 (by omega) Cj0
    replace Cj1 := keepC k5 (by omega) Cj1
    have tCj : w.heap.size + 1 < w5.heap.size := by omega
    replace Co0 := keepC k5 (by omega) Co0
    replace Co1 := keepC k5 (by omega) Co1
    have tCo : w2.heap.size < w5.heap.size := by omega
    replace Cf0 := keepC k5 (by omega) Cf0
    replace Cf1 := keepC k5 (by omega) Cf1
    have tCf : w3.heap.size < w5.heap.size := by omega
    have Cb0 : w5.cell? ⟨w4.heap.size, 0, none⟩ = some (.int .i64 Df) := keepC hb5 (by (first | (simp; done) | (simp; omega))) (by simp [go_sem])
    have Cb1 : w5.cell? ⟨w4.heap.size, 1, none⟩ = some (.int .i64 Uf) := keepC hb5 (by (first | (simp; done) | (simp; omega))) (by simp [go_sem])
    have tCb : w4.heap.size < w5.heap.size := by omega
    rw [gu, gd, ge]
    go_wp2_with fail
    refine (Sum_any s h s' h' _).mono ?_
    rintro e w6 ⟨rfl, hb6⟩
    have sz6 := hb6.size
    try simp at sz6
    have k6 : Below w5.heap.size w5 w6 := Below.trans (by go_grown) (hb6.mono (by (first | (simp; done) | (simp; omega))))
    have h0w6 : Below w.heap.size w w6 := h0w5.trans (k6.mono h0w5.size)
    replace Ci0 := keepC k6 (by omega) Ci0
    replace Ci1 := keepC k6 (by omega) Ci1
    have tCi : w.heap.size < w6.heap.size := by omega
    replace Cj0 := keepC k6 (by omega) Cj0
    replace Cj1 := keepC k6 (by omega) Cj1
    have tCj : w.heap.size + 1 < w6.heap.size := by omega
    replace Co0 := keepC k6 (by omega) Co0
    replace Co1 := keepC k6 (by omega) Co1
    have tCo : w2.heap.size < w6.heap.size := by omega
    replace Cf0 := keepC k6 (by omega) Cf0
    replace Cf1 := keepC k6 (by omega) Cf1
    have tCf : w3.heap.size < w6.heap.size := by omega
    replace Cb0 := keepC k6 (by omega) Cb0
    replace Cb1 := keepC k6 (by omega) Cb1
    have tCb : w4.heap.size < w6.heap.size := by omega
    have Cg0 : w6.cell? ⟨w5.heap.size, 0, none⟩ = some (.int .i64 Ug) := keepC hb6 (by (first | (simp; done) | (simp; omega))) (by simp [go_sem])
    have Cg1 : w6.cell? ⟨w5.heap.size, 1, none⟩ = some (.int .i64 Dg) := keepC hb6 (by (first | (simp; done) | (simp; omega))) (by simp [go_sem])
    have tCg : w5.heap.size < w6.heap.size := by omega
    rw [hq1, hq2, hq3]
    go_wp2_with fail
    go_ret
    exact ⟨rfl, Below.trans h0w6 (Below.mono (by go_grown) h0w6.size)⟩
  obtain ⟨v1, v2, v3⟩ := HY' hg
  rw [← v1, ← v2] at v3
  have HS' := HS he hg
  clear HY' v1 v2 HS
  generalize gu : M.qu (M.x5 s' h') (M.y2 s' h') = Ug at *
  generalize gd : M.qd (M.x5 s' h') (M.y2 s' h') = Dg at *
  cases hk : Ytdjdnjaijpafgac.M.sk s h s' h'
  case false =>
    have q1 := Ytdjdnjaijpafgac.M.ss_no hk
    have q2 := Ytdjdnjaijpafgac.M.sh_no hk
    have q3 := Ytdjdnjaijpafgac.M.se_no hk
    clear HS' y3 v3
    go_enter Try.func3, Try.ntmps3
    go_wp2_with fail
    refine (alive_any _).mono ?_
    rintro e w1 ⟨rfl, hb1⟩
    have sz1 := hb1.size
    try simp at sz1
    have k1 : Below w.heap.size w w1 := Below.trans (by go_grown) (hb1.mono (by (first | (simp; done) | (simp; omega))))
    have h0w1 : Below w.heap.size w w1 := k1
    have Ci0 : w1.cell? ⟨w.heap.size, 0, none⟩ = some (.int .i64 s) := keepC hb1 (by (first | (simp; done) | (simp; omega))) (by simp [go_sem])
    have Ci1 : w1.cell? ⟨w.heap.size, 1, none⟩ = some (.int .i64 h) := keepC hb1 (by (first | (simp; done) | (simp; omega))) (by simp [go_sem])
    have tCi : w.heap.size < w1.heap.size := by omega
    have Cj0 : w1.cell? ⟨w.heap.size + 1, 0, none⟩ = some (.int .i64 s') := keepC hb1 (by (first | (simp; done) | (simp; omega))) (by simp [go_sem])
    have Cj1 : w1.cell? ⟨w.heap.size + 1, 1, none⟩ = some (.int .i64 h') := keepC hb1 (by (first | (simp; done) | (simp; omega))) (by simp [go_sem])
    have tCj : w.heap.size + 1 < w1.heap.size := by omega
    go_wp2_with fail
    refine (Ratio_in 7 12 _ (by decide)).mono ?_
    rintro e w2 ⟨rfl, hb2⟩
    have sz2 := hb2.size
    try simp at sz2
    have k2 : Below w1.heap.size w1 w2 := Below.trans (by go_grown) (hb2.mono (by (first | (simp; done) | (simp; omega))))
    have h0w2 : Below w.heap.size w w2 := h0w1.trans (k2.mono h0w1.size)
    replace Ci0 := keepC k2 (by omega) Ci0
    replace Ci1 := keepC k2 (by omega) Ci1
    have tCi : w.heap.size < w2.heap.size := by omega
    replace Cj0 := keepC k2 (by omega) Cj0
    replace Cj1 := keepC k2 (by omega) Cj1
    have tCj : w.heap.size + 1 < w2.heap.size := by omega
    rw [HO.out.1, HO.out.2.1, HO.out.2.2]
    go_wp2_with fail
    refine (Ratio_in s h _ hi).mono ?_
    rintro e w3 ⟨rfl, hb3⟩
    have sz3 := hb3.size
    try simp at sz3
    have k3 : Below w2.heap.size w2 w3 := Below.trans (by go_grown) (hb3.mono (by (first | (simp; done) | (simp; omega))))
    have h0w3 : Below w.heap.size w w3 := h0w2.trans (k3.mono h0w2.size)
    replace Ci0 := keepC k3 (by omega) Ci0
    replace Ci1 := keepC k3 (by omega) Ci1
    have tCi : w.heap.size < w3.heap.size := by omega
    replace Cj0 := keepC k3 (by omega) Cj0
    replace Cj1 := keepC k3 (by omega) Cj1
    have tCj : w.heap.size + 1 < w3.heap.size := by omega
    have Co0 : w3.cell? ⟨w2.heap.size, 0, none⟩ = some (.int .i64 2) := keepC hb3 (by (first | (simp; done) | (simp; omega))) (by simp [go_sem])
    have Co1 : w3.cell? ⟨w2.heap.size, 1, none⟩ = some (.int .i64 1) := keepC hb3 (by (first | (simp; done) | (simp; omega))) (by simp [go_sem])
    have tCo : w2.heap.size < w3.heap.size := by omega
    rw [hu, hd, he]
    go_wp2_with fail
    refine (Ratio_in (-s) (-h) _ hin).mono ?_
    rintro e w4 ⟨rfl, hb4⟩
    have sz4 := hb4.size
    try simp at sz4
    have k4 : Below w3.heap.size w3 w4 := Below.trans (by go_grown) (hb4.mono (by (first | (simp; done) | (simp; omega))))
    have h0w4 : Below w.heap.size w w4 := h0w3.trans (k4.mono h0w3.size)
    replace Ci0 := keepC k4 (by omega) Ci0
    replace Ci1 := keepC k4 (by omega) Ci1
    have tCi : w.heap.size < w4.heap.size := by omega
    replace Cj0 := keepC k4 (by omega) Cj0
    replace Cj1 := keepC k4 (by omega) Cj1
    have tCj : w.heap.size + 1 < w4.heap.size := by omega
    replace Co0 := keepC k4 (by omega) Co0
    replace Co1 := keepC k4 (by omega) Co1
    have tCo : w2.heap.size < w4.heap.size := by omega
    have Cf0 : w4.cell? ⟨w3.heap.size, 0, none⟩ = some (.int .i64 Uf) := keepC hb4 (by (first | (simp; done) | (simp; omega))) (by simp [go_sem])
    have Cf1 : w4.cell? ⟨w3.heap.size, 1, none⟩ = some (.int .i64 Df) := keepC hb4 (by (first | (simp; done) | (simp; omega))) (by simp [go_sem])
    have tCf : w3.heap.size < w4.heap.size := by omega
    rw [bu, bd, be]
    go_wp2_with fail
    refine (Ratio_in s' h' _ hj).mono ?_
    rintro e w5 ⟨rfl, hb5⟩
    have sz5 := hb5.size
    try simp at sz5
    have k5 : Below w4.heap.size w4 w5 := Below.trans (by go_grown) (hb5.mono (by (first | (simp; done) | (simp; omega))))
    have h0w5 : Below w.heap.size w w5 := h0w4.trans (k5.mono h0w4.size)
    replace Ci0 := keepC k5 (by omega) Ci0
    replace Ci1 := keepC k5 (by omega) Ci1
    have tCi : w.heap.size < w5.heap.size := by omega
    replace Cj0 := keepC k5 (by omega) Cj0
    replace Cj1 := keepC k5 (by omega) Cj1
    have tCj : w.heap.size + 1 < w5.heap.size := by omega
    replace Co0 := keepC k5 (by omega) Co0
    replace Co1 := keepC k5 (by omega) Co1
    have tCo : w2.heap.size < w5.heap.size := by omega
    replace Cf0 := keepC k5 (by omega) Cf0
    replace Cf1 := keepC k5 (by omega) Cf1
    have tCf : w3.heap.size < w5.heap.size := by omega
    have Cb0 : w5.cell? ⟨w4.heap.size, 0, none⟩ = some (.int .i64 Df) := keepC hb5 (by (first | (simp; done) | (simp; omega))) (by simp [go_sem])
    have Cb1 : w5.cell? ⟨w4.heap.size, 1, none⟩ = some (.int .i64 Uf) := keepC hb5 (by (first | (simp; done) | (simp; omega))) (by simp [go_sem])
    have tCb : w4.heap.size < w5.heap.size := by omega
    rw [gu, gd, hg]
    go_wp2_with fail
    refine (Sum_any s h s' h' _).mono ?_
    rintro e w6 ⟨rfl, hb6⟩
    have sz6 := hb6.size
    try simp at sz6
    have k6 : Below w5.heap.size w5 w6 := Below.trans (by go_grown) (hb6.mono (by (first | (simp; done) | (simp; omega))))
    have h0w6 : Below w.heap.size w w6 := h0w5.trans (k6.mono h0w5.size)
    replace Ci0 := keepC k6 (by omega) Ci0
    replace Ci1 := keepC k6 (by omega) Ci1
    have tCi : w.heap.size < w6.heap.size := by omega
    replace Cj0 := keepC k6 (by omega) Cj0
    replace Cj1 := keepC k6 (by omega) Cj1
    have tCj : w.heap.size + 1 < w6.heap.size := by omega
    replace Co0 := keepC k6 (by omega) Co0
    replace Co1 := keepC k6 (by omega) Co1
    have tCo : w2.heap.size < w6.heap.size := by omega
    replace Cf0 := keepC k6 (by omega) Cf0
    replace Cf1 := keepC k6 (by omega) Cf1
    have tCf : w3.heap.size < w6.heap.size := by omega
    replace Cb0 := keepC k6 (by omega) Cb0
    replace Cb1 := keepC k6 (by omega) Cb1
    have tCb : w4.heap.size < w6.heap.size := by omega
    have Cg0 : w6.cell? ⟨w5.heap.size, 0, none⟩ = some (.int .i64 Ug) := keepC hb6 (by (first | (simp; done) | (simp; omega))) (by simp [go_sem])
    have Cg1 : w6.cell? ⟨w5.heap.size, 1, none⟩ = some (.int .i64 Dg) := keepC hb6 (by (first | (simp; done) | (simp; omega))) (by simp [go_sem])
    have tCg : w5.heap.size < w6.heap.size := by omega
    rw [q1, q2, q3]
    go_wp2_with fail
    go_ret
    exact ⟨rfl, Below.trans h0w6 (Below.mono (by go_grown) h0w6.size)⟩
  have q1 := Ytdjdnjaijpafgac.M.ss_yes hk
  have q2 := Ytdjdnjaijpafgac.M.sh_yes hk
  have q3 := Ytdjdnjaijpafgac.M.se_yes hk
  have hs : Ytdjdnjaijpafgac.M.inb (s + s') (h + h') = true := by
    unfold Ytdjdnjaijpafgac.M.sk at hk; simp at hk; exact hk.2
  obtain ⟨su, sd, sk⟩ := HS'
  have kk : (M.ok Uf Df && M.ok Ug Dg) = true := by rw [y3, v3]; rfl
  have b1 := M.ok_yes _ _ y3
  have b2 := M.ok_yes _ _ v3
  generalize tu : M.up (Uf * Ug) (Df * Dg) = X1 at *
  generalize td : M.dn (Uf * Ug) (Df * Dg) = X2 at *
  generalize te : M.er (Uf * Ug) (Df * Dg) = X3 at *
  go_enter Try.func3, Try.ntmps3
  go_wp2_with fail
  refine (alive_any _).mono ?_
  rintro e w1 ⟨rfl, hb1⟩
  have sz1 := hb1.size
  try simp at sz1
  have k1 : Below w.heap.size w w1 := Below.trans (by go_grown) (hb1.mono (by (first | (simp; done) | (simp; omega))))
  have h0w1 : Below w.heap.size w w1 := k1
  have Ci0 : w1.cell? ⟨w.heap.size, 0, none⟩ = some (.int .i64 s) := keepC hb1 (by (first | (simp; done) | (simp; omega))) (by simp [go_sem])
  have Ci1 : w1.cell? ⟨w.heap.size, 1, none⟩ = some (.int .i64 h) := keepC hb1 (by (first | (simp; done) | (simp; omega))) (by simp [go_sem])
  have tCi : w.heap.size < w1.heap.size := by omega
  have Cj0 : w1.cell? ⟨w.heap.size + 1, 0, none⟩ = some (.int .i64 s') := keepC hb1 (by (first | (simp; done) | (simp; omega))) (by simp [go_sem])
  have Cj1 : w1.cell? ⟨w.heap.size + 1, 1, none⟩ = some (.int .i64 h') := keepC hb1 (by (first | (simp; done) | (simp; omega))) (by simp [go_sem])
  have tCj : w.heap.size + 1 < w1.heap.size := by omega
  go_wp2_with fail
  refine (Ratio_in 7 12 _ (by decide)).mono ?_
  rintro e w2 ⟨rfl, hb2⟩
  have sz2 := hb2.size
  try simp at sz2
  have k2 : Below w1.heap.size w1 w2 := Below.trans (by go_grown) (hb2.mono (by (first | (simp; done) | (simp; omega))))
  have h0w2 : Below w.heap.size w w2 := h0w1.trans (k2.mono h0w1.size)
  replace Ci0 := keepC k2 (by omega) Ci0
  replace Ci1 := keepC k2 (by omega) Ci1
  have tCi : w.heap.size < w2.heap.size := by omega
  replace Cj0 := keepC k2 (by omega) Cj0
  replace Cj1 := keepC k2 (by omega) Cj1
  have tCj : w.heap.size + 1 < w2.heap.size := by omega
  rw [HO.out.1, HO.out.2.1, HO.out.2.2]
  go_wp2_with fail
  refine (Ratio_in s h _ hi).mono ?_
  rintro e w3 ⟨rfl, hb3⟩
  have sz3 := hb3.size
  try simp at sz3
  have k3 : Below w2.heap.size w2 w3 := Below.trans (by go_grown) (hb3.mono (by (first | (simp; done) | (simp; omega))))
  have h0w3 : Below w.heap.size w w3 := h0w2.trans (k3.mono h0w2.size)
  replace Ci0 := keepC k3 (by omega) Ci0
  replace Ci1 := keepC k3 (by omega) Ci1
  have tCi : w.heap.size < w3.heap.size := by omega
  replace Cj0 := keepC k3 (by omega) Cj0
  replace Cj1 := keepC k3 (by omega) Cj1
  have tCj : w.heap.size + 1 < w3.heap.size := by omega
  have Co0 : w3.cell? ⟨w2.heap.size, 0, none⟩ = some (.int .i64 2) := keepC hb3 (by (first | (simp; done) | (simp; omega))) (by simp [go_sem])
  have Co1 : w3.cell? ⟨w2.heap.size, 1, none⟩ = some (.int .i64 1) := keepC hb3 (by (first | (simp; done) | (simp; omega))) (by simp [go_sem])
  have tCo : w2.heap.size < w3.heap.size := by omega
  rw [hu, hd, he]
  go_wp2_with fail
  refine (Ratio_in (-s) (-h) _ hin).mono ?_
  rintro e w4 ⟨rfl, hb4⟩
  have sz4 := hb4.size
  try simp at sz4
  have k4 : Below w3.heap.size w3 w4 := Below.trans (by go_grown) (hb4.mono (by (first | (simp; done) | (simp; omega))))
  have h0w4 : Below w.heap.size w w4 := h0w3.trans (k4.mono h0w3.size)
  replace Ci0 := keepC k4 (by omega) Ci0
  replace Ci1 := keepC k4 (by omega) Ci1
  have tCi : w.heap.size < w4.heap.size := by omega
  replace Cj0 := keepC k4 (by omega) Cj0
  replace Cj1 := keepC k4 (by omega) Cj1
  have tCj : w.heap.size + 1 < w4.heap.size := by omega
  replace Co0 := keepC k4 (by omega) Co0
  replace Co1 := keepC k4 (by omega) Co1
  have tCo : w2.heap.size < w4.heap.size := by omega
  have Cf0 : w4.cell? ⟨w3.heap.size, 0, none⟩ = some (.int .i64 Uf) := keepC hb4 (by (first | (simp; done) | (simp; omega))) (by simp [go_sem])
  have Cf1 : w4.cell? ⟨w3.heap.size, 1, none⟩ = some (.int .i64 Df) := keepC hb4 (by (first | (simp; done) | (simp; omega))) (by simp [go_sem])
  have tCf : w3.heap.size < w4.heap.size := by omega
  rw [bu, bd, be]
  go_wp2_with fail
  refine (Ratio_in s' h' _ hj).mono ?_
  rintro e w5 ⟨rfl, hb5⟩
  have sz5 := hb5.size
  try simp at sz5
  have k5 : Below w4.heap.size w4 w5 := Below.trans (by go_grown) (hb5.mono (by (first | (simp; done) | (simp; omega))))
  have h0w5 : Below w.heap.size w w5 := h0w4.trans (k5.mono h0w4.size)
  replace Ci0 := keepC k5 (by omega) Ci0
  replace Ci1 := keepC k5 (by omega) Ci1
  have tCi : w.heap.size < w5.heap.size := by omega
  replace Cj0 := keepC k5 (by omega) Cj0
  replace Cj1 := keepC k5 (by omega) Cj1
  have tCj : w.heap.size + 1 < w5.heap.size := by omega
  replace Co0 := keepC k5 (by omega) Co0
  replace Co1 := keepC k5 (by omega) Co1
  have tCo : w2.heap.size < w5.heap.size := by omega
  replace Cf0 := keepC k5 (by omega) Cf0
  replace Cf1 := keepC k5 (by omega) Cf1
  have tCf : w3.heap.size < w5.heap.size := by omega
  have Cb0 : w5.cell? ⟨w4.heap.size, 0, none⟩ = some (.int .i64 Df) := keepC hb5 (by (first | (simp; done) | (simp; omega))) (by simp [go_sem])
  have Cb1 : w5.cell? ⟨w4.heap.size, 1, none⟩ = some (.int .i64 Uf) := keepC hb5 (by (first | (simp; done) | (simp; omega))) (by simp [go_sem])
  have tCb : w4.heap.size < w5.heap.size := by omega
  rw [gu, gd, hg]
  go_wp2_with fail
  refine (Sum_any s h s' h' _).mono ?_
  rintro e w6 ⟨rfl, hb6⟩
  have sz6 := hb6.size
  try simp at sz6
  have k6 : Below w5.heap.size w5 w6 := Below.trans (by go_grown) (hb6.mono (by (first | (simp; done) | (simp; omega))))
  have h0w6 : Below w.heap.size w w6 := h0w5.trans (k6.mono h0w5.size)
  replace Ci0 := keepC k6 (by omega) Ci0
  replace Ci1 := keepC k6 (by omega) Ci1
  have tCi : w.heap.size < w6.heap.size := by omega
  replace Cj0 := keepC k6 (by omega) Cj0
  replace Cj1 := keepC k6 (by omega) Cj1
  have tCj : w.heap.size + 1 < w6.heap.size := by omega
  replace Co0 := keepC k6 (by omega) Co0
  replace Co1 := keepC k6 (by omega) Co1
  have tCo : w2.heap.size < w6.heap.size := by omega
  replace Cf0 := keepC k6 (by omega) Cf0
  replace Cf1 := keepC k6 (by omega) Cf1
  have tCf : w3.heap.size < w6.heap.size := by omega
  replace Cb0 := keepC k6 (by omega) Cb0
  replace Cb1 := keepC k6 (by omega) Cb1
  have tCb : w4.heap.size < w6.heap.size := by omega
  have Cg0 : w6.cell? ⟨w5.heap.size, 0, none⟩ = some (.int .i64 Ug) := keepC hb6 (by (first | (simp; done) | (simp; omega))) (by simp [go_sem])
  have Cg1 : w6.cell? ⟨w5.heap.size, 1, none⟩ = some (.int .i64 Dg) := keepC hb6 (by (first | (simp; done) | (simp; omega))) (by simp [go_sem])
  have tCg : w5.heap.size < w6.heap.size := by omega
  rw [q1, q2, q3]
  go_wp2_with fail
  refine (Ratio_in (s + s') (h + h') _ hs).mono ?_
  rintro e w7 ⟨rfl, hb7⟩
  have sz7 := hb7.size
  try simp at sz7
  have k7 : Below w6.heap.size w6 w7 := Below.trans (by go_grown) (hb7.mono (by (first | (simp; done) | (simp; omega))))
  have h0w7 : Below w.heap.size w w7 := h0w6.trans (k7.mono h0w6.size)
  replace Ci0 := keepC k7 (by omega) Ci0
  replace Ci1 := keepC k7 (by omega) Ci1
  have tCi : w.heap.size < w7.heap.size := by omega
  replace Cj0 := keepC k7 (by omega) Cj0
  replace Cj1 := keepC k7 (by omega) Cj1
  have tCj : w.heap.size + 1 < w7.heap.size := by omega
  replace Co0 := keepC k7 (by omega) Co0
  replace Co1 := keepC k7 (by omega) Co1
  have tCo : w2.heap.size < w7.heap.size := by omega
  replace Cf0 := keepC k7 (by omega) Cf0
  replace Cf1 := keepC k7 (by omega) Cf1
  have tCf : w3.heap.size < w7.heap.size := by omega
  replace Cb0 := keepC k7 (by omega) Cb0
  replace Cb1 := keepC k7 (by omega) Cb1
  have tCb : w4.heap.size < w7.heap.size := by omega
  replace Cg0 := keepC k7 (by omega) Cg0
  replace Cg1 := keepC k7 (by omega) Cg1
  have tCg : w5.heap.size < w7.heap.size := by omega
  have Ck0 : w7.cell? ⟨w6.heap.size, 0, none⟩ = some (.int .i64 (s + s')) := keepC hb7 (by (first | (simp; done) | (simp; omega))) (by simp [go_sem])
  have Ck1 : w7.cell? ⟨w6.heap.size, 1, none⟩ = some (.int .i64 (h + h')) := keepC hb7 (by (first | (simp; done) | (simp; omega))) (by simp [go_sem])
  have tCk : w6.heap.size < w7.heap.size := by omega
  rw [su, sd, sk]
  go_wp2_with fail
  refine (Times_yes Uf Df Ug Dg _ (by omega) (by omega) (by omega) (by omega) (by omega) (by omega) (by omega) (by omega) kk).mono ?_
  rintro e w8 ⟨rfl, hb8⟩
  have sz8 := hb8.size
  try simp at sz8
  have k8 : Below w7.heap.size w7 w8 := Below.trans (by go_grown) (hb8.mono (by (first | (simp; done) | (simp; omega))))
  have h0w8 : Below w.heap.size w w8 := h0w7.trans (k8.mono h0w7.size)
  replace Ci0 := keepC k8 (by omega) Ci0
  replace Ci1 := keepC k8 (by omega) Ci1
  have tCi : w.heap.size < w8.heap.size := by omega
  replace Cj0 := keepC k8 (by omega) Cj0
  replace Cj1 := keepC k8 (by omega) Cj1
  have tCj : w.heap.size + 1 < w8.heap.size := by omega
  replace Co0 := keepC k8 (by omega) Co0
  replace Co1 := keepC k8 (by omega) Co1
  have tCo : w2.heap.size < w8.heap.size := by omega
  replace Cf0 := keepC k8 (by omega) Cf0
  replace Cf1 := keepC k8 (by omega) Cf1
  have tCf : w3.heap.size < w8.heap.size := by omega
  replace Cb0 := keepC k8 (by omega) Cb0
  replace Cb1 := keepC k8 (by omega) Cb1
  have tCb : w4.heap.size < w8.heap.size := by omega
  replace Cg0 := keepC k8 (by omega) Cg0
  replace Cg1 := keepC k8 (by omega) Cg1
  have tCg : w5.heap.size < w8.heap.size := by omega
  replace Ck0 := keepC k8 (by omega) Ck0
  replace Ck1 := keepC k8 (by omega) Ck1
  have tCk : w6.heap.size < w8.heap.size := by omega
  have Ch0 : w8.cell? ⟨w7.heap.size, 0, none⟩ = some (.int .i64 X1) := keepC hb8 (by (first | (simp; done) | (simp; omega))) (by simp [go_sem])
  have Ch1 : w8.cell? ⟨w7.heap.size, 1, none⟩ = some (.int .i64 X2) := keepC hb8 (by (first | (simp; done) | (simp; omega))) (by simp [go_sem])
  have tCh : w7.heap.size < w8.heap.size := by omega
  rw [tu, td, te]
  go_wp2_with fail
  go_ret
  exact ⟨rfl, Below.trans h0w8 (Below.mono (by go_grown) h0w8.size)⟩

end Go.Proofs.Ytdjdnjaijpafgac.F
