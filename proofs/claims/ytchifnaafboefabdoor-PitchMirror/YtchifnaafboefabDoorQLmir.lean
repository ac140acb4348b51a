/- The statement PitchMirror: the walk of its text. -/
import Derived.Test.YtchifnaafboefabDoorQW6
import Derived.Test.YtchifnaafboefabDoorQMath2
namespace Go.Proofs.YtchifnaafboefabDoor
open Go.RowKit

theorem neq0 {x : Int} (h : x ≠ 0) : (x != 0) = true := by simp [h]
theorem beq0 {x : Int} (h : x ≠ 0) : (x == 0) = false := by simp [h]

set_option maxHeartbeats 4000000 in
theorem mirror_walk (l a o l' a' o' b c d s h : Int) (w : World) (ht : Tab w) :
    Calls Tryd.prog 5 #[.agg #[.int .i64 l, .int .i64 a, .int .i64 o], .agg #[.int .i64 l', .int .i64 a', .int .i64 o'], .agg #[.int .i64 b, .int .i64 c, .int .i64 d], .agg #[.int .i64 s, .int .i64 h]] w fun e w' => e = .returned (.bool true) ∧ Below w.heap.size w w' := by
  by_cases hx : M.re l a o l' a' o' = 0
  case neg =>
    have hx' := neq0 hx
    go_enter Tryd.func5, Tryd.ntmps5
    go_wp2_with fail
    refine (alive_any _ (ht.step (by go_grown))).mono ?_
    rintro e w1 ⟨rfl, hb1⟩
    have sz1 := hb1.size
    try simp at sz1
    have k1 : Below w.heap.size w w1 := Below.trans (by go_grown) (hb1.mono (by (first | (simp; done) | (simp; omega))))
    have h0w1 : Below w.heap.size w w1 := k1
    have Cp0 : w1.cell? ⟨w.heap.size, 0, none⟩ = some (.int .i64 l) := keepC hb1 (by (first | (simp; done) | (simp; omega))) (by simp [go_sem])
    have Cp1 : w1.cell? ⟨w.heap.size, 1, none⟩ = some (.int .i64 a) := keepC hb1 (by (first | (simp; done) | (simp; omega))) (by simp [go_sem])
    have Cp2 : w1.cell? ⟨w.heap.size, 2, none⟩ = some (.int .i64 o) := keepC hb1 (by (first | (simp; done) | (simp; omega))) (by simp [go_sem])
    have tCp : w.heap.size < w1.heap.size := by omega
    have Cq0 : w1.cell? ⟨w.heap.size + 1, 0, none⟩ = some (.int .i64 l') := keepC hb1 (by (first | (simp; done) | (simp; omega))) (by simp [go_sem])
    have Cq1 : w1.cell? ⟨w.heap.size + 1, 1, none⟩ = some (.int .i64 a') := keepC hb1 (by (first | (simp; done) | (simp; omega))) (by simp [go_sem])
    have Cq2 : w1.cell? ⟨w.heap.size + 1, 2, none⟩ = some (.int .i64 o') := keepC hb1 (by (first | (simp; done) | (simp; omega))) (by simp [go_sem])
    have tCq : w.heap.size + 1 < w1.heap.size := by omega
    have Cr0 : w1.cell? ⟨w.heap.size + 1 + 1, 0, none⟩ = some (.int .i64 b) := keepC hb1 (by (first | (simp; done) | (simp; omega))) (by simp [go_sem])
    have Cr1 : w1.cell? ⟨w.heap.size + 1 + 1, 1, none⟩ = some (.int .i64 c) := keepC hb1 (by (first | (simp; done) | (simp; omega))) (by simp [go_sem])
    have Cr2 : w1.cell? ⟨w.heap.size + 1 + 1, 2, none⟩ = some (.int .i64 d) := keepC hb1 (by (first | (simp; done) | (simp; omega))) (by simp [go_sem])
    have tCr : w.heap.size + 1 + 1 < w1.heap.size := by omega
    have Cv0 : w1.cell? ⟨w.heap.size + 1 + 1 + 1, 0, none⟩ = some (.int .i64 s) := keepC hb1 (by (first | (simp; done) | (simp; omega))) (by simp [go_sem])
    have Cv1 : w1.cell? ⟨w.heap.size + 1 + 1 + 1, 1, none⟩ = some (.int .i64 h) := keepC hb1 (by (first | (simp; done) | (simp; omega))) (by simp [go_sem])
    have tCv : w.heap.size + 1 + 1 + 1 < w1.heap.size := by omega
    go_wp2_with fail
    refine (Mirror_any l a o l' a' o' _ ((ht.step h0w1).step (by go_grown))).mono ?_
    rintro e w2 ⟨rfl, hb2⟩
    have sz2 := hb2.size
    try simp at sz2
    have k2 : Below w1.heap.size w1 w2 := Below.trans (by go_grown) (hb2.mono (by (first | (simp; done) | (simp; omega))))
    have h0w2 : Below w.heap.size w w2 := h0w1.trans (k2.mono h0w1.size)
    replace Cp0 := keepC k2 (by omega) Cp0
    replace Cp1 := keepC k2 (by omega) Cp1
    replace Cp2 := keepC k2 (by omega) Cp2
    have tCp : w.heap.size < w2.heap.size := by omega
    replace Cq0 := keepC k2 (by omega) Cq0
    replace Cq1 := keepC k2 (by omega) Cq1
    replace Cq2 := keepC k2 (by omega) Cq2
    have tCq : w.heap.size + 1 < w2.heap.size := by omega
    replace Cr0 := keepC k2 (by omega) Cr0
    replace Cr1 := keepC k2 (by omega) Cr1
    replace Cr2 := keepC k2 (by omega) Cr2
    have tCr : w.heap.size + 1 + 1 < w2.heap.size := by omega
    replace Cv0 := keepC k2 (by omega) Cv0
    replace Cv1 := keepC k2 (by omega) Cv1
    have tCv : w.heap.size + 1 + 1 + 1 < w2.heap.size := by omega
    go_wp2_with fail
    go_ret
    exact ⟨rfl, Below.trans h0w2 (Below.mono (by go_grown) h0w2.size)⟩
  obtain ⟨rp, rq, rx, ex1, ex2⟩ := M.mirror_ok hx
  obtain ⟨g1, g2, g3, g4⟩ := M.mirror_to rx rq rp (by rw [ex1]; omega) (by rw [ex2]; omega)
  generalize hX1 : M.rl l a o l' a' o' = x1 at *
  generalize hX2 : M.ra l a o l' a' o' = x2 at *
  generalize hX3 : M.ro l a o l' a' o' = x3 at *
  by_cases hy : M.re x1 x2 x3 b c d = 0
  case neg =>
    have hy' := beq0 hy
    by_cases hm : M.me l a o s h = 0
    case neg =>
      have hm' := neq0 hm
      have bp := M.hv_bd rp
      have bq := M.hv_bd rq
      go_enter Tryd.func5, Tryd.ntmps5
      go_wp2_with fail
      refine (alive_any _ (ht.step (by go_grown))).mono ?_
      rintro e w1 ⟨rfl, hb1⟩
      have sz1 := hb1.size
      try simp at sz1
      have k1 : Below w.heap.size w w1 := Below.trans (by go_grown) (hb1.mono (by (first | (simp; done) | (simp; omega))))
      have h0w1 : Below w.heap.size w w1 := k1
      have Cp0 : w1.cell? ⟨w.heap.size, 0, none⟩ = some (.int .i64 l) := keepC hb1 (by (first | (simp; done) | (simp; omega))) (by simp [go_sem])
      have Cp1 : w1.cell? ⟨w.heap.size, 1, none⟩ = some (.int .i64 a) := keepC hb1 (by (first | (simp; done) | (simp; omega))) (by simp [go_sem])
      have Cp2 : w1.cell? ⟨w.heap.size, 2, none⟩ = some (.int .i64 o) := keepC hb1 (by (first | (simp; done) | (simp; omega))) (by simp [go_sem])
      have tCp : w.heap.size < w1.heap.size := by omega
      have Cq0 : w1.cell? ⟨w.heap.size + 1, 0, none⟩ = some (.int .i64 l') := keepC hb1 (by (first | (simp; done) | (simp; omega))) (by simp [go_sem])
      have Cq1 : w1.cell? ⟨w.heap.size + 1, 1, none⟩ = some (.int .i64 a') := keepC hb1 (by (first | (simp; done) | (simp; omega))) (by simp [go_sem])
      have Cq2 : w1.cell? ⟨w.heap.size + 1, 2, none⟩ = some (.int .i64 o') := keepC hb1 (by (first | (simp; done) | (simp; omega))) (by simp [go_sem])
      have tCq : w.heap.size + 1 < w1.heap.size := by omega
      have Cr0 : w1.cell? ⟨w.heap.size + 1 + 1, 0, none⟩ = some (.int .i64 b) := keepC hb1 (by (first | (simp; done) | (simp; omega))) (by simp [go_sem])
      have Cr1 : w1.cell? ⟨w.heap.size + 1 + 1, 1, none⟩ = some (.int .i64 c) := keepC hb1 (by (first | (simp; done) | (simp; omega))) (by simp [go_sem])
      have Cr2 : w1.cell? ⟨w.heap.size + 1 + 1, 2, none⟩ = some (.int .i64 d) := keepC hb1 (by (first | (simp; done) | (simp; omega))) (by simp [go_sem])
      have tCr : w.heap.size + 1 + 1 < w1.heap.size := by omega
      have Cv0 : w1.cell? ⟨w.heap.size + 1 + 1 + 1, 0, none⟩ = some (.int .i64 s) := keepC hb1 (by (first | (simp; done) | (simp; omega))) (by simp [go_sem])
      have Cv1 : w1.cell? ⟨w.heap.size + 1 + 1 + 1, 1, none⟩ = some (.int .i64 h) := keepC hb1 (by (first | (simp; done) | (simp; omega))) (by simp [go_sem])
      have tCv : w.heap.size + 1 + 1 + 1 < w1.heap.size := by omega
      go_wp2_with fail
      refine (Mirror_any l a o l' a' o' _ ((ht.step h0w1).step (by go_grown))).mono ?_
      rintro e w2 ⟨rfl, hb2⟩
      have sz2 := hb2.size
      try simp at sz2
      have k2 : Below w1.heap.size w1 w2 := Below.trans (by go_grown) (hb2.mono (by (first | (simp; done) | (simp; omega))))
      have h0w2 : Below w.heap.size w w2 := h0w1.trans (k2.mono h0w1.size)
      replace Cp0 := keepC k2 (by omega) Cp0
      replace Cp1 := keepC k2 (by omega) Cp1
      replace Cp2 := keepC k2 (by omega) Cp2
      have tCp : w.heap.size < w2.heap.size := by omega
      replace Cq0 := keepC k2 (by omega) Cq0
      replace Cq1 := keepC k2 (by omega) Cq1
      replace Cq2 := keepC k2 (by omega) Cq2
      have tCq : w.heap.size + 1 < w2.heap.size := by omega
      replace Cr0 := keepC k2 (by omega) Cr0
      replace Cr1 := keepC k2 (by omega) Cr1
      replace Cr2 := keepC k2 (by omega) Cr2
      have tCr : w.heap.size + 1 + 1 < w2.heap.size := by omega
      replace Cv0 := keepC k2 (by omega) Cv0
      replace Cv1 := keepC k2 (by omega) Cv1
      have tCv : w.heap.size + 1 + 1 + 1 < w2.heap.size := by omega
      rw [hX1, hX2, hX3, hx]
      go_wp2_with fail
      refine (Mirror_any x1 x2 x3 l' a' o' _ ((ht.step h0w2).step (by go_grown))).mono ?_
      rintro e w3 ⟨rfl, hb3⟩
      have sz3 := hb3.size
      try simp at sz3
      have k3 : Below w2.heap.size w2 w3 := Below.trans (by go_grown) (hb3.mono (by (first | (simp; done) | (simp; omega))))
      have h0w3 : Below w.heap.size w w3 := h0w2.trans (k3.mono h0w2.size)
      replace Cp0 := keepC k3 (by omega) Cp0
      replace Cp1 := keepC k3 (by omega) Cp1
      replace Cp2 := keepC k3 (by omega) Cp2
      have tCp : w.heap.size < w3.heap.size := by omega
      replace Cq0 := keepC k3 (by omega) Cq0
      replace Cq1 := keepC k3 (by omega) Cq1
      replace Cq2 := keepC k3 (by omega) Cq2
      have tCq : w.heap.size + 1 < w3.heap.size := by omega
      replace Cr0 := keepC k3 (by omega) Cr0
      replace Cr1 := keepC k3 (by omega) Cr1
      replace Cr2 := keepC k3 (by omega) Cr2
      have tCr : w.heap.size + 1 + 1 < w3.heap.size := by omega
      replace Cv0 := keepC k3 (by omega) Cv0
      replace Cv1 := keepC k3 (by omega) Cv1
      have tCv : w.heap.size + 1 + 1 + 1 < w3.heap.size := by omega
      have Cx0 : w3.cell? ⟨w2.heap.size, 0, none⟩ = some (.int .i64 x1) := keepC hb3 (by (first | (simp; done) | (simp; omega))) (by simp [go_sem])
      have Cx1 : w3.cell? ⟨w2.heap.size, 1, none⟩ = some (.int .i64 x2) := keepC hb3 (by (first | (simp; done) | (simp; omega))) (by simp [go_sem])
      have Cx2 : w3.cell? ⟨w2.heap.size, 2, none⟩ = some (.int .i64 x3) := keepC hb3 (by (first | (simp; done) | (simp; omega))) (by simp [go_sem])
      have tCx : w2.heap.size < w3.heap.size := by omega
      rw [g1, g2, g3, g4]
      go_wp2_with fail
      refine (Mirror_any x1 x2 x3 b c d _ ((ht.step h0w3).step (by go_grown))).mono ?_
      rintro e w4 ⟨rfl, hb4⟩
      have sz4 := hb4.size
      try simp at sz4
      have k4 : Below w3.heap.size w3 w4 := Below.trans (by go_grown) (hb4.mono (by (first | (simp; done) | (simp; omega))))
      have h0w4 : Below w.heap.size w w4 := h0w3.trans (k4.mono h0w3.size)
      replace Cp0 := keepC k4 (by omega) Cp0
      replace Cp1 := keepC k4 (by omega) Cp1
      replace Cp2 := keepC k4 (by omega) Cp2
      have tCp : w.heap.size < w4.heap.size := by omega
      replace Cq0 := keepC k4 (by omega) Cq0
      replace Cq1 := keepC k4 (by omega) Cq1
      replace Cq2 := keepC k4 (by omega) Cq2
      have tCq : w.heap.size + 1 < w4.heap.size := by omega
      replace Cr0 := keepC k4 (by omega) Cr0
      replace Cr1 := keepC k4 (by omega) Cr1
      replace Cr2 := keepC k4 (by omega) Cr2
      have tCr : w.heap.size + 1 + 1 < w4.heap.size := by omega
      replace Cv0 := keepC k4 (by omega) Cv0
      replace Cv1 := keepC k4 (by omega) Cv1
      have tCv : w.heap.size + 1 + 1 + 1 < w4.heap.size := by omega
      replace Cx0 := keepC k4 (by omega) Cx0
      replace Cx1 := keepC k4 (by omega) Cx1
      replace Cx2 := keepC k4 (by omega) Cx2
      have tCx : w2.heap.size < w4.heap.size := by omega
      have Ck0 : w4.cell? ⟨w3.heap.size, 0, none⟩ = some (.int .i64 l) := keepC hb4 (by (first | (simp; done) | (simp; omega))) (by simp [go_sem])
      have Ck1 : w4.cell? ⟨w3.heap.size, 1, none⟩ = some (.int .i64 a) := keepC hb4 (by (first | (simp; done) | (simp; omega))) (by simp [go_sem])
      have Ck2 : w4.cell? ⟨w3.heap.size, 2, none⟩ = some (.int .i64 o) := keepC hb4 (by (first | (simp; done) | (simp; omega))) (by simp [go_sem])
      have tCk : w3.heap.size < w4.heap.size := by omega
      go_wp2_with fail
      refine (Between_any l' a' o' b c d _ ((ht.step h0w4).step (by go_grown))).mono ?_
      rintro e w5 ⟨rfl, hb5⟩
      have sz5 := hb5.size
      try simp at sz5
      have k5 : Below w4.heap.size w4 w5 := Below.trans (by go_grown) (hb5.mono (by (first | (simp; done) | (simp; omega))))
      have h0w5 : Below w.heap.size w w5 := h0w4.trans (k5.mono h0w4.size)
      replace Cp0 := keepC k5 (by omega) Cp0
      replace Cp1 := keepC k5 (by omega) Cp1
      replace Cp2 := keepC k5 (by omega) Cp2
      have tCp : w.heap.size < w5.heap.size := by omega
      replace Cq0 := keepC k5 (by omega) Cq0
      replace Cq1 := keepC k5 (by omega) Cq1
      replace Cq2 := keepC k5 (by omega) Cq2
      have tCq : w.heap.size + 1 < w5.heap.size := by omega
      replace Cr0 := keepC k5 (by omega) Cr0
      replace Cr1 := keepC k5 (by omega) Cr1
      replace Cr2 := keepC k5 (by omega) Cr2
      have tCr : w.heap.size + 1 + 1 < w5.heap.size := by omega
      replace Cv0 := keepC k5 (by omega) Cv0
      replace Cv1 := keepC k5 (by omega) Cv1
      have tCv : w.heap.size + 1 + 1 + 1 < w5.heap.size := by omega
      replace Cx0 := keepC k5 (by omega) Cx0
      replace Cx1 := keepC k5 (by omega) Cx1
      replace Cx2 := keepC k5 (by omega) Cx2
      have tCx : w2.heap.size < w5.heap.size := by omega
      replace Ck0 := keepC k5 (by omega) Ck0
      replace Ck1 := keepC k5 (by omega) Ck1
      replace Ck2 := keepC k5 (by omega) Ck2
      have tCk : w3.heap.size < w5.heap.size := by omega
      have Cy0 : w5.cell? ⟨w4.heap.size, 0, none⟩ = some (.int .i64 (M.rl x1 x2 x3 b c d)) := keepC hb5 (by (first | (simp; done) | (simp; omega))) (by simp [go_sem])
      have Cy1 : w5.cell? ⟨w4.heap.size, 1, none⟩ = some (.int .i64 (M.ra x1 x2 x3 b c d)) := keepC hb5 (by (first | (simp; done) | (simp; omega))) (by simp [go_sem])
      have Cy2 : w5.cell? ⟨w4.heap.size, 2, none⟩ = some (.int .i64 (M.ro x1 x2 x3 b c d)) := keepC hb5 (by (first | (simp; done) | (simp; omega))) (by simp [go_sem])
      have tCy : w4.heap.size < w5.heap.size := by omega
      go_wp2_with fail
      refine (Move_any l a o s h _ ((ht.step h0w5).step (by go_grown))).mono ?_
      rintro e w6 ⟨rfl, hb6⟩
      have sz6 := hb6.size
      try simp at sz6
      have k6 : Below w5.heap.size w5 w6 := Below.trans (by go_grown) (hb6.mono (by (first | (simp; done) | (simp; omega))))
      have h0w6 : Below w.heap.size w w6 := h0w5.trans (k6.mono h0w5.size)
      replace Cp0 := keepC k6 (by omega) Cp0
      replace Cp1 := keepC k6 (by omega) Cp1
      replace Cp2 := keepC k6 (by omega) Cp2
      have tCp : w.heap.size < w6.heap.size := by omega
      replace Cq0 := keepC k6 (by omega) Cq0
      replace Cq1 := keepC k6 (by omega) Cq1
      replace Cq2 := keepC k6 (by omega) Cq2
      have tCq : w.heap.size + 1 < w6.heap.size := by omega
      replace Cr0 := keepC k6 (by omega) Cr0
      replace Cr1 := keepC k6 (by omega) Cr1
      replace Cr2 := keepC k6 (by omega) Cr2
      have tCr : w.heap.size + 1 + 1 < w6.heap.size := by omega
      replace Cv0 := keepC k6 (by omega) Cv0
      replace Cv1 := keepC k6 (by omega) Cv1
      have tCv : w.heap.size + 1 + 1 + 1 < w6.heap.size := by omega
      replace Cx0 := keepC k6 (by omega) Cx0
      replace Cx1 := keepC k6 (by omega) Cx1
      replace Cx2 := keepC k6 (by omega) Cx2
      have tCx : w2.heap.size < w6.heap.size := by omega
      replace Ck0 := keepC k6 (by omega) Ck0
      replace Ck1 := keepC k6 (by omega) Ck1
      replace Ck2 := keepC k6 (by omega) Ck2
      have tCk : w3.heap.size < w6.heap.size := by omega
      replace Cy0 := keepC k6 (by omega) Cy0
      replace Cy1 := keepC k6 (by omega) Cy1
      replace Cy2 := keepC k6 (by omega) Cy2
      have tCy : w4.heap.size < w6.heap.size := by omega
      have Ce0 : w6.cell? ⟨w5.heap.size, 0, none⟩ = some (.int .i64 (M.bs l' a' o' b c d)) := keepC hb6 (by (first | (simp; done) | (simp; omega))) (by simp [go_sem])
      have Ce1 : w6.cell? ⟨w5.heap.size, 1, none⟩ = some (.int .i64 (M.bh l' a' o' b c d)) := keepC hb6 (by (first | (simp; done) | (simp; omega))) (by simp [go_sem])
      have tCe : w5.heap.size < w6.heap.size := by omega
      go_wp2_with fail
      go_ret
      exact ⟨rfl, Below.trans h0w6 (Below.mono (by go_grown) h0w6.size)⟩
    obtain ⟨_, hin, rm, em1, em2⟩ := M.move_ok hm
    have hin' := M.inb_yes hin
    generalize hM1 : M.ml l a o s h = m1 at *
    generalize hM2 : M.ma l a o s h = m2 at *
    generalize hM3 : M.mo l a o s h = m3 at *
    by_cases hn : M.re m1 m2 m3 l' a' o' = 0
    case neg =>
      have hn' := neq0 hn
      have bp := M.hv_bd rp
      have bq := M.hv_bd rq
      go_enter Tryd.func5, Tryd.ntmps5
      go_wp2_with fail
      refine (alive_any _ (ht.step (by go_grown))).mono ?_
      rintro e w1 ⟨rfl, hb1⟩
      have sz1 := hb1.size
      try simp at sz1
      have k1 : Below w.heap.size w w1 := Below.trans (by go_grown) (hb1.mono (by (first | (simp; done) | (simp; omega))))
      have h0w1 : Below w.heap.size w w1 := k1
      have Cp0 : w1.cell? ⟨w.heap.size, 0, none⟩ = some (.int .i64 l) := keepC hb1 (by (first | (simp; done) | (simp; omega))) (by simp [go_sem])
      have Cp1 : w1.cell? ⟨w.heap.size, 1, none⟩ = some (.int .i64 a) := keepC hb1 (by (first | (simp; done) | (simp; omega))) (by simp [go_sem])
      have Cp2 : w1.cell? ⟨w.heap.size, 2, none⟩ = some (.int .i64 o) := keepC hb1 (by (first | (simp; done) | (simp; omega))) (by simp [go_sem])
      have tCp : w.heap.size < w1.heap.size := by omega
      have Cq0 : w1.cell? ⟨w.heap.size + 1, 0, none⟩ = some (.int .i64 l') := keepC hb1 (by (first | (simp; done) | (simp; omega))) (by simp [go_sem])
      have Cq1 : w1.cell? ⟨w.heap.size + 1, 1, none⟩ = some (.int .i64 a') := keepC hb1 (by (first | (simp; done) | (simp; omega))) (by simp [go_sem])
      have Cq2 : w1.cell? ⟨w.heap.size + 1, 2, none⟩ = some (.int .i64 o') := keepC hb1 (by (first | (simp; done) | (simp; omega))) (by simp [go_sem])
      have tCq : w.heap.size + 1 < w1.heap.size := by omega
      have Cr0 : w1.cell? ⟨w.heap.size + 1 + 1, 0, none⟩ = some (.int .i64 b) := keepC hb1 (by (first | (simp; done) | (simp; omega))) (by simp [go_sem])
      have Cr1 : w1.cell? ⟨w.heap.size + 1 + 1, 1, none⟩ = some (.int .i64 c) := keepC hb1 (by (first | (simp; done) | (simp; omega))) (by simp [go_sem])
      have Cr2 : w1.cell? ⟨w.heap.size + 1 + 1, 2, none⟩ = some (.int .i64 d) := keepC hb1 (by (first | (simp; done) | (simp; omega))) (by simp [go_sem])
      have tCr : w.heap.size + 1 + 1 < w1.heap.size := by omega
      have Cv0 : w1.cell? ⟨w.heap.size + 1 + 1 + 1, 0, none⟩ = some (.int .i64 s) := keepC hb1 (by (first | (simp; done) | (simp; omega))) (by simp [go_sem])
      have Cv1 : w1.cell? ⟨w.heap.size + 1 + 1 + 1, 1, none⟩ = some (.int .i64 h) := keepC hb1 (by (first | (simp; done) | (simp; omega))) (by simp [go_sem])
      have tCv : w.heap.size + 1 + 1 + 1 < w1.heap.size := by omega
      go_wp2_with fail
      refine (Mirror_any l a o l' a' o' _ ((ht.step h0w1).step (by go_grown))).mono ?_
      rintro e w2 ⟨rfl, hb2⟩
      have sz2 := hb2.size
      try simp at sz2
      have k2 : Below w1.heap.size w1 w2 := Below.trans (by go_grown) (hb2.mono (by (first | (simp; done) | (simp; omega))))
      have h0w2 : Below w.heap.size w w2 := h0w1.trans (k2.mono h0w1.size)
      replace Cp0 := keepC k2 (by omega) Cp0
      replace Cp1 := keepC k2 (by omega) Cp1
      replace Cp2 := keepC k2 (by omega) Cp2
      have tCp : w.heap.size < w2.heap.size := by omega
      replace Cq0 := keepC k2 (by omega) Cq0
      replace Cq1 := keepC k2 (by omega) Cq1
      replace Cq2 := keepC k2 (by omega) Cq2
      have tCq : w.heap.size + 1 < w2.heap.size := by omega
      replace Cr0 := keepC k2 (by omega) Cr0
      replace Cr1 := keepC k2 (by omega) Cr1
      replace Cr2 := keepC k2 (by omega) Cr2
      have tCr : w.heap.size + 1 + 1 < w2.heap.size := by omega
      replace Cv0 := keepC k2 (by omega) Cv0
      replace Cv1 := keepC k2 (by omega) Cv1
      have tCv : w.heap.size + 1 + 1 + 1 < w2.heap.size := by omega
      rw [hX1, hX2, hX3, hx]
      go_wp2_with fail
      refine (Mirror_any x1 x2 x3 l' a' o' _ ((ht.step h0w2).step (by go_grown))).mono ?_
      rintro e w3 ⟨rfl, hb3⟩
      have sz3 := hb3.size
      try simp at sz3
      have k3 : Below w2.heap.size w2 w3 := Below.trans (by go_grown) (hb3.mono (by (first | (simp; done) | (simp; omega))))
      have h0w3 : Below w.heap.size w w3 := h0w2.trans (k3.mono h0w2.size)
      replace Cp0 := keepC k3 (by omega) Cp0
      replace Cp1 := keepC k3 (by omega) Cp1
      replace Cp2 := keepC k3 (by omega) Cp2
      have tCp : w.heap.size < w3.heap.size := by omega
      replace Cq0 := keepC k3 (by omega) Cq0
      replace Cq1 := keepC k3 (by omega) Cq1
      replace Cq2 := keepC k3 (by omega) Cq2
      have tCq : w.heap.size + 1 < w3.heap.size := by omega
      replace Cr0 := keepC k3 (by omega) Cr0
      replace Cr1 := keepC k3 (by omega) Cr1
      replace Cr2 := keepC k3 (by omega) Cr2
      have tCr : w.heap.size + 1 + 1 < w3.heap.size := by omega
      replace Cv0 := keepC k3 (by omega) Cv0
      replace Cv1 := keepC k3 (by omega) Cv1
      have tCv : w.heap.size + 1 + 1 + 1 < w3.heap.size := by omega
      have Cx0 : w3.cell? ⟨w2.heap.size, 0, none⟩ = some (.int .i64 x1) := keepC hb3 (by (first | (simp; done) | (simp; omega))) (by simp [go_sem])
      have Cx1 : w3.cell? ⟨w2.heap.size, 1, none⟩ = some (.int .i64 x2) := keepC hb3 (by (first | (simp; done) | (simp; omega))) (by simp [go_sem])
      have Cx2 : w3.cell? ⟨w2.heap.size, 2, none⟩ = some (.int .i64 x3) := keepC hb3 (by (first | (simp; done) | (simp; omega))) (by simp [go_sem])
      have tCx : w2.heap.size < w3.heap.size := by omega
      rw [g1, g2, g3, g4]
      go_wp2_with fail
      refine (Mirror_any x1 x2 x3 b c d _ ((ht.step h0w3).step (by go_grown))).mono ?_
      rintro e w4 ⟨rfl, hb4⟩
      have sz4 := hb4.size
      try simp at sz4
      have k4 : Below w3.heap.size w3 w4 := Below.trans (by go_grown) (hb4.mono (by (first | (simp; done) | (simp; omega))))
      have h0w4 : Below w.heap.size w w4 := h0w3.trans (k4.mono h0w3.size)
      replace Cp0 := keepC k4 (by omega) Cp0
      replace Cp1 := keepC k4 (by omega) Cp1
      replace Cp2 := keepC k4 (by omega) Cp2
      have tCp : w.heap.size < w4.heap.size := by omega
      replace Cq0 := keepC k4 (by omega) Cq0
      replace Cq1 := keepC k4 (by omega) Cq1
      replace Cq2 := keepC k4 (by omega) Cq2
      have tCq : w.heap.size + 1 < w4.heap.size := by omega
      replace Cr0 := keepC k4 (by omega) Cr0
      replace Cr1 := keepC k4 (by omega) Cr1
      replace Cr2 := keepC k4 (by omega) Cr2
      have tCr : w.heap.size + 1 + 1 < w4.heap.size := by omega
      replace Cv0 := keepC k4 (by omega) Cv0
      replace Cv1 := keepC k4 (by omega) Cv1
      have tCv : w.heap.size + 1 + 1 + 1 < w4.heap.size := by omega
      replace Cx0 := keepC k4 (by omega) Cx0
      replace Cx1 := keepC k4 (by omega) Cx1
      replace Cx2 := keepC k4 (by omega) Cx2
      have tCx : w2.heap.size < w4.heap.size := by omega
      have Ck0 : w4.cell? ⟨w3.heap.size, 0, none⟩ = some (.int .i64 l) := keepC hb4 (by (first | (simp; done) | (simp; omega))) (by simp [go_sem])
      have Ck1 : w4.cell? ⟨w3.heap.size, 1, none⟩ = some (.int .i64 a) := keepC hb4 (by (first | (simp; done) | (simp; omega))) (by simp [go_sem])
      have Ck2 : w4.cell? ⟨w3.heap.size, 2, none⟩ = some (.int .i64 o) := keepC hb4 (by (first | (simp; done) | (simp; omega))) (by simp [go_sem])
      have tCk : w3.heap.size < w4.heap.size := by omega
      go_wp2_with fail
      refine (Between_any l' a' o' b c d _ ((ht.step h0w4).step (by go_grown))).mono ?_
      rintro e w5 ⟨rfl, hb5⟩
      have sz5 := hb5.size
      try simp at sz5
      have k5 : Below w4.heap.size w4 w5 := Below.trans (by go_grown) (hb5.mono (by (first | (simp; done) | (simp; omega))))
      have h0w5 : Below w.heap.size w w5 := h0w4.trans (k5.mono h0w4.size)
      replace Cp0 := keepC k5 (by omega) Cp0
      replace Cp1 := keepC k5 (by omega) Cp1
      replace Cp2 := keepC k5 (by omega) Cp2
      have tCp : w.heap.size < w5.heap.size := by omega
      replace Cq0 := keepC k5 (by omega) Cq0
      replace Cq1 := keepC k5 (by omega) Cq1
      replace Cq2 := keepC k5 (by omega) Cq2
      have tCq : w.heap.size + 1 < w5.heap.size := by omega
      replace Cr0 := keepC k5 (by omega) Cr0
      replace Cr1 := keepC k5 (by omega) Cr1
      replace Cr2 := keepC k5 (by omega) Cr2
      have tCr : w.heap.size + 1 + 1 < w5.heap.size := by omega
      replace Cv0 := keepC k5 (by omega) Cv0
      replace Cv1 := keepC k5 (by omega) Cv1
      have tCv : w.heap.size + 1 + 1 + 1 < w5.heap.size := by omega
      replace Cx0 := keepC k5 (by omega) Cx0
      replace Cx1 := keepC k5 (by omega) Cx1
      replace Cx2 := keepC k5 (by omega) Cx2
      have tCx : w2.heap.size < w5.heap.size := by omega
      replace Ck0 := keepC k5 (by omega) Ck0
      replace Ck1 := keepC k5 (by omega) Ck1
      replace Ck2 := keepC k5 (by omega) Ck2
      have tCk : w3.heap.size < w5.heap.size := by omega
      have Cy0 : w5.cell? ⟨w4.heap.size, 0, none⟩ = some (.int .i64 (M.rl x1 x2 x3 b c d)) := keepC hb5 (by (first | (simp; done) | (simp; omega))) (by simp [go_sem])
      have Cy1 : w5.cell? ⟨w4.heap.size, 1, none⟩ = some (.int .i64 (M.ra x1 x2 x3 b c d)) := keepC hb5 (by (first | (simp; done) | (simp; omega))) (by simp [go_sem])
      have Cy2 : w5.cell? ⟨w4.heap.size, 2, none⟩ = some (.int .i64 (M.ro x1 x2 x3 b c d)) := keepC hb5 (by (first | (simp; done) | (simp; omega))) (by simp [go_sem])
      have tCy : w4.heap.size < w5.heap.size := by omega
      go_wp2_with fail
      refine (Move_any l a o s h _ ((ht.step h0w5).step (by go_grown))).mono ?_
      rintro e w6 ⟨rfl, hb6⟩
      have sz6 := hb6.size
      try simp at sz6
      have k6 : Below w5.heap.size w5 w6 := Below.trans (by go_grown) (hb6.mono (by (first | (simp; done) | (simp; omega))))
      have h0w6 : Below w.heap.size w w6 := h0w5.trans (k6.mono h0w5.size)
      replace Cp0 := keepC k6 (by omega) Cp0
      replace Cp1 := keepC k6 (by omega) Cp1
      replace Cp2 := keepC k6 (by omega) Cp2
      have tCp : w.heap.size < w6.heap.size := by omega
      replace Cq0 := keepC k6 (by omega) Cq0
      replace Cq1 := keepC k6 (by omega) Cq1
      replace Cq2 := keepC k6 (by omega) Cq2
      have tCq : w.heap.size + 1 < w6.heap.size := by omega
      replace Cr0 := keepC k6 (by omega) Cr0
      replace Cr1 := keepC k6 (by omega) Cr1
      replace Cr2 := keepC k6 (by omega) Cr2
      have tCr : w.heap.size + 1 + 1 < w6.heap.size := by omega
      replace Cv0 := keepC k6 (by omega) Cv0
      replace Cv1 := keepC k6 (by omega) Cv1
      have tCv : w.heap.size + 1 + 1 + 1 < w6.heap.size := by omega
      replace Cx0 := keepC k6 (by omega) Cx0
      replace Cx1 := keepC k6 (by omega) Cx1
      replace Cx2 := keepC k6 (by omega) Cx2
      have tCx : w2.heap.size < w6.heap.size := by omega
      replace Ck0 := keepC k6 (by omega) Ck0
      replace Ck1 := keepC k6 (by omega) Ck1
      replace Ck2 := keepC k6 (by omega) Ck2
      have tCk : w3.heap.size < w6.heap.size := by omega
      replace Cy0 := keepC k6 (by omega) Cy0
      replace Cy1 := keepC k6 (by omega) Cy1
      replace Cy2 := keepC k6 (by omega) Cy2
      have tCy : w4.heap.size < w6.heap.size := by omega
      have Ce0 : w6.cell? ⟨w5.heap.size, 0, none⟩ = some (.int .i64 (M.bs l' a' o' b c d)) := keepC hb6 (by (first | (simp; done) | (simp; omega))) (by simp [go_sem])
      have Ce1 : w6.cell? ⟨w5.heap.size, 1, none⟩ = some (.int .i64 (M.bh l' a' o' b c d)) := keepC hb6 (by (first | (simp; done) | (simp; omega))) (by simp [go_sem])
      have tCe : w5.heap.size < w6.heap.size := by omega
      rw [hm]
      rw [hM1, hM2, hM3]
      go_wp2_with fail
      refine (Mirror_any m1 m2 m3 l' a' o' _ ((ht.step h0w6).step (by go_grown))).mono ?_
      rintro e w7 ⟨rfl, hb7⟩
      have sz7 := hb7.size
      try simp at sz7
      have k7 : Below w6.heap.size w6 w7 := Below.trans (by go_grown) (hb7.mono (by (first | (simp; done) | (simp; omega))))
      have h0w7 : Below w.heap.size w w7 := h0w6.trans (k7.mono h0w6.size)
      replace Cp0 := keepC k7 (by omega) Cp0
      replace Cp1 := keepC k7 (by omega) Cp1
      replace Cp2 := keepC k7 (by omega) Cp2
      have tCp : w.heap.size < w7.heap.size := by omega
      replace Cq0 := keepC k7 (by omega) Cq0
      replace Cq1 := keepC k7 (by omega) Cq1
      replace Cq2 := keepC k7 (by omega) Cq2
      have tCq : w.heap.size + 1 < w7.heap.size := by omega
      replace Cr0 := keepC k7 (by omega) Cr0
      replace Cr1 := keepC k7 (by omega) Cr1
      replace Cr2 := keepC k7 (by omega) Cr2
      have tCr : w.heap.size + 1 + 1 < w7.heap.size := by omega
      replace Cv0 := keepC k7 (by omega) Cv0
      replace Cv1 := keepC k7 (by omega) Cv1
      have tCv : w.heap.size + 1 + 1 + 1 < w7.heap.size := by omega
      replace Cx0 := keepC k7 (by omega) Cx0
      replace Cx1 := keepC k7 (by omega) Cx1
      replace Cx2 := keepC k7 (by omega) Cx2
      have tCx : w2.heap.size < w7.heap.size := by omega
      replace Ck0 := keepC k7 (by omega) Ck0
      replace Ck1 := keepC k7 (by omega) Ck1
      replace Ck2 := keepC k7 (by omega) Ck2
      have tCk : w3.heap.size < w7.heap.size := by omega
      replace Cy0 := keepC k7 (by omega) Cy0
      replace Cy1 := keepC k7 (by omega) Cy1
      replace Cy2 := keepC k7 (by omega) Cy2
      have tCy : w4.heap.size < w7.heap.size := by omega
      replace Ce0 := keepC k7 (by omega) Ce0
      replace Ce1 := keepC k7 (by omega) Ce1
      have tCe : w5.heap.size < w7.heap.size := by omega
      have Cm0 : w7.cell? ⟨w6.heap.size, 0, none⟩ = some (.int .i64 m1) := keepC hb7 (by (first | (simp; done) | (simp; omega))) (by simp [go_sem])
      have Cm1 : w7.cell? ⟨w6.heap.size, 1, none⟩ = some (.int .i64 m2) := keepC hb7 (by (first | (simp; done) | (simp; omega))) (by simp [go_sem])
      have Cm2 : w7.cell? ⟨w6.heap.size, 2, none⟩ = some (.int .i64 m3) := keepC hb7 (by (first | (simp; done) | (simp; omega))) (by simp [go_sem])
      have tCm : w6.heap.size < w7.heap.size := by omega
      go_wp2_with fail
      refine (Move_any x1 x2 x3 (-s) (-h) _ ((ht.step h0w7).step (by go_grown))).mono ?_
      rintro e w8 ⟨rfl, hb8⟩
      have sz8 := hb8.size
      try simp at sz8
      have k8 : Below w7.heap.size w7 w8 := Below.trans (by go_grown) (hb8.mono (by (first | (simp; done) | (simp; omega))))
      have h0w8 : Below w.heap.size w w8 := h0w7.trans (k8.mono h0w7.size)
      replace Cp0 := keepC k8 (by omega) Cp0
      replace Cp1 := keepC k8 (by omega) Cp1
      replace Cp2 := keepC k8 (by omega) Cp2
      have tCp : w.heap.size < w8.heap.size := by omega
      replace Cq0 := keepC k8 (by omega) Cq0
      replace Cq1 := keepC k8 (by omega) Cq1
      replace Cq2 := keepC k8 (by omega) Cq2
      have tCq : w.heap.size + 1 < w8.heap.size := by omega
      replace Cr0 := keepC k8 (by omega) Cr0
      replace Cr1 := keepC k8 (by omega) Cr1
      replace Cr2 := keepC k8 (by omega) Cr2
      have tCr : w.heap.size + 1 + 1 < w8.heap.size := by omega
      replace Cv0 := keepC k8 (by omega) Cv0
      replace Cv1 := keepC k8 (by omega) Cv1
      have tCv : w.heap.size + 1 + 1 + 1 < w8.heap.size := by omega
      replace Cx0 := keepC k8 (by omega) Cx0
      replace Cx1 := keepC k8 (by omega) Cx1
      replace Cx2 := keepC k8 (by omega) Cx2
      have tCx : w2.heap.size < w8.heap.size := by omega
      replace Ck0 := keepC k8 (by omega) Ck0
      replace Ck1 := keepC k8 (by omega) Ck1
      replace Ck2 := keepC k8 (by omega) Ck2
      have tCk : w3.heap.size < w8.heap.size := by omega
      replace Cy0 := keepC k8 (by omega) Cy0
      replace Cy1 := keepC k8 (by omega) Cy1
      replace Cy2 := keepC k8 (by omega) Cy2
      have tCy : w4.heap.size < w8.heap.size := by omega
      replace Ce0 := keepC k8 (by omega) Ce0
      replace Ce1 := keepC k8 (by omega) Ce1
      have tCe : w5.heap.size < w8.heap.size := by omega
      replace Cm0 := keepC k8 (by omega) Cm0
      replace Cm1 := keepC k8 (by omega) Cm1
      replace Cm2 := keepC k8 (by omega) Cm2
      have tCm : w6.heap.size < w8.heap.size := by omega
      have Cn0 : w8.cell? ⟨w7.heap.size, 0, none⟩ = some (.int .i64 (M.rl m1 m2 m3 l' a' o')) := keepC hb8 (by (first | (simp; done) | (simp; omega))) (by simp [go_sem])
      have Cn1 : w8.cell? ⟨w7.heap.size, 1, none⟩ = some (.int .i64 (M.ra m1 m2 m3 l' a' o')) := keepC hb8 (by (first | (simp; done) | (simp; omega))) (by simp [go_sem])
      have Cn2 : w8.cell? ⟨w7.heap.size, 2, none⟩ = some (.int .i64 (M.ro m1 m2 m3 l' a' o')) := keepC hb8 (by (first | (simp; done) | (simp; omega))) (by simp [go_sem])
      have tCn : w7.heap.size < w8.heap.size := by omega
      go_wp2_with fail
      go_ret
      exact ⟨rfl, Below.trans h0w8 (Below.mono (by go_grown) h0w8.size)⟩
    obtain ⟨_, _, rn, en1, en2⟩ := M.mirror_ok hn
    by_cases hq : M.me x1 x2 x3 (-s) (-h) = 0
    case neg =>
      have hq' := neq0 hq
      have bp := M.hv_bd rp
      have bq := M.hv_bd rq
      go_enter Tryd.func5, Tryd.ntmps5
      go_wp2_with fail
      refine (alive_any _ (ht.step (by go_grown))).mono ?_
      rintro e w1 ⟨rfl, hb1⟩
      have sz1 := hb1.size
      try simp at sz1
      have k1 : Below w.heap.size w w1 := Below.trans (by go_grown) (hb1.mono (by (first | (simp; done) | (simp; omega))))
      have h0w1 : Below w.heap.size w w1 := k1
      have Cp0 : w1.cell? ⟨w.heap.size, 0, none⟩ = some (.int .i64 l) := keepC hb1 (by (first | (simp; done) | (simp; omega))) (by simp [go_sem])
      have Cp1 : w1.cell? ⟨w.heap.size, 1, none⟩ = some (.int .i64 a) := keepC hb1 (by (first | (simp; done) | (simp; omega))) (by simp [go_sem])
      have Cp2 : w1.cell? ⟨w.heap.size, 2, none⟩ = some (.int .i64 o) := keepC hb1 (by (first | (simp; done) | (simp; omega))) (by simp [go_sem])
      have tCp : w.heap.size < w1.heap.size := by omega
      have Cq0 : w1.cell? ⟨w.heap.size + 1, 0, none⟩ = some (.int .i64 l') := keepC hb1 (by (first | (simp; done) | (simp; omega))) (by simp [go_sem])
      have Cq1 : w1.cell? ⟨w.heap.size + 1, 1, none⟩ = some (.int .i64 a') := keepC hb1 (by (first | (simp; done) | (simp; omega))) (by simp [go_sem])
      have Cq2 : w1.cell? ⟨w.heap.size + 1, 2, none⟩ = some (.int .i64 o') := keepC hb1 (by (first | (simp; done) | (simp; omega))) (by simp [go_sem])
      have tCq : w.heap.size + 1 < w1.heap.size := by omega
      have Cr0 : w1.cell? ⟨w.heap.size + 1 + 1, 0, none⟩ = some (.int .i64 b) := keepC hb1 (by (first | (simp; done) | (simp; omega))) (by simp [go_sem])
      have Cr1 : w1.cell? ⟨w.heap.size + 1 + 1, 1, none⟩ = some (.int .i64 c) := keepC hb1 (by (first | (simp; done) | (simp; omega))) (by simp [go_sem])
      have Cr2 : w1.cell? ⟨w.heap.size + 1 + 1, 2, none⟩ = some (.int .i64 d) := keepC hb1 (by (first | (simp; done) | (simp; omega))) (by simp [go_sem])
      have tCr : w.heap.size + 1 + 1 < w1.heap.size := by omega
      have Cv0 : w1.cell? ⟨w.heap.size + 1 + 1 + 1, 0, none⟩ = some (.int .i64 s) := keepC hb1 (by (first | (simp; done) | (simp; omega))) (by simp [go_sem])
      have Cv1 : w1.cell? ⟨w.heap.size + 1 + 1 + 1, 1, none⟩ = some (.int .i64 h) := keepC hb1 (by (first | (simp; done) | (simp; omega))) (by simp [go_sem])
      have tCv : w.heap.size + 1 + 1 + 1 < w1.heap.size := by omega
      go_wp2_with fail
      refine (Mirror_any l a o l' a' o' _ ((ht.step h0w1).step (by go_grown))).mono ?_
      rintro e w2 ⟨rfl, hb2⟩
      have sz2 := hb2.size
      try simp at sz2
      have k2 : Below w1.heap.size w1 w2 := Below.trans (by go_grown) (hb2.mono (by (first | (simp; done) | (simp; omega))))
      have h0w2 : Below w.heap.size w w2 := h0w1.trans (k2.mono h0w1.size)
      replace Cp0 := keepC k2 (by omega) Cp0
      replace Cp1 := keepC k2 (by omega) Cp1
      replace Cp2 := keepC k2 (by omega) Cp2
      have tCp : w.heap.size < w2.heap.size := by omega
      replace Cq0 := keepC k2 (by omega) Cq0
      replace Cq1 := keepC k2 (by omega) Cq1
      replace Cq2 := keepC k2 (by omega) Cq2
      have tCq : w.heap.size + 1 < w2.heap.size := by omega
      replace Cr0 := keepC k2 (by omega) Cr0
      replace Cr1 := keepC k2 (by omega) Cr1
      replace Cr2 := keepC k2 (by omega) Cr2
      have tCr : w.heap.size + 1 + 1 < w2.heap.size := by omega
      replace Cv0 := keepC k2 (by omega) Cv0
      replace Cv1 := keepC k2 (by omega) Cv1
      have tCv : w.heap.size + 1 + 1 + 1 < w2.heap.size := by omega
      rw [hX1, hX2, hX3, hx]
      go_wp2_with fail
      refine (Mirror_any x1 x2 x3 l' a' o' _ ((ht.step h0w2).step (by go_grown))).mono ?_
      rintro e w3 ⟨rfl, hb3⟩
      have sz3 := hb3.size
      try simp at sz3
      have k3 : Below w2.heap.size w2 w3 := Below.trans (by go_grown) (hb3.mono (by (first | (simp; done) | (simp; omega))))
      have h0w3 : Below w.heap.size w w3 := h0w2.trans (k3.mono h0w2.size)
      replace Cp0 := keepC k3 (by omega) Cp0
      replace Cp1 := keepC k3 (by omega) Cp1
      replace Cp2 := keepC k3 (by omega) Cp2
      have tCp : w.heap.size < w3.heap.size := by omega
      replace Cq0 := keepC k3 (by omega) Cq0
      replace Cq1 := keepC k3 (by omega) Cq1
      replace Cq2 := keepC k3 (by omega) Cq2
      have tCq : w.heap.size + 1 < w3.heap.size := by omega
      replace Cr0 := keepC k3 (by omega) Cr0
      replace Cr1 := keepC k3 (by omega) Cr1
      replace Cr2 := keepC k3 (by omega) Cr2
      have tCr : w.heap.size + 1 + 1 < w3.heap.size := by omega
      replace Cv0 := keepC k3 (by omega) Cv0
      replace Cv1 := keepC k3 (by omega) Cv1
      have tCv : w.heap.size + 1 + 1 + 1 < w3.heap.size := by omega
      have Cx0 : w3.cell? ⟨w2.heap.size, 0, none⟩ = some (.int .i64 x1) := keepC hb3 (by (first | (simp; done) | (simp; omega))) (by simp [go_sem])
      have Cx1 : w3.cell? ⟨w2.heap.size, 1, none⟩ = some (.int .i64 x2) := keepC hb3 (by (first | (simp; done) | (simp; omega))) (by simp [go_sem])
      have Cx2 : w3.cell? ⟨w2.heap.size, 2, none⟩ = some (.int .i64 x3) := keepC hb3 (by (first | (simp; done) | (simp; omega))) (by simp [go_sem])
      have tCx : w2.heap.size < w3.heap.size := by omega
      rw [g1, g2, g3, g4]
      go_wp2_with fail
      refine (Mirror_any x1 x2 x3 b c d _ ((ht.step h0w3).step (by go_grown))).mono ?_
      rintro e w4 ⟨rfl, hb4⟩
      have sz4 := hb4.size
      try simp at sz4
      have k4 : Below w3.heap.size w3 w4 := Below.trans (by go_grown) (hb4.mono (by (first | (simp; done) | (simp; omega))))
      have h0w4 : Below w.heap.size w w4 := h0w3.trans (k4.mono h0w3.size)
      replace Cp0 := keepC k4 (by omega) Cp0
      replace Cp1 := keepC k4 (by omega) Cp1
      replace Cp2 := keepC k4 (by omega) Cp2
      have tCp : w.heap.size < w4.heap.size := by omega
      replace Cq0 := keepC k4 (by omega) Cq0
      replace Cq1 := keepC k4 (by omega) Cq1
      replace Cq2 := keepC k4 (by omega) Cq2
      have tCq : w.heap.size + 1 < w4.heap.size := by omega
      replace Cr0 := keepC k4 (by omega) Cr0
      replace Cr1 := keepC k4 (by omega) Cr1
      replace Cr2 := keepC k4 (by omega) Cr2
      have tCr : w.heap.size + 1 + 1 < w4.heap.size := by omega
      replace Cv0 := keepC k4 (by omega) Cv0
      replace Cv1 := keepC k4 (by omega) Cv1
      have tCv : w.heap.size + 1 + 1 + 1 < w4.heap.size := by omega
      replace Cx0 := keepC k4 (by omega) Cx0
      replace Cx1 := keepC k4 (by omega) Cx1
      replace Cx2 := keepC k4 (by omega) Cx2
      have tCx : w2.heap.size < w4.heap.size := by omega
      have Ck0 : w4.cell? ⟨w3.heap.size, 0, none⟩ = some (.int .i64 l) := keepC hb4 (by (first | (simp; done) | (simp; omega))) (by simp [go_sem])
      have Ck1 : w4.cell? ⟨w3.heap.size, 1, none⟩ = some (.int .i64 a) := keepC hb4 (by (first | (simp; done) | (simp; omega))) (by simp [go_sem])
      have Ck2 : w4.cell? ⟨w3.heap.size, 2, none⟩ = some (.int .i64 o) := keepC hb4 (by (first | (simp; done) | (simp; omega))) (by simp [go_sem])
      have tCk : w3.heap.size < w4.heap.size := by omega
      go_wp2_with fail
      refine (Between_any l' a' o' b c d _ ((ht.step h0w4).step (by go_grown))).mono ?_
      rintro e w5 ⟨rfl, hb5⟩
      have sz5 := hb5.size
      try simp at sz5
      have k5 : Below w4.heap.size w4 w5 := Below.trans (by go_grown) (hb5.mono (by (first | (simp; done) | (simp; omega))))
      have h0w5 : Below w.heap.size w w5 := h0w4.trans (k5.mono h0w4.size)
      replace Cp0 := keepC k5 (by omega) Cp0
      replace Cp1 := keepC k5 (by omega) Cp1
      replace Cp2 := keepC k5 (by omega) Cp2
      have tCp : w.heap.size < w5.heap.size := by omega
      replace Cq0 := keepC k5 (by omega) Cq0
      replace Cq1 := keepC k5 (by omega) Cq1
      replace Cq2 := keepC k5 (by omega) Cq2
      have tCq : w.heap.size + 1 < w5.heap.size := by omega
      replace Cr0 := keepC k5 (by omega) Cr0
      replace Cr1 := keepC k5 (by omega) Cr1
      replace Cr2 := keepC k5 (by omega) Cr2
      have tCr : w.heap.size + 1 + 1 < w5.heap.size := by omega
      replace Cv0 := keepC k5 (by omega) Cv0
      replace Cv1 := keepC k5 (by omega) Cv1
      have tCv : w.heap.size + 1 + 1 + 1 < w5.heap.size := by omega
      replace Cx0 := keepC k5 (by omega) Cx0
      replace Cx1 := keepC k5 (by omega) Cx1
      replace Cx2 := keepC k5 (by omega) Cx2
      have tCx : w2.heap.size < w5.heap.size := by omega
      replace Ck0 := keepC k5 (by omega) Ck0
      replace Ck1 := keepC k5 (by omega) Ck1
      replace Ck2 := keepC k5 (by omega) Ck2
      have tCk : w3.heap.size < w5.heap.size := by omega
      have Cy0 : w5.cell? ⟨w4.heap.size, 0, none⟩ = some (.int .i64 (M.rl x1 x2 x3 b c d)) := keepC hb5 (by (first | (simp; done) | (simp; omega))) (by simp [go_sem])
      have Cy1 : w5.cell? ⟨w4.heap.size, 1, none⟩ = some (.int .i64 (M.ra x1 x2 x3 b c d)) := keepC hb5 (by (first | (simp; done) | (simp; omega))) (by simp [go_sem])
      have Cy2 : w5.cell? ⟨w4.heap.size, 2, none⟩ = some (.int .i64 (M.ro x1 x2 x3 b c d)) := keepC hb5 (by (first | (simp; done) | (simp; omega))) (by simp [go_sem])
      have tCy : w4.heap.size < w5.heap.size := by omega
      go_wp2_with fail
      refine (Move_any l a o s h _ ((ht.step h0w5).step (by go_grown))).mono ?_
      rintro e w6 ⟨rfl, hb6⟩
      have sz6 := hb6.size
      try simp at sz6
      have k6 : Below w5.heap.size w5 w6 := Below.trans (by go_grown) (hb6.mono (by (first | (simp; done) | (simp; omega))))
      have h0w6 : Below w.heap.size w w6 := h0w5.trans (k6.mono h0w5.size)
      replace Cp0 := keepC k6 (by omega) Cp0
      replace Cp1 := keepC k6 (by omega) Cp1
      replace Cp2 := keepC k6 (by omega) Cp2
      have tCp : w.heap.size < w6.heap.size := by omega
      replace Cq0 := keepC k6 (by omega) Cq0
      replace Cq1 := keepC k6 (by omega) Cq1
      replace Cq2 := keepC k6 (by omega) Cq2
      have tCq : w.heap.size + 1 < w6.heap.size := by omega
      replace Cr0 := keepC k6 (by omega) Cr0
      replace Cr1 := keepC k6 (by omega) Cr1
      replace Cr2 := keepC k6 (by omega) Cr2
      have tCr : w.heap.size + 1 + 1 < w6.heap.size := by omega
      replace Cv0 := keepC k6 (by omega) Cv0
      replace Cv1 := keepC k6 (by omega) Cv1
      have tCv : w.heap.size + 1 + 1 + 1 < w6.heap.size := by omega
      replace Cx0 := keepC k6 (by omega) Cx0
      replace Cx1 := keepC k6 (by omega) Cx1
      replace Cx2 := keepC k6 (by omega) Cx2
      have tCx : w2.heap.size < w6.heap.size := by omega
      replace Ck0 := keepC k6 (by omega) Ck0
      replace Ck1 := keepC k6 (by omega) Ck1
      replace Ck2 := keepC k6 (by omega) Ck2
      have tCk : w3.heap.size < w6.heap.size := by omega
      replace Cy0 := keepC k6 (by omega) Cy0
      replace Cy1 := keepC k6 (by omega) Cy1
      replace Cy2 := keepC k6 (by omega) Cy2
      have tCy : w4.heap.size < w6.heap.size := by omega
      have Ce0 : w6.cell? ⟨w5.heap.size, 0, none⟩ = some (.int .i64 (M.bs l' a' o' b c d)) := keepC hb6 (by (first | (simp; done) | (simp; omega))) (by simp [go_sem])
      have Ce1 : w6.cell? ⟨w5.heap.size, 1, none⟩ = some (.int .i64 (M.bh l' a' o' b c d)) := keepC hb6 (by (first | (simp; done) | (simp; omega))) (by simp [go_sem])
      have tCe : w5.heap.size < w6.heap.size := by omega
      rw [hm]
      rw [hM1, hM2, hM3]
      go_wp2_with fail
      refine (Mirror_any m1 m2 m3 l' a' o' _ ((ht.step h0w6).step (by go_grown))).mono ?_
      rintro e w7 ⟨rfl, hb7⟩
      have sz7 := hb7.size
      try simp at sz7
      have k7 : Below w6.heap.size w6 w7 := Below.trans (by go_grown) (hb7.mono (by (first | (simp; done) | (simp; omega))))
      have h0w7 : Below w.heap.size w w7 := h0w6.trans (k7.mono h0w6.size)
      replace Cp0 := keepC k7 (by omega) Cp0
      replace Cp1 := keepC k7 (by omega) Cp1
      replace Cp2 := keepC k7 (by omega) Cp2
      have tCp : w.heap.size < w7.heap.size := by omega
      replace Cq0 := keepC k7 (by omega) Cq0
      replace Cq1 := keepC k7 (by omega) Cq1
      replace Cq2 := keepC k7 (by omega) Cq2
      have tCq : w.heap.size + 1 < w7.heap.size := by omega
      replace Cr0 := keepC k7 (by omega) Cr0
      replace Cr1 := keepC k7 (by omega) Cr1
      replace Cr2 := keepC k7 (by omega) Cr2
      have tCr : w.heap.size + 1 + 1 < w7.heap.size := by omega
      replace Cv0 := keepC k7 (by omega) Cv0
      replace Cv1 := keepC k7 (by omega) Cv1
      have tCv : w.heap.size + 1 + 1 + 1 < w7.heap.size := by omega
      replace Cx0 := keepC k7 (by omega) Cx0
      replace Cx1 := keepC k7 (by omega) Cx1
      replace Cx2 := keepC k7 (by omega) Cx2
      have tCx : w2.heap.size < w7.heap.size := by omega
      replace Ck0 := keepC k7 (by omega) Ck0
      replace Ck1 := keepC k7 (by omega) Ck1
      replace Ck2 := keepC k7 (by omega) Ck2
      have tCk : w3.heap.size < w7.heap.size := by omega
      replace Cy0 := keepC k7 (by omega) Cy0
      replace Cy1 := keepC k7 (by omega) Cy1
      replace Cy2 := keepC k7 (by omega) Cy2
      have tCy : w4.heap.size < w7.heap.size := by omega
      replace Ce0 := keepC k7 (by omega) Ce0
      replace Ce1 := keepC k7 (by omega) Ce1
      have tCe : w5.heap.size < w7.heap.size := by omega
      have Cm0 : w7.cell? ⟨w6.heap.size, 0, none⟩ = some (.int .i64 m1) := keepC hb7 (by (first | (simp; done) | (simp; omega))) (by simp [go_sem])
      have Cm1 : w7.cell? ⟨w6.heap.size, 1, none⟩ = some (.int .i64 m2) := keepC hb7 (by (first | (simp; done) | (simp; omega))) (by simp [go_sem])
      have Cm2 : w7.cell? ⟨w6.heap.size, 2, none⟩ = some (.int .i64 m3) := keepC hb7 (by (first | (simp; done) | (simp; omega))) (by simp [go_sem])
      have tCm : w6.heap.size < w7.heap.size := by omega
      go_wp2_with fail
      refine (Move_any x1 x2 x3 (-s) (-h) _ ((ht.step h0w7).step (by go_grown))).mono ?_
      rintro e w8 ⟨rfl, hb8⟩
      have sz8 := hb8.size
      try simp at sz8
      have k8 : Below w7.heap.size w7 w8 := Below.trans (by go_grown) (hb8.mono (by (first | (simp; done) | (simp; omega))))
      have h0w8 : Below w.heap.size w w8 := h0w7.trans (k8.mono h0w7.size)
      replace Cp0 := keepC k8 (by omega) Cp0
      replace Cp1 := keepC k8 (by omega) Cp1
      replace Cp2 := keepC k8 (by omega) Cp2
      have tCp : w.heap.size < w8.heap.size := by omega
      replace Cq0 := keepC k8 (by omega) Cq0
      replace Cq1 := keepC k8 (by omega) Cq1
      replace Cq2 := keepC k8 (by omega) Cq2
      have tCq : w.heap.size + 1 < w8.heap.size := by omega
      replace Cr0 := keepC k8 (by omega) Cr0
      replace Cr1 := keepC k8 (by omega) Cr1
      replace Cr2 := keepC k8 (by omega) Cr2
      have tCr : w.heap.size + 1 + 1 < w8.heap.size := by omega
      replace Cv0 := keepC k8 (by omega) Cv0
      replace Cv1 := keepC k8 (by omega) Cv1
      have tCv : w.heap.size + 1 + 1 + 1 < w8.heap.size := by omega
      replace Cx0 := keepC k8 (by omega) Cx0
      replace Cx1 := keepC k8 (by omega) Cx1
      replace Cx2 := keepC k8 (by omega) Cx2
      have tCx : w2.heap.size < w8.heap.size := by omega
      replace Ck0 := keepC k8 (by omega) Ck0
      replace Ck1 := keepC k8 (by omega) Ck1
      replace Ck2 := keepC k8 (by omega) Ck2
      have tCk : w3.heap.size < w8.heap.size := by omega
      replace Cy0 := keepC k8 (by omega) Cy0
      replace Cy1 := keepC k8 (by omega) Cy1
      replace Cy2 := keepC k8 (by omega) Cy2
      have tCy : w4.heap.size < w8.heap.size := by omega
      replace Ce0 := keepC k8 (by omega) Ce0
      replace Ce1 := keepC k8 (by omega) Ce1
      have tCe : w5.heap.size < w8.heap.size := by omega
      replace Cm0 := keepC k8 (by omega) Cm0
      replace Cm1 := keepC k8 (by omega) Cm1
      replace Cm2 := keepC k8 (by omega) Cm2
      have tCm : w6.heap.size < w8.heap.size := by omega
      have Cn0 : w8.cell? ⟨w7.heap.size, 0, none⟩ = some (.int .i64 (M.rl m1 m2 m3 l' a' o')) := keepC hb8 (by (first | (simp; done) | (simp; omega))) (by simp [go_sem])
      have Cn1 : w8.cell? ⟨w7.heap.size, 1, none⟩ = some (.int .i64 (M.ra m1 m2 m3 l' a' o')) := keepC hb8 (by (first | (simp; done) | (simp; omega))) (by simp [go_sem])
      have Cn2 : w8.cell? ⟨w7.heap.size, 2, none⟩ = some (.int .i64 (M.ro m1 m2 m3 l' a' o')) := keepC hb8 (by (first | (simp; done) | (simp; omega))) (by simp [go_sem])
      have tCn : w7.heap.size < w8.heap.size := by omega
      go_wp2_with fail
      go_ret
      exact ⟨rfl, Below.trans h0w8 (Below.mono (by go_grown) h0w8.size)⟩
    obtain ⟨_, _, rO, eo1, eo2⟩ := M.move_ok hq
    obtain ⟨i1, i2, i3⟩ := M.rt_one rn rO (by omega) (by omega)
    have n1 := i1
    have n2 := i2
    have n3 := i3
    have n4 := hn
    have o1 := hq
    generalize hO1 : M.ml x1 x2 x3 (-s) (-h) = n5 at *
    generalize hO2 : M.ma x1 x2 x3 (-s) (-h) = n6 at *
    generalize hO3 : M.mo x1 x2 x3 (-s) (-h) = n7 at *
    have bp := M.hv_bd rp
    have bq := M.hv_bd rq
    go_enter Tryd.func5, Tryd.ntmps5
    go_wp2_with fail
    refine (alive_any _ (ht.step (by go_grown))).mono ?_
    rintro e w1 ⟨rfl, hb1⟩
    have sz1 := hb1.size
    try simp at sz1
    have k1 : Below w.heap.size w w1 := Below.trans (by go_grown) (hb1.mono (by (first | (simp; done) | (simp; omega))))
    have h0w1 : Below w.heap.size w w1 := k1
    have Cp0 : w1.cell? ⟨w.heap.size, 0, none⟩ = some (.int .i64 l) := keepC hb1 (by (first | (simp; done) | (simp; omega))) (by simp [go_sem])
    have Cp1 : w1.cell? ⟨w.heap.size, 1, none⟩ = some (.int .i64 a) := keepC hb1 (by (first | (simp; done) | (simp; omega))) (by simp [go_sem])
    have Cp2 : w1.cell? ⟨w.heap.size, 2, none⟩ = some (.int .i64 o) := keepC hb1 (by (first | (simp; done) | (simp; omega))) (by simp [go_sem])
    have tCp : w.heap.size < w1.heap.size := by omega
    have Cq0 : w1.cell? ⟨w.heap.size + 1, 0, none⟩ = some (.int .i64 l') := keepC hb1 (by (first | (simp; done) | (simp; omega))) (by simp [go_sem])
    have Cq1 : w1.cell? ⟨w.heap.size + 1, 1, none⟩ = some (.int .i64 a') := keepC hb1 (by (first | (simp; done) | (simp; omega))) (by simp [go_sem])
    have Cq2 : w1.cell? ⟨w.heap.size + 1, 2, none⟩ = some (.int .i64 o') := keepC hb1 (by (first | (simp; done) | (simp; omega))) (by simp [go_sem])
    have tCq : w.heap.size + 1 < w1.heap.size := by omega
    have Cr0 : w1.cell? ⟨w.heap.size + 1 + 1, 0, none⟩ = some (.int .i64 b) := keepC hb1 (by (first | (simp; done) | (simp; omega))) (by simp [go_sem])
    have Cr1 : w1.cell? ⟨w.heap.size + 1 + 1, 1, none⟩ = some (.int .i64 c) := keepC hb1 (by (first | (simp; done) | (simp; omega))) (by simp [go_sem])
    have Cr2 : w1.cell? ⟨w.heap.size + 1 + 1, 2, none⟩ = some (.int .i64 d) := keepC hb1 (by (first | (simp; done) | (simp; omega))) (by simp [go_sem])
    have tCr : w.heap.size + 1 + 1 < w1.heap.size := by omega
    have Cv0 : w1.cell? ⟨w.heap.size + 1 + 1 + 1, 0, none⟩ = some (.int .i64 s) := keepC hb1 (by (first | (simp; done) | (simp; omega))) (by simp [go_sem])
    have Cv1 : w1.cell? ⟨w.heap.size + 1 + 1 + 1, 1, none⟩ = some (.int .i64 h) := keepC hb1 (by (first | (simp; done) | (simp; omega))) (by simp [go_sem])
    have tCv : w.heap.size + 1 + 1 + 1 < w1.heap.size := by omega
    go_wp2_with fail
    refine (Mirror_any l a o l' a' o' _ ((ht.step h0w1).step (by go_grown))).mono ?_
    rintro e w2 ⟨rfl, hb2⟩
    have sz2 := hb2.size
    try simp at sz2
    have k2 : Below w1.heap.size w1 w2 := Below.trans (by go_grown) (hb2.mono (by (first | (simp; done) | (simp; omega))))
    have h0w2 : Below w.heap.size w w2 := h0w1.trans (k2.mono h0w1.size)
    replace Cp0 := keepC k2 (by omega) Cp0
    replace Cp1 := keepC k2 (by omega) Cp1
    replace Cp2 := keepC k2 (by omega) Cp2
    have tCp : w.heap.size < w2.heap.size := by omega
    replace Cq0 := keepC k2 (by omega) Cq0
    replace Cq1 := keepC k2 (by omega) Cq1
    replace Cq2 := keepC k2 (by omega) Cq2
    have tCq : w.heap.size + 1 < w2.heap.size := by omega
    replace Cr0 := keepC k2 (by omega) Cr0
    replace Cr1 := keepC k2 (by omega) Cr1
    replace Cr2 := keepC k2 (by omega) Cr2
    have tCr : w.heap.size + 1 + 1 < w2.heap.size := by omega
    replace Cv0 := keepC k2 (by omega) Cv0
    replace Cv1 := keepC k2 (by omega) Cv1
    have tCv : w.heap.size + 1 + 1 + 1 < w2.heap.size := by omega
    rw [hX1, hX2, hX3, hx]
    go_wp2_with fail
    refine (Mirror_any x1 x2 x3 l' a' o' _ ((ht.step h0w2).step (by go_grown))).mono ?_
    rintro e w3 ⟨rfl, hb3⟩
    have sz3 := hb3.size
    try simp at sz3
    have k3 : Below w2.heap.size w2 w3 := Below.trans (by go_grown) (hb3.mono (by (first | (simp; done) | (simp; omega))))
    have h0w3 : Below w.heap.size w w3 := h0w2.trans (k3.mono h0w2.size)
    replace Cp0 := keepC k3 (by omega) Cp0
    replace Cp1 := keepC k3 (by omega) Cp1
    replace Cp2 := keepC k3 (by omega) Cp2
    have tCp : w.heap.size < w3.heap.size := by omega
    replace Cq0 := keepC k3 (by omega) Cq0
    replace Cq1 := keepC k3 (by omega) Cq1
    replace Cq2 := keepC k3 (by omega) Cq2
    have tCq : w.heap.size + 1 < w3.heap.size := by omega
    replace Cr0 := keepC k3 (by omega) Cr0
    replace Cr1 := keepC k3 (by omega) Cr1
    replace Cr2 := keepC k3 (by omega) Cr2
    have tCr : w.heap.size + 1 + 1 < w3.heap.size := by omega
    replace Cv0 := keepC k3 (by omega) Cv0
    replace Cv1 := keepC k3 (by omega) Cv1
    have tCv : w.heap.size + 1 + 1 + 1 < w3.heap.size := by omega
    have Cx0 : w3.cell? ⟨w2.heap.size, 0, none⟩ = some (.int .i64 x1) := keepC hb3 (by (first | (simp; done) | (simp; omega))) (by simp [go_sem])
    have Cx1 : w3.cell? ⟨w2.heap.size, 1, none⟩ = some (.int .i64 x2) := keepC hb3 (by (first | (simp; done) | (simp; omega))) (by simp [go_sem])
    have Cx2 : w3.cell? ⟨w2.heap.size, 2, none⟩ = some (.int .i64 x3) := keepC hb3 (by (first | (simp; done) | (simp; omega))) (by simp [go_sem])
    have tCx : w2.heap.size < w3.heap.size := by omega
    rw [g1, g2, g3, g4]
    go_wp2_with fail
    refine (Mirror_any x1 x2 x3 b c d _ ((ht.step h0w3).step (by go_grown))).mono ?_
    rintro e w4 ⟨rfl, hb4⟩
    have sz4 := hb4.size
    try simp at sz4
    have k4 : Below w3.heap.size w3 w4 := Below.trans (by go_grown) (hb4.mono (by (first | (simp; done) | (simp; omega))))
    have h0w4 : Below w.heap.size w w4 := h0w3.trans (k4.mono h0w3.size)
    replace Cp0 := keepC k4 (by omega) Cp0
    replace Cp1 := keepC k4 (by omega) Cp1
    replace Cp2 := keepC k4 (by omega) Cp2
    have tCp : w.heap.size < w4.heap.size := by omega
    replace Cq0 := keepC k4 (by omega) Cq0
    replace Cq1 := keepC k4 (by omega) Cq1
    replace Cq2 := keepC k4 (by omega) Cq2
    have tCq : w.heap.size + 1 < w4.heap.size := by omega
    replace Cr0 := keepC k4 (by omega) Cr0
    replace Cr1 := keepC k4 (by omega) Cr1
    replace Cr2 := keepC k4 (by omega) Cr2
    have tCr : w.heap.size + 1 + 1 < w4.heap.size := by omega
    replace Cv0 := keepC k4 (by omega) Cv0
    replace Cv1 := keepC k4 (by omega) Cv1
    have tCv : w.heap.size + 1 + 1 + 1 < w4.heap.size := by omega
    replace Cx0 := keepC k4 (by omega) Cx0
    replace Cx1 := keepC k4 (by omega) Cx1
    replace Cx2 := keepC k4 (by omega) Cx2
    have tCx : w2.heap.size < w4.heap.size := by omega
    have Ck0 : w4.cell? ⟨w3.heap.size, 0, none⟩ = some (.int .i64 l) := keepC hb4 (by (first | (simp; done) | (simp; omega))) (by simp [go_sem])
    have Ck1 : w4.cell? ⟨w3.heap.size, 1, none⟩ = some (.int .i64 a) := keepC hb4 (by (first | (simp; done) | (simp; omega))) (by simp [go_sem])
    have Ck2 : w4.cell? ⟨w3.heap.size, 2, none⟩ = some (.int .i64 o) := keepC hb4 (by (first | (simp; done) | (simp; omega))) (by simp [go_sem])
    have tCk : w3.heap.size < w4.heap.size := by omega
    go_wp2_with fail
    refine (Between_any l' a' o' b c d _ ((ht.step h0w4).step (by go_grown))).mono ?_
    rintro e w5 ⟨rfl, hb5⟩
    have sz5 := hb5.size
    try simp at sz5
    have k5 : Below w4.heap.size w4 w5 := Below.trans (by go_grown) (hb5.mono (by (first | (simp; done) | (simp; omega))))
    have h0w5 : Below w.heap.size w w5 := h0w4.trans (k5.mono h0w4.size)
    replace Cp0 := keepC k5 (by omega) Cp0
    replace Cp1 := keepC k5 (by omega) Cp1
    replace Cp2 := keepC k5 (by omega) Cp2
    have tCp : w.heap.size < w5.heap.size := by omega
    replace Cq0 := keepC k5 (by omega) Cq0
    replace Cq1 := keepC k5 (by omega) Cq1
    replace Cq2 := keepC k5 (by omega) Cq2
    have tCq : w.heap.size + 1 < w5.heap.size := by omega
    replace Cr0 := keepC k5 (by omega) Cr0
    replace Cr1 := keepC k5 (by omega) Cr1
    replace Cr2 := keepC k5 (by omega) Cr2
    have tCr : w.heap.size + 1 + 1 < w5.heap.size := by omega
    replace Cv0 := keepC k5 (by omega) Cv0
    replace Cv1 := keepC k5 (by omega) Cv1
    have tCv : w.heap.size + 1 + 1 + 1 < w5.heap.size := by omega
    replace Cx0 := keepC k5 (by omega) Cx0
    replace Cx1 := keepC k5 (by omega) Cx1
    replace Cx2 := keepC k5 (by omega) Cx2
    have tCx : w2.heap.size < w5.heap.size := by omega
    replace Ck0 := keepC k5 (by omega) Ck0
    replace Ck1 := keepC k5 (by omega) Ck1
    replace Ck2 := keepC k5 (by omega) Ck2
    have tCk : w3.heap.size < w5.heap.size := by omega
    have Cy0 : w5.cell? ⟨w4.heap.size, 0, none⟩ = some (.int .i64 (M.rl x1 x2 x3 b c d)) := keepC hb5 (by (first | (simp; done) | (simp; omega))) (by simp [go_sem])
    have Cy1 : w5.cell? ⟨w4.heap.size, 1, none⟩ = some (.int .i64 (M.ra x1 x2 x3 b c d)) := keepC hb5 (by (first | (simp; done) | (simp; omega))) (by simp [go_sem])
    have Cy2 : w5.cell? ⟨w4.heap.size, 2, none⟩ = some (.int .i64 (M.ro x1 x2 x3 b c d)) := keepC hb5 (by (first | (simp; done) | (simp; omega))) (by simp [go_sem])
    have tCy : w4.heap.size < w5.heap.size := by omega
    go_wp2_with fail
    refine (Move_any l a o s h _ ((ht.step h0w5).step (by go_grown))).mono ?_
    rintro e w6 ⟨rfl, hb6⟩
    have sz6 := hb6.size
    try simp at sz6
    have k6 : Below w5.heap.size w5 w6 := Below.trans (by go_grown) (hb6.mono (by (first | (simp; done) | (simp; omega))))
    have h0w6 : Below w.heap.size w w6 := h0w5.trans (k6.mono h0w5.size)
    replace Cp0 := keepC k6 (by omega) Cp0
    replace Cp1 := keepC k6 (by omega) Cp1
    replace Cp2 := keepC k6 (by omega) Cp2
    have tCp : w.heap.size < w6.heap.size := by omega
    replace Cq0 := keepC k6 (by omega) Cq0
    replace Cq1 := keepC k6 (by omega) Cq1
    replace Cq2 := keepC k6 (by omega) Cq2
    have tCq : w.heap.size + 1 < w6.heap.size := by omega
    replace Cr0 := keepC k6 (by omega) Cr0
    replace Cr1 := keepC k6 (by omega) Cr1
    replace Cr2 := keepC k6 (by omega) Cr2
    have tCr : w.heap.size + 1 + 1 < w6.heap.size := by omega
    replace Cv0 := keepC k6 (by omega) Cv0
    replace Cv1 := keepC k6 (by omega) Cv1
    have tCv : w.heap.size + 1 + 1 + 1 < w6.heap.size := by omega
    replace Cx0 := keepC k6 (by omega) Cx0
    replace Cx1 := keepC k6 (by omega) Cx1
    replace Cx2 := keepC k6 (by omega) Cx2
    have tCx : w2.heap.size < w6.heap.size := by omega
    replace Ck0 := keepC k6 (by omega) Ck0
    replace Ck1 := keepC k6 (by omega) Ck1
    replace Ck2 := keepC k6 (by omega) Ck2
    have tCk : w3.heap.size < w6.heap.size := by omega
    replace Cy0 := keepC k6 (by omega) Cy0
    replace Cy1 := keepC k6 (by omega) Cy1
    replace Cy2 := keepC k6 (by omega) Cy2
    have tCy : w4.heap.size < w6.heap.size := by omega
    have Ce0 : w6.cell? ⟨w5.heap.size, 0, none⟩ = some (.int .i64 (M.bs l' a' o' b c d)) := keepC hb6 (by (first | (simp; done) | (simp; omega))) (by simp [go_sem])
    have Ce1 : w6.cell? ⟨w5.heap.size, 1, none⟩ = some (.int .i64 (M.bh l' a' o' b c d)) := keepC hb6 (by (first | (simp; done) | (simp; omega))) (by simp [go_sem])
    have tCe : w5.heap.size < w6.heap.size := by omega
    rw [hm]
    rw [hM1, hM2, hM3]
    go_wp2_with fail
    refine (Mirror_any m1 m2 m3 l' a' o' _ ((ht.step h0w6).step (by go_grown))).mono ?_
    rintro e w7 ⟨rfl, hb7⟩
    have sz7 := hb7.size
    try simp at sz7
    have k7 : Below w6.heap.size w6 w7 := Below.trans (by go_grown) (hb7.mono (by (first | (simp; done) | (simp; omega))))
    have h0w7 : Below w.heap.size w w7 := h0w6.trans (k7.mono h0w6.size)
    replace Cp0 := keepC k7 (by omega) Cp0
    replace Cp1 := keepC k7 (by omega) Cp1
    replace Cp2 := keepC k7 (by omega) Cp2
    have tCp : w.heap.size < w7.heap.size := by omega
    replace Cq0 := keepC k7 (by omega) Cq0
    replace Cq1 := keepC k7 (by omega) Cq1
    replace Cq2 := keepC k7 (by omega) Cq2
    have tCq : w.heap.size + 1 < w7.heap.size := by omega
    replace Cr0 := keepC k7 (by omega) Cr0
    replace Cr1 := keepC k7 (by omega) Cr1
    replace Cr2 := keepC k7 (by omega) Cr2
    have tCr : w.heap.size + 1 + 1 < w7.heap.size := by omega
    replace Cv0 := keepC k7 (by omega) Cv0
    replace Cv1 := keepC k7 (by omega) Cv1
    have tCv : w.heap.size + 1 + 1 + 1 < w7.heap.size := by omega
    replace Cx0 := keepC k7 (by omega) Cx0
    replace Cx1 := keepC k7 (by omega) Cx1
    replace Cx2 := keepC k7 (by omega) Cx2
    have tCx : w2.heap.size < w7.heap.size := by omega
    replace Ck0 := keepC k7 (by omega) Ck0
    replace Ck1 := keepC k7 (by omega) Ck1
    replace Ck2 := keepC k7 (by omega) Ck2
    have tCk : w3.heap.size < w7.heap.size := by omega
    replace Cy0 := keepC k7 (by omega) Cy0
    replace Cy1 := keepC k7 (by omega) Cy1
    replace Cy2 := keepC k7 (by omega) Cy2
    have tCy : w4.heap.size < w7.heap.size := by omega
    replace Ce0 := keepC k7 (by omega) Ce0
    replace Ce1 := keepC k7 (by omega) Ce1
    have tCe : w5.heap.size < w7.heap.size := by omega
    have Cm0 : w7.cell? ⟨w6.heap.size, 0, none⟩ = some (.int .i64 m1) := keepC hb7 (by (first | (simp; done) | (simp; omega))) (by simp [go_sem])
    have Cm1 : w7.cell? ⟨w6.heap.size, 1, none⟩ = some (.int .i64 m2) := keepC hb7 (by (first | (simp; done) | (simp; omega))) (by simp [go_sem])
    have Cm2 : w7.cell? ⟨w6.heap.size, 2, none⟩ = some (.int .i64 m3) := keepC hb7 (by (first | (simp; done) | (simp; omega))) (by simp [go_sem])
    have tCm : w6.heap.size < w7.heap.size := by omega
    rw [n1, n2, n3, n4]
    go_wp2_with fail
    refine (Move_any x1 x2 x3 (-s) (-h) _ ((ht.step h0w7).step (by go_grown))).mono ?_
    rintro e w8 ⟨rfl, hb8⟩
    have sz8 := hb8.size
    try simp at sz8
    have k8 : Below w7.heap.size w7 w8 := Below.trans (by go_grown) (hb8.mono (by (first | (simp; done) | (simp; omega))))
    have h0w8 : Below w.heap.size w w8 := h0w7.trans (k8.mono h0w7.size)
    replace Cp0 := keepC k8 (by omega) Cp0
    replace Cp1 := keepC k8 (by omega) Cp1
    replace Cp2 := keepC k8 (by omega) Cp2
    have tCp : w.heap.size < w8.heap.size := by omega
    replace Cq0 := keepC k8 (by omega) Cq0
    replace Cq1 := keepC k8 (by omega) Cq1
    replace Cq2 := keepC k8 (by omega) Cq2
    have tCq : w.heap.size + 1 < w8.heap.size := by omega
    replace Cr0 := keepC k8 (by omega) Cr0
    replace Cr1 := keepC k8 (by omega) Cr1
    replace Cr2 := keepC k8 (by omega) Cr2
    have tCr : w.heap.size + 1 + 1 < w8.heap.size := by omega
    replace Cv0 := keepC k8 (by omega) Cv0
    replace Cv1 := keepC k8 (by omega) Cv1
    have tCv : w.heap.size + 1 + 1 + 1 < w8.heap.size := by omega
    replace Cx0 := keepC k8 (by omega) Cx0
    replace Cx1 := keepC k8 (by omega) Cx1
    replace Cx2 := keepC k8 (by omega) Cx2
    have tCx : w2.heap.size < w8.heap.size := by omega
    replace Ck0 := keepC k8 (by omega) Ck0
    replace Ck1 := keepC k8 (by omega) Ck1
    replace Ck2 := keepC k8 (by omega) Ck2
    have tCk : w3.heap.size < w8.heap.size := by omega
    replace Cy0 := keepC k8 (by omega) Cy0
    replace Cy1 := keepC k8 (by omega) Cy1
    replace Cy2 := keepC k8 (by omega) Cy2
    have tCy : w4.heap.size < w8.heap.size := by omega
    replace Ce0 := keepC k8 (by omega) Ce0
    replace Ce1 := keepC k8 (by omega) Ce1
    have tCe : w5.heap.size < w8.heap.size := by omega
    replace Cm0 := keepC k8 (by omega) Cm0
    replace Cm1 := keepC k8 (by omega) Cm1
    replace Cm2 := keepC k8 (by omega) Cm2
    have tCm : w6.heap.size < w8.heap.size := by omega
    have Cn0 : w8.cell? ⟨w7.heap.size, 0, none⟩ = some (.int .i64 n5) := keepC hb8 (by (first | (simp; done) | (simp; omega))) (by simp [go_sem])
    have Cn1 : w8.cell? ⟨w7.heap.size, 1, none⟩ = some (.int .i64 n6) := keepC hb8 (by (first | (simp; done) | (simp; omega))) (by simp [go_sem])
    have Cn2 : w8.cell? ⟨w7.heap.size, 2, none⟩ = some (.int .i64 n7) := keepC hb8 (by (first | (simp; done) | (simp; omega))) (by simp [go_sem])
    have tCn : w7.heap.size < w8.heap.size := by omega
    rw [o1, hO1, hO2, hO3]
    go_wp2_with fail
    go_ret
    exact ⟨rfl, Below.trans h0w8 (Below.mono (by go_grown) h0w8.size)⟩
  obtain ⟨_, rr, ry, ey1, ey2⟩ := M.mirror_ok hy
  obtain ⟨be0, be1, be2⟩ := M.between_ok rq rr
  have br := M.hv_bd rr
  generalize hY1 : M.rl x1 x2 x3 b c d = y1 at *
  generalize hY2 : M.ra x1 x2 x3 b c d = y2 at *
  generalize hY3 : M.ro x1 x2 x3 b c d = y3 at *
  by_cases hz : M.me l a o (2 * (M.st b d - M.st l' o')) (2 * (M.hv b c d - M.hv l' a' o')) = 0
  case neg =>
    have hz' := beq0 hz
    by_cases hm : M.me l a o s h = 0
    case neg =>
      have hm' := neq0 hm
      have bp := M.hv_bd rp
      have bq := M.hv_bd rq
      go_enter Tryd.func5, Tryd.ntmps5
      go_wp2_with fail
      refine (alive_any _ (ht.step (by go_grown))).mono ?_
      rintro e w1 ⟨rfl, hb1⟩
      have sz1 := hb1.size
      try simp at sz1
      have k1 : Below w.heap.size w w1 := Below.trans (by go_grown) (hb1.mono (by (first | (simp; done) | (simp; omega))))
      have h0w1 : Below w.heap.size w w1 := k1
      have Cp0 : w1.cell? ⟨w.heap.size, 0, none⟩ = some (.int .i64 l) := keepC hb1 (by (first | (simp; done) | (simp; omega))) (by simp [go_sem])
      have Cp1 : w1.cell? ⟨w.heap.size, 1, none⟩ = some (.int .i64 a) := keepC hb1 (by (first | (simp; done) | (simp; omega))) (by simp [go_sem])
      have Cp2 : w1.cell? ⟨w.heap.size, 2, none⟩ = some (.int .i64 o) := keepC hb1 (by (first | (simp; done) | (simp; omega))) (by simp [go_sem])
      have tCp : w.heap.size < w1.heap.size := by omega
      have Cq0 : w1.cell? ⟨w.heap.size + 1, 0, none⟩ = some (.int .i64 l') := keepC hb1 (by (first | (simp; done) | (simp; omega))) (by simp [go_sem])
      have Cq1 : w1.cell? ⟨w.heap.size + 1, 1, none⟩ = some (.int .i64 a') := keepC hb1 (by (first | (simp; done) | (simp; omega))) (by simp [go_sem])
      have Cq2 : w1.cell? ⟨w.heap.size + 1, 2, none⟩ = some (.int .i64 o') := keepC hb1 (by (first | (simp; done) | (simp; omega))) (by simp [go_sem])
      have tCq : w.heap.size + 1 < w1.heap.size := by omega
      have Cr0 : w1.cell? ⟨w.heap.size + 1 + 1, 0, none⟩ = some (.int .i64 b) := keepC hb1 (by (first | (simp; done) | (simp; omega))) (by simp [go_sem])
      have Cr1 : w1.cell? ⟨w.heap.size + 1 + 1, 1, none⟩ = some (.int .i64 c) := keepC hb1 (by (first | (simp; done) | (simp; omega))) (by simp [go_sem])
      have Cr2 : w1.cell? ⟨w.heap.size + 1 + 1, 2, none⟩ = some (.int .i64 d) := keepC hb1 (by (first | (simp; done) | (simp; omega))) (by simp [go_sem])
      have tCr : w.heap.size + 1 + 1 < w1.heap.size := by omega
      have Cv0 : w1.cell? ⟨w.heap.size + 1 + 1 + 1, 0, none⟩ = some (.int .i64 s) := keepC hb1 (by (first | (simp; done) | (simp; omega))) (by simp [go_sem])
      have Cv1 : w1.cell? ⟨w.heap.size + 1 + 1 + 1, 1, none⟩ = some (.int .i64 h) := keepC hb1 (by (first | (simp; done) | (simp; omega))) (by simp [go_sem])
      have tCv : w.heap.size + 1 + 1 + 1 < w1.heap.size := by omega
      go_wp2_with fail
      refine (Mirror_any l a o l' a' o' _ ((ht.step h0w1).step (by go_grown))).mono ?_
      rintro e w2 ⟨rfl, hb2⟩
      have sz2 := hb2.size
      try simp at sz2
      have k2 : Below w1.heap.size w1 w2 := Below.trans (by go_grown) (hb2.mono (by (first | (simp; done) | (simp; omega))))
      have h0w2 : Below w.heap.size w w2 := h0w1.trans (k2.mono h0w1.size)
      replace Cp0 := keepC k2 (by omega) Cp0
      replace Cp1 := keepC k2 (by omega) Cp1
      replace Cp2 := keepC k2 (by omega) Cp2
      have tCp : w.heap.size < w2.heap.size := by omega
      replace Cq0 := keepC k2 (by omega) Cq0
      replace Cq1 := keepC k2 (by omega) Cq1
      replace Cq2 := keepC k2 (by omega) Cq2
      have tCq : w.heap.size + 1 < w2.heap.size := by omega
      replace Cr0 := keepC k2 (by omega) Cr0
      replace Cr1 := keepC k2 (by omega) Cr1
      replace Cr2 := keepC k2 (by omega) Cr2
      have tCr : w.heap.size + 1 + 1 < w2.heap.size := by omega
      replace Cv0 := keepC k2 (by omega) Cv0
      replace Cv1 := keepC k2 (by omega) Cv1
      have tCv : w.heap.size + 1 + 1 + 1 < w2.heap.size := by omega
      rw [hX1, hX2, hX3, hx]
      go_wp2_with fail
      refine (Mirror_any x1 x2 x3 l' a' o' _ ((ht.step h0w2).step (by go_grown))).mono ?_
      rintro e w3 ⟨rfl, hb3⟩
      have sz3 := hb3.size
      try simp at sz3
      have k3 : Below w2.heap.size w2 w3 := Below.trans (by go_grown) (hb3.mono (by (first | (simp; done) | (simp; omega))))
      have h0w3 : Below w.heap.size w w3 := h0w2.trans (k3.mono h0w2.size)
      replace Cp0 := keepC k3 (by omega) Cp0
      replace Cp1 := keepC k3 (by omega) Cp1
      replace Cp2 := keepC k3 (by omega) Cp2
      have tCp : w.heap.size < w3.heap.size := by omega
      replace Cq0 := keepC k3 (by omega) Cq0
      replace Cq1 := keepC k3 (by omega) Cq1
      replace Cq2 := keepC k3 (by omega) Cq2
      have tCq : w.heap.size + 1 < w3.heap.size := by omega
      replace Cr0 := keepC k3 (by omega) Cr0
      replace Cr1 := keepC k3 (by omega) Cr1
      replace Cr2 := keepC k3 (by omega) Cr2
      have tCr : w.heap.size + 1 + 1 < w3.heap.size := by omega
      replace Cv0 := keepC k3 (by omega) Cv0
      replace Cv1 := keepC k3 (by omega) Cv1
      have tCv : w.heap.size + 1 + 1 + 1 < w3.heap.size := by omega
      have Cx0 : w3.cell? ⟨w2.heap.size, 0, none⟩ = some (.int .i64 x1) := keepC hb3 (by (first | (simp; done) | (simp; omega))) (by simp [go_sem])
      have Cx1 : w3.cell? ⟨w2.heap.size, 1, none⟩ = some (.int .i64 x2) := keepC hb3 (by (first | (simp; done) | (simp; omega))) (by simp [go_sem])
      have Cx2 : w3.cell? ⟨w2.heap.size, 2, none⟩ = some (.int .i64 x3) := keepC hb3 (by (first | (simp; done) | (simp; omega))) (by simp [go_sem])
      have tCx : w2.heap.size < w3.heap.size := by omega
      rw [g1, g2, g3, g4]
      go_wp2_with fail
      refine (Mirror_any x1 x2 x3 b c d _ ((ht.step h0w3).step (by go_grown))).mono ?_
      rintro e w4 ⟨rfl, hb4⟩
      have sz4 := hb4.size
      try simp at sz4
      have k4 : Below w3.heap.size w3 w4 := Below.trans (by go_grown) (hb4.mono (by (first | (simp; done) | (simp; omega))))
      have h0w4 : Below w.heap.size w w4 := h0w3.trans (k4.mono h0w3.size)
      replace Cp0 := keepC k4 (by omega) Cp0
      replace Cp1 := keepC k4 (by omega) Cp1
      replace Cp2 := keepC k4 (by omega) Cp2
      have tCp : w.heap.size < w4.heap.size := by omega
      replace Cq0 := keepC k4 (by omega) Cq0
      replace Cq1 := keepC k4 (by omega) Cq1
      replace Cq2 := keepC k4 (by omega) Cq2
      have tCq : w.heap.size + 1 < w4.heap.size := by omega
      replace Cr0 := keepC k4 (by omega) Cr0
      replace Cr1 := keepC k4 (by omega) Cr1
      replace Cr2 := keepC k4 (by omega) Cr2
      have tCr : w.heap.size + 1 + 1 < w4.heap.size := by omega
      replace Cv0 := keepC k4 (by omega) Cv0
      replace Cv1 := keepC k4 (by omega) Cv1
      have tCv : w.heap.size + 1 + 1 + 1 < w4.heap.size := by omega
      replace Cx0 := keepC k4 (by omega) Cx0
      replace Cx1 := keepC k4 (by omega) Cx1
      replace Cx2 := keepC k4 (by omega) Cx2
      have tCx : w2.heap.size < w4.heap.size := by omega
      have Ck0 : w4.cell? ⟨w3.heap.size, 0, none⟩ = some (.int .i64 l) := keepC hb4 (by (first | (simp; done) | (simp; omega))) (by simp [go_sem])
      have Ck1 : w4.cell? ⟨w3.heap.size, 1, none⟩ = some (.int .i64 a) := keepC hb4 (by (first | (simp; done) | (simp; omega))) (by simp [go_sem])
      have Ck2 : w4.cell? ⟨w3.heap.size, 2, none⟩ = some (.int .i64 o) := keepC hb4 (by (first | (simp; done) | (simp; omega))) (by simp [go_sem])
      have tCk : w3.heap.size < w4.heap.size := by omega
      rw [hy, hY1, hY2, hY3]
      go_wp2_with fail
      refine (Between_any l' a' o' b c d _ ((ht.step h0w4).step (by go_grown))).mono ?_
      rintro e w5 ⟨rfl, hb5⟩
      have sz5 := hb5.size
      try simp at sz5
      have k5 : Below w4.heap.size w4 w5 := Below.trans (by go_grown) (hb5.mono (by (first | (simp; done) | (simp; omega))))
      have h0w5 : Below w.heap.size w w5 := h0w4.trans (k5.mono h0w4.size)
      replace Cp0 := keepC k5 (by omega) Cp0
      replace Cp1 := keepC k5 (by omega) Cp1
      replace Cp2 := keepC k5 (by omega) Cp2
      have tCp : w.heap.size < w5.heap.size := by omega
      replace Cq0 := keepC k5 (by omega) Cq0
      replace Cq1 := keepC k5 (by omega) Cq1
      replace Cq2 := keepC k5 (by omega) Cq2
      have tCq : w.heap.size + 1 < w5.heap.size := by omega
      replace Cr0 := keepC k5 (by omega) Cr0
      replace Cr1 := keepC k5 (by omega) Cr1
      replace Cr2 := keepC k5 (by omega) Cr2
      have tCr : w.heap.size + 1 + 1 < w5.heap.size := by omega
      replace Cv0 := keepC k5 (by omega) Cv0
      replace Cv1 := keepC k5 (by omega) Cv1
      have tCv : w.heap.size + 1 + 1 + 1 < w5.heap.size := by omega
      replace Cx0 := keepC k5 (by omega) Cx0
      replace Cx1 := keepC k5 (by omega) Cx1
      replace Cx2 := keepC k5 (by omega) Cx2
      have tCx : w2.heap.size < w5.heap.size := by omega
      replace Ck0 := keepC k5 (by omega) Ck0
      replace Ck1 := keepC k5 (by omega) Ck1
      replace Ck2 := keepC k5 (by omega) Ck2
      have tCk : w3.heap.size < w5.heap.size := by omega
      have Cy0 : w5.cell? ⟨w4.heap.size, 0, none⟩ = some (.int .i64 y1) := keepC hb5 (by (first | (simp; done) | (simp; omega))) (by simp [go_sem])
      have Cy1 : w5.cell? ⟨w4.heap.size, 1, none⟩ = some (.int .i64 y2) := keepC hb5 (by (first | (simp; done) | (simp; omega))) (by simp [go_sem])
      have Cy2 : w5.cell? ⟨w4.heap.size, 2, none⟩ = some (.int .i64 y3) := keepC hb5 (by (first | (simp; done) | (simp; omega))) (by simp [go_sem])
      have tCy : w4.heap.size < w5.heap.size := by omega
      rw [be0, be1, be2]
      go_wp2_with fail
      refine (Move_any l a o (2 * (M.st b d - M.st l' o')) (2 * (M.hv b c d - M.hv l' a' o')) _ ((ht.step h0w5).step (by go_grown))).mono ?_
      rintro e w6 ⟨rfl, hb6⟩
      have sz6 := hb6.size
      try simp at sz6
      have k6 : Below w5.heap.size w5 w6 := Below.trans (by go_grown) (hb6.mono (by (first | (simp; done) | (simp; omega))))
      have h0w6 : Below w.heap.size w w6 := h0w5.trans (k6.mono h0w5.size)
      replace Cp0 := keepC k6 (by omega) Cp0
      replace Cp1 := keepC k6 (by omega) Cp1
      replace Cp2 := keepC k6 (by omega) Cp2
      have tCp : w.heap.size < w6.heap.size := by omega
      replace Cq0 := keepC k6 (by omega) Cq0
      replace Cq1 := keepC k6 (by omega) Cq1
      replace Cq2 := keepC k6 (by omega) Cq2
      have tCq : w.heap.size + 1 < w6.heap.size := by omega
      replace Cr0 := keepC k6 (by omega) Cr0
      replace Cr1 := keepC k6 (by omega) Cr1
      replace Cr2 := keepC k6 (by omega) Cr2
      have tCr : w.heap.size + 1 + 1 < w6.heap.size := by omega
      replace Cv0 := keepC k6 (by omega) Cv0
      replace Cv1 := keepC k6 (by omega) Cv1
      have tCv : w.heap.size + 1 + 1 + 1 < w6.heap.size := by omega
      replace Cx0 := keepC k6 (by omega) Cx0
      replace Cx1 := keepC k6 (by omega) Cx1
      replace Cx2 := keepC k6 (by omega) Cx2
      have tCx : w2.heap.size < w6.heap.size := by omega
      replace Ck0 := keepC k6 (by omega) Ck0
      replace Ck1 := keepC k6 (by omega) Ck1
      replace Ck2 := keepC k6 (by omega) Ck2
      have tCk : w3.heap.size < w6.heap.size := by omega
      replace Cy0 := keepC k6 (by omega) Cy0
      replace Cy1 := keepC k6 (by omega) Cy1
      replace Cy2 := keepC k6 (by omega) Cy2
      have tCy : w4.heap.size < w6.heap.size := by omega
      have Ce0 : w6.cell? ⟨w5.heap.size, 0, none⟩ = some (.int .i64 (M.st b d - M.st l' o')) := keepC hb6 (by (first | (simp; done) | (simp; omega))) (by simp [go_sem])
      have Ce1 : w6.cell? ⟨w5.heap.size, 1, none⟩ = some (.int .i64 (M.hv b c d - M.hv l' a' o')) := keepC hb6 (by (first | (simp; done) | (simp; omega))) (by simp [go_sem])
      have tCe : w5.heap.size < w6.heap.size := by omega
      go_wp2_with fail
      refine (Move_any l a o s h _ ((ht.step h0w6).step (by go_grown))).mono ?_
      rintro e w7 ⟨rfl, hb7⟩
      have sz7 := hb7.size
      try simp at sz7
      have k7 : Below w6.heap.size w6 w7 := Below.trans (by go_grown) (hb7.mono (by (first | (simp; done) | (simp; omega))))
      have h0w7 : Below w.heap.size w w7 := h0w6.trans (k7.mono h0w6.size)
      replace Cp0 := keepC k7 (by omega) Cp0
      replace Cp1 := keepC k7 (by omega) Cp1
      replace Cp2 := keepC k7 (by omega) Cp2
      have tCp : w.heap.size < w7.heap.size := by omega
      replace Cq0 := keepC k7 (by omega) Cq0
      replace Cq1 := keepC k7 (by omega) Cq1
      replace Cq2 := keepC k7 (by omega) Cq2
      have tCq : w.heap.size + 1 < w7.heap.size := by omega
      replace Cr0 := keepC k7 (by omega) Cr0
      replace Cr1 := keepC k7 (by omega) Cr1
      replace Cr2 := keepC k7 (by omega) Cr2
      have tCr : w.heap.size + 1 + 1 < w7.heap.size := by omega
      replace Cv0 := keepC k7 (by omega) Cv0
      replace Cv1 := keepC k7 (by omega) Cv1
      have tCv : w.heap.size + 1 + 1 + 1 < w7.heap.size := by omega
      replace Cx0 := keepC k7 (by omega) Cx0
      replace Cx1 := keepC k7 (by omega) Cx1
      replace Cx2 := keepC k7 (by omega) Cx2
      have tCx : w2.heap.size < w7.heap.size := by omega
      replace Ck0 := keepC k7 (by omega) Ck0
      replace Ck1 := keepC k7 (by omega) Ck1
      replace Ck2 := keepC k7 (by omega) Ck2
      have tCk : w3.heap.size < w7.heap.size := by omega
      replace Cy0 := keepC k7 (by omega) Cy0
      replace Cy1 := keepC k7 (by omega) Cy1
      replace Cy2 := keepC k7 (by omega) Cy2
      have tCy : w4.heap.size < w7.heap.size := by omega
      replace Ce0 := keepC k7 (by omega) Ce0
      replace Ce1 := keepC k7 (by omega) Ce1
      have tCe : w5.heap.size < w7.heap.size := by omega
      have Czz0 : w7.cell? ⟨w6.heap.size, 0, none⟩ = some (.int .i64 (M.ml l a o (2 * (M.st b d - M.st l' o')) (2 * (M.hv b c d - M.hv l' a' o')))) := keepC hb7 (by (first | (simp; done) | (simp; omega))) (by simp [go_sem])
      have Czz1 : w7.cell? ⟨w6.heap.size, 1, none⟩ = some (.int .i64 (M.ma l a o (2 * (M.st b d - M.st l' o')) (2 * (M.hv b c d - M.hv l' a' o')))) := keepC hb7 (by (first | (simp; done) | (simp; omega))) (by simp [go_sem])
      have Czz2 : w7.cell? ⟨w6.heap.size, 2, none⟩ = some (.int .i64 (M.mo l a o (2 * (M.st b d - M.st l' o')) (2 * (M.hv b c d - M.hv l' a' o')))) := keepC hb7 (by (first | (simp; done) | (simp; omega))) (by simp [go_sem])
      have tCzz : w6.heap.size < w7.heap.size := by omega
      go_wp2_with fail
      go_ret
      exact ⟨rfl, Below.trans h0w7 (Below.mono (by go_grown) h0w7.size)⟩
    obtain ⟨_, hin, rm, em1, em2⟩ := M.move_ok hm
    have hin' := M.inb_yes hin
    generalize hM1 : M.ml l a o s h = m1 at *
    generalize hM2 : M.ma l a o s h = m2 at *
    generalize hM3 : M.mo l a o s h = m3 at *
    by_cases hn : M.re m1 m2 m3 l' a' o' = 0
    case neg =>
      have hn' := neq0 hn
      have bp := M.hv_bd rp
      have bq := M.hv_bd rq
      go_enter Tryd.func5, Tryd.ntmps5
      go_wp2_with fail
      refine (alive_any _ (ht.step (by go_grown))).mono ?_
      rintro e w1 ⟨rfl, hb1⟩
      have sz1 := hb1.size
      try simp at sz1
      have k1 : Below w.heap.size w w1 := Below.trans (by go_grown) (hb1.mono (by (first | (simp; done) | (simp; omega))))
      have h0w1 : Below w.heap.size w w1 := k1
      have Cp0 : w1.cell? ⟨w.heap.size, 0, none⟩ = some (.int .i64 l) := keepC hb1 (by (first | (simp; done) | (simp; omega))) (by simp [go_sem])
      have Cp1 : w1.cell? ⟨w.heap.size, 1, none⟩ = some (.int .i64 a) := keepC hb1 (by (first | (simp; done) | (simp; omega))) (by simp [go_sem])
      have Cp2 : w1.cell? ⟨w.heap.size, 2, none⟩ = some (.int .i64 o) := keepC hb1 (by (first | (simp; done) | (simp; omega))) (by simp [go_sem])
      have tCp : w.heap.size < w1.heap.size := by omega
      have Cq0 : w1.cell? ⟨w.heap.size + 1, 0, none⟩ = some (.int .i64 l') := keepC hb1 (by (first | (simp; done) | (simp; omega))) (by simp [go_sem])
      have Cq1 : w1.cell? ⟨w.heap.size + 1, 1, none⟩ = some (.int .i64 a') := keepC hb1 (by (first | (simp; done) | (simp; omega))) (by simp [go_sem])
      have Cq2 : w1.cell? ⟨w.heap.size + 1, 2, none⟩ = some (.int .i64 o') := keepC hb1 (by (first | (simp; done) | (simp; omega))) (by simp [go_sem])
      have tCq : w.heap.size + 1 < w1.heap.size := by omega
      have Cr0 : w1.cell? ⟨w.heap.size + 1 + 1, 0, none⟩ = some (.int .i64 b) := keepC hb1 (by (first | (simp; done) | (simp; omega))) (by simp [go_sem])
      have Cr1 : w1.cell? ⟨w.heap.size + 1 + 1, 1, none⟩ = some (.int .i64 c) := keepC hb1 (by (first | (simp; done) | (simp; omega))) (by simp [go_sem])
      have Cr2 : w1.cell? ⟨w.heap.size + 1 + 1, 2, none⟩ = some (.int .i64 d) := keepC hb1 (by (first | (simp; done) | (simp; omega))) (by simp [go_sem])
      have tCr : w.heap.size + 1 + 1 < w1.heap.size := by omega
      have Cv0 : w1.cell? ⟨w.heap.size + 1 + 1 + 1, 0, none⟩ = some (.int .i64 s) := keepC hb1 (by (first | (simp; done) | (simp; omega))) (by simp [go_sem])
      have Cv1 : w1.cell? ⟨w.heap.size + 1 + 1 + 1, 1, none⟩ = some (.int .i64 h) := keepC hb1 (by (first | (simp; done) | (simp; omega))) (by simp [go_sem])
      have tCv : w.heap.size + 1 + 1 + 1 < w1.heap.size := by omega
      go_wp2_with fail
      refine (Mirror_any l a o l' a' o' _ ((ht.step h0w1).step (by go_grown))).mono ?_
      rintro e w2 ⟨rfl, hb2⟩
      have sz2 := hb2.size
      try simp at sz2
      have k2 : Below w1.heap.size w1 w2 := Below.trans (by go_grown) (hb2.mono (by (first | (simp; done) | (simp; omega))))
      have h0w2 : Below w.heap.size w w2 := h0w1.trans (k2.mono h0w1.size)
      replace Cp0 := keepC k2 (by omega) Cp0
      replace Cp1 := keepC k2 (by omega) Cp1
      replace Cp2 := keepC k2 (by omega) Cp2
      have tCp : w.heap.size < w2.heap.size := by omega
      replace Cq0 := keepC k2 (by omega) Cq0
      replace Cq1 := keepC k2 (by omega) Cq1
      replace Cq2 := keepC k2 (by omega) Cq2
      have tCq : w.heap.size + 1 < w2.heap.size := by omega
      replace Cr0 := keepC k2 (by omega) Cr0
      replace Cr1 := keepC k2 (by omega) Cr1
      replace Cr2 := keepC k2 (by omega) Cr2
      have tCr : w.heap.size + 1 + 1 < w2.heap.size := by omega
      replace Cv0 := keepC k2 (by omega) Cv0
      replace Cv1 := keepC k2 (by omega) Cv1
      have tCv : w.heap.size + 1 + 1 + 1 < w2.heap.size := by omega
      rw [hX1, hX2, hX3, hx]
      go_wp2_with fail
      refine (Mirror_any x1 x2 x3 l' a' o' _ ((ht.step h0w2).step (by go_grown))).mono ?_
      rintro e w3 ⟨rfl, hb3⟩
      have sz3 := hb3.size
      try simp at sz3
      have k3 : Below w2.heap.size w2 w3 := Below.trans (by go_grown) (hb3.mono (by (first | (simp; done) | (simp; omega))))
      have h0w3 : Below w.heap.size w w3 := h0w2.trans (k3.mono h0w2.size)
      replace Cp0 := keepC k3 (by omega) Cp0
      replace Cp1 := keepC k3 (by omega) Cp1
      replace Cp2 := keepC k3 (by omega) Cp2
      have tCp : w.heap.size < w3.heap.size := by omega
      replace Cq0 := keepC k3 (by omega) Cq0
      replace Cq1 := keepC k3 (by omega) Cq1
      replace Cq2 := keepC k3 (by omega) Cq2
      have tCq : w.heap.size + 1 < w3.heap.size := by omega
      replace Cr0 := keepC k3 (by omega) Cr0
      replace Cr1 := keepC k3 (by omega) Cr1
      replace Cr2 := keepC k3 (by omega) Cr2
      have tCr : w.heap.size + 1 + 1 < w3.heap.size := by omega
      replace Cv0 := keepC k3 (by omega) Cv0
      replace Cv1 := keepC k3 (by omega) Cv1
      have tCv : w.heap.size + 1 + 1 + 1 < w3.heap.size := by omega
      have Cx0 : w3.cell? ⟨w2.heap.size, 0, none⟩ = some (.int .i64 x1) := keepC hb3 (by (first | (simp; done) | (simp; omega))) (by simp [go_sem])
      have Cx1 : w3.cell? ⟨w2.heap.size, 1, none⟩ = some (.int .i64 x2) := keepC hb3 (by (first | (simp; done) | (simp; omega))) (by simp [go_sem])
      have Cx2 : w3.cell? ⟨w2.heap.size, 2, none⟩ = some (.int .i64 x3) := keepC hb3 (by (first | (simp; done) | (simp; omega))) (by simp [go_sem])
      have tCx : w2.heap.size < w3.heap.size := by omega
      rw [g1, g2, g3, g4]
      go_wp2_with fail
      refine (Mirror_any x1 x2 x3 b c d _ ((ht.step h0w3).step (by go_grown))).mono ?_
      rintro e w4 ⟨rfl, hb4⟩
      have sz4 := hb4.size
      try simp at sz4
      have k4 : Below w3.heap.size w3 w4 := Below.trans (by go_grown) (hb4.mono (by (first | (simp; done) | (simp; omega))))
      have h0w4 : Below w.heap.size w w4 := h0w3.trans (k4.mono h0w3.size)
      replace Cp0 := keepC k4 (by omega) Cp0
      replace Cp1 := keepC k4 (by omega) Cp1
      replace Cp2 := keepC k4 (by omega) Cp2
      have tCp : w.heap.size < w4.heap.size := by omega
      replace Cq0 := keepC k4 (by omega) Cq0
      replace Cq1 := keepC k4 (by omega) Cq1
      replace Cq2 := keepC k4 (by omega) Cq2
      have tCq : w.heap.size + 1 < w4.heap.size := by omega
      replace Cr0 := keepC k4 (by omega) Cr0
      replace Cr1 := keepC k4 (by omega) Cr1
      replace Cr2 := keepC k4 (by omega) Cr2
      have tCr : w.heap.size + 1 + 1 < w4.heap.size := by omega
      replace Cv0 := keepC k4 (by omega) Cv0
      replace Cv1 := keepC k4 (by omega) Cv1
      have tCv : w.heap.size + 1 + 1 + 1 < w4.heap.size := by omega
      replace Cx0 := keepC k4 (by omega) Cx0
      replace Cx1 := keepC k4 (by omega) Cx1
      replace Cx2 := keepC k4 (by omega) Cx2
      have tCx : w2.heap.size < w4.heap.size := by omega
      have Ck0 : w4.cell? ⟨w3.heap.size, 0, none⟩ = some (.int .i64 l) := keepC hb4 (by (first | (simp; done) | (simp; omega))) (by simp [go_sem])
      have Ck1 : w4.cell? ⟨w3.heap.size, 1, none⟩ = some (.int .i64 a) := keepC hb4 (by (first | (simp; done) | (simp; omega))) (by simp [go_sem])
      have Ck2 : w4.cell? ⟨w3.heap.size, 2, none⟩ = some (.int .i64 o) := keepC hb4 (by (first | (simp; done) | (simp; omega))) (by simp [go_sem])
      have tCk : w3.heap.size < w4.heap.size := by omega
      rw [hy, hY1, hY2, hY3]
      go_wp2_with fail
      refine (Between_any l' a' o' b c d _ ((ht.step h0w4).step (by go_grown))).mono ?_
      rintro e w5 ⟨rfl, hb5⟩
      have sz5 := hb5.size
      try simp at sz5
      have k5 : Below w4.heap.size w4 w5 := Below.trans (by go_grown) (hb5.mono (by (first | (simp; done) | (simp; omega))))
      have h0w5 : Below w.heap.size w w5 := h0w4.trans (k5.mono h0w4.size)
      replace Cp0 := keepC k5 (by omega) Cp0
      replace Cp1 := keepC k5 (by omega) Cp1
      replace Cp2 := keepC k5 (by omega) Cp2
      have tCp : w.heap.size < w5.heap.size := by omega
      replace Cq0 := keepC k5 (by omega) Cq0
      replace Cq1 := keepC k5 (by omega) Cq1
      replace Cq2 := keepC k5 (by omega) Cq2
      have tCq : w.heap.size + 1 < w5.heap.size := by omega
      replace Cr0 := keepC k5 (by omega) Cr0
      replace Cr1 := keepC k5 (by omega) Cr1
      replace Cr2 := keepC k5 (by omega) Cr2
      have tCr : w.heap.size + 1 + 1 < w5.heap.size := by omega
      replace Cv0 := keepC k5 (by omega) Cv0
      replace Cv1 := keepC k5 (by omega) Cv1
      have tCv : w.heap.size + 1 + 1 + 1 < w5.heap.size := by omega
      replace Cx0 := keepC k5 (by omega) Cx0
      replace Cx1 := keepC k5 (by omega) Cx1
      replace Cx2 := keepC k5 (by omega) Cx2
      have tCx : w2.heap.size < w5.heap.size := by omega
      replace Ck0 := keepC k5 (by omega) Ck0
      replace Ck1 := keepC k5 (by omega) Ck1
      replace Ck2 := keepC k5 (by omega) Ck2
      have tCk : w3.heap.size < w5.heap.size := by omega
      have Cy0 : w5.cell? ⟨w4.heap.size, 0, none⟩ = some (.int .i64 y1) := keepC hb5 (by (first | (simp; done) | (simp; omega))) (by simp [go_sem])
      have Cy1 : w5.cell? ⟨w4.heap.size, 1, none⟩ = some (.int .i64 y2) := keepC hb5 (by (first | (simp; done) | (simp; omega))) (by simp [go_sem])
      have Cy2 : w5.cell? ⟨w4.heap.size, 2, none⟩ = some (.int .i64 y3) := keepC hb5 (by (first | (simp; done) | (simp; omega))) (by simp [go_sem])
      have tCy : w4.heap.size < w5.heap.size := by omega
      rw [be0, be1, be2]
      go_wp2_with fail
      refine (Move_any l a o (2 * (M.st b d - M.st l' o')) (2 * (M.hv b c d - M.hv l' a' o')) _ ((ht.step h0w5).step (by go_grown))).mono ?_
      rintro e w6 ⟨rfl, hb6⟩
      have sz6 := hb6.size
      try simp at sz6
      have k6 : Below w5.heap.size w5 w6 := Below.trans (by go_grown) (hb6.mono (by (first | (simp; done) | (simp; omega))))
      have h0w6 : Below w.heap.size w w6 := h0w5.trans (k6.mono h0w5.size)
      replace Cp0 := keepC k6 (by omega) Cp0
      replace Cp1 := keepC k6 (by omega) Cp1
      replace Cp2 := keepC k6 (by omega) Cp2
      have tCp : w.heap.size < w6.heap.size := by omega
      replace Cq0 := keepC k6 (by omega) Cq0
      replace Cq1 := keepC k6 (by omega) Cq1
      replace Cq2 := keepC k6 (by omega) Cq2
      have tCq : w.heap.size + 1 < w6.heap.size := by omega
      replace Cr0 := keepC k6 (by omega) Cr0
      replace Cr1 := keepC k6 (by omega) Cr1
      replace Cr2 := keepC k6 (by omega) Cr2
      have tCr : w.heap.size + 1 + 1 < w6.heap.size := by omega
      replace Cv0 := keepC k6 (by omega) Cv0
      replace Cv1 := keepC k6 (by omega) Cv1
      have tCv : w.heap.size + 1 + 1 + 1 < w6.heap.size := by omega
      replace Cx0 := keepC k6 (by omega) Cx0
      replace Cx1 := keepC k6 (by omega) Cx1
      replace Cx2 := keepC k6 (by omega) Cx2
      have tCx : w2.heap.size < w6.heap.size := by omega
      replace Ck0 := keepC k6 (by omega) Ck0
      replace Ck1 := keepC k6 (by omega) Ck1
      replace Ck2 := keepC k6 (by omega) Ck2
      have tCk : w3.heap.size < w6.heap.size := by omega
      replace Cy0 := keepC k6 (by omega) Cy0
      replace Cy1 := keepC k6 (by omega) Cy1
      replace Cy2 := keepC k6 (by omega) Cy2
      have tCy : w4.heap.size < w6.heap.size := by omega
      have Ce0 : w6.cell? ⟨w5.heap.size, 0, none⟩ = some (.int .i64 (M.st b d - M.st l' o')) := keepC hb6 (by (first | (simp; done) | (simp; omega))) (by simp [go_sem])
      have Ce1 : w6.cell? ⟨w5.heap.size, 1, none⟩ = some (.int .i64 (M.hv b c d - M.hv l' a' o')) := keepC hb6 (by (first | (simp; done) | (simp; omega))) (by simp [go_sem])
      have tCe : w5.heap.size < w6.heap.size := by omega
      go_wp2_with fail
      refine (Move_any l a o s h _ ((ht.step h0w6).step (by go_grown))).mono ?_
      rintro e w7 ⟨rfl, hb7⟩
      have sz7 := hb7.size
      try simp at sz7
      have k7 : Below w6.heap.size w6 w7 := Below.trans (by go_grown) (hb7.mono (by (first | (simp; done) | (simp; omega))))
      have h0w7 : Below w.heap.size w w7 := h0w6.trans (k7.mono h0w6.size)
      replace Cp0 := keepC k7 (by omega) Cp0
      replace Cp1 := keepC k7 (by omega) Cp1
      replace Cp2 := keepC k7 (by omega) Cp2
      have tCp : w.heap.size < w7.heap.size := by omega
      replace Cq0 := keepC k7 (by omega) Cq0
      replace Cq1 := keepC k7 (by omega) Cq1
      replace Cq2 := keepC k7 (by omega) Cq2
      have tCq : w.heap.size + 1 < w7.heap.size := by omega
      replace Cr0 := keepC k7 (by omega) Cr0
      replace Cr1 := keepC k7 (by omega) Cr1
      replace Cr2 := keepC k7 (by omega) Cr2
      have tCr : w.heap.size + 1 + 1 < w7.heap.size := by omega
      replace Cv0 := keepC k7 (by omega) Cv0
      replace Cv1 := keepC k7 (by omega) Cv1
      have tCv : w.heap.size + 1 + 1 + 1 < w7.heap.size := by omega
      replace Cx0 := keepC k7 (by omega) Cx0
      replace Cx1 := keepC k7 (by omega) Cx1
      replace Cx2 := keepC k7 (by omega) Cx2
      have tCx : w2.heap.size < w7.heap.size := by omega
      replace Ck0 := keepC k7 (by omega) Ck0
      replace Ck1 := keepC k7 (by omega) Ck1
      replace Ck2 := keepC k7 (by omega) Ck2
      have tCk : w3.heap.size < w7.heap.size := by omega
      replace Cy0 := keepC k7 (by omega) Cy0
      replace Cy1 := keepC k7 (by omega) Cy1
      replace Cy2 := keepC k7 (by omega) Cy2
      have tCy : w4.heap.size < w7.heap.size := by omega
      replace Ce0 := keepC k7 (by omega) Ce0
      replace Ce1 := keepC k7 (by omega) Ce1
      have tCe : w5.heap.size < w7.heap.size := by omega
      have Czz0 : w7.cell? ⟨w6.heap.size, 0, none⟩ = some (.int .i64 (M.ml l a o (2 * (M.st b d - M.st l' o')) (2 * (M.hv b c d - M.hv l' a' o')))) := keepC hb7 (by (first | (simp; done) | (simp; omega))) (by simp [go_sem])
      have Czz1 : w7.cell? ⟨w6.heap.size, 1, none⟩ = some (.int .i64 (M.ma l a o (2 * (M.st b d - M.st l' o')) (2 * (M.hv b c d - M.hv l' a' o')))) := keepC hb7 (by (first | (simp; done) | (simp; omega))) (by simp [go_sem])
      have Czz2 : w7.cell? ⟨w6.heap.size, 2, none⟩ = some (.int .i64 (M.mo l a o (2 * (M.st b d - M.st l' o')) (2 * (M.hv b c d - M.hv l' a' o')))) := keepC hb7 (by (first | (simp; done) | (simp; omega))) (by simp [go_sem])
      have tCzz : w6.heap.size < w7.heap.size := by omega
      rw [hm]
      rw [hM1, hM2, hM3]
      go_wp2_with fail
      refine (Mirror_any m1 m2 m3 l' a' o' _ ((ht.step h0w7).step (by go_grown))).mono ?_
      rintro e w8 ⟨rfl, hb8⟩
      have sz8 := hb8.size
      try simp at sz8
      have k8 : Below w7.heap.size w7 w8 := Below.trans (by go_grown) (hb8.mono (by (first | (simp; done) | (simp; omega))))
      have h0w8 : Below w.heap.size w w8 := h0w7.trans (k8.mono h0w7.size)
      replace Cp0 := keepC k8 (by omega) Cp0
      replace Cp1 := keepC k8 (by omega) Cp1
      replace Cp2 := keepC k8 (by omega) Cp2
      have tCp : w.heap.size < w8.heap.size := by omega
      replace Cq0 := keepC k8 (by omega) Cq0
      replace Cq1 := keepC k8 (by omega) Cq1
      replace Cq2 := keepC k8 (by omega) Cq2
      have tCq : w.heap.size + 1 < w8.heap.size := by omega
      replace Cr0 := keepC k8 (by omega) Cr0
      replace Cr1 := keepC k8 (by omega) Cr1
      replace Cr2 := keepC k8 (by omega) Cr2
      have tCr : w.heap.size + 1 + 1 < w8.heap.size := by omega
      replace Cv0 := keepC k8 (by omega) Cv0
      replace Cv1 := keepC k8 (by omega) Cv1
      have tCv : w.heap.size + 1 + 1 + 1 < w8.heap.size := by omega
      replace Cx0 := keepC k8 (by omega) Cx0
      replace Cx1 := keepC k8 (by omega) Cx1
      replace Cx2 := keepC k8 (by omega) Cx2
      have tCx : w2.heap.size < w8.heap.size := by omega
      replace Ck0 := keepC k8 (by omega) Ck0
      replace Ck1 := keepC k8 (by omega) Ck1
      replace Ck2 := keepC k8 (by omega) Ck2
      have tCk : w3.heap.size < w8.heap.size := by omega
      replace Cy0 := keepC k8 (by omega) Cy0
      replace Cy1 := keepC k8 (by omega) Cy1
      replace Cy2 := keepC k8 (by omega) Cy2
      have tCy : w4.heap.size < w8.heap.size := by omega
      replace Ce0 := keepC k8 (by omega) Ce0
      replace Ce1 := keepC k8 (by omega) Ce1
      have tCe : w5.heap.size < w8.heap.size := by omega
      replace Czz0 := keepC k8 (by omega) Czz0
      replace Czz1 := keepC k8 (by omega) Czz1
      replace Czz2 := keepC k8 (by omega) Czz2
      have tCzz : w6.heap.size < w8.heap.size := by omega
      have Cm0 : w8.cell? ⟨w7.heap.size, 0, none⟩ = some (.int .i64 m1) := keepC hb8 (by (first | (simp; done) | (simp; omega))) (by simp [go_sem])
      have Cm1 : w8.cell? ⟨w7.heap.size, 1, none⟩ = some (.int .i64 m2) := keepC hb8 (by (first | (simp; done) | (simp; omega))) (by simp [go_sem])
      have Cm2 : w8.cell? ⟨w7.heap.size, 2, none⟩ = some (.int .i64 m3) := keepC hb8 (by (first | (simp; done) | (simp; omega))) (by simp [go_sem])
      have tCm : w7.heap.size < w8.heap.size := by omega
      go_wp2_with fail
      refine (Move_any x1 x2 x3 (-s) (-h) _ ((ht.step h0w8).step (by go_grown))).mono ?_
      rintro e w9 ⟨rfl, hb9⟩
      have sz9 := hb9.size
      try simp at sz9
      have k9 : Below w8.heap.size w8 w9 := Below.trans (by go_grown) (hb9.mono (by (first | (simp; done) | (simp; omega))))
      have h0w9 : Below w.heap.size w w9 := h0w8.trans (k9.mono h0w8.size)
      replace Cp0 := keepC k9 (by omega) Cp0
      replace Cp1 := keepC k9 (by omega) Cp1
      replace Cp2 := keepC k9 (by omega) Cp2
      have tCp : w.heap.size < w9.heap.size := by omega
      replace Cq0 := keepC k9 (by omega) Cq0
      replace Cq1 := keepC k9 (by omega) Cq1
      replace Cq2 := keepC k9 (by omega) Cq2
      have tCq : w.heap.size + 1 < w9.heap.size := by omega
      replace Cr0 := keepC k9 (by omega) Cr0
      replace Cr1 := keepC k9 (by omega) Cr1
      replace Cr2 := keepC k9 (by omega) Cr2
      have tCr : w.heap.size + 1 + 1 < w9.heap.size := by omega
      replace Cv0 := keepC k9 (by omega) Cv0
      replace Cv1 := keepC k9 (by omega) Cv1
      have tCv : w.heap.size + 1 + 1 + 1 < w9.heap.size := by omega
      replace Cx0 := keepC k9 (by omega) Cx0
      replace Cx1 := keepC k9 (by omega) Cx1
      replace Cx2 := keepC k9 (by omega) Cx2
      have tCx : w2.heap.size < w9.heap.size := by omega
      replace Ck0 := keepC k9 (by omega) Ck0
      replace Ck1 := keepC k9 (by omega) Ck1
      replace Ck2 := keepC k9 (by omega) Ck2
      have tCk : w3.heap.size < w9.heap.size := by omega
      replace Cy0 := keepC k9 (by omega) Cy0
      replace Cy1 := keepC k9 (by omega) Cy1
      replace Cy2 := keepC k9 (by omega) Cy2
      have tCy : w4.heap.size < w9.heap.size := by omega
      replace Ce0 := keepC k9 (by omega) Ce0
      replace Ce1 := keepC k9 (by omega) Ce1
      have tCe : w5.heap.size < w9.heap.size := by omega
      replace Czz0 := keepC k9 (by omega) Czz0
      replace Czz1 := keepC k9 (by omega) Czz1
      replace Czz2 := keepC k9 (by omega) Czz2
      have tCzz : w6.heap.size < w9.heap.size := by omega
      replace Cm0 := keepC k9 (by omega) Cm0
      replace Cm1 := keepC k9 (by omega) Cm1
      replace Cm2 := keepC k9 (by omega) Cm2
      have tCm : w7.heap.size < w9.heap.size := by omega
      have Cn0 : w9.cell? ⟨w8.heap.size, 0, none⟩ = some (.int .i64 (M.rl m1 m2 m3 l' a' o')) := keepC hb9 (by (first | (simp; done) | (simp; omega))) (by simp [go_sem])
      have Cn1 : w9.cell? ⟨w8.heap.size, 1, none⟩ = some (.int .i64 (M.ra m1 m2 m3 l' a' o')) := keepC hb9 (by (first | (simp; done) | (simp; omega))) (by simp [go_sem])
      have Cn2 : w9.cell? ⟨w8.heap.size, 2, none⟩ = some (.int .i64 (M.ro m1 m2 m3 l' a' o')) := keepC hb9 (by (first | (simp; done) | (simp; omega))) (by simp [go_sem])
      have tCn : w8.heap.size < w9.heap.size := by omega
      go_wp2_with fail
      go_ret
      exact ⟨rfl, Below.trans h0w9 (Below.mono (by go_grown) h0w9.size)⟩
    obtain ⟨_, _, rn, en1, en2⟩ := M.mirror_ok hn
    by_cases hq : M.me x1 x2 x3 (-s) (-h) = 0
    case neg =>
      have hq' := neq0 hq
      have bp := M.hv_bd rp
      have bq := M.hv_bd rq
      go_enter Tryd.func5, Tryd.ntmps5
      go_wp2_with fail
      refine (alive_any _ (ht.step (by go_grown))).mono ?_
      rintro e w1 ⟨rfl, hb1⟩
      have sz1 := hb1.size
      try simp at sz1
      have k1 : Below w.heap.size w w1 := Below.trans (by go_grown) (hb1.mono (by (first | (simp; done) | (simp; omega))))
      have h0w1 : Below w.heap.size w w1 := k1
      have Cp0 : w1.cell? ⟨w.heap.size, 0, none⟩ = some (.int .i64 l) := keepC hb1 (by (first | (simp; done) | (simp; omega))) (by simp [go_sem])
      have Cp1 : w1.cell? ⟨w.heap.size, 1, none⟩ = some (.int .i64 a) := keepC hb1 (by (first | (simp; done) | (simp; omega))) (by simp [go_sem])
      have Cp2 : w1.cell? ⟨w.heap.size, 2, none⟩ = some (.int .i64 o) := keepC hb1 (by (first | (simp; done) | (simp; omega))) (by simp [go_sem])
      have tCp : w.heap.size < w1.heap.size := by omega
      have Cq0 : w1.cell? ⟨w.heap.size + 1, 0, none⟩ = some (.int .i64 l') := keepC hb1 (by (first | (simp; done) | (simp; omega))) (by simp [go_sem])
      have Cq1 : w1.cell? ⟨w.heap.size + 1, 1, none⟩ = some (.int .i64 a') := keepC hb1 (by (first | (simp; done) | (simp; omega))) (by simp [go_sem])
      have Cq2 : w1.cell? ⟨w.heap.size + 1, 2, none⟩ = some (.int .i64 o') := keepC hb1 (by (first | (simp; done) | (simp; omega))) (by simp [go_sem])
      have tCq : w.heap.size + 1 < w1.heap.size := by omega
      have Cr0 : w1.cell? ⟨w.heap.size + 1 + 1, 0, none⟩ = some (.int .i64 b) := keepC hb1 (by (first | (simp; done) | (simp; omega))) (by simp [go_sem])
      have Cr1 : w1.cell? ⟨w.heap.size + 1 + 1, 1, none⟩ = some (.int .i64 c) := keepC hb1 (by (first | (simp; done) | (simp; omega))) (by simp [go_sem])
      have Cr2 : w1.cell? ⟨w.heap.size + 1 + 1, 2, none⟩ = some (.int .i64 d) := keepC hb1 (by (first | (simp; done) | (simp; omega))) (by simp [go_sem])
      have tCr : w.heap.size + 1 + 1 < w1.heap.size := by omega
      have Cv0 : w1.cell? ⟨w.heap.size + 1 + 1 + 1, 0, none⟩ = some (.int .i64 s) := keepC hb1 (by (first | (simp; done) | (simp; omega))) (by simp [go_sem])
      have Cv1 : w1.cell? ⟨w.heap.size + 1 + 1 + 1, 1, none⟩ = some (.int .i64 h) := keepC hb1 (by (first | (simp; done) | (simp; omega))) (by simp [go_sem])
      have tCv : w.heap.size + 1 + 1 + 1 < w1.heap.size := by omega
      go_wp2_with fail
      refine (Mirror_any l a o l' a' o' _ ((ht.step h0w1).step (by go_grown))).mono ?_
      rintro e w2 ⟨rfl, hb2⟩
      have sz2 := hb2.size
      try simp at sz2
      have k2 : Below w1.heap.size w1 w2 := Below.trans (by go_grown) (hb2.mono (by (first | (simp; done) | (simp; omega))))
      have h0w2 : Below w.heap.size w w2 := h0w1.trans (k2.mono h0w1.size)
      replace Cp0 := keepC k2 (by omega) Cp0
      replace Cp1 := keepC k2 (by omega) Cp1
      replace Cp2 := keepC k2 (by omega) Cp2
      have tCp : w.heap.size < w2.heap.size := by omega
      replace Cq0 := keepC k2 (by omega) Cq0
      replace Cq1 := keepC k2 (by omega) Cq1
      replace Cq2 := keepC k2 (by omega) Cq2
      have tCq : w.heap.size + 1 < w2.heap.size := by omega
      replace Cr0 := keepC k2 (by omega) Cr0
      replace Cr1 := keepC k2 (by omega) Cr1
      replace Cr2 := keepC k2 (by omega) Cr2
      have tCr : w.heap.size + 1 + 1 < w2.heap.size := by omega
      replace Cv0 := keepC k2 (by omega) Cv0
      replace Cv1 := keepC k2 (by omega) Cv1
      have tCv : w.heap.size + 1 + 1 + 1 < w2.heap.size := by omega
      rw [hX1, hX2, hX3, hx]
      go_wp2_with fail
      refine (Mirror_any x1 x2 x3 l' a' o' _ ((ht.step h0w2).step (by go_grown))).mono ?_
      rintro e w3 ⟨rfl, hb3⟩
      have sz3 := hb3.size
      try simp at sz3
      have k3 : Below w2.heap.size w2 w3 := Below.trans (by go_grown) (hb3.mono (by (first | (simp; done) | (simp; omega))))
      have h0w3 : Below w.heap.size w w3 := h0w2.trans (k3.mono h0w2.size)
      replace Cp0 := keepC k3 (by omega) Cp0
      replace Cp1 := keepC k3 (by omega) Cp1
      replace Cp2 := keepC k3 (by omega) Cp2
      have tCp : w.heap.size < w3.heap.size := by omega
      replace Cq0 := keepC k3 (by omega) Cq0
      replace Cq1 := keepC k3 (by omega) Cq1
      replace Cq2 := keepC k3 (by omega) Cq2
      have tCq : w.heap.size + 1 < w3.heap.size := by omega
      replace Cr0 := keepC k3 (by omega) Cr0
      replace Cr1 := keepC k3 (by omega) Cr1
      replace Cr2 := keepC k3 (by omega) Cr2
      have tCr : w.heap.size + 1 + 1 < w3.heap.size := by omega
      replace Cv0 := keepC k3 (by omega) Cv0
      replace Cv1 := keepC k3 (by omega) Cv1
      have tCv : w.heap.size + 1 + 1 + 1 < w3.heap.size := by omega
      have Cx0 : w3.cell? ⟨w2.heap.size, 0, none⟩ = some (.int .i64 x1) := keepC hb3 (by (first | (simp; done) | (simp; omega))) (by simp [go_sem])
      have Cx1 : w3.cell? ⟨w2.heap.size, 1, none⟩ = some (.int .i64 x2) := keepC hb3 (by (first | (simp; done) | (simp; omega))) (by simp [go_sem])
      have Cx2 : w3.cell? ⟨w2.heap.size, 2, none⟩ = some (.int .i64 x3) := keepC hb3 (by (first | (simp; done) | (simp; omega))) (by simp [go_sem])
      have tCx : w2.heap.size < w3.heap.size := by omega
      rw [g1, g2, g3, g4]
      go_wp2_with fail
      refine (Mirror_any x1 x2 x3 b c d _ ((ht.step h0w3).step (by go_grown))).mono ?_
      rintro e w4 ⟨rfl, hb4⟩
      have sz4 := hb4.size
      try simp at sz4
      have k4 : Below w3.heap.size w3 w4 := Below.trans (by go_grown) (hb4.mono (by (first | (simp; done) | (simp; omega))))
      have h0w4 : Below w.heap.size w w4 := h0w3.trans (k4.mono h0w3.size)
      replace Cp0 := keepC k4 (by omega) Cp0
      replace Cp1 := keepC k4 (by omega) Cp1
      replace Cp2 := keepC k4 (by omega) Cp2
      have tCp : w.heap.size < w4.heap.size := by omega
      replace Cq0 := keepC k4 (by omega) Cq0
      replace Cq1 := keepC k4 (by omega) Cq1
      replace Cq2 := keepC k4 (by omega) Cq2
      have tCq : w.heap.size + 1 < w4.heap.size := by omega
      replace Cr0 := keepC k4 (by omega) Cr0
      replace Cr1 := keepC k4 (by omega) Cr1
      replace Cr2 := keepC k4 (by omega) Cr2
      have tCr : w.heap.size + 1 + 1 < w4.heap.size := by omega
      replace Cv0 := keepC k4 (by omega) Cv0
      replace Cv1 := keepC k4 (by omega) Cv1
      have tCv : w.heap.size + 1 + 1 + 1 < w4.heap.size := by omega
      replace Cx0 := keepC k4 (by omega) Cx0
      replace Cx1 := keepC k4 (by omega) Cx1
      replace Cx2 := keepC k4 (by omega) Cx2
      have tCx : w2.heap.size < w4.heap.size := by omega
      have Ck0 : w4.cell? ⟨w3.heap.size, 0, none⟩ = some (.int .i64 l) := keepC hb4 (by (first | (simp; done) | (simp; omega))) (by simp [go_sem])
      have Ck1 : w4.cell? ⟨w3.heap.size, 1, none⟩ = some (.int .i64 a) := keepC hb4 (by (first | (simp; done) | (simp; omega))) (by simp [go_sem])
      have Ck2 : w4.cell? ⟨w3.heap.size, 2, none⟩ = some (.int .i64 o) := keepC hb4 (by (first | (simp; done) | (simp; omega))) (by simp [go_sem])
      have tCk : w3.heap.size < w4.heap.size := by omega
      rw [hy, hY1, hY2, hY3]
      go_wp2_with fail
      refine (Between_any l' a' o' b c d _ ((ht.step h0w4).step (by go_grown))).mono ?_
      rintro e w5 ⟨rfl, hb5⟩
      have sz5 := hb5.size
      try simp at sz5
      have k5 : Below w4.heap.size w4 w5 := Below.trans (by go_grown) (hb5.mono (by (first | (simp; done) | (simp; omega))))
      have h0w5 : Below w.heap.size w w5 := h0w4.trans (k5.mono h0w4.size)
      replace Cp0 := keepC k5 (by omega) Cp0
      replace Cp1 := keepC k5 (by omega) Cp1
      replace Cp2 := keepC k5 (by omega) Cp2
      have tCp : w.heap.size < w5.heap.size := by omega
      replace Cq0 := keepC k5 (by omega) Cq0
      replace Cq1 := keepC k5 (by omega) Cq1
      replace Cq2 := keepC k5 (by omega) Cq2
      have tCq : w.heap.size + 1 < w5.heap.size := by omega
      replace Cr0 := keepC k5 (by omega) Cr0
      replace Cr1 := keepC k5 (by omega) Cr1
      replace Cr2 := keepC k5 (by omega) Cr2
      have tCr : w.heap.size + 1 + 1 < w5.heap.size := by omega
      replace Cv0 := keepC k5 (by omega) Cv0
      replace Cv1 := keepC k5 (by omega) Cv1
      have tCv : w.heap.size + 1 + 1 + 1 < w5.heap.size := by omega
      replace Cx0 := keepC k5 (by omega) Cx0
      replace Cx1 := keepC k5 (by omega) Cx1
      replace Cx2 := keepC k5 (by omega) Cx2
      have tCx : w2.heap.size < w5.heap.size := by omega
      replace Ck0 := keepC k5 (by omega) Ck0
      replace Ck1 := keepC k5 (by omega) Ck1
      replace Ck2 := keepC k5 (by omega) Ck2
      have tCk : w3.heap.size < w5.heap.size := by omega
      have Cy0 : w5.cell? ⟨w4.heap.size, 0, none⟩ = some (.int .i64 y1) := keepC hb5 (by (first | (simp; done) | (simp; omega))) (by simp [go_sem])
      have Cy1 : w5.cell? ⟨w4.heap.size, 1, none⟩ = some (.int .i64 y2) := keepC hb5 (by (first | (simp; done) | (simp; omega))) (by simp [go_sem])
      have Cy2 : w5.cell? ⟨w4.heap.size, 2, none⟩ = some (.int .i64 y3) := keepC hb5 (by (first | (simp; done) | (simp; omega))) (by simp [go_sem])
      have tCy : w4.heap.size < w5.heap.size := by omega
      rw [be0, be1, be2]
      go_wp2_with fail
      refine (Move_any l a o (2 * (M.st b d - M.st l' o')) (2 * (M.hv b c d - M.hv l' a' o')) _ ((ht.step h0w5).step (by go_grown))).mono ?_
      rintro e w6 ⟨rfl, hb6⟩
      have sz6 := hb6.size
      try simp at sz6
      have k6 : Below w5.heap.size w5 w6 := Below.trans (by go_grown) (hb6.mono (by (first | (simp; done) | (simp; omega))))
      have h0w6 : Below w.heap.size w w6 := h0w5.trans (k6.mono h0w5.size)
      replace Cp0 := keepC k6 (by omega) Cp0
      replace Cp1 := keepC k6 (by omega) Cp1
      replace Cp2 := keepC k6 (by omega) Cp2
      have tCp : w.heap.size < w6.heap.size := by omega
      replace Cq0 := keepC k6 (by omega) Cq0
      replace Cq1 := keepC k6 (by omega) Cq1
      replace Cq2 := keepC k6 (by omega) Cq2
      have tCq : w.heap.size + 1 < w6.heap.size := by omega
      replace Cr0 := keepC k6 (by omega) Cr0
      replace Cr1 := keepC k6 (by omega) Cr1
      replace Cr2 := keepC k6 (by omega) Cr2
      have tCr : w.heap.size + 1 + 1 < w6.heap.size := by omega
      replace Cv0 := keepC k6 (by omega) Cv0
      replace Cv1 := keepC k6 (by omega) Cv1
      have tCv : w.heap.size + 1 + 1 + 1 < w6.heap.size := by omega
      replace Cx0 := keepC k6 (by omega) Cx0
      replace Cx1 := keepC k6 (by omega) Cx1
      replace Cx2 := keepC k6 (by omega) Cx2
      have tCx : w2.heap.size < w6.heap.size := by omega
      replace Ck0 := keepC k6 (by omega) Ck0
      replace Ck1 := keepC k6 (by omega) Ck1
      replace Ck2 := keepC k6 (by omega) Ck2
      have tCk : w3.heap.size < w6.heap.size := by omega
      replace Cy0 := keepC k6 (by omega) Cy0
      replace Cy1 := keepC k6 (by omega) Cy1
      replace Cy2 := keepC k6 (by omega) Cy2
      have tCy : w4.heap.size < w6.heap.size := by omega
      have Ce0 : w6.cell? ⟨w5.heap.size, 0, none⟩ = some (.int .i64 (M.st b d - M.st l' o')) := keepC hb6 (by (first | (simp; done) | (simp; omega))) (by simp [go_sem])
      have Ce1 : w6.cell? ⟨w5.heap.size, 1, none⟩ = some (.int .i64 (M.hv b c d - M.hv l' a' o')) := keepC hb6 (by (first | (simp; done) | (simp; omega))) (by simp [go_sem])
      have tCe : w5.heap.size < w6.heap.size := by omega
      go_wp2_with fail
      refine (Move_any l a o s h _ ((ht.step h0w6).step (by go_grown))).mono ?_
      rintro e w7 ⟨rfl, hb7⟩
      have sz7 := hb7.size
      try simp at sz7
      have k7 : Below w6.heap.size w6 w7 := Below.trans (by go_grown) (hb7.mono (by (first | (simp; done) | (simp; omega))))
      have h0w7 : Below w.heap.size w w7 := h0w6.trans (k7.mono h0w6.size)
      replace Cp0 := keepC k7 (by omega) Cp0
      replace Cp1 := keepC k7 (by omega) Cp1
      replace Cp2 := keepC k7 (by omega) Cp2
      have tCp : w.heap.size < w7.heap.size := by omega
      replace Cq0 := keepC k7 (by omega) Cq0
      replace Cq1 := keepC k7 (by omega) Cq1
      replace Cq2 := keepC k7 (by omega) Cq2
      have tCq : w.heap.size + 1 < w7.heap.size := by omega
      replace Cr0 := keepC k7 (by omega) Cr0
      replace Cr1 := keepC k7 (by omega) Cr1
      replace Cr2 := keepC k7 (by omega) Cr2
      have tCr : w.heap.size + 1 + 1 < w7.heap.size := by omega
      replace Cv0 := keepC k7 (by omega) Cv0
      replace Cv1 := keepC k7 (by omega) Cv1
      have tCv : w.heap.size + 1 + 1 + 1 < w7.heap.size := by omega
      replace Cx0 := keepC k7 (by omega) Cx0
      replace Cx1 := keepC k7 (by omega) Cx1
      replace Cx2 := keepC k7 (by omega) Cx2
      have tCx : w2.heap.size < w7.heap.size := by omega
      replace Ck0 := keepC k7 (by omega) Ck0
      replace Ck1 := keepC k7 (by omega) Ck1
      replace Ck2 := keepC k7 (by omega) Ck2
      have tCk : w3.heap.size < w7.heap.size := by omega
      replace Cy0 := keepC k7 (by omega) Cy0
      replace Cy1 := keepC k7 (by omega) Cy1
      replace Cy2 := keepC k7 (by omega) Cy2
      have tCy : w4.heap.size < w7.heap.size := by omega
      replace Ce0 := keepC k7 (by omega) Ce0
      replace Ce1 := keepC k7 (by omega) Ce1
      have tCe : w5.heap.size < w7.heap.size := by omega
      have Czz0 : w7.cell? ⟨w6.heap.size, 0, none⟩ = some (.int .i64 (M.ml l a o (2 * (M.st b d - M.st l' o')) (2 * (M.hv b c d - M.hv l' a' o')))) := keepC hb7 (by (first | (simp; done) | (simp; omega))) (by simp [go_sem])
      have Czz1 : w7.cell? ⟨w6.heap.size, 1, none⟩ = some (.int .i64 (M.ma l a o (2 * (M.st b d - M.st l' o')) (2 * (M.hv b c d - M.hv l' a' o')))) := keepC hb7 (by (first | (simp; done) | (simp; omega))) (by simp [go_sem])
      have Czz2 : w7.cell? ⟨w6.heap.size, 2, none⟩ = some (.int .i64 (M.mo l a o (2 * (M.st b d - M.st l' o')) (2 * (M.hv b c d - M.hv l' a' o')))) := keepC hb7 (by (first | (simp; done) | (simp; omega))) (by simp [go_sem])
      have tCzz : w6.heap.size < w7.heap.size := by omega
      rw [hm]
      rw [hM1, hM2, hM3]
      go_wp2_with fail
      refine (Mirror_any m1 m2 m3 l' a' o' _ ((ht.step h0w7).step (by go_grown))).mono ?_
      rintro e w8 ⟨rfl, hb8⟩
      have sz8 := hb8.size
      try simp at sz8
      have k8 : Below w7.heap.size w7 w8 := Below.trans (by go_grown) (hb8.mono (by (first | (simp; done) | (simp; omega))))
      have h0w8 : Below w.heap.size w w8 := h0w7.trans (k8.mono h0w7.size)
      replace Cp0 := keepC k8 (by omega) Cp0
      replace Cp1 := keepC k8 (by omega) Cp1
      replace Cp2 := keepC k8 (by omega) Cp2
      have tCp : w.heap.size < w8.heap.size := by omega
      replace Cq0 := keepC k8 (by omega) Cq0
      replace Cq1 := keepC k8 (by omega) Cq1
      replace Cq2 := keepC k8 (by omega) Cq2
      have tCq : w.heap.size + 1 < w8.heap.size := by omega
      replace Cr0 := keepC k8 (by omega) Cr0
      replace Cr1 := keepC k8 (by omega) Cr1
      replace Cr2 := keepC k8 (by omega) Cr2
      have tCr : w.heap.size + 1 + 1 < w8.heap.size := by omega
      replace Cv0 := keepC k8 (by omega) Cv0
      replace Cv1 := keepC k8 (by omega) Cv1
      have tCv : w.heap.size + 1 + 1 + 1 < w8.heap.size := by omega
      replace Cx0 := keepC k8 (by omega) Cx0
      replace Cx1 := keepC k8 (by omega) Cx1
      replace Cx2 := keepC k8 (by omega) Cx2
      have tCx : w2.heap.size < w8.heap.size := by omega
      replace Ck0 := keepC k8 (by omega) Ck0
      replace Ck1 := keepC k8 (by omega) Ck1
      replace Ck2 := keepC k8 (by omega) Ck2
      have tCk : w3.heap.size < w8.heap.size := by omega
      replace Cy0 := keepC k8 (by omega) Cy0
      replace Cy1 := keepC k8 (by omega) Cy1
      replace Cy2 := keepC k8 (by omega) Cy2
      have tCy : w4.heap.size < w8.heap.size := by omega
      replace Ce0 := keepC k8 (by omega) Ce0
      replace Ce1 := keepC k8 (by omega) Ce1
      have tCe : w5.heap.size < w8.heap.size := by omega
      replace Czz0 := keepC k8 (by omega) Czz0
      replace Czz1 := keepC k8 (by omega) Czz1
      replace Czz2 := keepC k8 (by omega) Czz2
      have tCzz : w6.heap.size < w8.heap.size := by omega
      have Cm0 : w8.cell? ⟨w7.heap.size, 0, none⟩ = some (.int .i64 m1) := keepC hb8 (by (first | (simp; done) | (simp; omega))) (by simp [go_sem])
      have Cm1 : w8.cell? ⟨w7.heap.size, 1, none⟩ = some (.int .i64 m2) := keepC hb8 (by (first | (simp; done) | (simp; omega))) (by simp [go_sem])
      have Cm2 : w8.cell? ⟨w7.heap.size, 2, none⟩ = some (.int .i64 m3) := keepC hb8 (by (first | (simp; done) | (simp; omega))) (by simp [go_sem])
      have tCm : w7.heap.size < w8.heap.size := by omega
      go_wp2_with fail
      refine (Move_any x1 x2 x3 (-s) (-h) _ ((ht.step h0w8).step (by go_grown))).mono ?_
      rintro e w9 ⟨rfl, hb9⟩
      have sz9 := hb9.size
      try simp at sz9
      have k9 : Below w8.heap.size w8 w9 := Below.trans (by go_grown) (hb9.mono (by (first | (simp; done) | (simp; omega))))
      have h0w9 : Below w.heap.size w w9 := h0w8.trans (k9.mono h0w8.size)
      replace Cp0 := keepC k9 (by omega) Cp0
      replace Cp1 := keepC k9 (by omega) Cp1
      replace Cp2 := keepC k9 (by omega) Cp2
      have tCp : w.heap.size < w9.heap.size := by omega
      replace Cq0 := keepC k9 (by omega) Cq0
      replace Cq1 := keepC k9 (by omega) Cq1
      replace Cq2 := keepC k9 (by omega) Cq2
      have tCq : w.heap.size + 1 < w9.heap.size := by omega
      replace Cr0 := keepC k9 (by omega) Cr0
      replace Cr1 := keepC k9 (by omega) Cr1
      replace Cr2 := keepC k9 (by omega) Cr2
      have tCr : w.heap.size + 1 + 1 < w9.heap.size := by omega
      replace Cv0 := keepC k9 (by omega) Cv0
      replace Cv1 := keepC k9 (by omega) Cv1
      have tCv : w.heap.size + 1 + 1 + 1 < w9.heap.size := by omega
      replace Cx0 := keepC k9 (by omega) Cx0
      replace Cx1 := keepC k9 (by omega) Cx1
      replace Cx2 := keepC k9 (by omega) Cx2
      have tCx : w2.heap.size < w9.heap.size := by omega
      replace Ck0 := keepC k9 (by omega) Ck0
      replace Ck1 := keepC k9 (by omega) Ck1
      replace Ck2 := keepC k9 (by omega) Ck2
      have tCk : w3.heap.size < w9.heap.size := by omega
      replace Cy0 := keepC k9 (by omega) Cy0
      replace Cy1 := keepC k9 (by omega) Cy1
      replace Cy2 := keepC k9 (by omega) Cy2
      have tCy : w4.heap.size < w9.heap.size := by omega
      replace Ce0 := keepC k9 (by omega) Ce0
      replace Ce1 := keepC k9 (by omega) Ce1
      have tCe : w5.heap.size < w9.heap.size := by omega
      replace Czz0 := keepC k9 (by omega) Czz0
      replace Czz1 := keepC k9 (by omega) Czz1
      replace Czz2 := keepC k9 (by omega) Czz2
      have tCzz : w6.heap.size < w9.heap.size := by omega
      replace Cm0 := keepC k9 (by omega) Cm0
      replace Cm1 := keepC k9 (by omega) Cm1
      replace Cm2 := keepC k9 (by omega) Cm2
      have tCm : w7.heap.size < w9.heap.size := by omega
      have Cn0 : w9.cell? ⟨w8.heap.size, 0, none⟩ = some (.int .i64 (M.rl m1 m2 m3 l' a' o')) := keepC hb9 (by (first | (simp; done) | (simp; omega))) (by simp [go_sem])
      have Cn1 : w9.cell? ⟨w8.heap.size, 1, none⟩ = some (.int .i64 (M.ra m1 m2 m3 l' a' o')) := keepC hb9 (by (first | (simp; done) | (simp; omega))) (by simp [go_sem])
      have Cn2 : w9.cell? ⟨w8.heap.size, 2, none⟩ = some (.int .i64 (M.ro m1 m2 m3 l' a' o')) := keepC hb9 (by (first | (simp; done) | (simp; omega))) (by simp [go_sem])
      have tCn : w8.heap.size < w9.heap.size := by omega
      go_wp2_with fail
      go_ret
      exact ⟨rfl, Below.trans h0w9 (Below.mono (by go_grown) h0w9.size)⟩
    obtain ⟨_, _, rO, eo1, eo2⟩ := M.move_ok hq
    obtain ⟨i1, i2, i3⟩ := M.rt_one rn rO (by omega) (by omega)
    have n1 := i1
    have n2 := i2
    have n3 := i3
    have n4 := hn
    have o1 := hq
    generalize hO1 : M.ml x1 x2 x3 (-s) (-h) = n5 at *
    generalize hO2 : M.ma x1 x2 x3 (-s) (-h) = n6 at *
    generalize hO3 : M.mo x1 x2 x3 (-s) (-h) = n7 at *
    have bp := M.hv_bd rp
    have bq := M.hv_bd rq
    go_enter Tryd.func5, Tryd.ntmps5
    go_wp2_with fail
    refine (alive_any _ (ht.step (by go_grown))).mono ?_
    rintro e w1 ⟨rfl, hb1⟩
    have sz1 := hb1.size
    try simp at sz1
    have k1 : Below w.heap.size w w1 := Below.trans (by go_grown) (hb1.mono (by (first | (simp; done) | (simp; omega))))
    have h0w1 : Below w.heap.size w w1 := k1
    have Cp0 : w1.cell? ⟨w.heap.size, 0, none⟩ = some (.int .i64 l) := keepC hb1 (by (first | (simp; done) | (simp; omega))) (by simp [go_sem])
    have Cp1 : w1.cell? ⟨w.heap.size, 1, none⟩ = some (.int .i64 a) := keepC hb1 (by (first | (simp; done) | (simp; omega))) (by simp [go_sem])
    have Cp2 : w1.cell? ⟨w.heap.size, 2, none⟩ = some (.int .i64 o) := keepC hb1 (by (first | (simp; done) | (simp; omega))) (by simp [go_sem])
    have tCp : w.heap.size < w1.heap.size := by omega
    have Cq0 : w1.cell? ⟨w.heap.size + 1, 0, none⟩ = some (.int .i64 l') := keepC hb1 (by (first | (simp; done) | (simp; omega))) (by simp [go_sem])
    have Cq1 : w1.cell? ⟨w.heap.size + 1, 1, none⟩ = some (.int .i64 a') := keepC hb1 (by (first | (simp; done) | (simp; omega))) (by simp [go_sem])
    have Cq2 : w1.cell? ⟨w.heap.size + 1, 2, none⟩ = some (.int .i64 o') := keepC hb1 (by (first | (simp; done) | (simp; omega))) (by simp [go_sem])
    have tCq : w.heap.size + 1 < w1.heap.size := by omega
    have Cr0 : w1.cell? ⟨w.heap.size + 1 + 1, 0, none⟩ = some (.int .i64 b) := keepC hb1 (by (first | (simp; done) | (simp; omega))) (by simp [go_sem])
    have Cr1 : w1.cell? ⟨w.heap.size + 1 + 1, 1, none⟩ = some (.int .i64 c) := keepC hb1 (by (first | (simp; done) | (simp; omega))) (by simp [go_sem])
    have Cr2 : w1.cell? ⟨w.heap.size + 1 + 1, 2, none⟩ = some (.int .i64 d) := keepC hb1 (by (first | (simp; done) | (simp; omega))) (by simp [go_sem])
    have tCr : w.heap.size + 1 + 1 < w1.heap.size := by omega
    have Cv0 : w1.cell? ⟨w.heap.size + 1 + 1 + 1, 0, none⟩ = some (.int .i64 s) := keepC hb1 (by (first | (simp; done) | (simp; omega))) (by simp [go_sem])
    have Cv1 : w1.cell? ⟨w.heap.size + 1 + 1 + 1, 1, none⟩ = some (.int .i64 h) := keepC hb1 (by (first | (simp; done) | (simp; omega))) (by simp [go_sem])
    have tCv : w.heap.size + 1 + 1 + 1 < w1.heap.size := by omega
    go_wp2_with fail
    refine (Mirror_any l a o l' a' o' _ ((ht.step h0w1).step (by go_grown))).mono ?_
    rintro e w2 ⟨rfl, hb2⟩
    have sz2 := hb2.size
    try simp at sz2
    have k2 : Below w1.heap.size w1 w2 := Below.trans (by go_grown) (hb2.mono (by (first | (simp; done) | (simp; omega))))
    have h0w2 : Below w.heap.size w w2 := h0w1.trans (k2.mono h0w1.size)
    replace Cp0 := keepC k2 (by omega) Cp0
    replace Cp1 := keepC k2 (by omega) Cp1
    replace Cp2 := keepC k2 (by omega) Cp2
    have tCp : w.heap.size < w2.heap.size := by omega
    replace Cq0 := keepC k2 (by omega) Cq0
    replace Cq1 := keepC k2 (by omega) Cq1
    replace Cq2 := keepC k2 (by omega) Cq2
    have tCq : w.heap.size + 1 < w2.heap.size := by omega
    replace Cr0 := keepC k2 (by omega) Cr0
    replace Cr1 := keepC k2 (by omega) Cr1
    replace Cr2 := keepC k2 (by omega) Cr2
    have tCr : w.heap.size + 1 + 1 < w2.heap.size := by omega
    replace Cv0 := keepC k2 (by omega) Cv0
    replace Cv1 := keepC k2 (by omega) Cv1
    have tCv : w.heap.size + 1 + 1 + 1 < w2.heap.size := by omega
    rw [hX1, hX2, hX3, hx]
    go_wp2_with fail
    refine (Mirror_any x1 x2 x3 l' a' o' _ ((ht.step h0w2).step (by go_grown))).mono ?_
    rintro e w3 ⟨rfl, hb3⟩
    have sz3 := hb3.size
    try simp at sz3
    have k3 : Below w2.heap.size w2 w3 := Below.trans (by go_grown) (hb3.mono (by (first | (simp; done) | (simp; omega))))
    have h0w3 : Below w.heap.size w w3 := h0w2.trans (k3.mono h0w2.size)
    replace Cp0 := keepC k3 (by omega) Cp0
    replace Cp1 := keepC k3 (by omega) Cp1
    replace Cp2 := keepC k3 (by omega) Cp2
    have tCp : w.heap.size < w3.heap.size := by omega
    replace Cq0 := keepC k3 (by omega) Cq0
    replace Cq1 := keepC k3 (by omega) Cq1
    replace Cq2 := keepC k3 (by omega) Cq2
    have tCq : w.heap.size + 1 < w3.heap.size := by omega
    replace Cr0 := keepC k3 (by omega) Cr0
    replace Cr1 := keepC k3 (by omega) Cr1
    replace Cr2 := keepC k3 (by omega) Cr2
    have tCr : w.heap.size + 1 + 1 < w3.heap.size := by omega
    replace Cv0 := keepC k3 (by omega) Cv0
    replace Cv1 := keepC k3 (by omega) Cv1
    have tCv : w.heap.size + 1 + 1 + 1 < w3.heap.size := by omega
    have Cx0 : w3.cell? ⟨w2.heap.size, 0, none⟩ = some (.int .i64 x1) := keepC hb3 (by (first | (simp; done) | (simp; omega))) (by simp [go_sem])
    have Cx1 : w3.cell? ⟨w2.heap.size, 1, none⟩ = some (.int .i64 x2) := keepC hb3 (by (first | (simp; done) | (simp; omega))) (by simp [go_sem])
    have Cx2 : w3.cell? ⟨w2.heap.size, 2, none⟩ = some (.int .i64 x3) := keepC hb3 (by (first | (simp; done) | (simp; omega))) (by simp [go_sem])
    have tCx : w2.heap.size < w3.heap.size := by omega
    rw [g1, g2, g3, g4]
    go_wp2_with fail
    refine (Mirror_any x1 x2 x3 b c d _ ((ht.step h0w3).step (by go_grown))).mono ?_
    rintro e w4 ⟨rfl, hb4⟩
    have sz4 := hb4.size
    try simp at sz4
    have k4 : Below w3.heap.size w3 w4 := Below.trans (by go_grown) (hb4.mono (by (first | (simp; done) | (simp; omega))))
    have h0w4 : Below w.heap.size w w4 := h0w3.trans (k4.mono h0w3.size)
    replace Cp0 := keepC k4 (by omega) Cp0
    replace Cp1 := keepC k4 (by omega) Cp1
    replace Cp2 := keepC k4 (by omega) Cp2
    have tCp : w.heap.size < w4.heap.size := by omega
    replace Cq0 := keepC k4 (by omega) Cq0
    replace Cq1 := keepC k4 (by omega) Cq1
    replace Cq2 := keepC k4 (by omega) Cq2
    have tCq : w.heap.size + 1 < w4.heap.size := by omega
    replace Cr0 := keepC k4 (by omega) Cr0
    replace Cr1 := keepC k4 (by omega) Cr1
    replace Cr2 := keepC k4 (by omega) Cr2
    have tCr : w.heap.size + 1 + 1 < w4.heap.size := by omega
    replace Cv0 := keepC k4 (by omega) Cv0
    replace Cv1 := keepC k4 (by omega) Cv1
    have tCv : w.heap.size + 1 + 1 + 1 < w4.heap.size := by omega
    replace Cx0 := keepC k4 (by omega) Cx0
    replace Cx1 := keepC k4 (by omega) Cx1
    replace Cx2 := keepC k4 (by omega) Cx2
    have tCx : w2.heap.size < w4.heap.size := by omega
    have Ck0 : w4.cell? ⟨w3.heap.size, 0, none⟩ = some (.int .i64 l) := keepC hb4 (by (first | (simp; done) | (simp; omega))) (by simp [go_sem])
    have Ck1 : w4.cell? ⟨w3.heap.size, 1, none⟩ = some (.int .i64 a) := keepC hb4 (by (first | (simp; done) | (simp; omega))) (by simp [go_sem])
    have Ck2 : w4.cell? ⟨w3.heap.size, 2, none⟩ = some (.int .i64 o) := keepC hb4 (by (first | (simp; done) | (simp; omega))) (by simp [go_sem])
    have tCk : w3.heap.size < w4.heap.size := by omega
    rw [hy, hY1, hY2, hY3]
    go_wp2_with fail
    refine (Between_any l' a' o' b c d _ ((ht.step h0w4).step (by go_grown))).mono ?_
    rintro e w5 ⟨rfl, hb5⟩
    have sz5 := hb5.size
    try simp at sz5
    have k5 : Below w4.heap.size w4 w5 := Below.trans (by go_grown) (hb5.mono (by (first | (simp; done) | (simp; omega))))
    have h0w5 : Below w.heap.size w w5 := h0w4.trans (k5.mono h0w4.size)
    replace Cp0 := keepC k5 (by omega) Cp0
    replace Cp1 := keepC k5 (by omega) Cp1
    replace Cp2 := keepC k5 (by omega) Cp2
    have tCp : w.heap.size < w5.heap.size := by omega
    replace Cq0 := keepC k5 (by omega) Cq0
    replace Cq1 := keepC k5 (by omega) Cq1
    replace Cq2 := keepC k5 (by omega) Cq2
    have tCq : w.heap.size + 1 < w5.heap.size := by omega
    replace Cr0 := keepC k5 (by omega) Cr0
    replace Cr1 := keepC k5 (by omega) Cr1
    replace Cr2 := keepC k5 (by omega) Cr2
    have tCr : w.heap.size + 1 + 1 < w5.heap.size := by omega
    replace Cv0 := keepC k5 (by omega) Cv0
    replace Cv1 := keepC k5 (by omega) Cv1
    have tCv : w.heap.size + 1 + 1 + 1 < w5.heap.size := by omega
    replace Cx0 := keepC k5 (by omega) Cx0
    replace Cx1 := keepC k5 (by omega) Cx1
    replace Cx2 := keepC k5 (by omega) Cx2
    have tCx : w2.heap.size < w5.heap.size := by omega
    replace Ck0 := keepC k5 (by omega) Ck0
    replace Ck1 := keepC k5 (by omega) Ck1
    replace Ck2 := keepC k5 (by omega) Ck2
    have tCk : w3.heap.size < w5.heap.size := by omega
    have Cy0 : w5.cell? ⟨w4.heap.size, 0, none⟩ = some (.int .i64 y1) := keepC hb5 (by (first | (simp; done) | (simp; omega))) (by simp [go_sem])
    have Cy1 : w5.cell? ⟨w4.heap.size, 1, none⟩ = some (.int .i64 y2) := keepC hb5 (by (first | (simp; done) | (simp; omega))) (by simp [go_sem])
    have Cy2 : w5.cell? ⟨w4.heap.size, 2, none⟩ = some (.int .i64 y3) := keepC hb5 (by (first | (simp; done) | (simp; omega))) (by simp [go_sem])
    have tCy : w4.heap.size < w5.heap.size := by omega
    rw [be0, be1, be2]
    go_wp2_with fail
    refine (Move_any l a o (2 * (M.st b d - M.st l' o')) (2 * (M.hv b c d - M.hv l' a' o')) _ ((ht.step h0w5).step (by go_grown))).mono ?_
    rintro e w6 ⟨rfl, hb6⟩
    have sz6 := hb6.size
    try simp at sz6
    have k6 : Below w5.heap.size w5 w6 := Below.trans (by go_grown) (hb6.mono (by (first | (simp; done) | (simp; omega))))
    have h0w6 : Below w.heap.size w w6 := h0w5.trans (k6.mono h0w5.size)
    replace Cp0 := keepC k6 (by omega) Cp0
    replace Cp1 := keepC k6 (by omega) Cp1
    replace Cp2 := keepC k6 (by omega) Cp2
    have tCp : w.heap.size < w6.heap.size := by omega
    replace Cq0 := keepC k6 (by omega) Cq0
    replace Cq1 := keepC k6 (by omega) Cq1
    replace Cq2 := keepC k6 (by omega) Cq2
    have tCq : w.heap.size + 1 < w6.heap.size := by omega
    replace Cr0 := keepC k6 (by omega) Cr0
    replace Cr1 := keepC k6 (by omega) Cr1
    replace Cr2 := keepC k6 (by omega) Cr2
    have tCr : w.heap.size + 1 + 1 < w6.heap.size := by omega
    replace Cv0 := keepC k6 (by omega) Cv0
    replace Cv1 := keepC k6 (by omega) Cv1
    have tCv : w.heap.size + 1 + 1 + 1 < w6.heap.size := by omega
    replace Cx0 := keepC k6 (by omega) Cx0
    replace Cx1 := keepC k6 (by omega) Cx1
    replace Cx2 := keepC k6 (by omega) Cx2
    have tCx : w2.heap.size < w6.heap.size := by omega
    replace Ck0 := keepC k6 (by omega) Ck0
    replace Ck1 := keepC k6 (by omega) Ck1
    replace Ck2 := keepC k6 (by omega) Ck2
    have tCk : w3.heap.size < w6.heap.size := by omega
    replace Cy0 := keepC k6 (by omega) Cy0
    replace Cy1 := keepC k6 (by omega) Cy1
    replace Cy2 := keepC k6 (by omega) Cy2
    have tCy : w4.heap.size < w6.heap.size := by omega
    have Ce0 : w6.cell? ⟨w5.heap.size, 0, none⟩ = some (.int .i64 (M.st b d - M.st l' o')) := keepC hb6 (by (first | (simp; done) | (simp; omega))) (by simp [go_sem])
    have Ce1 : w6.cell? ⟨w5.heap.size, 1, none⟩ = some (.int .i64 (M.hv b c d - M.hv l' a' o')) := keepC hb6 (by (first | (simp; done) | (simp; omega))) (by simp [go_sem])
    have tCe : w5.heap.size < w6.heap.size := by omega
    go_wp2_with fail
    refine (Move_any l a o s h _ ((ht.step h0w6).step (by go_grown))).mono ?_
    rintro e w7 ⟨rfl, hb7⟩
    have sz7 := hb7.size
    try simp at sz7
    have k7 : Below w6.heap.size w6 w7 := Below.trans (by go_grown) (hb7.mono (by (first | (simp; done) | (simp; omega))))
    have h0w7 : Below w.heap.size w w7 := h0w6.trans (k7.mono h0w6.size)
    replace Cp0 := keepC k7 (by omega) Cp0
    replace Cp1 := keepC k7 (by omega) Cp1
    replace Cp2 := keepC k7 (by omega) Cp2
    have tCp : w.heap.size < w7.heap.size := by omega
    replace Cq0 := keepC k7 (by omega) Cq0
    replace Cq1 := keepC k7 (by omega) Cq1
    replace Cq2 := keepC k7 (by omega) Cq2
    have tCq : w.heap.size + 1 < w7.heap.size := by omega
    replace Cr0 := keepC k7 (by omega) Cr0
    replace Cr1 := keepC k7 (by omega) Cr1
    replace Cr2 := keepC k7 (by omega) Cr2
    have tCr : w.heap.size + 1 + 1 < w7.heap.size := by omega
    replace Cv0 := keepC k7 (by omega) Cv0
    replace Cv1 := keepC k7 (by omega) Cv1
    have tCv : w.heap.size + 1 + 1 + 1 < w7.heap.size := by omega
    replace Cx0 := keepC k7 (by omega) Cx0
    replace Cx1 := keepC k7 (by omega) Cx1
    replace Cx2 := keepC k7 (by omega) Cx2
    have tCx : w2.heap.size < w7.heap.size := by omega
    replace Ck0 := keepC k7 (by omega) Ck0
    replace Ck1 := keepC k7 (by omega) Ck1
    replace Ck2 := keepC k7 (by omega) Ck2
    have tCk : w3.heap.size < w7.heap.size := by omega
    replace Cy0 := keepC k7 (by omega) Cy0
    replace Cy1 := keepC k7 (by omega) Cy1
    replace Cy2 := keepC k7 (by omega) Cy2
    have tCy : w4.heap.size < w7.heap.size := by omega
    replace Ce0 := keepC k7 (by omega) Ce0
    replace Ce1 := keepC k7 (by omega) Ce1
    have tCe : w5.heap.size < w7.heap.size := by omega
    have Czz0 : w7.cell? ⟨w6.heap.size, 0, none⟩ = some (.int .i64 (M.ml l a o (2 * (M.st b d - M.st l' o')) (2 * (M.hv b c d - M.hv l' a' o')))) := keepC hb7 (by (first | (simp; done) | (simp; omega))) (by simp [go_sem])
    have Czz1 : w7.cell? ⟨w6.heap.size, 1, none⟩ = some (.int .i64 (M.ma l a o (2 * (M.st b d - M.st l' o')) (2 * (M.hv b c d - M.hv l' a' o')))) := keepC hb7 (by (first | (simp; done) | (simp; omega))) (by simp [go_sem])
    have Czz2 : w7.cell? ⟨w6.heap.size, 2, none⟩ = some (.int .i64 (M.mo l a o (2 * (M.st b d - M.st l' o')) (2 * (M.hv b c d - M.hv l' a' o')))) := keepC hb7 (by (first | (simp; done) | (simp; omega))) (by simp [go_sem])
    have tCzz : w6.heap.size < w7.heap.size := by omega
    rw [hm]
    rw [hM1, hM2, hM3]
    go_wp2_with fail
    refine (Mirror_any m1 m2 m3 l' a' o' _ ((ht.step h0w7).step (by go_grown))).mono ?_
    rintro e w8 ⟨rfl, hb8⟩
    have sz8 := hb8.size
    try simp at sz8
    have k8 : Below w7.heap.size w7 w8 := Below.trans (by go_grown) (hb8.mono (by (first | (simp; done) | (simp; omega))))
    have h0w8 : Below w.heap.size w w8 := h0w7.trans (k8.mono h0w7.size)
    replace Cp0 := keepC k8 (by omega) Cp0
    replace Cp1 := keepC k8 (by omega) Cp1
    replace Cp2 := keepC k8 (by omega) Cp2
    have tCp : w.heap.size < w8.heap.size := by omega
    replace Cq0 := keepC k8 (by omega) Cq0
    replace Cq1 := keepC k8 (by omega) Cq1
    replace Cq2 := keepC k8 (by omega) Cq2
    have tCq : w.heap.size + 1 < w8.heap.size := by omega
    replace Cr0 := keepC k8 (by omega) Cr0
    replace Cr1 := keepC k8 (by omega) Cr1
    replace Cr2 := keepC k8 (by omega) Cr2
    have tCr : w.heap.size + 1 + 1 < w8.heap.size := by omega
    replace Cv0 := keepC k8 (by omega) Cv0
    replace Cv1 := keepC k8 (by omega) Cv1
    have tCv : w.heap.size + 1 + 1 + 1 < w8.heap.size := by omega
    replace Cx0 := keepC k8 (by omega) Cx0
    replace Cx1 := keepC k8 (by omega) Cx1
    replace Cx2 := keepC k8 (by omega) Cx2
    have tCx : w2.heap.size < w8.heap.size := by omega
    replace Ck0 := keepC k8 (by omega) Ck0
    replace Ck1 := keepC k8 (by omega) Ck1
    replace Ck2 := keepC k8 (by omega) Ck2
    have tCk : w3.heap.size < w8.heap.size := by omega
    replace Cy0 := keepC k8 (by omega) Cy0
    replace Cy1 := keepC k8 (by omega) Cy1
    replace Cy2 := keepC k8 (by omega) Cy2
    have tCy : w4.heap.size < w8.heap.size := by omega
    replace Ce0 := keepC k8 (by omega) Ce0
    replace Ce1 := keepC k8 (by omega) Ce1
    have tCe : w5.heap.size < w8.heap.size := by omega
    replace Czz0 := keepC k8 (by omega) Czz0
    replace Czz1 := keepC k8 (by omega) Czz1
    replace Czz2 := keepC k8 (by omega) Czz2
    have tCzz : w6.heap.size < w8.heap.size := by omega
    have Cm0 : w8.cell? ⟨w7.heap.size, 0, none⟩ = some (.int .i64 m1) := keepC hb8 (by (first | (simp; done) | (simp; omega))) (by simp [go_sem])
    have Cm1 : w8.cell? ⟨w7.heap.size, 1, none⟩ = some (.int .i64 m2) := keepC hb8 (by (first | (simp; done) | (simp; omega))) (by simp [go_sem])
    have Cm2 : w8.cell? ⟨w7.heap.size, 2, none⟩ = some (.int .i64 m3) := keepC hb8 (by (first | (simp; done) | (simp; omega))) (by simp [go_sem])
    have tCm : w7.heap.size < w8.heap.size := by omega
    rw [n1, n2, n3, n4]
    go_wp2_with fail
    refine (Move_any x1 x2 x3 (-s) (-h) _ ((ht.step h0w8).step (by go_grown))).mono ?_
    rintro e w9 ⟨rfl, hb9⟩
    have sz9 := hb9.size
    try simp at sz9
    have k9 : Below w8.heap.size w8 w9 := Below.trans (by go_grown) (hb9.mono (by (first | (simp; done) | (simp; omega))))
    have h0w9 : Below w.heap.size w w9 := h0w8.trans (k9.mono h0w8.size)
    replace Cp0 := keepC k9 (by omega) Cp0
    replace Cp1 := keepC k9 (by omega) Cp1
    replace Cp2 := keepC k9 (by omega) Cp2
    have tCp : w.heap.size < w9.heap.size := by omega
    replace Cq0 := keepC k9 (by omega) Cq0
    replace Cq1 := keepC k9 (by omega) Cq1
    replace Cq2 := keepC k9 (by omega) Cq2
    have tCq : w.heap.size + 1 < w9.heap.size := by omega
    replace Cr0 := keepC k9 (by omega) Cr0
    replace Cr1 := keepC k9 (by omega) Cr1
    replace Cr2 := keepC k9 (by omega) Cr2
    have tCr : w.heap.size + 1 + 1 < w9.heap.size := by omega
    replace Cv0 := keepC k9 (by omega) Cv0
    replace Cv1 := keepC k9 (by omega) Cv1
    have tCv : w.heap.size + 1 + 1 + 1 < w9.heap.size := by omega
    replace Cx0 := keepC k9 (by omega) Cx0
    replace Cx1 := keepC k9 (by omega) Cx1
    replace Cx2 := keepC k9 (by omega) Cx2
    have tCx : w2.heap.size < w9.heap.size := by omega
    replace Ck0 := keepC k9 (by omega) Ck0
    replace Ck1 := keepC k9 (by omega) Ck1
    replace Ck2 := keepC k9 (by omega) Ck2
    have tCk : w3.heap.size < w9.heap.size := by omega
    replace Cy0 := keepC k9 (by omega) Cy0
    replace Cy1 := keepC k9 (by omega) Cy1
    replace Cy2 := keepC k9 (by omega) Cy2
    have tCy : w4.heap.size < w9.heap.size := by omega
    replace Ce0 := keepC k9 (by omega) Ce0
    replace Ce1 := keepC k9 (by omega) Ce1
    have tCe : w5.heap.size < w9.heap.size := by omega
    replace Czz0 := keepC k9 (by omega) Czz0
    replace Czz1 := keepC k9 (by omega) Czz1
    replace Czz2 := keepC k9 (by omega) Czz2
    have tCzz : w6.heap.size < w9.heap.size := by omega
    replace Cm0 := keepC k9 (by omega) Cm0
    replace Cm1 := keepC k9 (by omega) Cm1
    replace Cm2 := keepC k9 (by omega) Cm2
    have tCm : w7.heap.size < w9.heap.size := by omega
    have Cn0 : w9.cell? ⟨w8.heap.size, 0, none⟩ = some (.int .i64 n5) := keepC hb9 (by (first | (simp; done) | (simp; omega))) (by simp [go_sem])
    have Cn1 : w9.cell? ⟨w8.heap.size, 1, none⟩ = some (.int .i64 n6) := keepC hb9 (by (first | (simp; done) | (simp; omega))) (by simp [go_sem])
    have Cn2 : w9.cell? ⟨w8.heap.size, 2, none⟩ = some (.int .i64 n7) := keepC hb9 (by (first | (simp; done) | (simp; omega))) (by simp [go_sem])
    have tCn : w8.heap.size < w9.heap.size := by omega
    rw [o1, hO1, hO2, hO3]
    go_wp2_with fail
    go_ret
    exact ⟨rfl, Below.trans h0w9 (Below.mono (by go_grown) h0w9.size)⟩
  obtain ⟨_, _, rz, ez1, ez2⟩ := M.move_ok hz
  obtain ⟨z1, z2, z3⟩ := M.rt_one rz ry (by omega) (by omega)
  have z0 := hz
  by_cases hm : M.me l a o s h = 0
  case neg =>
    have hm' := neq0 hm
    have bp := M.hv_bd rp
    have bq := M.hv_bd rq
    go_enter Tryd.func5, Tryd.ntmps5
    go_wp2_with fail
    refine (alive_any _ (ht.step (by go_grown))).mono ?_
    rintro e w1 ⟨rfl, hb1⟩
    have sz1 := hb1.size
    try simp at sz1
    have k1 : Below w.heap.size w w1 := Below.trans (by go_grown) (hb1.mono (by (first | (simp; done) | (simp; omega))))
    have h0w1 : Below w.heap.size w w1 := k1
    have Cp0 : w1.cell? ⟨w.heap.size, 0, none⟩ = some (.int .i64 l) := keepC hb1 (by (first | (simp; done) | (simp; omega))) (by simp [go_sem])
    have Cp1 : w1.cell? ⟨w.heap.size, 1, none⟩ = some (.int .i64 a) := keepC hb1 (by (first | (simp; done) | (simp; omega))) (by simp [go_sem])
    have Cp2 : w1.cell? ⟨w.heap.size, 2, none⟩ = some (.int .i64 o) := keepC hb1 (by (first | (simp; done) | (simp; omega))) (by simp [go_sem])
    have tCp : w.heap.size < w1.heap.size := by omega
    have Cq0 : w1.cell? ⟨w.heap.size + 1, 0, none⟩ = some (.int .i64 l') := keepC hb1 (by (first | (simp; done) | (simp; omega))) (by simp [go_sem])
    have Cq1 : w1.cell? ⟨w.heap.size + 1, 1, none⟩ = some (.int .i64 a') := keepC hb1 (by (first | (simp; done) | (simp; omega))) (by simp [go_sem])
    have Cq2 : w1.cell? ⟨w.heap.size + 1, 2, none⟩ = some (.int .i64 o') := keepC hb1 (by (first | (simp; done) | (simp; omega))) (by simp [go_sem])
    have tCq : w.heap.size + 1 < w1.heap.size := by omega
    have Cr0 : w1.cell? ⟨w.heap.size + 1 + 1, 0, none⟩ = some (.int .i64 b) := keepC hb1 (by (first | (simp; done) | (simp; omega))) (by simp [go_sem])
    have Cr1 : w1.cell? ⟨w.heap.size + 1 + 1, 1, none⟩ = some (.int .i64 c) := keepC hb1 (by (first | (simp; done) | (simp; omega))) (by simp [go_sem])
    have Cr2 : w1.cell? ⟨w.heap.size + 1 + 1, 2, none⟩ = some (.int .i64 d) := keepC hb1 (by (first | (simp; done) | (simp; omega))) (by simp [go_sem])
    have tCr : w.heap.size + 1 + 1 < w1.heap.size := by omega
    have Cv0 : w1.cell? ⟨w.heap.size + 1 + 1 + 1, 0, none⟩ = some (.int .i64 s) := keepC hb1 (by (first | (simp; done) | (simp; omega))) (by simp [go_sem])
    have Cv1 : w1.cell? ⟨w.heap.size + 1 + 1 + 1, 1, none⟩ = some (.int .i64 h) := keepC hb1 (by (first | (simp; done) | (simp; omega))) (by simp [go_sem])
    have tCv : w.heap.size + 1 + 1 + 1 < w1.heap.size := by omega
    go_wp2_with fail
    refine (Mirror_any l a o l' a' o' _ ((ht.step h0w1).step (by go_grown))).mono ?_
    rintro e w2 ⟨rfl, hb2⟩
    have sz2 := hb2.size
    try simp at sz2
    have k2 : Below w1.heap.size w1 w2 := Below.trans (by go_grown) (hb2.mono (by (first | (simp; done) | (simp; omega))))
    have h0w2 : Below w.heap.size w w2 := h0w1.trans (k2.mono h0w1.size)
    replace Cp0 := keepC k2 (by omega) Cp0
    replace Cp1 := keepC k2 (by omega) Cp1
    replace Cp2 := keepC k2 (by omega) Cp2
    have tCp : w.heap.size < w2.heap.size := by omega
    replace Cq0 := keepC k2 (by omega) Cq0
    replace Cq1 := keepC k2 (by omega) Cq1
    replace Cq2 := keepC k2 (by omega) Cq2
    have tCq : w.heap.size + 1 < w2.heap.size := by omega
    replace Cr0 := keepC k2 (by omega) Cr0
    replace Cr1 := keepC k2 (by omega) Cr1
    replace Cr2 := keepC k2 (by omega) Cr2
    have tCr : w.heap.size + 1 + 1 < w2.heap.size := by omega
    replace Cv0 := keepC k2 (by omega) Cv0
    replace Cv1 := keepC k2 (by omega) Cv1
    have tCv : w.heap.size + 1 + 1 + 1 < w2.heap.size := by omega
    rw [hX1, hX2, hX3, hx]
    go_wp2_with fail
    refine (Mirror_any x1 x2 x3 l' a' o' _ ((ht.step h0w2).step (by go_grown))).mono ?_
    rintro e w3 ⟨rfl, hb3⟩
    have sz3 := hb3.size
    try simp at sz3
    have k3 : Below w2.heap.size w2 w3 := Below.trans (by go_grown) (hb3.mono (by (first | (simp; done) | (simp; omega))))
    have h0w3 : Below w.heap.size w w3 := h0w2.trans (k3.mono h0w2.size)
    replace Cp0 := keepC k3 (by omega) Cp0
    replace Cp1 := keepC k3 (by omega) Cp1
    replace Cp2 := keepC k3 (by omega) Cp2
    have tCp : w.heap.size < w3.heap.size := by omega
    replace Cq0 := keepC k3 (by omega) Cq0
    replace Cq1 := keepC k3 (by omega) Cq1
    replace Cq2 := keepC k3 (by omega) Cq2
    have tCq : w.heap.size + 1 < w3.heap.size := by omega
    replace Cr0 := keepC k3 (by omega) Cr0
    replace Cr1 := keepC k3 (by omega) Cr1
    replace Cr2 := keepC k3 (by omega) Cr2
    have tCr : w.heap.size + 1 + 1 < w3.heap.size := by omega
    replace Cv0 := keepC k3 (by omega) Cv0
    replace Cv1 := keepC k3 (by omega) Cv1
    have tCv : w.heap.size + 1 + 1 + 1 < w3.heap.size := by omega
    have Cx0 : w3.cell? ⟨w2.heap.size, 0, none⟩ = some (.int .i64 x1) := keepC hb3 (by (first | (simp; done) | (simp; omega))) (by simp [go_sem])
    have Cx1 : w3.cell? ⟨w2.heap.size, 1, none⟩ = some (.int .i64 x2) := keepC hb3 (by (first | (simp; done) | (simp; omega))) (by simp [go_sem])
    have Cx2 : w3.cell? ⟨w2.heap.size, 2, none⟩ = some (.int .i64 x3) := keepC hb3 (by (first | (simp; done) | (simp; omega))) (by simp [go_sem])
    have tCx : w2.heap.size < w3.heap.size := by omega
    rw [g1, g2, g3, g4]
    go_wp2_with fail
    refine (Mirror_any x1 x2 x3 b c d _ ((ht.step h0w3).step (by go_grown))).mono ?_
    rintro e w4 ⟨rfl, hb4⟩
    have sz4 := hb4.size
    try simp at sz4
    have k4 : Below w3.heap.size w3 w4 := Below.trans (by go_grown) (hb4.mono (by (first | (simp; done) | (simp; omega))))
    have h0w4 : Below w.heap.size w w4 := h0w3.trans (k4.mono h0w3.size)
    replace Cp0 := keepC k4 (by omega) Cp0
    replace Cp1 := keepC k4 (by omega) Cp1
    replace Cp2 := keepC k4 (by omega) Cp2
    have tCp : w.heap.size < w4.heap.size := by omega
    replace Cq0 := keepC k4 (by omega) Cq0
    replace Cq1 := keepC k4 (by omega) Cq1
    replace Cq2 := keepC k4 (by omega) Cq2
    have tCq : w.heap.size + 1 < w4.heap.size := by omega
    replace Cr0 := keepC k4 (by omega) Cr0
    replace Cr1 := keepC k4 (by omega) Cr1
    replace Cr2 := keepC k4 (by omega) Cr2
    have tCr : w.heap.size + 1 + 1 < w4.heap.size := by omega
    replace Cv0 := keepC k4 (by omega) Cv0
    replace Cv1 := keepC k4 (by omega) Cv1
    have tCv : w.heap.size + 1 + 1 + 1 < w4.heap.size := by omega
    replace Cx0 := keepC k4 (by omega) Cx0
    replace Cx1 := keepC k4 (by omega) Cx1
    replace Cx2 := keepC k4 (by omega) Cx2
    have tCx : w2.heap.size < w4.heap.size := by omega
    have Ck0 : w4.cell? ⟨w3.heap.size, 0, none⟩ = some (.int .i64 l) := keepC hb4 (by (first | (simp; done) | (simp; omega))) (by simp [go_sem])
    have Ck1 : w4.cell? ⟨w3.heap.size, 1, none⟩ = some (.int .i64 a) := keepC hb4 (by (first | (simp; done) | (simp; omega))) (by simp [go_sem])
    have Ck2 : w4.cell? ⟨w3.heap.size, 2, none⟩ = some (.int .i64 o) := keepC hb4 (by (first | (simp; done) | (simp; omega))) (by simp [go_sem])
    have tCk : w3.heap.size < w4.heap.size := by omega
    rw [hy, hY1, hY2, hY3]
    go_wp2_with fail
    refine (Between_any l' a' o' b c d _ ((ht.step h0w4).step (by go_grown))).mono ?_
    rintro e w5 ⟨rfl, hb5⟩
    have sz5 := hb5.size
    try simp at sz5
    have k5 : Below w4.heap.size w4 w5 := Below.trans (by go_grown) (hb5.mono (by (first | (simp; done) | (simp; omega))))
    have h0w5 : Below w.heap.size w w5 := h0w4.trans (k5.mono h0w4.size)
    replace Cp0 := keepC k5 (by omega) Cp0
    replace Cp1 := keepC k5 (by omega) Cp1
    replace Cp2 := keepC k5 (by omega) Cp2
    have tCp : w.heap.size < w5.heap.size := by omega
    replace Cq0 := keepC k5 (by omega) Cq0
    replace Cq1 := keepC k5 (by omega) Cq1
    replace Cq2 := keepC k5 (by omega) Cq2
    have tCq : w.heap.size + 1 < w5.heap.size := by omega
    replace Cr0 := keepC k5 (by omega) Cr0
    replace Cr1 := keepC k5 (by omega) Cr1
    replace Cr2 := keepC k5 (by omega) Cr2
    have tCr : w.heap.size + 1 + 1 < w5.heap.size := by omega
    replace Cv0 := keepC k5 (by omega) Cv0
    replace Cv1 := keepC k5 (by omega) Cv1
    have tCv : w.heap.size + 1 + 1 + 1 < w5.heap.size := by omega
    replace Cx0 := keepC k5 (by omega) Cx0
    replace Cx1 := keepC k5 (by omega) Cx1
    replace Cx2 := keepC k5 (by omega) Cx2
    have tCx : w2.heap.size < w5.heap.size := by omega
    replace Ck0 := keepC k5 (by omega) Ck0
    replace Ck1 := keepC k5 (by omega) Ck1
    replace Ck2 := keepC k5 (by omega) Ck2
    have tCk : w3.heap.size < w5.heap.size := by omega
    have Cy0 : w5.cell? ⟨w4.heap.size, 0, none⟩ = some (.int .i64 y1) := keepC hb5 (by (first | (simp; done) | (simp; omega))) (by simp [go_sem])
    have Cy1 : w5.cell? ⟨w4.heap.size, 1, none⟩ = some (.int .i64 y2) := keepC hb5 (by (first | (simp; done) | (simp; omega))) (by simp [go_sem])
    have Cy2 : w5.cell? ⟨w4.heap.size, 2, none⟩ = some (.int .i64 y3) := keepC hb5 (by (first | (simp; done) | (simp; omega))) (by simp [go_sem])
    have tCy : w4.heap.size < w5.heap.size := by omega
    rw [be0, be1, be2]
    go_wp2_with fail
    refine (Move_any l a o (2 * (M.st b d - M.st l' o')) (2 * (M.hv b c d - M.hv l' a' o')) _ ((ht.step h0w5).step (by go_grown))).mono ?_
    rintro e w6 ⟨rfl, hb6⟩
    have sz6 := hb6.size
    try simp at sz6
    have k6 : Below w5.heap.size w5 w6 := Below.trans (by go_grown) (hb6.mono (by (first | (simp; done) | (simp; omega))))
    have h0w6 : Below w.heap.size w w6 := h0w5.trans (k6.mono h0w5.size)
    replace Cp0 := keepC k6 (by omega) Cp0
    replace Cp1 := keepC k6 (by omega) Cp1
    replace Cp2 := keepC k6 (by omega) Cp2
    have tCp : w.heap.size < w6.heap.size := by omega
    replace Cq0 := keepC k6 (by omega) Cq0
    replace Cq1 := keepC k6 (by omega) Cq1
    replace Cq2 := keepC k6 (by omega) Cq2
    have tCq : w.heap.size + 1 < w6.heap.size := by omega
    replace Cr0 := keepC k6 (by omega) Cr0
    replace Cr1 := keepC k6 (by omega) Cr1
    replace Cr2 := keepC k6 (by omega) Cr2
    have tCr : w.heap.size + 1 + 1 < w6.heap.size := by omega
    replace Cv0 := keepC k6 (by omega) Cv0
    replace Cv1 := keepC k6 (by omega) Cv1
    have tCv : w.heap.size + 1 + 1 + 1 < w6.heap.size := by omega
    replace Cx0 := keepC k6 (by omega) Cx0
    replace Cx1 := keepC k6 (by omega) Cx1
    replace Cx2 := keepC k6 (by omega) Cx2
    have tCx : w2.heap.size < w6.heap.size := by omega
    replace Ck0 := keepC k6 (by omega) Ck0
    replace Ck1 := keepC k6 (by omega) Ck1
    replace Ck2 := keepC k6 (by omega) Ck2
    have tCk : w3.heap.size < w6.heap.size := by omega
    replace Cy0 := keepC k6 (by omega) Cy0
    replace Cy1 := keepC k6 (by omega) Cy1
    replace Cy2 := keepC k6 (by omega) Cy2
    have tCy : w4.heap.size < w6.heap.size := by omega
    have Ce0 : w6.cell? ⟨w5.heap.size, 0, none⟩ = some (.int .i64 (M.st b d - M.st l' o')) := keepC hb6 (by (first | (simp; done) | (simp; omega))) (by simp [go_sem])
    have Ce1 : w6.cell? ⟨w5.heap.size, 1, none⟩ = some (.int .i64 (M.hv b c d - M.hv l' a' o')) := keepC hb6 (by (first | (simp; done) | (simp; omega))) (by simp [go_sem])
    have tCe : w5.heap.size < w6.heap.size := by omega
    rw [z0, z1, z2, z3]
    go_wp2_with fail
    refine (Move_any l a o s h _ ((ht.step h0w6).step (by go_grown))).mono ?_
    rintro e w7 ⟨rfl, hb7⟩
    have sz7 := hb7.size
    try simp at sz7
    have k7 : Below w6.heap.size w6 w7 := Below.trans (by go_grown) (hb7.mono (by (first | (simp; done) | (simp; omega))))
    have h0w7 : Below w.heap.size w w7 := h0w6.trans (k7.mono h0w6.size)
    replace Cp0 := keepC k7 (by omega) Cp0
    replace Cp1 := keepC k7 (by omega) Cp1
    replace Cp2 := keepC k7 (by omega) Cp2
    have tCp : w.heap.size < w7.heap.size := by omega
    replace Cq0 := keepC k7 (by omega) Cq0
    replace Cq1 := keepC k7 (by omega) Cq1
    replace Cq2 := keepC k7 (by omega) Cq2
    have tCq : w.heap.size + 1 < w7.heap.size := by omega
    replace Cr0 := keepC k7 (by omega) Cr0
    replace Cr1 := keepC k7 (by omega) Cr1
    replace Cr2 := keepC k7 (by omega) Cr2
    have tCr : w.heap.size + 1 + 1 < w7.heap.size := by omega
    replace Cv0 := keepC k7 (by omega) Cv0
    replace Cv1 := keepC k7 (by omega) Cv1
    have tCv : w.heap.size + 1 + 1 + 1 < w7.heap.size := by omega
    replace Cx0 := keepC k7 (by omega) Cx0
    replace Cx1 := keepC k7 (by omega) Cx1
    replace Cx2 := keepC k7 (by omega) Cx2
    have tCx : w2.heap.size < w7.heap.size := by omega
    replace Ck0 := keepC k7 (by omega) Ck0
    replace Ck1 := keepC k7 (by omega) Ck1
    replace Ck2 := keepC k7 (by omega) Ck2
    have tCk : w3.heap.size < w7.heap.size := by omega
    replace Cy0 := keepC k7 (by omega) Cy0
    replace Cy1 := keepC k7 (by omega) Cy1
    replace Cy2 := keepC k7 (by omega) Cy2
    have tCy : w4.heap.size < w7.heap.size := by omega
    replace Ce0 := keepC k7 (by omega) Ce0
    replace Ce1 := keepC k7 (by omega) Ce1
    have tCe : w5.heap.size < w7.heap.size := by omega
    have Czz0 : w7.cell? ⟨w6.heap.size, 0, none⟩ = some (.int .i64 y1) := keepC hb7 (by (first | (simp; done) | (simp; omega))) (by simp [go_sem])
    have Czz1 : w7.cell? ⟨w6.heap.size, 1, none⟩ = some (.int .i64 y2) := keepC hb7 (by (first | (simp; done) | (simp; omega))) (by simp [go_sem])
    have Czz2 : w7.cell? ⟨w6.heap.size, 2, none⟩ = some (.int .i64 y3) := keepC hb7 (by (first | (simp; done) | (simp; omega))) (by simp [go_sem])
    have tCzz : w6.heap.size < w7.heap.size := by omega
    go_wp2_with fail
    go_ret
    exact ⟨rfl, Below.trans h0w7 (Below.mono (by go_grown) h0w7.size)⟩
  obtain ⟨_, hin, rm, em1, em2⟩ := M.move_ok hm
  have hin' := M.inb_yes hin
  generalize hM1 : M.ml l a o s h = m1 at *
  generalize hM2 : M.ma l a o s h = m2 at *
  generalize hM3 : M.mo l a o s h = m3 at *
  by_cases hn : M.re m1 m2 m3 l' a' o' = 0
  case neg =>
    have hn' := neq0 hn
    have bp := M.hv_bd rp
    have bq := M.hv_bd rq
    go_enter Tryd.func5, Tryd.ntmps5
    go_wp2_with fail
    refine (alive_any _ (ht.step (by go_grown))).mono ?_
    rintro e w1 ⟨rfl, hb1⟩
    have sz1 := hb1.size
    try simp at sz1
    have k1 : Below w.heap.size w w1 := Below.trans (by go_grown) (hb1.mono (by (first | (simp; done) | (simp; omega))))
    have h0w1 : Below w.heap.size w w1 := k1
    have Cp0 : w1.cell? ⟨w.heap.size, 0, none⟩ = some (.int .i64 l) := keepC hb1 (by (first | (simp; done) | (simp; omega))) (by simp [go_sem])
    have Cp1 : w1.cell? ⟨w.heap.size, 1, none⟩ = some (.int .i64 a) := keepC hb1 (by (first | (simp; done) | (simp; omega))) (by simp [go_sem])
    have Cp2 : w1.cell? ⟨w.heap.size, 2, none⟩ = some (.int .i64 o) := keepC hb1 (by (first | (simp; done) | (simp; omega))) (by simp [go_sem])
    have tCp : w.heap.size < w1.heap.size := by omega
    have Cq0 : w1.cell? ⟨w.heap.size + 1, 0, none⟩ = some (.int .i64 l') := keepC hb1 (by (first | (simp; done) | (simp; omega))) (by simp [go_sem])
    have Cq1 : w1.cell? ⟨w.heap.size + 1, 1, none⟩ = some (.int .i64 a') := keepC hb1 (by (first | (simp; done) | (simp; omega))) (by simp [go_sem])
    have Cq2 : w1.cell? ⟨w.heap.size + 1, 2, none⟩ = some (.int .i64 o') := keepC hb1 (by (first | (simp; done) | (simp; omega))) (by simp [go_sem])
    have tCq : w.heap.size + 1 < w1.heap.size := by omega
    have Cr0 : w1.cell? ⟨w.heap.size + 1 + 1, 0, none⟩ = some (.int .i64 b) := keepC hb1 (by (first | (simp; done) | (simp; omega))) (by simp [go_sem])
    have Cr1 : w1.cell? ⟨w.heap.size + 1 + 1, 1, none⟩ = some (.int .i64 c) := keepC hb1 (by (first | (simp; done) | (simp; omega))) (by simp [go_sem])
    have Cr2 : w1.cell? ⟨w.heap.size + 1 + 1, 2, none⟩ = some (.int .i64 d) := keepC hb1 (by (first | (simp; done) | (simp; omega))) (by simp [go_sem])
    have tCr : w.heap.size + 1 + 1 < w1.heap.size := by omega
    have Cv0 : w1.cell? ⟨w.heap.size + 1 + 1 + 1, 0, none⟩ = some (.int .i64 s) := keepC hb1 (by (first | (simp; done) | (simp; omega))) (by simp [go_sem])
    have Cv1 : w1.cell? ⟨w.heap.size + 1 + 1 + 1, 1, none⟩ = some (.int .i64 h) := keepC hb1 (by (first | (simp; done) | (simp; omega))) (by simp [go_sem])
    have tCv : w.heap.size + 1 + 1 + 1 < w1.heap.size := by omega
    go_wp2_with fail
    refine (Mirror_any l a o l' a' o' _ ((ht.step h0w1).step (by go_grown))).mono ?_
    rintro e w2 ⟨rfl, hb2⟩
    have sz2 := hb2.size
    try simp at sz2
    have k2 : Below w1.heap.size w1 w2 := Below.trans (by go_grown) (hb2.mono (by (first | (simp; done) | (simp; omega))))
    have h0w2 : Below w.heap.size w w2 := h0w1.trans (k2.mono h0w1.size)
    replace Cp0 := keepC k2 (by omega) Cp0
    replace Cp1 := keepC k2 (by omega) Cp1
    replace Cp2 := keepC k2 (by omega) Cp2
    have tCp : w.heap.size < w2.heap.size := by omega
    replace Cq0 := keepC k2 (by omega) Cq0
    replace Cq1 := keepC k2 (by omega) Cq1
    replace Cq2 := keepC k2 (by omega) Cq2
    have tCq : w.heap.size + 1 < w2.heap.size := by omega
    replace Cr0 := keepC k2 (by omega) Cr0
    replace Cr1 := keepC k2 (by omega) Cr1
    replace Cr2 := keepC k2 (by omega) Cr2
    have tCr : w.heap.size + 1 + 1 < w2.heap.size := by omega
    replace Cv0 := keepC k2 (by omega) Cv0
    replace Cv1 := keepC k2 (by omega) Cv1
    have tCv : w.heap.size + 1 + 1 + 1 < w2.heap.size := by omega
    rw [hX1, hX2, hX3, hx]
    go_wp2_with fail
    refine (Mirror_any x1 x2 x3 l' a' o' _ ((ht.step h0w2).step (by go_grown))).mono ?_
    rintro e w3 ⟨rfl, hb3⟩
    have sz3 := hb3.size
    try simp at sz3
    have k3 : Below w2.heap.size w2 w3 := Below.trans (by go_grown) (hb3.mono (by (first | (simp; done) | (simp; omega))))
    have h0w3 : Below w.heap.size w w3 := h0w2.trans (k3.mono h0w2.size)
    replace Cp0 := keepC k3 (by omega) Cp0
    replace Cp1 := keepC k3 (by omega) Cp1
    replace Cp2 := keepC k3 (by omega) Cp2
    have tCp : w.heap.size < w3.heap.size := by omega
    replace Cq0 := keepC k3 (by omega) Cq0
    replace Cq1 := keepC k3 (by omega) Cq1
    replace Cq2 := keepC k3 (by omega) Cq2
    have tCq : w.heap.size + 1 < w3.heap.size := by omega
    replace Cr0 := keepC k3 (by omega) Cr0
    replace Cr1 := keepC k3 (by omega) Cr1
    replace Cr2 := keepC k3 (by omega) Cr2
    have tCr : w.heap.size + 1 + 1 < w3.heap.size := by omega
    replace Cv0 := keepC k3 (by omega) Cv0
    replace Cv1 := keepC k3 (by omega) Cv1
    have tCv : w.heap.size + 1 + 1 + 1 < w3.heap.size := by omega
    have Cx0 : w3.cell? ⟨w2.heap.size, 0, none⟩ = some (.int .i64 x1) := keepC hb3 (by (first | (simp; done) | (simp; omega))) (by simp [go_sem])
    have Cx1 : w3.cell? ⟨w2.heap.size, 1, none⟩ = some (.int .i64 x2) := keepC hb3 (by (first | (simp; done) | (simp; omega))) (by simp [go_sem])
    have Cx2 : w3.cell? ⟨w2.heap.size, 2, none⟩ = some (.int .i64 x3) := keepC hb3 (by (first | (simp; done) | (simp; omega))) (by simp [go_sem])
    have tCx : w2.heap.size < w3.heap.size := by omega
    rw [g1, g2, g3, g4]
    go_wp2_with fail
    refine (Mirror_any x1 x2 x3 b c d _ ((ht.step h0w3).step (by go_grown))).mono ?_
    rintro e w4 ⟨rfl, hb4⟩
    have sz4 := hb4.size
    try simp at sz4
    have k4 : Below w3.heap.size w3 w4 := Below.trans (by go_grown) (hb4.mono (by (first | (simp; done) | (simp; omega))))
    have h0w4 : Below w.heap.size w w4 := h0w3.trans (k4.mono h0w3.size)
    replace Cp0 := keepC k4 (by omega) Cp0
    replace Cp1 := keepC k4 (by omega) Cp1
    replace Cp2 := keepC k4 (by omega) Cp2
    have tCp : w.heap.size < w4.heap.size := by omega
    replace Cq0 := keepC k4 (by omega) Cq0
    replace Cq1 := keepC k4 (by omega) Cq1
    replace Cq2 := keepC k4 (by omega) Cq2
    have tCq : w.heap.size + 1 < w4.heap.size := by omega
    replace Cr0 := keepC k4 (by omega) Cr0
    replace Cr1 := keepC k4 (by omega) Cr1
    replace Cr2 := keepC k4 (by omega) Cr2
    have tCr : w.heap.size + 1 + 1 < w4.heap.size := by omega
    replace Cv0 := keepC k4 (by omega) Cv0
    replace Cv1 := keepC k4 (by omega) Cv1
    have tCv : w.heap.size + 1 + 1 + 1 < w4.heap.size := by omega
    replace Cx0 := keepC k4 (by omega) Cx0
    replace Cx1 := keepC k4 (by omega) Cx1
    replace Cx2 := keepC k4 (by omega) Cx2
    have tCx : w2.heap.size < w4.heap.size := by omega
    have Ck0 : w4.cell? ⟨w3.heap.size, 0, none⟩ = some (.int .i64 l) := keepC hb4 (by (first | (simp; done) | (simp; omega))) (by simp [go_sem])
    have Ck1 : w4.cell? ⟨w3.heap.size, 1, none⟩ = some (.int .i64 a) := keepC hb4 (by (first | (simp; done) | (simp; omega))) (by simp [go_sem])
    have Ck2 : w4.cell? ⟨w3.heap.size, 2, none⟩ = some (.int .i64 o) := keepC hb4 (by (first | (simp; done) | (simp; omega))) (by simp [go_sem])
    have tCk : w3.heap.size < w4.heap.size := by omega
    rw [hy, hY1, hY2, hY3]
    go_wp2_with fail
    refine (Between_any l' a' o' b c d _ ((ht.step h0w4).step (by go_grown))).mono ?_
    rintro e w5 ⟨rfl, hb5⟩
    have sz5 := hb5.size
    try simp at sz5
    have k5 : Below w4.heap.size w4 w5 := Below.trans (by go_grown) (hb5.mono (by (first | (simp; done) | (simp; omega))))
    have h0w5 : Below w.heap.size w w5 := h0w4.trans (k5.mono h0w4.size)
    replace Cp0 := keepC k5 (by omega) Cp0
    replace Cp1 := keepC k5 (by omega) Cp1
    replace Cp2 := keepC k5 (by omega) Cp2
    have tCp : w.heap.size < w5.heap.size := by omega
    replace Cq0 := keepC k5 (by omega) Cq0
    replace Cq1 := keepC k5 (by omega) Cq1
    replace Cq2 := keepC k5 (by omega) Cq2
    have tCq : w.heap.size + 1 < w5.heap.size := by omega
    replace Cr0 := keepC k5 (by omega) Cr0
    replace Cr1 := keepC k5 (by omega) Cr1
    replace Cr2 := keepC k5 (by omega) Cr2
    have tCr : w.heap.size + 1 + 1 < w5.heap.size := by omega
    replace Cv0 := keepC k5 (by omega) Cv0
    replace Cv1 := keepC k5 (by omega) Cv1
    have tCv : w.heap.size + 1 + 1 + 1 < w5.heap.size := by omega
    replace Cx0 := keepC k5 (by omega) Cx0
    replace Cx1 := keepC k5 (by omega) Cx1
    replace Cx2 := keepC k5 (by omega) Cx2
    have tCx : w2.heap.size < w5.heap.size := by omega
    replace Ck0 := keepC k5 (by omega) Ck0
    replace Ck1 := keepC k5 (by omega) Ck1
    replace Ck2 := keepC k5 (by omega) Ck2
    have tCk : w3.heap.size < w5.heap.size := by omega
    have Cy0 : w5.cell? ⟨w4.heap.size, 0, none⟩ = some (.int .i64 y1) := keepC hb5 (by (first | (simp; done) | (simp; omega))) (by simp [go_sem])
    have Cy1 : w5.cell? ⟨w4.heap.size, 1, none⟩ = some (.int .i64 y2) := keepC hb5 (by (first | (simp; done) | (simp; omega))) (by simp [go_sem])
    have Cy2 : w5.cell? ⟨w4.heap.size, 2, none⟩ = some (.int .i64 y3) := keepC hb5 (by (first | (simp; done) | (simp; omega))) (by simp [go_sem])
    have tCy : w4.heap.size < w5.heap.size := by omega
    rw [be0, be1, be2]
    go_wp2_with fail
    refine (Move_any l a o (2 * (M.st b d - M.st l' o')) (2 * (M.hv b c d - M.hv l' a' o')) _ ((ht.step h0w5).step (by go_grown))).mono ?_
    rintro e w6 ⟨rfl, hb6⟩
    have sz6 := hb6.size
    try simp at sz6
    have k6 : Below w5.heap.size w5 w6 := Below.trans (by go_grown) (hb6.mono (by (first | (simp; done) | (simp; omega))))
    have h0w6 : Below w.heap.size w w6 := h0w5.trans (k6.mono h0w5.size)
    replace Cp0 := keepC k6 (by omega) Cp0
    replace Cp1 := keepC k6 (by omega) Cp1
    replace Cp2 := keepC k6 (by omega) Cp2
    have tCp : w.heap.size < w6.heap.size := by omega
    replace Cq0 := keepC k6 (by omega) Cq0
    replace Cq1 := keepC k6 (by omega) Cq1
    replace Cq2 := keepC k6 (by omega) Cq2
    have tCq : w.heap.size + 1 < w6.heap.size := by omega
    replace Cr0 := keepC k6 (by omega) Cr0
    replace Cr1 := keepC k6 (by omega) Cr1
    replace Cr2 := keepC k6 (by omega) Cr2
    have tCr : w.heap.size + 1 + 1 < w6.heap.size := by omega
    replace Cv0 := keepC k6 (by omega) Cv0
    replace Cv1 := keepC k6 (by omega) Cv1
    have tCv : w.heap.size + 1 + 1 + 1 < w6.heap.size := by omega
    replace Cx0 := keepC k6 (by omega) Cx0
    replace Cx1 := keepC k6 (by omega) Cx1
    replace Cx2 := keepC k6 (by omega) Cx2
    have tCx : w2.heap.size < w6.heap.size := by omega
    replace Ck0 := keepC k6 (by omega) Ck0
    replace Ck1 := keepC k6 (by omega) Ck1
    replace Ck2 := keepC k6 (by omega) Ck2
    have tCk : w3.heap.size < w6.heap.size := by omega
    replace Cy0 := keepC k6 (by omega) Cy0
    replace Cy1 := keepC k6 (by omega) Cy1
    replace Cy2 := keepC k6 (by omega) Cy2
    have tCy : w4.heap.size < w6.heap.size := by omega
    have Ce0 : w6.cell? ⟨w5.heap.size, 0, none⟩ = some (.int .i64 (M.st b d - M.st l' o')) := keepC hb6 (by (first | (simp; done) | (simp; omega))) (by simp [go_sem])
    have Ce1 : w6.cell? ⟨w5.heap.size, 1, none⟩ = some (.int .i64 (M.hv b c d - M.hv l' a' o')) := keepC hb6 (by (first | (simp; done) | (simp; omega))) (by simp [go_sem])
    have tCe : w5.heap.size < w6.heap.size := by omega
    rw [z0, z1, z2, z3]
    go_wp2_with fail
    refine (Move_any l a o s h _ ((ht.step h0w6).step (by go_grown))).mono ?_
    rintro e w7 ⟨rfl, hb7⟩
    have sz7 := hb7.size
    try simp at sz7
    have k7 : Below w6.heap.size w6 w7 := Below.trans (by go_grown) (hb7.mono (by (first | (simp; done) | (simp; omega))))
    have h0w7 : Below w.heap.size w w7 := h0w6.trans (k7.mono h0w6.size)
    replace Cp0 := keepC k7 (by omega) Cp0
    replace Cp1 := keepC k7 (by omega) Cp1
    replace Cp2 := keepC k7 (by omega) Cp2
    have tCp : w.heap.size < w7.heap.size := by omega
    replace Cq0 := keepC k7 (by omega) Cq0
    replace Cq1 := keepC k7 (by omega) Cq1
    replace Cq2 := keepC k7 (by omega) Cq2
    have tCq : w.heap.size + 1 < w7.heap.size := by omega
    replace Cr0 := keepC k7 (by omega) Cr0
    replace Cr1 := keepC k7 (by omega) Cr1
    replace Cr2 := keepC k7 (by omega) Cr2
    have tCr : w.heap.size + 1 + 1 < w7.heap.size := by omega
    replace Cv0 := keepC k7 (by omega) Cv0
    replace Cv1 := keepC k7 (by omega) Cv1
    have tCv : w.heap.size + 1 + 1 + 1 < w7.heap.size := by omega
    replace Cx0 := keepC k7 (by omega) Cx0
    replace Cx1 := keepC k7 (by omega) Cx1
    replace Cx2 := keepC k7 (by omega) Cx2
    have tCx : w2.heap.size < w7.heap.size := by omega
    replace Ck0 := keepC k7 (by omega) Ck0
    replace Ck1 := keepC k7 (by omega) Ck1
    replace Ck2 := keepC k7 (by omega) Ck2
    have tCk : w3.heap.size < w7.heap.size := by omega
    replace Cy0 := keepC k7 (by omega) Cy0
    replace Cy1 := keepC k7 (by omega) Cy1
    replace Cy2 := keepC k7 (by omega) Cy2
    have tCy : w4.heap.size < w7.heap.size := by omega
    replace Ce0 := keepC k7 (by omega) Ce0
    replace Ce1 := keepC k7 (by omega) Ce1
    have tCe : w5.heap.size < w7.heap.size := by omega
    have Czz0 : w7.cell? ⟨w6.heap.size, 0, none⟩ = some (.int .i64 y1) := keepC hb7 (by (first | (simp; done) | (simp; omega))) (by simp [go_sem])
    have Czz1 : w7.cell? ⟨w6.heap.size, 1, none⟩ = some (.int .i64 y2) := keepC hb7 (by (first | (simp; done) | (simp; omega))) (by simp [go_sem])
    have Czz2 : w7.cell? ⟨w6.heap.size, 2, none⟩ = some (.int .i64 y3) := keepC hb7 (by (first | (simp; done) | (simp; omega))) (by simp [go_sem])
    have tCzz : w6.heap.size < w7.heap.size := by omega
    rw [hm]
    rw [hM1, hM2, hM3]
    go_wp2_with fail
    refine (Mirror_any m1 m2 m3 l' a' o' _ ((ht.step h0w7).step (by go_grown))).mono ?_
    rintro e w8 ⟨rfl, hb8⟩
    have sz8 := hb8.size
    try simp at sz8
    have k8 : Below w7.heap.size w7 w8 := Below.trans (by go_grown) (hb8.mono (by (first | (simp; done) | (simp; omega))))
    have h0w8 : Below w.heap.size w w8 := h0w7.trans (k8.mono h0w7.size)
    replace Cp0 := keepC k8 (by omega) Cp0
    replace Cp1 := keepC k8 (by omega) Cp1
    replace Cp2 := keepC k8 (by omega) Cp2
    have tCp : w.heap.size < w8.heap.size := by omega
    replace Cq0 := keepC k8 (by omega) Cq0
    replace Cq1 := keepC k8 (by omega) Cq1
    replace Cq2 := keepC k8 (by omega) Cq2
    have tCq : w.heap.size + 1 < w8.heap.size := by omega
    replace Cr0 := keepC k8 (by omega) Cr0
    replace Cr1 := keepC k8 (by omega) Cr1
    replace Cr2 := keepC k8 (by omega) Cr2
    have tCr : w.heap.size + 1 + 1 < w8.heap.size := by omega
    replace Cv0 := keepC k8 (by omega) Cv0
    replace Cv1 := keepC k8 (by omega) Cv1
    have tCv : w.heap.size + 1 + 1 + 1 < w8.heap.size := by omega
    replace Cx0 := keepC k8 (by omega) Cx0
    replace Cx1 := keepC k8 (by omega) Cx1
    replace Cx2 := keepC k8 (by omega) Cx2
    have tCx : w2.heap.size < w8.heap.size := by omega
    replace Ck0 := keepC k8 (by omega) Ck0
    replace Ck1 := keepC k8 (by omega) Ck1
    replace Ck2 := keepC k8 (by omega) Ck2
    have tCk : w3.heap.size < w8.heap.size := by omega
    replace Cy0 := keepC k8 (by omega) Cy0
    replace Cy1 := keepC k8 (by omega) Cy1
    replace Cy2 := keepC k8 (by omega) Cy2
    have tCy : w4.heap.size < w8.heap.size := by omega
    replace Ce0 := keepC k8 (by omega) Ce0
    replace Ce1 := keepC k8 (by omega) Ce1
    have tCe : w5.heap.size < w8.heap.size := by omega
    replace Czz0 := keepC k8 (by omega) Czz0
    replace Czz1 := keepC k8 (by omega) Czz1
    replace Czz2 := keepC k8 (by omega) Czz2
    have tCzz : w6.heap.size < w8.heap.size := by omega
    have Cm0 : w8.cell? ⟨w7.heap.size, 0, none⟩ = some (.int .i64 m1) := keepC hb8 (by (first | (simp; done) | (simp; omega))) (by simp [go_sem])
    have Cm1 : w8.cell? ⟨w7.heap.size, 1, none⟩ = some (.int .i64 m2) := keepC hb8 (by (first | (simp; done) | (simp; omega))) (by simp [go_sem])
    have Cm2 : w8.cell? ⟨w7.heap.size, 2, none⟩ = some (.int .i64 m3) := keepC hb8 (by (first | (simp; done) | (simp; omega))) (by simp [go_sem])
    have tCm : w7.heap.size < w8.heap.size := by omega
    go_wp2_with fail
    refine (Move_any x1 x2 x3 (-s) (-h) _ ((ht.step h0w8).step (by go_grown))).mono ?_
    rintro e w9 ⟨rfl, hb9⟩
    have sz9 := hb9.size
    try simp at sz9
    have k9 : Below w8.heap.size w8 w9 := Below.trans (by go_grown) (hb9.mono (by (first | (simp; done) | (simp; omega))))
    have h0w9 : Below w.heap.size w w9 := h0w8.trans (k9.mono h0w8.size)
    replace Cp0 := keepC k9 (by omega) Cp0
    replace Cp1 := keepC k9 (by omega) Cp1
    replace Cp2 := keepC k9 (by omega) Cp2
    have tCp : w.heap.size < w9.heap.size := by omega
    replace Cq0 := keepC k9 (by omega) Cq0
    replace Cq1 := keepC k9 (by omega) Cq1
    replace Cq2 := keepC k9 (by omega) Cq2
    have tCq : w.heap.size + 1 < w9.heap.size := by omega
    replace Cr0 := keepC k9 (by omega) Cr0
    replace Cr1 := keepC k9 (by omega) Cr1
    replace Cr2 := keepC k9 (by omega) Cr2
    have tCr : w.heap.size + 1 + 1 < w9.heap.size := by omega
    replace Cv0 := keepC k9 (by omega) Cv0
    replace Cv1 := keepC k9 (by omega) Cv1
    have tCv : w.heap.size + 1 + 1 + 1 < w9.heap.size := by omega
    replace Cx0 := keepC k9 (by omega) Cx0
    replace Cx1 := keepC k9 (by omega) Cx1
    replace Cx2 := keepC k9 (by omega) Cx2
    have tCx : w2.heap.size < w9.heap.size := by omega
    replace Ck0 := keepC k9 (by omega) Ck0
    replace Ck1 := keepC k9 (by omega) Ck1
    replace Ck2 := keepC k9 (by omega) Ck2
    have tCk : w3.heap.size < w9.heap.size := by omega
    replace Cy0 := keepC k9 (by omega) Cy0
    replace Cy1 := keepC k9 (by omega) Cy1
    replace Cy2 := keepC k9 (by omega) Cy2
    have tCy : w4.heap.size < w9.heap.size := by omega
    replace Ce0 := keepC k9 (by omega) Ce0
    replace Ce1 := keepC k9 (by omega) Ce1
    have tCe : w5.heap.size < w9.heap.size := by omega
    replace Czz0 := keepC k9 (by omega) Czz0
    replace Czz1 := keepC k9 (by omega) Czz1
    replace Czz2 := keepC k9 (by omega) Czz2
    have tCzz : w6.heap.size < w9.heap.size := by omega
    replace Cm0 := keepC k9 (by omega) Cm0
    replace Cm1 := keepC k9 (by omega) Cm1
    replace Cm2 := keepC k9 (by omega) Cm2
    have tCm : w7.heap.size < w9.heap.size := by omega
    have Cn0 : w9.cell? ⟨w8.heap.size, 0, none⟩ = some (.int .i64 (M.rl m1 m2 m3 l' a' o')) := keepC hb9 (by (first | (simp; done) | (simp; omega))) (by simp [go_sem])
    have Cn1 : w9.cell? ⟨w8.heap.size, 1, none⟩ = some (.int .i64 (M.ra m1 m2 m3 l' a' o')) := keepC hb9 (by (first | (simp; done) | (simp; omega))) (by simp [go_sem])
    have Cn2 : w9.cell? ⟨w8.heap.size, 2, none⟩ = some (.int .i64 (M.ro m1 m2 m3 l' a' o')) := keepC hb9 (by (first | (simp; done) | (simp; omega))) (by simp [go_sem])
    have tCn : w8.heap.size < w9.heap.size := by omega
    go_wp2_with fail
    go_ret
    exact ⟨rfl, Below.trans h0w9 (Below.mono (by go_grown) h0w9.size)⟩
  obtain ⟨_, _, rn, en1, en2⟩ := M.mirror_ok hn
  by_cases hq : M.me x1 x2 x3 (-s) (-h) = 0
  case neg =>
    have hq' := neq0 hq
    have bp := M.hv_bd rp
    have bq := M.hv_bd rq
    go_enter Tryd.func5, Tryd.ntmps5
    go_wp2_with fail
    refine (alive_any _ (ht.step (by go_grown))).mono ?_
    rintro e w1 ⟨rfl, hb1⟩
    have sz1 := hb1.size
    try simp at sz1
    have k1 : Below w.heap.size w w1 := Below.trans (by go_grown) (hb1.mono (by (first | (simp; done) | (simp; omega))))
    have h0w1 : Below w.heap.size w w1 := k1
    have Cp0 : w1.cell? ⟨w.heap.size, 0, none⟩ = some (.int .i64 l) := keepC hb1 (by (first | (simp; done) | (simp; omega))) (by simp [go_sem])
    have Cp1 : w1.cell? ⟨w.heap.size, 1, none⟩ = some (.int .i64 a) := keepC hb1 (by (first | (simp; done) | (simp; omega))) (by simp [go_sem])
    have Cp2 : w1.cell? ⟨w.heap.size, 2, none⟩ = some (.int .i64 o) := keepC hb1 (by (first | (simp; done) | (simp; omega))) (by simp [go_sem])
    have tCp : w.heap.size < w1.heap.size := by omega
    have Cq0 : w1.cell? ⟨w.heap.size + 1, 0, none⟩ = some (.int .i64 l') := keepC hb1 (by (first | (simp; done) | (simp; omega))) (by simp [go_sem])
    have Cq1 : w1.cell? ⟨w.heap.size + 1, 1, none⟩ = some (.int .i64 a') := keepC hb1 (by (first | (simp; done) | (simp; omega))) (by simp [go_sem])
    have Cq2 : w1.cell? ⟨w.heap.size + 1, 2, none⟩ = some (.int .i64 o') := keepC hb1 (by (first | (simp; done) | (simp; omega))) (by simp [go_sem])
    have tCq : w.heap.size + 1 < w1.heap.size := by omega
    have Cr0 : w1.cell? ⟨w.heap.size + 1 + 1, 0, none⟩ = some (.int .i64 b) := keepC hb1 (by (first | (simp; done) | (simp; omega))) (by simp [go_sem])
    have Cr1 : w1.cell? ⟨w.heap.size + 1 + 1, 1, none⟩ = some (.int .i64 c) := keepC hb1 (by (first | (simp; done) | (simp; omega))) (by simp [go_sem])
    have Cr2 : w1.cell? ⟨w.heap.size + 1 + 1, 2, none⟩ = some (.int .i64 d) := keepC hb1 (by (first | (simp; done) | (simp; omega))) (by simp [go_sem])
    have tCr : w.heap.size + 1 + 1 < w1.heap.size := by omega
    have Cv0 : w1.cell? ⟨w.heap.size + 1 + 1 + 1, 0, none⟩ = some (.int .i64 s) := keepC hb1 (by (first | (simp; done) | (simp; omega))) (by simp [go_sem])
    have Cv1 : w1.cell? ⟨w.heap.size + 1 + 1 + 1, 1, none⟩ = some (.int .i64 h) := keepC hb1 (by (first | (simp; done) | (simp; omega))) (by simp [go_sem])
    have tCv : w.heap.size + 1 + 1 + 1 < w1.heap.size := by omega
    go_wp2_with fail
    refine (Mirror_any l a o l' a' o' _ ((ht.step h0w1).step (by go_grown))).mono ?_
    rintro e w2 ⟨rfl, hb2⟩
    have sz2 := hb2.size
    try simp at sz2
    have k2 : Below w1.heap.size w1 w2 := Below.trans (by go_grown) (hb2.mono (by (first | (simp; done) | (simp; omega))))
    have h0w2 : Below w.heap.size w w2 := h0w1.trans (k2.mono h0w1.size)
    replace Cp0 := keepC k2 (by omega) Cp0
    replace Cp1 := keepC k2 (by omega) Cp1
    replace Cp2 := keepC k2 (by omega) Cp2
    have tCp : w.heap.size < w2.heap.size := by omega
    replace Cq0 := keepC k2 (by omega) Cq0
    replace Cq1 := keepC k2 (by omega) Cq1
    replace Cq2 := keepC k2 (by omega) Cq2
    have tCq : w.heap.size + 1 < w2.heap.size := by omega
    replace Cr0 := keepC k2 (by omega) Cr0
    replace Cr1 := keepC k2 (by omega) Cr1
    replace Cr2 := keepC k2 (by omega) Cr2
    have tCr : w.heap.size + 1 + 1 < w2.heap.size := by omega
    replace Cv0 := keepC k2 (by omega) Cv0
    replace Cv1 := keepC k2 (by omega) Cv1
    have tCv : w.heap.size + 1 + 1 + 1 < w2.heap.size := by omega
    rw [hX1, hX2, hX3, hx]
    go_wp2_with fail
    refine (Mirror_any x1 x2 x3 l' a' o' _ ((ht.step h0w2).step (by go_grown))).mono ?_
    rintro e w3 ⟨rfl, hb3⟩
    have sz3 := hb3.size
    try simp at sz3
    have k3 : Below w2.heap.size w2 w3 := Below.trans (by go_grown) (hb3.mono (by (first | (simp; done) | (simp; omega))))
    have h0w3 : Below w.heap.size w w3 := h0w2.trans (k3.mono h0w2.size)
    replace Cp0 := keepC k3 (by omega) Cp0
    replace Cp1 := keepC k3 (by omega) Cp1
    replace Cp2 := keepC k3 (by omega) Cp2
    have tCp : w.heap.size < w3.heap.size := by omega
    replace Cq0 := keepC k3 (by omega) Cq0
    replace Cq1 := keepC k3 (by omega) Cq1
    replace Cq2 := keepC k3 (by omega) Cq2
    have tCq : w.heap.size + 1 < w3.heap.size := by omega
    replace Cr0 := keepC k3 (by omega) Cr0
    replace Cr1 := keepC k3 (by omega) Cr1
    replace Cr2 := keepC k3 (by omega) Cr2
    have tCr : w.heap.size + 1 + 1 < w3.heap.size := by omega
    replace Cv0 := keepC k3 (by omega) Cv0
    replace Cv1 := keepC k3 (by omega) Cv1
    have tCv : w.heap.size + 1 + 1 + 1 < w3.heap.size := by omega
    have Cx0 : w3.cell? ⟨w2.heap.size, 0, none⟩ = some (.int .i64 x1) := keepC hb3 (by (first | (simp; done) | (simp; omega))) (by simp [go_sem])
    have Cx1 : w3.cell? ⟨w2.heap.size, 1, none⟩ = some (.int .i64 x2) := keepC hb3 (by (first | (simp; done) | (simp; omega))) (by simp [go_sem])
    have Cx2 : w3.cell? ⟨w2.heap.size, 2, none⟩ = some (.int .i64 x3) := keepC hb3 (by (first | (simp; done) | (simp; omega))) (by simp [go_sem])
    have tCx : w2.heap.size < w3.heap.size := by omega
    rw [g1, g2, g3, g4]
    go_wp2_with fail
    refine (Mirror_any x1 x2 x3 b c d _ ((ht.step h0w3).step (by go_grown))).mono ?_
    rintro e w4 ⟨rfl, hb4⟩
    have sz4 := hb4.size
    try simp at sz4
    have k4 : Below w3.heap.size w3 w4 := Below.trans (by go_grown) (hb4.mono (by (first | (simp; done) | (simp; omega))))
    have h0w4 : Below w.heap.size w w4 := h0w3.trans (k4.mono h0w3.size)
    replace Cp0 := keepC k4 (by omega) Cp0
    replace Cp1 := keepC k4 (by omega) Cp1
    replace Cp2 := keepC k4 (by omega) Cp2
    have tCp : w.heap.size < w4.heap.size := by omega
    replace Cq0 := keepC k4 (by omega) Cq0
    replace Cq1 := keepC k4 (by omega) Cq1
    replace Cq2 := keepC k4 (by omega) Cq2
    have tCq : w.heap.size + 1 < w4.heap.size := by omega
    replace Cr0 := keepC k4 (by omega) Cr0
    replace Cr1 := keepC k4 (by omega) Cr1
    replace Cr2 := keepC k4 (by omega) Cr2
    have tCr : w.heap.size + 1 + 1 < w4.heap.size := by omega
    replace Cv0 := keepC k4 (by omega) Cv0
    replace Cv1 := keepC k4 (by omega) Cv1
    have tCv : w.heap.size + 1 + 1 + 1 < w4.heap.size := by omega
    replace Cx0 := keepC k4 (by omega) Cx0
    replace Cx1 := keepC k4 (by omega) Cx1
    replace Cx2 := keepC k4 (by omega) Cx2
    have tCx : w2.heap.size < w4.heap.size := by omega
    have Ck0 : w4.cell? ⟨w3.heap.size, 0, none⟩ = some (.int .i64 l) := keepC hb4 (by (first | (simp; done) | (simp; omega))) (by simp [go_sem])
    have Ck1 : w4.cell? ⟨w3.heap.size, 1, none⟩ = some (.int .i64 a) := keepC hb4 (by (first | (simp; done) | (simp; omega))) (by simp [go_sem])
    have Ck2 : w4.cell? ⟨w3.heap.size, 2, none⟩ = some (.int .i64 o) := keepC hb4 (by (first | (simp; done) | (simp; omega))) (by simp [go_sem])
    have tCk : w3.heap.size < w4.heap.size := by omega
    rw [hy, hY1, hY2, hY3]
    go_wp2_with fail
    refine (Between_any l' a' o' b c d _ ((ht.step h0w4).step (by go_grown))).mono ?_
    rintro e w5 ⟨rfl, hb5⟩
    have sz5 := hb5.size
    try simp at sz5
    have k5 : Below w4.heap.size w4 w5 := Below.trans (by go_grown) (hb5.mono (by (first | (simp; done) | (simp; omega))))
    have h0w5 : Below w.heap.size w w5 := h0w4.trans (k5.mono h0w4.size)
    replace Cp0 := keepC k5 (by omega) Cp0
    replace Cp1 := keepC k5 (by omega) Cp1
    replace Cp2 := keepC k5 (by omega) Cp2
    have tCp : w.heap.size < w5.heap.size := by omega
    replace Cq0 := keepC k5 (by omega) Cq0
    replace Cq1 := keepC k5 (by omega) Cq1
    replace Cq2 := keepC k5 (by omega) Cq2
    have tCq : w.heap.size + 1 < w5.heap.size := by omega
    replace Cr0 := keepC k5 (by omega) Cr0
    replace Cr1 := keepC k5 (by omega) Cr1
    replace Cr2 := keepC k5 (by omega) Cr2
    have tCr : w.heap.size + 1 + 1 < w5.heap.size := by omega
    replace Cv0 := keepC k5 (by omega) Cv0
    replace Cv1 := keepC k5 (by omega) Cv1
    have tCv : w.heap.size + 1 + 1 + 1 < w5.heap.size := by omega
    replace Cx0 := keepC k5 (by omega) Cx0
    replace Cx1 := keepC k5 (by omega) Cx1
    replace Cx2 := keepC k5 (by omega) Cx2
    have tCx : w2.heap.size < w5.heap.size := by omega
    replace Ck0 := keepC k5 (by omega) Ck0
    replace Ck1 := keepC k5 (by omega) Ck1
    replace Ck2 := keepC k5 (by omega) Ck2
    have tCk : w3.heap.size < w5.heap.size := by omega
    have Cy0 : w5.cell? ⟨w4.heap.size, 0, none⟩ = some (.int .i64 y1) := keepC hb5 (by (first | (simp; done) | (simp; omega))) (by simp [go_sem])
    have Cy1 : w5.cell? ⟨w4.heap.size, 1, none⟩ = some (.int .i64 y2) := keepC hb5 (by (first | (simp; done) | (simp; omega))) (by simp [go_sem])
    have Cy2 : w5.cell? ⟨w4.heap.size, 2, none⟩ = some (.int .i64 y3) := keepC hb5 (by (first | (simp; done) | (simp; omega))) (by simp [go_sem])
    have tCy : w4.heap.size < w5.heap.size := by omega
    rw [be0, be1, be2]
    go_wp2_with fail
    refine (Move_any l a o (2 * (M.st b d - M.st l' o')) (2 * (M.hv b c d - M.hv l' a' o')) _ ((ht.step h0w5).step (by go_grown))).mono ?_
    rintro e w6 ⟨rfl, hb6⟩
    have sz6 := hb6.size
    try simp at sz6
    have k6 : Below w5.heap.size w5 w6 := Below.trans (by go_grown) (hb6.mono (by (first | (simp; done) | (simp; omega))))
    have h0w6 : Below w.heap.size w w6 := h0w5.trans (k6.mono h0w5.size)
    replace Cp0 := keepC k6 (by omega) Cp0
    replace Cp1 := keepC k6 (by omega) Cp1
    replace Cp2 := keepC k6 (by omega) Cp2
    have tCp : w.heap.size < w6.heap.size := by omega
    replace Cq0 := keepC k6 (by omega) Cq0
    replace Cq1 := keepC k6 (by omega) Cq1
    replace Cq2 := keepC k6 (by omega) Cq2
    have tCq : w.heap.size + 1 < w6.heap.size := by omega
    replace Cr0 := keepC k6 (by omega) Cr0
    replace Cr1 := keepC k6 (by omega) Cr1
    replace Cr2 := keepC k6 (by omega) Cr2
    have tCr : w.heap.size + 1 + 1 < w6.heap.size := by omega
    replace Cv0 := keepC k6 (by omega) Cv0
    replace Cv1 := keepC k6 (by omega) Cv1
    have tCv : w.heap.size + 1 + 1 + 1 < w6.heap.size := by omega
    replace Cx0 := keepC k6 (by omega) Cx0
    replace Cx1 := keepC k6 (by omega) Cx1
    replace Cx2 := keepC k6 (by omega) Cx2
    have tCx : w2.heap.size < w6.heap.size := by omega
    replace Ck0 := keepC k6 (by omega) Ck0
    replace Ck1 := keepC k6 (by omega) Ck1
    replace Ck2 := keepC k6 (by omega) Ck2
    have tCk : w3.heap.size < w6.heap.size := by omega
    replace Cy0 := keepC k6 (by omega) Cy0
    replace Cy1 := keepC k6 (by omega) Cy1
    replace Cy2 := keepC k6 (by omega) Cy2
    have tCy : w4.heap.size < w6.heap.size := by omega
    have Ce0 : w6.cell? ⟨w5.heap.size, 0, none⟩ = some (.int .i64 (M.st b d - M.st l' o')) := keepC hb6 (by (first | (simp; done) | (simp; omega))) (by simp [go_sem])
    have Ce1 : w6.cell? ⟨w5.heap.size, 1, none⟩ = some (.int .i64 (M.hv b c d - M.hv l' a' o')) := keepC hb6 (by (first | (simp; done) | (simp; omega))) (by simp [go_sem])
    have tCe : w5.heap.size < w6.heap.size := by omega
    rw [z0, z1, z2, z3]
    go_wp2_with fail
    refine (Move_any l a o s h _ ((ht.step h0w6).step (by go_grown))).mono ?_
    rintro e w7 ⟨rfl, hb7⟩
    have sz7 := hb7.size
    try simp at sz7
    have k7 : Below w6.heap.size w6 w7 := Below.trans (by go_grown) (hb7.mono (by (first | (simp; done) | (simp; omega))))
    have h0w7 : Below w.heap.size w w7 := h0w6.trans (k7.mono h0w6.size)
    replace Cp0 := keepC k7 (by omega) Cp0
    replace Cp1 := keepC k7 (by omega) Cp1
    replace Cp2 := keepC k7 (by omega) Cp2
    have tCp : w.heap.size < w7.heap.size := by omega
    replace Cq0 := keepC k7 (by omega) Cq0
    replace Cq1 := keepC k7 (by omega) Cq1
    replace Cq2 := keepC k7 (by omega) Cq2
    have tCq : w.heap.size + 1 < w7.heap.size := by omega
    replace Cr0 := keepC k7 (by omega) Cr0
    replace Cr1 := keepC k7 (by omega) Cr1
    replace Cr2 := keepC k7 (by omega) Cr2
    have tCr : w.heap.size + 1 + 1 < w7.heap.size := by omega
    replace Cv0 := keepC k7 (by omega) Cv0
    replace Cv1 := keepC k7 (by omega) Cv1
    have tCv : w.heap.size + 1 + 1 + 1 < w7.heap.size := by omega
    replace Cx0 := keepC k7 (by omega) Cx0
    replace Cx1 := keepC k7 (by omega) Cx1
    replace Cx2 := keepC k7 (by omega) Cx2
    have tCx : w2.heap.size < w7.heap.size := by omega
    replace Ck0 := keepC k7 (by omega) Ck0
    replace Ck1 := keepC k7 (by omega) Ck1
    replace Ck2 := keepC k7 (by omega) Ck2
    have tCk : w3.heap.size < w7.heap.size := by omega
    replace Cy0 := keepC k7 (by omega) Cy0
    replace Cy1 := keepC k7 (by omega) Cy1
    replace Cy2 := keepC k7 (by omega) Cy2
    have tCy : w4.heap.size < w7.heap.size := by omega
    replace Ce0 := keepC k7 (by omega) Ce0
    replace Ce1 := keepC k7 (by omega) Ce1
    have tCe : w5.heap.size < w7.heap.size := by omega
    have Czz0 : w7.cell? ⟨w6.heap.size, 0, none⟩ = some (.int .i64 y1) := keepC hb7 (by (first | (simp; done) | (simp; omega))) (by simp [go_sem])
    have Czz1 : w7.cell? ⟨w6.heap.size, 1, none⟩ = some (.int .i64 y2) := keepC hb7 (by (first | (simp; done) | (simp; omega))) (by simp [go_sem])
    have Czz2 : w7.cell? ⟨w6.heap.size, 2, none⟩ = some (.int .i64 y3) := keepC hb7 (by (first | (simp; done) | (simp; omega))) (by simp [go_sem])
    have tCzz : w6.heap.size < w7.heap.size := by omega
    rw [hm]
    rw [hM1, hM2, hM3]
    go_wp2_with fail
    refine (Mirror_any m1 m2 m3 l' a' o' _ ((ht.step h0w7).step (by go_grown))).mono ?_
    rintro e w8 ⟨rfl, hb8⟩
    have sz8 := hb8.size
    try simp at sz8
    have k8 : Below w7.heap.size w7 w8 := Below.trans (by go_grown) (hb8.mono (by (first | (simp; done) | (simp; omega))))
    have h0w8 : Below w.heap.size w w8 := h0w7.trans (k8.mono h0w7.size)
    replace Cp0 := keepC k8 (by omega) Cp0
    replace Cp1 := keepC k8 (by omega) Cp1
    replace Cp2 := keepC k8 (by omega) Cp2
    have tCp : w.heap.size < w8.heap.size := by omega
    replace Cq0 := keepC k8 (by omega) Cq0
    replace Cq1 := keepC k8 (by omega) Cq1
    replace Cq2 := keepC k8 (by omega) Cq2
    have tCq : w.heap.size + 1 < w8.heap.size := by omega
    replace Cr0 := keepC k8 (by omega) Cr0
    replace Cr1 := keepC k8 (by omega) Cr1
    replace Cr2 := keepC k8 (by omega) Cr2
    have tCr : w.heap.size + 1 + 1 < w8.heap.size := by omega
    replace Cv0 := keepC k8 (by omega) Cv0
    replace Cv1 := keepC k8 (by omega) Cv1
    have tCv : w.heap.size + 1 + 1 + 1 < w8.heap.size := by omega
    replace Cx0 := keepC k8 (by omega) Cx0
    replace Cx1 := keepC k8 (by omega) Cx1
    replace Cx2 := keepC k8 (by omega) Cx2
    have tCx : w2.heap.size < w8.heap.size := by omega
    replace Ck0 := keepC k8 (by omega) Ck0
    replace Ck1 := keepC k8 (by omega) Ck1
    replace Ck2 := keepC k8 (by omega) Ck2
    have tCk : w3.heap.size < w8.heap.size := by omega
    replace Cy0 := keepC k8 (by omega) Cy0
    replace Cy1 := keepC k8 (by omega) Cy1
    replace Cy2 := keepC k8 (by omega) Cy2
    have tCy : w4.heap.size < w8.heap.size := by omega
    replace Ce0 := keepC k8 (by omega) Ce0
    replace Ce1 := keepC k8 (by omega) Ce1
    have tCe : w5.heap.size < w8.heap.size := by omega
    replace Czz0 := keepC k8 (by omega) Czz0
    replace Czz1 := keepC k8 (by omega) Czz1
    replace Czz2 := keepC k8 (by omega) Czz2
    have tCzz : w6.heap.size < w8.heap.size := by omega
    have Cm0 : w8.cell? ⟨w7.heap.size, 0, none⟩ = some (.int .i64 m1) := keepC hb8 (by (first | (simp; done) | (simp; omega))) (by simp [go_sem])
    have Cm1 : w8.cell? ⟨w7.heap.size, 1, none⟩ = some (.int .i64 m2) := keepC hb8 (by (first | (simp; done) | (simp; omega))) (by simp [go_sem])
    have Cm2 : w8.cell? ⟨w7.heap.size, 2, none⟩ = some (.int .i64 m3) := keepC hb8 (by (first | (simp; done) | (simp; omega))) (by simp [go_sem])
    have tCm : w7.heap.size < w8.heap.size := by omega
    go_wp2_with fail
    refine (Move_any x1 x2 x3 (-s) (-h) _ ((ht.step h0w8).step (by go_grown))).mono ?_
    rintro e w9 ⟨rfl, hb9⟩
    have sz9 := hb9.size
    try simp at sz9
    have k9 : Below w8.heap.size w8 w9 := Below.trans (by go_grown) (hb9.mono (by (first | (simp; done) | (simp; omega))))
    have h0w9 : Below w.heap.size w w9 := h0w8.trans (k9.mono h0w8.size)
    replace Cp0 := keepC k9 (by omega) Cp0
    replace Cp1 := keepC k9 (by omega) Cp1
    replace Cp2 := keepC k9 (by omega) Cp2
    have tCp : w.heap.size < w9.heap.size := by omega
    replace Cq0 := keepC k9 (by omega) Cq0
    replace Cq1 := keepC k9 (by omega) Cq1
    replace Cq2 := keepC k9 (by omega) Cq2
    have tCq : w.heap.size + 1 < w9.heap.size := by omega
    replace Cr0 := keepC k9 (by omega) Cr0
    replace Cr1 := keepC k9 (by omega) Cr1
    replace Cr2 := keepC k9 (by omega) Cr2
    have tCr : w.heap.size + 1 + 1 < w9.heap.size := by omega
    replace Cv0 := keepC k9 (by omega) Cv0
    replace Cv1 := keepC k9 (by omega) Cv1
    have tCv : w.heap.size + 1 + 1 + 1 < w9.heap.size := by omega
    replace Cx0 := keepC k9 (by omega) Cx0
    replace Cx1 := keepC k9 (by omega) Cx1
    replace Cx2 := keepC k9 (by omega) Cx2
    have tCx : w2.heap.size < w9.heap.size := by omega
    replace Ck0 := keepC k9 (by omega) Ck0
    replace Ck1 := keepC k9 (by omega) Ck1
    replace Ck2 := keepC k9 (by omega) Ck2
    have tCk : w3.heap.size < w9.heap.size := by omega
    replace Cy0 := keepC k9 (by omega) Cy0
    replace Cy1 := keepC k9 (by omega) Cy1
    replace Cy2 := keepC k9 (by omega) Cy2
    have tCy : w4.heap.size < w9.heap.size := by omega
    replace Ce0 := keepC k9 (by omega) Ce0
    replace Ce1 := keepC k9 (by omega) Ce1
    have tCe : w5.heap.size < w9.heap.size := by omega
    replace Czz0 := keepC k9 (by omega) Czz0
    replace Czz1 := keepC k9 (by omega) Czz1
    replace Czz2 := keepC k9 (by omega) Czz2
    have tCzz : w6.heap.size < w9.heap.size := by omega
    replace Cm0 := keepC k9 (by omega) Cm0
    replace Cm1 := keepC k9 (by omega) Cm1
    replace Cm2 := keepC k9 (by omega) Cm2
    have tCm : w7.heap.size < w9.heap.size := by omega
    have Cn0 : w9.cell? ⟨w8.heap.size, 0, none⟩ = some (.int .i64 (M.rl m1 m2 m3 l' a' o')) := keepC hb9 (by (first | (simp; done) | (simp; omega))) (by simp [go_sem])
    have Cn1 : w9.cell? ⟨w8.heap.size, 1, none⟩ = some (.int .i64 (M.ra m1 m2 m3 l' a' o')) := keepC hb9 (by (first | (simp; done) | (simp; omega))) (by simp [go_sem])
    have Cn2 : w9.cell? ⟨w8.heap.size, 2, none⟩ = some (.int .i64 (M.ro m1 m2 m3 l' a' o')) := keepC hb9 (by (first | (simp; done) | (simp; omega))) (by simp [go_sem])
    have tCn : w8.heap.size < w9.heap.size := by omega
    go_wp2_with fail
    go_ret
    exact ⟨rfl, Below.trans h0w9 (Below.mono (by go_grown) h0w9.size)⟩
  obtain ⟨_, _, rO, eo1, eo2⟩ := M.move_ok hq
  obtain ⟨i1, i2, i3⟩ := M.rt_one rn rO (by omega) (by omega)
  have n1 := i1
  have n2 := i2
  have n3 := i3
  have n4 := hn
  have o1 := hq
  generalize hO1 : M.ml x1 x2 x3 (-s) (-h) = n5 at *
  generalize hO2 : M.ma x1 x2 x3 (-s) (-h) = n6 at *
  generalize hO3 : M.mo x1 x2 x3 (-s) (-h) = n7 at *
  have bp := M.hv_bd rp
  have bq := M.hv_bd rq
  go_enter Tryd.func5, Tryd.ntmps5
  go_wp2_with fail
  refine (alive_any _ (ht.step (by go_grown))).mono ?_
  rintro e w1 ⟨rfl, hb1⟩
  have sz1 := hb1.size
  try simp at sz1
  have k1 : Below w.heap.size w w1 := Below.trans (by go_grown) (hb1.mono (by (first | (simp; done) | (simp; omega))))
  have h0w1 : Below w.heap.size w w1 := k1
  have Cp0 : w1.cell? ⟨w.heap.size, 0, none⟩ = some (.int .i64 l) := keepC hb1 (by (first | (simp; done) | (simp; omega))) (by simp [go_sem])
  have Cp1 : w1.cell? ⟨w.heap.size, 1, none⟩ = some (.int .i64 a) := keepC hb1 (by (first | (simp; done) | (simp; omega))) (by simp [go_sem])
  have Cp2 : w1.cell? ⟨w.heap.size, 2, none⟩ = some (.int .i64 o) := keepC hb1 (by (first | (simp; done) | (simp; omega))) (by simp [go_sem])
  have tCp : w.heap.size < w1.heap.size := by omega
  have Cq0 : w1.cell? ⟨w.heap.size + 1, 0, none⟩ = some (.int .i64 l') := keepC hb1 (by (first | (simp; done) | (simp; omega))) (by simp [go_sem])
  have Cq1 : w1.cell? ⟨w.heap.size + 1, 1, none⟩ = some (.int .i64 a') := keepC hb1 (by (first | (simp; done) | (simp; omega))) (by simp [go_sem])
  have Cq2 : w1.cell? ⟨w.heap.size + 1, 2, none⟩ = some (.int .i64 o') := keepC hb1 (by (first | (simp; done) | (simp; omega))) (by simp [go_sem])
  have tCq : w.heap.size + 1 < w1.heap.size := by omega
  have Cr0 : w1.cell? ⟨w.heap.size + 1 + 1, 0, none⟩ = some (.int .i64 b) := keepC hb1 (by (first | (simp; done) | (simp; omega))) (by simp [go_sem])
  have Cr1 : w1.cell? ⟨w.heap.size + 1 + 1, 1, none⟩ = some (.int .i64 c) := keepC hb1 (by (first | (simp; done) | (simp; omega))) (by simp [go_sem])
  have Cr2 : w1.cell? ⟨w.heap.size + 1 + 1, 2, none⟩ = some (.int .i64 d) := keepC hb1 (by (first | (simp; done) | (simp; omega))) (by simp [go_sem])
  have tCr : w.heap.size + 1 + 1 < w1.heap.size := by omega
  have Cv0 : w1.cell? ⟨w.heap.size + 1 + 1 + 1, 0, none⟩ = some (.int .i64 s) := keepC hb1 (by (first | (simp; done) | (simp; omega))) (by simp [go_sem])
  have Cv1 : w1.cell? ⟨w.heap.size + 1 + 1 + 1, 1, none⟩ = some (.int .i64 h) := keepC hb1 (by (first | (simp; done) | (simp; omega))) (by simp [go_sem])
  have tCv : w.heap.size + 1 + 1 + 1 < w1.heap.size := by omega
  go_wp2_with fail
  refine (Mirror_any l a o l' a' o' _ ((ht.step h0w1).step (by go_grown))).mono ?_
  rintro e w2 ⟨rfl, hb2⟩
  have sz2 := hb2.size
  try simp at sz2
  have k2 : Below w1.heap.size w1 w2 := Below.trans (by go_grown) (hb2.mono (by (first | (simp; done) | (simp; omega))))
  have h0w2 : Below w.heap.size w w2 := h0w1.trans (k2.mono h0w1.size)
  replace Cp0 := keepC k2 (by omega) Cp0
  replace Cp1 := keepC k2 (by omega) Cp1
  replace Cp2 := keepC k2 (by omega) Cp2
  have tCp : w.heap.size < w2.heap.size := by omega
  replace Cq0 := keepC k2 (by omega) Cq0
  replace Cq1 := keepC k2 (by omega) Cq1
  replace Cq2 := keepC k2 (by omega) Cq2
  have tCq : w.heap.size + 1 < w2.heap.size := by omega
  replace Cr0 := keepC k2 (by omega) Cr0
  replace Cr1 := keepC k2 (by omega) Cr1
  replace Cr2 := keepC k2 (by omega) Cr2
  have tCr : w.heap.size + 1 + 1 < w2.heap.size := by omega
  replace Cv0 := keepC k2 (by omega) Cv0
  replace Cv1 := keepC k2 (by omega) Cv1
  have tCv : w.heap.size + 1 + 1 + 1 < w2.heap.size := by omega
  rw [hX1, hX2, hX3, hx]
  go_wp2_with fail
  refine (Mirror_any x1 x2 x3 l' a' o' _ ((ht.step h0w2).step (by go_grown))).mono ?_
  rintro e w3 ⟨rfl, hb3⟩
  have sz3 := hb3.size
  try simp at sz3
  have k3 : Below w2.heap.size w2 w3 := Below.trans (by go_grown) (hb3.mono (by (first | (simp; done) | (simp; omega))))
  have h0w3 : Below w.heap.size w w3 := h0w2.trans (k3.mono h0w2.size)
  replace Cp0 := keepC k3 (by omega) Cp0
  replace Cp1 := keepC k3 (by omega) Cp1
  replace Cp2 := keepC k3 (by omega) Cp2
  have tCp : w.heap.size < w3.heap.size := by omega
  replace Cq0 := keepC k3 (by omega) Cq0
  replace Cq1 := keepC k3 (by omega) Cq1
  replace Cq2 := keepC k3 (by omega) Cq2
  have tCq : w.heap.size + 1 < w3.heap.size := by omega
  replace Cr0 := keepC k3 (by omega) Cr0
  replace Cr1 := keepC k3 (by omega) Cr1
  replace Cr2 := keepC k3 (by omega) Cr2
  have tCr : w.heap.size + 1 + 1 < w3.heap.size := by omega
  replace Cv0 := keepC k3 (by omega) Cv0
  replace Cv1 := keepC k3 (by omega) Cv1
  have tCv : w.heap.size + 1 + 1 + 1 < w3.heap.size := by omega
  have Cx0 : w3.cell? ⟨w2.heap.size, 0, none⟩ = some (.int .i64 x1) := keepC hb3 (by (first | (simp; done) | (simp; omega))) (by simp [go_sem])
  have Cx1 : w3.cell? ⟨w2.heap.size, 1, none⟩ = some (.int .i64 x2) := keepC hb3 (by (first | (simp; done) | (simp; omega))) (by simp [go_sem])
  have Cx2 : w3.cell? ⟨w2.heap.size, 2, none⟩ = some (.int .i64 x3) := keepC hb3 (by (first | (simp; done) | (simp; omega))) (by simp [go_sem])
  have tCx : w2.heap.size < w3.heap.size := by omega
  rw [g1, g2, g3, g4]
  go_wp2_with fail
  refine (Mirror_any x1 x2 x3 b c d _ ((ht.step h0w3).step (by go_grown))).mono ?_
  rintro e w4 ⟨rfl, hb4⟩
  have sz4 := hb4.size
  try simp at sz4
  have k4 : Below w3.heap.size w3 w4 := Below.trans (by go_grown) (hb4.mono (by (first | (simp; done) | (simp; omega))))
  have h0w4 : Below w.heap.size w w4 := h0w3.trans (k4.mono h0w3.size)
  replace Cp0 := keepC k4 (by omega) Cp0
  replace Cp1 := keepC k4 (by omega) Cp1
  replace Cp2 := keepC k4 (by omega) Cp2
  have tCp : w.heap.size < w4.heap.size := by omega
  replace Cq0 := keepC k4 (by omega) Cq0
  replace Cq1 := keepC k4 (by omega) Cq1
  replace Cq2 := keepC k4 (by omega) Cq2
  have tCq : w.heap.size + 1 < w4.heap.size := by omega
  replace Cr0 := keepC k4 (by omega) Cr0
  replace Cr1 := keepC k4 (by omega) Cr1
  replace Cr2 := keepC k4 (by omega) Cr2
  have tCr : w.heap.size + 1 + 1 < w4.heap.size := by omega
  replace Cv0 := keepC k4 (by omega) Cv0
  replace Cv1 := keepC k4 (by omega) Cv1
  have tCv : w.heap.size + 1 + 1 + 1 < w4.heap.size := by omega
  replace Cx0 := keepC k4 (by omega) Cx0
  replace Cx1 := keepC k4 (by omega) Cx1
  replace Cx2 := keepC k4 (by omega) Cx2
  have tCx : w2.heap.size < w4.heap.size := by omega
  have Ck0 : w4.cell? ⟨w3.heap.size, 0, none⟩ = some (.int .i64 l) := keepC hb4 (by (first | (simp; done) | (simp; omega))) (by simp [go_sem])
  have Ck1 : w4.cell? ⟨w3.heap.size, 1, none⟩ = some (.int .i64 a) := keepC hb4 (by (first | (simp; done) | (simp; omega))) (by simp [go_sem])
  have Ck2 : w4.cell? ⟨w3.heap.size, 2, none⟩ = some (.int .i64 o) := keepC hb4 (by (first | (simp; done) | (simp; omega))) (by simp [go_sem])
  have tCk : w3.heap.size < w4.heap.size := by omega
  rw [hy, hY1, hY2, hY3]
  go_wp2_with fail
  refine (Between_any l' a' o' b c d _ ((ht.step h0w4).step (by go_grown))).mono ?_
  rintro e w5 ⟨rfl, hb5⟩
  have sz5 := hb5.size
  try simp at sz5
  have k5 : Below w4.heap.size w4 w5 := Below.trans (by go_grown) (hb5.mono (by (first | (simp; done) | (simp; omega))))
  have h0w5 : Below w.heap.size w w5 := h0w4.trans (k5.mono h0w4.size)
  replace Cp0 := keepC k5 (by omega) Cp0
  replace Cp1 := keepC k5 (by omega) Cp1
  replace Cp2 := keepC k5 (by omega) Cp2
  have tCp : w.heap.size < w5.heap.size := by omega
  replace Cq0 := keepC k5 (by omega) Cq0
  replace Cq1 := keepC k5 (by omega) Cq1
  replace Cq2 := keepC k5 (by omega) Cq2
  have tCq : w.heap.size + 1 < w5.heap.size := by omega
  replace Cr0 := keepC k5 (by omega) Cr0
  replace Cr1 := keepC k5 (by omega) Cr1
  replace Cr2 := keepC k5 (by omega) Cr2
  have tCr : w.heap.size + 1 + 1 < w5.heap.size := by omega
  replace Cv0 := keepC k5 (by omega) Cv0
  replace Cv1 := keepC k5 (by omega) Cv1
  have tCv : w.heap.size + 1 + 1 + 1 < w5.heap.size := by omega
  replace Cx0 := keepC k5 (by omega) Cx0
  replace Cx1 := keepC k5 (by omega) Cx1
  replace Cx2 := keepC k5 (by omega) Cx2
  have tCx : w2.heap.size < w5.heap.size := by omega
  replace Ck0 := keepC k5 (by omega) Ck0
  replace Ck1 := keepC k5 (by omega) Ck1
  replace Ck2 := keepC k5 (by omega) Ck2
  have tCk : w3.heap.size < w5.heap.size := by omega
  have Cy0 : w5.cell? ⟨w4.heap.size, 0, none⟩ = some (.int .i64 y1) := keepC hb5 (by (first | (simp; done) | (simp; omega))) (by simp [go_sem])
  have Cy1 : w5.cell? ⟨w4.heap.size, 1, none⟩ = some (.int .i64 y2) := keepC hb5 (by (first | (simp; done) | (simp; omega))) (by simp [go_sem])
  have Cy2 : w5.cell? ⟨w4.heap.size, 2, none⟩ = some (.int .i64 y3) := keepC hb5 (by (first | (simp; done) | (simp; omega))) (by simp [go_sem])
  have tCy : w4.heap.size < w5.heap.size := by omega
  rw [be0, be1, be2]
  go_wp2_with fail
  refine (Move_any l a o (2 * (M.st b d - M.st l' o')) (2 * (M.hv b c d - M.hv l' a' o')) _ ((ht.step h0w5).step (by go_grown))).mono ?_
  rintro e w6 ⟨rfl, hb6⟩
  have sz6 := hb6.size
  try simp at sz6
  have k6 : Below w5.heap.size w5 w6 := Below.trans (by go_grown) (hb6.mono (by (first | (simp; done) | (simp; omega))))
  have h0w6 : Below w.heap.size w w6 := h0w5.trans (k6.mono h0w5.size)
  replace Cp0 := keepC k6 (by omega) Cp0
  replace Cp1 := keepC k6 (by omega) Cp1
  replace Cp2 := keepC k6 (by omega) Cp2
  have tCp : w.heap.size < w6.heap.size := by omega
  replace Cq0 := keepC k6 (by omega) Cq0
  replace Cq1 := keepC k6 (by omega) Cq1
  replace Cq2 := keepC k6 (by omega) Cq2
  have tCq : w.heap.size + 1 < w6.heap.size := by omega
  replace Cr0 := keepC k6 (by omega) Cr0
  replace Cr1 := keepC k6 (by omega) Cr1
  replace Cr2 := keepC k6 (by omega) Cr2
  have tCr : w.heap.size + 1 + 1 < w6.heap.size := by omega
  replace Cv0 := keepC k6 (by omega) Cv0
  replace Cv1 := keepC k6 (by omega) Cv1
  have tCv : w.heap.size + 1 + 1 + 1 < w6.heap.size := by omega
  replace Cx0 := keepC k6 (by omega) Cx0
  replace Cx1 := keepC k6 (by omega) Cx1
  replace Cx2 := keepC k6 (by omega) Cx2
  have tCx : w2.heap.size < w6.heap.size := by omega
  replace Ck0 := keepC k6 (by omega) Ck0
  replace Ck1 := keepC k6 (by omega) Ck1
  replace Ck2 := keepC k6 (by omega) Ck2
  have tCk : w3.heap.size < w6.heap.size := by omega
  replace Cy0 := keepC k6 (by omega) Cy0
  replace Cy1 := keepC k6 (by omega) Cy1
  replace Cy2 := keepC k6 (by omega) Cy2
  have tCy : w4.heap.size < w6.heap.size := by omega
  have Ce0 : w6.cell? ⟨w5.heap.size, 0, none⟩ = some (.int .i64 (M.st b d - M.st l' o')) := keepC hb6 (by (first | (simp; done) | (simp; omega))) (by simp [go_sem])
  have Ce1 : w6.cell? ⟨w5.heap.size, 1, none⟩ = some (.int .i64 (M.hv b c d - M.hv l' a' o')) := keepC hb6 (by (first | (simp; done) | (simp; omega))) (by simp [go_sem])
  have tCe : w5.heap.size < w6.heap.size := by omega
  rw [z0, z1, z2, z3]
  go_wp2_with fail
  refine (Move_any l a o s h _ ((ht.step h0w6).step (by go_grown))).mono ?_
  rintro e w7 ⟨rfl, hb7⟩
  have sz7 := hb7.size
  try simp at sz7
  have k7 : Below w6.heap.size w6 w7 := Below.trans (by go_grown) (hb7.mono (by (first | (simp; done) | (simp; omega))))
  have h0w7 : Below w.heap.size w w7 := h0w6.trans (k7.mono h0w6.size)
  replace Cp0 := keepC k7 (by omega) Cp0
  replace Cp1 := keepC k7 (by omega) Cp1
  replace Cp2 := keepC k7 (by omega) Cp2
  have tCp : w.heap.size < w7.heap.size := by omega
  replace Cq0 := keepC k7 (by omega) Cq0
  replace Cq1 := keepC k7 (by omega) Cq1
  replace Cq2 := keepC k7 (by omega) Cq2
  have tCq : w.heap.size + 1 < w7.heap.size := by omega
  replace Cr0 := keepC k7 (by omega) Cr0
  replace Cr1 := keepC k7 (by omega) Cr1
  replace Cr2 := keepC k7 (by omega) Cr2
  have tCr : w.heap.size + 1 + 1 < w7.heap.size := by omega
  replace Cv0 := keepC k7 (by omega) Cv0
  replace Cv1 := keepC k7 (by omega) Cv1
  have tCv : w.heap.size + 1 + 1 + 1 < w7.heap.size := by omega
  replace Cx0 := keepC k7 (by omega) Cx0
  replace Cx1 := keepC k7 (by omega) Cx1
  replace Cx2 := keepC k7 (by omega) Cx2
  have tCx : w2.heap.size < w7.heap.size := by omega
  replace Ck0 := keepC k7 (by omega) Ck0
  replace Ck1 := keepC k7 (by omega) Ck1
  replace Ck2 := keepC k7 (by omega) Ck2
  have tCk : w3.heap.size < w7.heap.size := by omega
  replace Cy0 := keepC k7 (by omega) Cy0
  replace Cy1 := keepC k7 (by omega) Cy1
  replace Cy2 := keepC k7 (by omega) Cy2
  have tCy : w4.heap.size < w7.heap.size := by omega
  replace Ce0 := keepC k7 (by omega) Ce0
  replace Ce1 := keepC k7 (by omega) Ce1
  have tCe : w5.heap.size < w7.heap.size := by omega
  have Czz0 : w7.cell? ⟨w6.heap.size, 0, none⟩ = some (.int .i64 y1) := keepC hb7 (by (first | (simp; done) | (simp; omega))) (by simp [go_sem])
  have Czz1 : w7.cell? ⟨w6.heap.size, 1, none⟩ = some (.int .i64 y2) := keepC hb7 (by (first | (simp; done) | (simp; omega))) (by simp [go_sem])
  have Czz2 : w7.cell? ⟨w6.heap.size, 2, none⟩ = some (.int .i64 y3) := keepC hb7 (by (first | (simp; done) | (simp; omega))) (by simp [go_sem])
  have tCzz : w6.heap.size < w7.heap.size := by omega
  rw [hm]
  rw [hM1, hM2, hM3]
  go_wp2_with fail
  refine (Mirror_any m1 m2 m3 l' a' o' _ ((ht.step h0w7).step (by go_grown))).mono ?_
  rintro e w8 ⟨rfl, hb8⟩
  have sz8 := hb8.size
  try simp at sz8
  have k8 : Below w7.heap.size w7 w8 := Below.trans (by go_grown) (hb8.mono (by (first | (simp; done) | (simp; omega))))
  have h0w8 : Below w.heap.size w w8 := h0w7.trans (k8.mono h0w7.size)
  replace Cp0 := keepC k8 (by omega) Cp0
  replace Cp1 := keepC k8 (by omega) Cp1
  replace Cp2 := keepC k8 (by omega) Cp2
  have tCp : w.heap.size < w8.heap.size := by omega
  replace Cq0 := keepC k8 (by omega) Cq0
  replace Cq1 := keepC k8 (by omega) Cq1
  replace Cq2 := keepC k8 (by omega) Cq2
  have tCq : w.heap.size + 1 < w8.heap.size := by omega
  replace Cr0 := keepC k8 (by omega) Cr0
  replace Cr1 := keepC k8 (by omega) Cr1
  replace Cr2 := keepC k8 (by omega) Cr2
  have tCr : w.heap.size + 1 + 1 < w8.heap.size := by omega
  replace Cv0 := keepC k8 (by omega) Cv0
  replace Cv1 := keepC k8 (by omega) Cv1
  have tCv : w.heap.size + 1 + 1 + 1 < w8.heap.size := by omega
  replace Cx0 := keepC k8 (by omega) Cx0
  replace Cx1 := keepC k8 (by omega) Cx1
  replace Cx2 := keepC k8 (by omega) Cx2
  have tCx : w2.heap.size < w8.heap.size := by omega
  replace Ck0 := keepC k8 (by omega) Ck0
  replace Ck1 := keepC k8 (by omega) Ck1
  replace Ck2 := keepC k8 (by omega) Ck2
  have tCk : w3.heap.size < w8.heap.size := by omega
  replace Cy0 := keepC k8 (by omega) Cy0
  replace Cy1 := keepC k8 (by omega) Cy1
  replace Cy2 := keepC k8 (by omega) Cy2
  have tCy : w4.heap.size < w8.heap.size := by omega
  replace Ce0 := keepC k8 (by omega) Ce0
  replace Ce1 := keepC k8 (by omega) Ce1
  have tCe : w5.heap.size < w8.heap.size := by omega
  replace Czz0 := keepC k8 (by omega) Czz0
  replace Czz1 := keepC k8 (by omega) Czz1
  replace Czz2 := keepC k8 (by omega) Czz2
  have tCzz : w6.heap.size < w8.heap.size := by omega
  have Cm0 : w8.cell? ⟨w7.heap.size, 0, none⟩ = some (.int .i64 m1) := keepC hb8 (by (first | (simp; done) | (simp; omega))) (by simp [go_sem])
  have Cm1 : w8.cell? ⟨w7.heap.size, 1, none⟩ = some (.int .i64 m2) := keepC hb8 (by (first | (simp; done) | (simp; omega))) (by simp [go_sem])
  have Cm2 : w8.cell? ⟨w7.heap.size, 2, none⟩ = some (.int .i64 m3) := keepC hb8 (by (first | (simp; done) | (simp; omega))) (by simp [go_sem])
  have tCm : w7.heap.size < w8.heap.size := by omega
  rw [n1, n2, n3, n4]
  go_wp2_with fail
  refine (Move_any x1 x2 x3 (-s) (-h) _ ((ht.step h0w8).step (by go_grown))).mono ?_
  rintro e w9 ⟨rfl, hb9⟩
  have sz9 := hb9.size
  try simp at sz9
  have k9 : Below w8.heap.size w8 w9 := Below.trans (by go_grown) (hb9.mono (by (first | (simp; done) | (simp; omega))))
  have h0w9 : Below w.heap.size w w9 := h0w8.trans (k9.mono h0w8.size)
  replace Cp0 := keepC k9 (by omega) Cp0
  replace Cp1 := keepC k9 (by omega) Cp1
  replace Cp2 := keepC k9 (by omega) Cp2
  have tCp : w.heap.size < w9.heap.size := by omega
  replace Cq0 := keepC k9 (by omega) Cq0
  replace Cq1 := keepC k9 (by omega) Cq1
  replace Cq2 := keepC k9 (by omega) Cq2
  have tCq : w.heap.size + 1 < w9.heap.size := by omega
  replace Cr0 := keepC k9 (by omega) Cr0
  replace Cr1 := keepC k9 (by omega) Cr1
  replace Cr2 := keepC k9 (by omega) Cr2
  have tCr : w.heap.size + 1 + 1 < w9.heap.size := by omega
  replace Cv0 := keepC k9 (by omega) Cv0
  replace Cv1 := keepC k9 (by omega) Cv1
  have tCv : w.heap.size + 1 + 1 + 1 < w9.heap.size := by omega
  replace Cx0 := keepC k9 (by omega) Cx0
  replace Cx1 := keepC k9 (by omega) Cx1
  replace Cx2 := keepC k9 (by omega) Cx2
  have tCx : w2.heap.size < w9.heap.size := by omega
  replace Ck0 := keepC k9 (by omega) Ck0
  replace Ck1 := keepC k9 (by omega) Ck1
  replace Ck2 := keepC k9 (by omega) Ck2
  have tCk : w3.heap.size < w9.heap.size := by omega
  replace Cy0 := keepC k9 (by omega) Cy0
  replace Cy1 := keepC k9 (by omega) Cy1
  replace Cy2 := keepC k9 (by omega) Cy2
  have tCy : w4.heap.size < w9.heap.size := by omega
  replace Ce0 := keepC k9 (by omega) Ce0
  replace Ce1 := keepC k9 (by omega) Ce1
  have tCe : w5.heap.size < w9.heap.size := by omega
  replace Czz0 := keepC k9 (by omega) Czz0
  replace Czz1 := keepC k9 (by omega) Czz1
  replace Czz2 := keepC k9 (by omega) Czz2
  have tCzz : w6.heap.size < w9.heap.size := by omega
  replace Cm0 := keepC k9 (by omega) Cm0
  replace Cm1 := keepC k9 (by omega) Cm1
  replace Cm2 := keepC k9 (by omega) Cm2
  have tCm : w7.heap.size < w9.heap.size := by omega
  have Cn0 : w9.cell? ⟨w8.heap.size, 0, none⟩ = some (.int .i64 n5) := keepC hb9 (by (first | (simp; done) | (simp; omega))) (by simp [go_sem])
  have Cn1 : w9.cell? ⟨w8.heap.size, 1, none⟩ = some (.int .i64 n6) := keepC hb9 (by (first | (simp; done) | (simp; omega))) (by simp [go_sem])
  have Cn2 : w9.cell? ⟨w8.heap.size, 2, none⟩ = some (.int .i64 n7) := keepC hb9 (by (first | (simp; done) | (simp; omega))) (by simp [go_sem])
  have tCn : w8.heap.size < w9.heap.size := by omega
  rw [o1, hO1, hO2, hO3]
  go_wp2_with fail
  go_ret
  exact ⟨rfl, Below.trans h0w9 (Below.mono (by go_grown) h0w9.size)⟩

end Go.Proofs.YtchifnaafboefabDoor
