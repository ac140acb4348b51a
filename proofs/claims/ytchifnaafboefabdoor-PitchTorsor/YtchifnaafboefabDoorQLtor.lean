/- The statement PitchTorsor: the walk of its text. -/
import Derived.Test.YtchifnaafboefabDoorQW6
import Derived.Test.YtchifnaafboefabDoorQMath3
namespace Go.Proofs.YtchifnaafboefabDoor
open Go.RowKit

theorem tneq0 {x : Int} (h : x ≠ 0) : (x != 0) = true := by simp [h]

set_option maxRecDepth 100000 in
set_option maxHeartbeats 4000000 in
theorem torsor_walk (l a o l' a' o' b c d s h s' h' : Int) (w : World) (ht : Tab w) :
    Calls Tryd.prog 4 #[.agg #[.int .i64 l, .int .i64 a, .int .i64 o], .agg #[.int .i64 l', .int .i64 a', .int .i64 o'], .agg #[.int .i64 b, .int .i64 c, .int .i64 d], .agg #[.int .i64 s, .int .i64 h], .agg #[.int .i64 s', .int .i64 h']] w fun e w' => e = .returned (.bool true) ∧ Below w.heap.size w w' := by
  cases rp : M.rt l a o
  case false =>
    have hm := tneq0 (M.move_form (s := s) (h := h) rp)
    go_enter Tryd.func4, Tryd.ntmps4
    go_wp2_with fail
    refine (alive_any _ (ht.step (by go_grown))).mono ?_
    rintro e w1 ⟨rfl, hb1⟩
    have sz1 := hb1.size
    try simp at sz1
    have k1 : Below w.heap.size w w1 := Below.trans (by go_grown) (hb1.mono (by (first | (simp; done) | (simp; omega))))
    have h0w1 : Below w.heap.size w w1 := k1
    have Cp0 : w1.cell? ⟨w.heap.size, 0, none⟩ = some (.int .i64 l) := keepC hb1 (by (first | (simp; done) | (simp; omega))) (by simp [go_sem])
    have Cp1 : w1.cell? ⟨w.heap.size, 1, none⟩ = some (.int .i64 a) := keepC hb1 (by (first | (simp; done) | (simp; omega))) (by simp [go_sem])
    have Cp2 : w1.cell? ⟨w.heap.size, 2, none⟩ = some (.int .i64 o) := keepC hb1 (by (first | (simp; done) | (simp; omega))) (by simp [go_sem])
    have tCp : w.heap.size < w1.heap.size := by omega
    have Cq0 : w1.cell? ⟨w.heap.size + 1, 0, none⟩ = some (.int .i64 l') := keepC hb1 (by (first | (simp; done) | (simp; omega))) (by simp [go_sem])
    have Cq1 : w1.cell? ⟨w.heap.size + 1, 1, none⟩ = some (.int .i64 a') := keepC hb1 (by (first | (simp; done) | (simp; omega))) (by simp [go_sem])
    have Cq2 : w1.cell? ⟨w.heap.size + 1, 2, none⟩ = some (.int .i64 o') := keepC hb1 (by (first | (simp; done) | (simp; omega))) (by simp [go_sem])
    have tCq : w.heap.size + 1 < w1.heap.size := by omega
    have Cr0 : w1.cell? ⟨w.heap.size + 1 + 1, 0, none⟩ = some (.int .i64 b) := keepC hb1 (by (first | (simp; done) | (simp; omega))) (by simp [go_sem])
    have Cr1 : w1.cell? ⟨w.heap.size + 1 + 1, 1, none⟩ = some (.int .i64 c) := keepC hb1 (by (first | (simp; done) | (simp; omega))) (by simp [go_sem])
    have Cr2 : w1.cell? ⟨w.heap.size + 1 + 1, 2, none⟩ = some (.int .i64 d) := keepC hb1 (by (first | (simp; done) | (simp; omega))) (by simp [go_sem])
    have tCr : w.heap.size + 1 + 1 < w1.heap.size := by omega
    have Cv0 : w1.cell? ⟨w.heap.size + 1 + 1 + 1, 0, none⟩ = some (.int .i64 s) := keepC hb1 (by (first | (simp; done) | (simp; omega))) (by simp [go_sem])
    have Cv1 : w1.cell? ⟨w.heap.size + 1 + 1 + 1, 1, none⟩ = some (.int .i64 h) := keepC hb1 (by (first | (simp; done) | (simp; omega))) (by simp [go_sem])
    have tCv : w.heap.size + 1 + 1 + 1 < w1.heap.size := by omega
    have Cu0 : w1.cell? ⟨w.heap.size + 1 + 1 + 1 + 1, 0, none⟩ = some (.int .i64 s') := keepC hb1 (by (first | (simp; done) | (simp; omega))) (by simp [go_sem])
    have Cu1 : w1.cell? ⟨w.heap.size + 1 + 1 + 1 + 1, 1, none⟩ = some (.int .i64 h') := keepC hb1 (by (first | (simp; done) | (simp; omega))) (by simp [go_sem])
    have tCu : w.heap.size + 1 + 1 + 1 + 1 < w1.heap.size := by omega
    go_wp2_with fail
    refine (Right_any l a o _).mono ?_
    rintro e w2 ⟨rfl, hb2⟩
    have sz2 := hb2.size
    try simp at sz2
    have k2 : Below w1.heap.size w1 w2 := Below.trans (by go_grown) (hb2.mono (by (first | (simp; done) | (simp; omega))))
    have h0w2 : Below w.heap.size w w2 := h0w1.trans (k2.mono h0w1.size)
    replace Cp0 := keepC k2 (by omega) Cp0
    replace Cp1 := keepC k2 (by omega) Cp1
    replace Cp2 := keepC k2 (by omega) Cp2
    have tCp : w.heap.size < w2.heap.size := by omega
    replace Cq0 := keepC k2 (by omega) Cq0
    replace Cq1 := keepC k2 (by omega) Cq1
    replace Cq2 := keepC k2 (by omega) Cq2
    have tCq : w.heap.size + 1 < w2.heap.size := by omega
    replace Cr0 := keepC k2 (by omega) Cr0
    replace Cr1 := keepC k2 (by omega) Cr1
    replace Cr2 := keepC k2 (by omega) Cr2
    have tCr : w.heap.size + 1 + 1 < w2.heap.size := by omega
    replace Cv0 := keepC k2 (by omega) Cv0
    replace Cv1 := keepC k2 (by omega) Cv1
    have tCv : w.heap.size + 1 + 1 + 1 < w2.heap.size := by omega
    replace Cu0 := keepC k2 (by omega) Cu0
    replace Cu1 := keepC k2 (by omega) Cu1
    have tCu : w.heap.size + 1 + 1 + 1 + 1 < w2.heap.size := by omega
    rw [rp]
    go_wp2_with fail
    refine (Move_any l a o s h _ ((ht.step h0w2).step (by go_grown))).mono ?_
    rintro e w3 ⟨rfl, hb3⟩
    have sz3 := hb3.size
    try simp at sz3
    have k3 : Below w2.heap.size w2 w3 := Below.trans (by go_grown) (hb3.mono (by (first | (simp; done) | (simp; omega))))
    have h0w3 : Below w.heap.size w w3 := h0w2.trans (k3.mono h0w2.size)
    replace Cp0 := keepC k3 (by omega) Cp0
    replace Cp1 := keepC k3 (by omega) Cp1
    replace Cp2 := keepC k3 (by omega) Cp2
    have tCp : w.heap.size < w3.heap.size := by omega
    replace Cq0 := keepC k3 (by omega) Cq0
    replace Cq1 := keepC k3 (by omega) Cq1
    replace Cq2 := keepC k3 (by omega) Cq2
    have tCq : w.heap.size + 1 < w3.heap.size := by omega
    replace Cr0 := keepC k3 (by omega) Cr0
    replace Cr1 := keepC k3 (by omega) Cr1
    replace Cr2 := keepC k3 (by omega) Cr2
    have tCr : w.heap.size + 1 + 1 < w3.heap.size := by omega
    replace Cv0 := keepC k3 (by omega) Cv0
    replace Cv1 := keepC k3 (by omega) Cv1
    have tCv : w.heap.size + 1 + 1 + 1 < w3.heap.size := by omega
    replace Cu0 := keepC k3 (by omega) Cu0
    replace Cu1 := keepC k3 (by omega) Cu1
    have tCu : w.heap.size + 1 + 1 + 1 + 1 < w3.heap.size := by omega
    go_wp2_with fail
    go_ret
    exact ⟨rfl, Below.trans h0w3 (Below.mono (by go_grown) h0w3.size)⟩
  cases rq : M.rt l' a' o'
  case false =>
    by_cases hm : M.me l a o s h = 0
    case neg =>
      have hm' := tneq0 hm
      go_enter Tryd.func4, Tryd.ntmps4
      go_wp2_with fail
      refine (alive_any _ (ht.step (by go_grown))).mono ?_
      rintro e w1 ⟨rfl, hb1⟩
      have sz1 := hb1.size
      try simp at sz1
      have k1 : Below w.heap.size w w1 := Below.trans (by go_grown) (hb1.mono (by (first | (simp; done) | (simp; omega))))
      have h0w1 : Below w.heap.size w w1 := k1
      have Cp0 : w1.cell? ⟨w.heap.size, 0, none⟩ = some (.int .i64 l) := keepC hb1 (by (first | (simp; done) | (simp; omega))) (by simp [go_sem])
      have Cp1 : w1.cell? ⟨w.heap.size, 1, none⟩ = some (.int .i64 a) := keepC hb1 (by (first | (simp; done) | (simp; omega))) (by simp [go_sem])
      have Cp2 : w1.cell? ⟨w.heap.size, 2, none⟩ = some (.int .i64 o) := keepC hb1 (by (first | (simp; done) | (simp; omega))) (by simp [go_sem])
      have tCp : w.heap.size < w1.heap.size := by omega
      have Cq0 : w1.cell? ⟨w.heap.size + 1, 0, none⟩ = some (.int .i64 l') := keepC hb1 (by (first | (simp; done) | (simp; omega))) (by simp [go_sem])
      have Cq1 : w1.cell? ⟨w.heap.size + 1, 1, none⟩ = some (.int .i64 a') := keepC hb1 (by (first | (simp; done) | (simp; omega))) (by simp [go_sem])
      have Cq2 : w1.cell? ⟨w.heap.size + 1, 2, none⟩ = some (.int .i64 o') := keepC hb1 (by (first | (simp; done) | (simp; omega))) (by simp [go_sem])
      have tCq : w.heap.size + 1 < w1.heap.size := by omega
      have Cr0 : w1.cell? ⟨w.heap.size + 1 + 1, 0, none⟩ = some (.int .i64 b) := keepC hb1 (by (first | (simp; done) | (simp; omega))) (by simp [go_sem])
      have Cr1 : w1.cell? ⟨w.heap.size + 1 + 1, 1, none⟩ = some (.int .i64 c) := keepC hb1 (by (first | (simp; done) | (simp; omega))) (by simp [go_sem])
      have Cr2 : w1.cell? ⟨w.heap.size + 1 + 1, 2, none⟩ = some (.int .i64 d) := keepC hb1 (by (first | (simp; done) | (simp; omega))) (by simp [go_sem])
      have tCr : w.heap.size + 1 + 1 < w1.heap.size := by omega
      have Cv0 : w1.cell? ⟨w.heap.size + 1 + 1 + 1, 0, none⟩ = some (.int .i64 s) := keepC hb1 (by (first | (simp; done) | (simp; omega))) (by simp [go_sem])
      have Cv1 : w1.cell? ⟨w.heap.size + 1 + 1 + 1, 1, none⟩ = some (.int .i64 h) := keepC hb1 (by (first | (simp; done) | (simp; omega))) (by simp [go_sem])
      have tCv : w.heap.size + 1 + 1 + 1 < w1.heap.size := by omega
      have Cu0 : w1.cell? ⟨w.heap.size + 1 + 1 + 1 + 1, 0, none⟩ = some (.int .i64 s') := keepC hb1 (by (first | (simp; done) | (simp; omega))) (by simp [go_sem])
      have Cu1 : w1.cell? ⟨w.heap.size + 1 + 1 + 1 + 1, 1, none⟩ = some (.int .i64 h') := keepC hb1 (by (first | (simp; done) | (simp; omega))) (by simp [go_sem])
      have tCu : w.heap.size + 1 + 1 + 1 + 1 < w1.heap.size := by omega
      go_wp2_with fail
      refine (Right_any l a o _).mono ?_
      rintro e w2 ⟨rfl, hb2⟩
      have sz2 := hb2.size
      try simp at sz2
      have k2 : Below w1.heap.size w1 w2 := Below.trans (by go_grown) (hb2.mono (by (first | (simp; done) | (simp; omega))))
      have h0w2 : Below w.heap.size w w2 := h0w1.trans (k2.mono h0w1.size)
      replace Cp0 := keepC k2 (by omega) Cp0
      replace Cp1 := keepC k2 (by omega) Cp1
      replace Cp2 := keepC k2 (by omega) Cp2
      have tCp : w.heap.size < w2.heap.size := by omega
      replace Cq0 := keepC k2 (by omega) Cq0
      replace Cq1 := keepC k2 (by omega) Cq1
      replace Cq2 := keepC k2 (by omega) Cq2
      have tCq : w.heap.size + 1 < w2.heap.size := by omega
      replace Cr0 := keepC k2 (by omega) Cr0
      replace Cr1 := keepC k2 (by omega) Cr1
      replace Cr2 := keepC k2 (by omega) Cr2
      have tCr : w.heap.size + 1 + 1 < w2.heap.size := by omega
      replace Cv0 := keepC k2 (by omega) Cv0
      replace Cv1 := keepC k2 (by omega) Cv1
      have tCv : w.heap.size + 1 + 1 + 1 < w2.heap.size := by omega
      replace Cu0 := keepC k2 (by omega) Cu0
      replace Cu1 := keepC k2 (by omega) Cu1
      have tCu : w.heap.size + 1 + 1 + 1 + 1 < w2.heap.size := by omega
      rw [rp]
      go_wp2_with fail
      refine (Right_any l' a' o' _).mono ?_
      rintro e w3 ⟨rfl, hb3⟩
      have sz3 := hb3.size
      try simp at sz3
      have k3 : Below w2.heap.size w2 w3 := Below.trans (by go_grown) (hb3.mono (by (first | (simp; done) | (simp; omega))))
      have h0w3 : Below w.heap.size w w3 := h0w2.trans (k3.mono h0w2.size)
      replace Cp0 := keepC k3 (by omega) Cp0
      replace Cp1 := keepC k3 (by omega) Cp1
      replace Cp2 := keepC k3 (by omega) Cp2
      have tCp : w.heap.size < w3.heap.size := by omega
      replace Cq0 := keepC k3 (by omega) Cq0
      replace Cq1 := keepC k3 (by omega) Cq1
      replace Cq2 := keepC k3 (by omega) Cq2
      have tCq : w.heap.size + 1 < w3.heap.size := by omega
      replace Cr0 := keepC k3 (by omega) Cr0
      replace Cr1 := keepC k3 (by omega) Cr1
      replace Cr2 := keepC k3 (by omega) Cr2
      have tCr : w.heap.size + 1 + 1 < w3.heap.size := by omega
      replace Cv0 := keepC k3 (by omega) Cv0
      replace Cv1 := keepC k3 (by omega) Cv1
      have tCv : w.heap.size + 1 + 1 + 1 < w3.heap.size := by omega
      replace Cu0 := keepC k3 (by omega) Cu0
      replace Cu1 := keepC k3 (by omega) Cu1
      have tCu : w.heap.size + 1 + 1 + 1 + 1 < w3.heap.size := by omega
      rw [rq]
      go_wp2_with fail
      refine (Move_any l a o s h _ ((ht.step h0w3).step (by go_grown))).mono ?_
      rintro e w4 ⟨rfl, hb4⟩
      have sz4 := hb4.size
      try simp at sz4
      have k4 : Below w3.heap.size w3 w4 := Below.trans (by go_grown) (hb4.mono (by (first | (simp; done) | (simp; omega))))
      have h0w4 : Below w.heap.size w w4 := h0w3.trans (k4.mono h0w3.size)
      replace Cp0 := keepC k4 (by omega) Cp0
      replace Cp1 := keepC k4 (by omega) Cp1
      replace Cp2 := keepC k4 (by omega) Cp2
      have tCp : w.heap.size < w4.heap.size := by omega
      replace Cq0 := keepC k4 (by omega) Cq0
      replace Cq1 := keepC k4 (by omega) Cq1
      replace Cq2 := keepC k4 (by omega) Cq2
      have tCq : w.heap.size + 1 < w4.heap.size := by omega
      replace Cr0 := keepC k4 (by omega) Cr0
      replace Cr1 := keepC k4 (by omega) Cr1
      replace Cr2 := keepC k4 (by omega) Cr2
      have tCr : w.heap.size + 1 + 1 < w4.heap.size := by omega
      replace Cv0 := keepC k4 (by omega) Cv0
      replace Cv1 := keepC k4 (by omega) Cv1
      have tCv : w.heap.size + 1 + 1 + 1 < w4.heap.size := by omega
      replace Cu0 := keepC k4 (by omega) Cu0
      replace Cu1 := keepC k4 (by omega) Cu1
      have tCu : w.heap.size + 1 + 1 + 1 + 1 < w4.heap.size := by omega
      go_wp2_with fail
      go_ret
      exact ⟨rfl, Below.trans h0w4 (Below.mono (by go_grown) h0w4.size)⟩
    obtain ⟨_, hin, rm, em1, em2⟩ := M.move_ok hm
    have hin' := M.inb_yes hin
    generalize hM1 : M.ml l a o s h = m1 at *
    generalize hM2 : M.ma l a o s h = m2 at *
    generalize hM3 : M.mo l a o s h = m3 at *
    obtain ⟨f0, f1, f2⟩ := M.between_ok rp rm
    rw [em1, show M.st l o + s - M.st l o = s by omega] at f1
    rw [em2, show M.hv l a o + h - M.hv l a o = h by omega] at f2
    by_cases hS : M.se s h s' h' = 0
    case neg =>
      have hS' := tneq0 hS
      go_enter Tryd.func4, Tryd.ntmps4
      go_wp2_with fail
      refine (alive_any _ (ht.step (by go_grown))).mono ?_
      rintro e w1 ⟨rfl, hb1⟩
      have sz1 := hb1.size
      try simp at sz1
      have k1 : Below w.heap.size w w1 := Below.trans (by go_grown) (hb1.mono (by (first | (simp; done) | (simp; omega))))
      have h0w1 : Below w.heap.size w w1 := k1
      have Cp0 : w1.cell? ⟨w.heap.size, 0, none⟩ = some (.int .i64 l) := keepC hb1 (by (first | (simp; done) | (simp; omega))) (by simp [go_sem])
      have Cp1 : w1.cell? ⟨w.heap.size, 1, none⟩ = some (.int .i64 a) := keepC hb1 (by (first | (simp; done) | (simp; omega))) (by simp [go_sem])
      have Cp2 : w1.cell? ⟨w.heap.size, 2, none⟩ = some (.int .i64 o) := keepC hb1 (by (first | (simp; done) | (simp; omega))) (by simp [go_sem])
      have tCp : w.heap.size < w1.heap.size := by omega
      have Cq0 : w1.cell? ⟨w.heap.size + 1, 0, none⟩ = some (.int .i64 l') := keepC hb1 (by (first | (simp; done) | (simp; omega))) (by simp [go_sem])
      have Cq1 : w1.cell? ⟨w.heap.size + 1, 1, none⟩ = some (.int .i64 a') := keepC hb1 (by (first | (simp; done) | (simp; omega))) (by simp [go_sem])
      have Cq2 : w1.cell? ⟨w.heap.size + 1, 2, none⟩ = some (.int .i64 o') := keepC hb1 (by (first | (simp; done) | (simp; omega))) (by simp [go_sem])
      have tCq : w.heap.size + 1 < w1.heap.size := by omega
      have Cr0 : w1.cell? ⟨w.heap.size + 1 + 1, 0, none⟩ = some (.int .i64 b) := keepC hb1 (by (first | (simp; done) | (simp; omega))) (by simp [go_sem])
      have Cr1 : w1.cell? ⟨w.heap.size + 1 + 1, 1, none⟩ = some (.int .i64 c) := keepC hb1 (by (first | (simp; done) | (simp; omega))) (by simp [go_sem])
      have Cr2 : w1.cell? ⟨w.heap.size + 1 + 1, 2, none⟩ = some (.int .i64 d) := keepC hb1 (by (first | (simp; done) | (simp; omega))) (by simp [go_sem])
      have tCr : w.heap.size + 1 + 1 < w1.heap.size := by omega
      have Cv0 : w1.cell? ⟨w.heap.size + 1 + 1 + 1, 0, none⟩ = some (.int .i64 s) := keepC hb1 (by (first | (simp; done) | (simp; omega))) (by simp [go_sem])
      have Cv1 : w1.cell? ⟨w.heap.size + 1 + 1 + 1, 1, none⟩ = some (.int .i64 h) := keepC hb1 (by (first | (simp; done) | (simp; omega))) (by simp [go_sem])
      have tCv : w.heap.size + 1 + 1 + 1 < w1.heap.size := by omega
      have Cu0 : w1.cell? ⟨w.heap.size + 1 + 1 + 1 + 1, 0, none⟩ = some (.int .i64 s') := keepC hb1 (by (first | (simp; done) | (simp; omega))) (by simp [go_sem])
      have Cu1 : w1.cell? ⟨w.heap.size + 1 + 1 + 1 + 1, 1, none⟩ = some (.int .i64 h') := keepC hb1 (by (first | (simp; done) | (simp; omega))) (by simp [go_sem])
      have tCu : w.heap.size + 1 + 1 + 1 + 1 < w1.heap.size := by omega
      go_wp2_with fail
      refine (Right_any l a o _).mono ?_
      rintro e w2 ⟨rfl, hb2⟩
      have sz2 := hb2.size
      try simp at sz2
      have k2 : Below w1.heap.size w1 w2 := Below.trans (by go_grown) (hb2.mono (by (first | (simp; done) | (simp; omega))))
      have h0w2 : Below w.heap.size w w2 := h0w1.trans (k2.mono h0w1.size)
      replace Cp0 := keepC k2 (by omega) Cp0
      replace Cp1 := keepC k2 (by omega) Cp1
      replace Cp2 := keepC k2 (by omega) Cp2
      have tCp : w.heap.size < w2.heap.size := by omega
      replace Cq0 := keepC k2 (by omega) Cq0
      replace Cq1 := keepC k2 (by omega) Cq1
      replace Cq2 := keepC k2 (by omega) Cq2
      have tCq : w.heap.size + 1 < w2.heap.size := by omega
      replace Cr0 := keepC k2 (by omega) Cr0
      replace Cr1 := keepC k2 (by omega) Cr1
      replace Cr2 := keepC k2 (by omega) Cr2
      have tCr : w.heap.size + 1 + 1 < w2.heap.size := by omega
      replace Cv0 := keepC k2 (by omega) Cv0
      replace Cv1 := keepC k2 (by omega) Cv1
      have tCv : w.heap.size + 1 + 1 + 1 < w2.heap.size := by omega
      replace Cu0 := keepC k2 (by omega) Cu0
      replace Cu1 := keepC k2 (by omega) Cu1
      have tCu : w.heap.size + 1 + 1 + 1 + 1 < w2.heap.size := by omega
      rw [rp]
      go_wp2_with fail
      refine (Right_any l' a' o' _).mono ?_
      rintro e w3 ⟨rfl, hb3⟩
      have sz3 := hb3.size
      try simp at sz3
      have k3 : Below w2.heap.size w2 w3 := Below.trans (by go_grown) (hb3.mono (by (first | (simp; done) | (simp; omega))))
      have h0w3 : Below w.heap.size w w3 := h0w2.trans (k3.mono h0w2.size)
      replace Cp0 := keepC k3 (by omega) Cp0
      replace Cp1 := keepC k3 (by omega) Cp1
      replace Cp2 := keepC k3 (by omega) Cp2
      have tCp : w.heap.size < w3.heap.size := by omega
      replace Cq0 := keepC k3 (by omega) Cq0
      replace Cq1 := keepC k3 (by omega) Cq1
      replace Cq2 := keepC k3 (by omega) Cq2
      have tCq : w.heap.size + 1 < w3.heap.size := by omega
      replace Cr0 := keepC k3 (by omega) Cr0
      replace Cr1 := keepC k3 (by omega) Cr1
      replace Cr2 := keepC k3 (by omega) Cr2
      have tCr : w.heap.size + 1 + 1 < w3.heap.size := by omega
      replace Cv0 := keepC k3 (by omega) Cv0
      replace Cv1 := keepC k3 (by omega) Cv1
      have tCv : w.heap.size + 1 + 1 + 1 < w3.heap.size := by omega
      replace Cu0 := keepC k3 (by omega) Cu0
      replace Cu1 := keepC k3 (by omega) Cu1
      have tCu : w.heap.size + 1 + 1 + 1 + 1 < w3.heap.size := by omega
      rw [rq]
      go_wp2_with fail
      refine (Move_any l a o s h _ ((ht.step h0w3).step (by go_grown))).mono ?_
      rintro e w4 ⟨rfl, hb4⟩
      have sz4 := hb4.size
      try simp at sz4
      have k4 : Below w3.heap.size w3 w4 := Below.trans (by go_grown) (hb4.mono (by (first | (simp; done) | (simp; omega))))
      have h0w4 : Below w.heap.size w w4 := h0w3.trans (k4.mono h0w3.size)
      replace Cp0 := keepC k4 (by omega) Cp0
      replace Cp1 := keepC k4 (by omega) Cp1
      replace Cp2 := keepC k4 (by omega) Cp2
      have tCp : w.heap.size < w4.heap.size := by omega
      replace Cq0 := keepC k4 (by omega) Cq0
      replace Cq1 := keepC k4 (by omega) Cq1
      replace Cq2 := keepC k4 (by omega) Cq2
      have tCq : w.heap.size + 1 < w4.heap.size := by omega
      replace Cr0 := keepC k4 (by omega) Cr0
      replace Cr1 := keepC k4 (by omega) Cr1
      replace Cr2 := keepC k4 (by omega) Cr2
      have tCr : w.heap.size + 1 + 1 < w4.heap.size := by omega
      replace Cv0 := keepC k4 (by omega) Cv0
      replace Cv1 := keepC k4 (by omega) Cv1
      have tCv : w.heap.size + 1 + 1 + 1 < w4.heap.size := by omega
      replace Cu0 := keepC k4 (by omega) Cu0
      replace Cu1 := keepC k4 (by omega) Cu1
      have tCu : w.heap.size + 1 + 1 + 1 + 1 < w4.heap.size := by omega
      rw [hm, hM1, hM2, hM3]
      go_wp2_with fail
      refine (Between_any l a o m1 m2 m3 _ ((ht.step h0w4).step (by go_grown))).mono ?_
      rintro e w5 ⟨rfl, hb5⟩
      have sz5 := hb5.size
      try simp at sz5
      have k5 : Below w4.heap.size w4 w5 := Below.trans (by go_grown) (hb5.mono (by (first | (simp; done) | (simp; omega))))
      have h0w5 : Below w.heap.size w w5 := h0w4.trans (k5.mono h0w4.size)
      replace Cp0 := keepC k5 (by omega) Cp0
      replace Cp1 := keepC k5 (by omega) Cp1
      replace Cp2 := keepC k5 (by omega) Cp2
      have tCp : w.heap.size < w5.heap.size := by omega
      replace Cq0 := keepC k5 (by omega) Cq0
      replace Cq1 := keepC k5 (by omega) Cq1
      replace Cq2 := keepC k5 (by omega) Cq2
      have tCq : w.heap.size + 1 < w5.heap.size := by omega
      replace Cr0 := keepC k5 (by omega) Cr0
      replace Cr1 := keepC k5 (by omega) Cr1
      replace Cr2 := keepC k5 (by omega) Cr2
      have tCr : w.heap.size + 1 + 1 < w5.heap.size := by omega
      replace Cv0 := keepC k5 (by omega) Cv0
      replace Cv1 := keepC k5 (by omega) Cv1
      have tCv : w.heap.size + 1 + 1 + 1 < w5.heap.size := by omega
      replace Cu0 := keepC k5 (by omega) Cu0
      replace Cu1 := keepC k5 (by omega) Cu1
      have tCu : w.heap.size + 1 + 1 + 1 + 1 < w5.heap.size := by omega
      have Cm0 : w5.cell? ⟨w4.heap.size, 0, none⟩ = some (.int .i64 m1) := keepC hb5 (by (first | (simp; done) | (simp; omega))) (by simp [go_sem])
      have Cm1 : w5.cell? ⟨w4.heap.size, 1, none⟩ = some (.int .i64 m2) := keepC hb5 (by (first | (simp; done) | (simp; omega))) (by simp [go_sem])
      have Cm2 : w5.cell? ⟨w4.heap.size, 2, none⟩ = some (.int .i64 m3) := keepC hb5 (by (first | (simp; done) | (simp; omega))) (by simp [go_sem])
      have tCm : w4.heap.size < w5.heap.size := by omega
      rw [f0, f1, f2]
      go_wp2_with fail
      refine (Move_any m1 m2 m3 s' h' _ ((ht.step h0w5).step (by go_grown))).mono ?_
      rintro e w6 ⟨rfl, hb6⟩
      have sz6 := hb6.size
      try simp at sz6
      have k6 : Below w5.heap.size w5 w6 := Below.trans (by go_grown) (hb6.mono (by (first | (simp; done) | (simp; omega))))
      have h0w6 : Below w.heap.size w w6 := h0w5.trans (k6.mono h0w5.size)
      replace Cp0 := keepC k6 (by omega) Cp0
      replace Cp1 := keepC k6 (by omega) Cp1
      replace Cp2 := keepC k6 (by omega) Cp2
      have tCp : w.heap.size < w6.heap.size := by omega
      replace Cq0 := keepC k6 (by omega) Cq0
      replace Cq1 := keepC k6 (by omega) Cq1
      replace Cq2 := keepC k6 (by omega) Cq2
      have tCq : w.heap.size + 1 < w6.heap.size := by omega
      replace Cr0 := keepC k6 (by omega) Cr0
      replace Cr1 := keepC k6 (by omega) Cr1
      replace Cr2 := keepC k6 (by omega) Cr2
      have tCr : w.heap.size + 1 + 1 < w6.heap.size := by omega
      replace Cv0 := keepC k6 (by omega) Cv0
      replace Cv1 := keepC k6 (by omega) Cv1
      have tCv : w.heap.size + 1 + 1 + 1 < w6.heap.size := by omega
      replace Cu0 := keepC k6 (by omega) Cu0
      replace Cu1 := keepC k6 (by omega) Cu1
      have tCu : w.heap.size + 1 + 1 + 1 + 1 < w6.heap.size := by omega
      replace Cm0 := keepC k6 (by omega) Cm0
      replace Cm1 := keepC k6 (by omega) Cm1
      replace Cm2 := keepC k6 (by omega) Cm2
      have tCm : w4.heap.size < w6.heap.size := by omega
      have Cf0 : w6.cell? ⟨w5.heap.size, 0, none⟩ = some (.int .i64 s) := keepC hb6 (by (first | (simp; done) | (simp; omega))) (by simp [go_sem])
      have Cf1 : w6.cell? ⟨w5.heap.size, 1, none⟩ = some (.int .i64 h) := keepC hb6 (by (first | (simp; done) | (simp; omega))) (by simp [go_sem])
      have tCf : w5.heap.size < w6.heap.size := by omega
      go_wp2_with fail
      refine (Sum_any s h s' h' _).mono ?_
      rintro e w7 ⟨rfl, hb7⟩
      have sz7 := hb7.size
      try simp at sz7
      have k7 : Below w6.heap.size w6 w7 := Below.trans (by go_grown) (hb7.mono (by (first | (simp; done) | (simp; omega))))
      have h0w7 : Below w.heap.size w w7 := h0w6.trans (k7.mono h0w6.size)
      replace Cp0 := keepC k7 (by omega) Cp0
      replace Cp1 := keepC k7 (by omega) Cp1
      replace Cp2 := keepC k7 (by omega) Cp2
      have tCp : w.heap.size < w7.heap.size := by omega
      replace Cq0 := keepC k7 (by omega) Cq0
      replace Cq1 := keepC k7 (by omega) Cq1
      replace Cq2 := keepC k7 (by omega) Cq2
      have tCq : w.heap.size + 1 < w7.heap.size := by omega
      replace Cr0 := keepC k7 (by omega) Cr0
      replace Cr1 := keepC k7 (by omega) Cr1
      replace Cr2 := keepC k7 (by omega) Cr2
      have tCr : w.heap.size + 1 + 1 < w7.heap.size := by omega
      replace Cv0 := keepC k7 (by omega) Cv0
      replace Cv1 := keepC k7 (by omega) Cv1
      have tCv : w.heap.size + 1 + 1 + 1 < w7.heap.size := by omega
      replace Cu0 := keepC k7 (by omega) Cu0
      replace Cu1 := keepC k7 (by omega) Cu1
      have tCu : w.heap.size + 1 + 1 + 1 + 1 < w7.heap.size := by omega
      replace Cm0 := keepC k7 (by omega) Cm0
      replace Cm1 := keepC k7 (by omega) Cm1
      replace Cm2 := keepC k7 (by omega) Cm2
      have tCm : w4.heap.size < w7.heap.size := by omega
      replace Cf0 := keepC k7 (by omega) Cf0
      replace Cf1 := keepC k7 (by omega) Cf1
      have tCf : w5.heap.size < w7.heap.size := by omega
      have Cy0 : w7.cell? ⟨w6.heap.size, 0, none⟩ = some (.int .i64 (M.ml m1 m2 m3 s' h')) := keepC hb7 (by (first | (simp; done) | (simp; omega))) (by simp [go_sem])
      have Cy1 : w7.cell? ⟨w6.heap.size, 1, none⟩ = some (.int .i64 (M.ma m1 m2 m3 s' h')) := keepC hb7 (by (first | (simp; done) | (simp; omega))) (by simp [go_sem])
      have Cy2 : w7.cell? ⟨w6.heap.size, 2, none⟩ = some (.int .i64 (M.mo m1 m2 m3 s' h')) := keepC hb7 (by (first | (simp; done) | (simp; omega))) (by simp [go_sem])
      have tCy : w6.heap.size < w7.heap.size := by omega
      go_wp2_with fail
      go_ret
      exact ⟨rfl, Below.trans h0w7 (Below.mono (by go_grown) h0w7.size)⟩
    obtain ⟨_, ij, ik, g1, g2⟩ := M.sum_ok hS
    obtain ⟨i1, i2, i3, i4⟩ := M.mk_sum rp rm ij ik em1 em2
    go_enter Tryd.func4, Tryd.ntmps4
    go_wp2_with fail
    refine (alive_any _ (ht.step (by go_grown))).mono ?_
    rintro e w1 ⟨rfl, hb1⟩
    have sz1 := hb1.size
    try simp at sz1
    have k1 : Below w.heap.size w w1 := Below.trans (by go_grown) (hb1.mono (by (first | (simp; done) | (simp; omega))))
    have h0w1 : Below w.heap.size w w1 := k1
    have Cp0 : w1.cell? ⟨w.heap.size, 0, none⟩ = some (.int .i64 l) := keepC hb1 (by (first | (simp; done) | (simp; omega))) (by simp [go_sem])
    have Cp1 : w1.cell? ⟨w.heap.size, 1, none⟩ = some (.int .i64 a) := keepC hb1 (by (first | (simp; done) | (simp; omega))) (by simp [go_sem])
    have Cp2 : w1.cell? ⟨w.heap.size, 2, none⟩ = some (.int .i64 o) := keepC hb1 (by (first | (simp; done) | (simp; omega))) (by simp [go_sem])
    have tCp : w.heap.size < w1.heap.size := by omega
    have Cq0 : w1.cell? ⟨w.heap.size + 1, 0, none⟩ = some (.int .i64 l') := keepC hb1 (by (first | (simp; done) | (simp; omega))) (by simp [go_sem])
    have Cq1 : w1.cell? ⟨w.heap.size + 1, 1, none⟩ = some (.int .i64 a') := keepC hb1 (by (first | (simp; done) | (simp; omega))) (by simp [go_sem])
    have Cq2 : w1.cell? ⟨w.heap.size + 1, 2, none⟩ = some (.int .i64 o') := keepC hb1 (by (first | (simp; done) | (simp; omega))) (by simp [go_sem])
    have tCq : w.heap.size + 1 < w1.heap.size := by omega
    have Cr0 : w1.cell? ⟨w.heap.size + 1 + 1, 0, none⟩ = some (.int .i64 b) := keepC hb1 (by (first | (simp; done) | (simp; omega))) (by simp [go_sem])
    have Cr1 : w1.cell? ⟨w.heap.size + 1 + 1, 1, none⟩ = some (.int .i64 c) := keepC hb1 (by (first | (simp; done) | (simp; omega))) (by simp [go_sem])
    have Cr2 : w1.cell? ⟨w.heap.size + 1 + 1, 2, none⟩ = some (.int .i64 d) := keepC hb1 (by (first | (simp; done) | (simp; omega))) (by simp [go_sem])
    have tCr : w.heap.size + 1 + 1 < w1.heap.size := by omega
    have Cv0 : w1.cell? ⟨w.heap.size + 1 + 1 + 1, 0, none⟩ = some (.int .i64 s) := keepC hb1 (by (first | (simp; done) | (simp; omega))) (by simp [go_sem])
    have Cv1 : w1.cell? ⟨w.heap.size + 1 + 1 + 1, 1, none⟩ = some (.int .i64 h) := keepC hb1 (by (first | (simp; done) | (simp; omega))) (by simp [go_sem])
    have tCv : w.heap.size + 1 + 1 + 1 < w1.heap.size := by omega
    have Cu0 : w1.cell? ⟨w.heap.size + 1 + 1 + 1 + 1, 0, none⟩ = some (.int .i64 s') := keepC hb1 (by (first | (simp; done) | (simp; omega))) (by simp [go_sem])
    have Cu1 : w1.cell? ⟨w.heap.size + 1 + 1 + 1 + 1, 1, none⟩ = some (.int .i64 h') := keepC hb1 (by (first | (simp; done) | (simp; omega))) (by simp [go_sem])
    have tCu : w.heap.size + 1 + 1 + 1 + 1 < w1.heap.size := by omega
    go_wp2_with fail
    refine (Right_any l a o _).mono ?_
    rintro e w2 ⟨rfl, hb2⟩
    have sz2 := hb2.size
    try simp at sz2
    have k2 : Below w1.heap.size w1 w2 := Below.trans (by go_grown) (hb2.mono (by (first | (simp; done) | (simp; omega))))
    have h0w2 : Below w.heap.size w w2 := h0w1.trans (k2.mono h0w1.size)
    replace Cp0 := keepC k2 (by omega) Cp0
    replace Cp1 := keepC k2 (by omega) Cp1
    replace Cp2 := keepC k2 (by omega) Cp2
    have tCp : w.heap.size < w2.heap.size := by omega
    replace Cq0 := keepC k2 (by omega) Cq0
    replace Cq1 := keepC k2 (by omega) Cq1
    replace Cq2 := keepC k2 (by omega) Cq2
    have tCq : w.heap.size + 1 < w2.heap.size := by omega
    replace Cr0 := keepC k2 (by omega) Cr0
    replace Cr1 := keepC k2 (by omega) Cr1
    replace Cr2 := keepC k2 (by omega) Cr2
    have tCr : w.heap.size + 1 + 1 < w2.heap.size := by omega
    replace Cv0 := keepC k2 (by omega) Cv0
    replace Cv1 := keepC k2 (by omega) Cv1
    have tCv : w.heap.size + 1 + 1 + 1 < w2.heap.size := by omega
    replace Cu0 := keepC k2 (by omega) Cu0
    replace Cu1 := keepC k2 (by omega) Cu1
    have tCu : w.heap.size + 1 + 1 + 1 + 1 < w2.heap.size := by omega
    rw [rp]
    go_wp2_with fail
    refine (Right_any l' a' o' _).mono ?_
    rintro e w3 ⟨rfl, hb3⟩
    have sz3 := hb3.size
    try simp at sz3
    have k3 : Below w2.heap.size w2 w3 := Below.trans (by go_grown) (hb3.mono (by (first | (simp; done) | (simp; omega))))
    have h0w3 : Below w.heap.size w w3 := h0w2.trans (k3.mono h0w2.size)
    replace Cp0 := keepC k3 (by omega) Cp0
    replace Cp1 := keepC k3 (by omega) Cp1
    replace Cp2 := keepC k3 (by omega) Cp2
    have tCp : w.heap.size < w3.heap.size := by omega
    replace Cq0 := keepC k3 (by omega) Cq0
    replace Cq1 := keepC k3 (by omega) Cq1
    replace Cq2 := keepC k3 (by omega) Cq2
    have tCq : w.heap.size + 1 < w3.heap.size := by omega
    replace Cr0 := keepC k3 (by omega) Cr0
    replace Cr1 := keepC k3 (by omega) Cr1
    replace Cr2 := keepC k3 (by omega) Cr2
    have tCr : w.heap.size + 1 + 1 < w3.heap.size := by omega
    replace Cv0 := keepC k3 (by omega) Cv0
    replace Cv1 := keepC k3 (by omega) Cv1
    have tCv : w.heap.size + 1 + 1 + 1 < w3.heap.size := by omega
    replace Cu0 := keepC k3 (by omega) Cu0
    replace Cu1 := keepC k3 (by omega) Cu1
    have tCu : w.heap.size + 1 + 1 + 1 + 1 < w3.heap.size := by omega
    rw [rq]
    go_wp2_with fail
    refine (Move_any l a o s h _ ((ht.step h0w3).step (by go_grown))).mono ?_
    rintro e w4 ⟨rfl, hb4⟩
    have sz4 := hb4.size
    try simp at sz4
    have k4 : Below w3.heap.size w3 w4 := Below.trans (by go_grown) (hb4.mono (by (first | (simp; done) | (simp; omega))))
    have h0w4 : Below w.heap.size w w4 := h0w3.trans (k4.mono h0w3.size)
    replace Cp0 := keepC k4 (by omega) Cp0
    replace Cp1 := keepC k4 (by omega) Cp1
    replace Cp2 := keepC k4 (by omega) Cp2
    have tCp : w.heap.size < w4.heap.size := by omega
    replace Cq0 := keepC k4 (by omega) Cq0
    replace Cq1 := keepC k4 (by omega) Cq1
    replace Cq2 := keepC k4 (by omega) Cq2
    have tCq : w.heap.size + 1 < w4.heap.size := by omega
    replace Cr0 := keepC k4 (by omega) Cr0
    replace Cr1 := keepC k4 (by omega) Cr1
    replace Cr2 := keepC k4 (by omega) Cr2
    have tCr : w.heap.size + 1 + 1 < w4.heap.size := by omega
    replace Cv0 := keepC k4 (by omega) Cv0
    replace Cv1 := keepC k4 (by omega) Cv1
    have tCv : w.heap.size + 1 + 1 + 1 < w4.heap.size := by omega
    replace Cu0 := keepC k4 (by omega) Cu0
    replace Cu1 := keepC k4 (by omega) Cu1
    have tCu : w.heap.size + 1 + 1 + 1 + 1 < w4.heap.size := by omega
    rw [hm, hM1, hM2, hM3]
    go_wp2_with fail
    refine (Between_any l a o m1 m2 m3 _ ((ht.step h0w4).step (by go_grown))).mono ?_
    rintro e w5 ⟨rfl, hb5⟩
    have sz5 := hb5.size
    try simp at sz5
    have k5 : Below w4.heap.size w4 w5 := Below.trans (by go_grown) (hb5.mono (by (first | (simp; done) | (simp; omega))))
    have h0w5 : Below w.heap.size w w5 := h0w4.trans (k5.mono h0w4.size)
    replace Cp0 := keepC k5 (by omega) Cp0
    replace Cp1 := keepC k5 (by omega) Cp1
    replace Cp2 := keepC k5 (by omega) Cp2
    have tCp : w.heap.size < w5.heap.size := by omega
    replace Cq0 := keepC k5 (by omega) Cq0
    replace Cq1 := keepC k5 (by omega) Cq1
    replace Cq2 := keepC k5 (by omega) Cq2
    have tCq : w.heap.size + 1 < w5.heap.size := by omega
    replace Cr0 := keepC k5 (by omega) Cr0
    replace Cr1 := keepC k5 (by omega) Cr1
    replace Cr2 := keepC k5 (by omega) Cr2
    have tCr : w.heap.size + 1 + 1 < w5.heap.size := by omega
    replace Cv0 := keepC k5 (by omega) Cv0
    replace Cv1 := keepC k5 (by omega) Cv1
    have tCv : w.heap.size + 1 + 1 + 1 < w5.heap.size := by omega
    replace Cu0 := keepC k5 (by omega) Cu0
    replace Cu1 := keepC k5 (by omega) Cu1
    have tCu : w.heap.size + 1 + 1 + 1 + 1 < w5.heap.size := by omega
    have Cm0 : w5.cell? ⟨w4.heap.size, 0, none⟩ = some (.int .i64 m1) := keepC hb5 (by (first | (simp; done) | (simp; omega))) (by simp [go_sem])
    have Cm1 : w5.cell? ⟨w4.heap.size, 1, none⟩ = some (.int .i64 m2) := keepC hb5 (by (first | (simp; done) | (simp; omega))) (by simp [go_sem])
    have Cm2 : w5.cell? ⟨w4.heap.size, 2, none⟩ = some (.int .i64 m3) := keepC hb5 (by (first | (simp; done) | (simp; omega))) (by simp [go_sem])
    have tCm : w4.heap.size < w5.heap.size := by omega
    rw [f0, f1, f2]
    go_wp2_with fail
    refine (Move_any m1 m2 m3 s' h' _ ((ht.step h0w5).step (by go_grown))).mono ?_
    rintro e w6 ⟨rfl, hb6⟩
    have sz6 := hb6.size
    try simp at sz6
    have k6 : Below w5.heap.size w5 w6 := Below.trans (by go_grown) (hb6.mono (by (first | (simp; done) | (simp; omega))))
    have h0w6 : Below w.heap.size w w6 := h0w5.trans (k6.mono h0w5.size)
    replace Cp0 := keepC k6 (by omega) Cp0
    replace Cp1 := keepC k6 (by omega) Cp1
    replace Cp2 := keepC k6 (by omega) Cp2
    have tCp : w.heap.size < w6.heap.size := by omega
    replace Cq0 := keepC k6 (by omega) Cq0
    replace Cq1 := keepC k6 (by omega) Cq1
    replace Cq2 := keepC k6 (by omega) Cq2
    have tCq : w.heap.size + 1 < w6.heap.size := by omega
    replace Cr0 := keepC k6 (by omega) Cr0
    replace Cr1 := keepC k6 (by omega) Cr1
    replace Cr2 := keepC k6 (by omega) Cr2
    have tCr : w.heap.size + 1 + 1 < w6.heap.size := by omega
    replace Cv0 := keepC k6 (by omega) Cv0
    replace Cv1 := keepC k6 (by omega) Cv1
    have tCv : w.heap.size + 1 + 1 + 1 < w6.heap.size := by omega
    replace Cu0 := keepC k6 (by omega) Cu0
    replace Cu1 := keepC k6 (by omega) Cu1
    have tCu : w.heap.size + 1 + 1 + 1 + 1 < w6.heap.size := by omega
    replace Cm0 := keepC k6 (by omega) Cm0
    replace Cm1 := keepC k6 (by omega) Cm1
    replace Cm2 := keepC k6 (by omega) Cm2
    have tCm : w4.heap.size < w6.heap.size := by omega
    have Cf0 : w6.cell? ⟨w5.heap.size, 0, none⟩ = some (.int .i64 s) := keepC hb6 (by (first | (simp; done) | (simp; omega))) (by simp [go_sem])
    have Cf1 : w6.cell? ⟨w5.heap.size, 1, none⟩ = some (.int .i64 h) := keepC hb6 (by (first | (simp; done) | (simp; omega))) (by simp [go_sem])
    have tCf : w5.heap.size < w6.heap.size := by omega
    go_wp2_with fail
    refine (Sum_any s h s' h' _).mono ?_
    rintro e w7 ⟨rfl, hb7⟩
    have sz7 := hb7.size
    try simp at sz7
    have k7 : Below w6.heap.size w6 w7 := Below.trans (by go_grown) (hb7.mono (by (first | (simp; done) | (simp; omega))))
    have h0w7 : Below w.heap.size w w7 := h0w6.trans (k7.mono h0w6.size)
    replace Cp0 := keepC k7 (by omega) Cp0
    replace Cp1 := keepC k7 (by omega) Cp1
    replace Cp2 := keepC k7 (by omega) Cp2
    have tCp : w.heap.size < w7.heap.size := by omega
    replace Cq0 := keepC k7 (by omega) Cq0
    replace Cq1 := keepC k7 (by omega) Cq1
    replace Cq2 := keepC k7 (by omega) Cq2
    have tCq : w.heap.size + 1 < w7.heap.size := by omega
    replace Cr0 := keepC k7 (by omega) Cr0
    replace Cr1 := keepC k7 (by omega) Cr1
    replace Cr2 := keepC k7 (by omega) Cr2
    have tCr : w.heap.size + 1 + 1 < w7.heap.size := by omega
    replace Cv0 := keepC k7 (by omega) Cv0
    replace Cv1 := keepC k7 (by omega) Cv1
    have tCv : w.heap.size + 1 + 1 + 1 < w7.heap.size := by omega
    replace Cu0 := keepC k7 (by omega) Cu0
    replace Cu1 := keepC k7 (by omega) Cu1
    have tCu : w.heap.size + 1 + 1 + 1 + 1 < w7.heap.size := by omega
    replace Cm0 := keepC k7 (by omega) Cm0
    replace Cm1 := keepC k7 (by omega) Cm1
    replace Cm2 := keepC k7 (by omega) Cm2
    have tCm : w4.heap.size < w7.heap.size := by omega
    replace Cf0 := keepC k7 (by omega) Cf0
    replace Cf1 := keepC k7 (by omega) Cf1
    have tCf : w5.heap.size < w7.heap.size := by omega
    have Cy0 : w7.cell? ⟨w6.heap.size, 0, none⟩ = some (.int .i64 (M.ml m1 m2 m3 s' h')) := keepC hb7 (by (first | (simp; done) | (simp; omega))) (by simp [go_sem])
    have Cy1 : w7.cell? ⟨w6.heap.size, 1, none⟩ = some (.int .i64 (M.ma m1 m2 m3 s' h')) := keepC hb7 (by (first | (simp; done) | (simp; omega))) (by simp [go_sem])
    have Cy2 : w7.cell? ⟨w6.heap.size, 2, none⟩ = some (.int .i64 (M.mo m1 m2 m3 s' h')) := keepC hb7 (by (first | (simp; done) | (simp; omega))) (by simp [go_sem])
    have tCy : w6.heap.size < w7.heap.size := by omega
    rw [hS, g1, g2]
    go_wp2_with fail
    refine (Move_any l a o (s + s') (h + h') _ ((ht.step h0w7).step (by go_grown))).mono ?_
    rintro e w8 ⟨rfl, hb8⟩
    have sz8 := hb8.size
    try simp at sz8
    have k8 : Below w7.heap.size w7 w8 := Below.trans (by go_grown) (hb8.mono (by (first | (simp; done) | (simp; omega))))
    have h0w8 : Below w.heap.size w w8 := h0w7.trans (k8.mono h0w7.size)
    replace Cp0 := keepC k8 (by omega) Cp0
    replace Cp1 := keepC k8 (by omega) Cp1
    replace Cp2 := keepC k8 (by omega) Cp2
    have tCp : w.heap.size < w8.heap.size := by omega
    replace Cq0 := keepC k8 (by omega) Cq0
    replace Cq1 := keepC k8 (by omega) Cq1
    replace Cq2 := keepC k8 (by omega) Cq2
    have tCq : w.heap.size + 1 < w8.heap.size := by omega
    replace Cr0 := keepC k8 (by omega) Cr0
    replace Cr1 := keepC k8 (by omega) Cr1
    replace Cr2 := keepC k8 (by omega) Cr2
    have tCr : w.heap.size + 1 + 1 < w8.heap.size := by omega
    replace Cv0 := keepC k8 (by omega) Cv0
    replace Cv1 := keepC k8 (by omega) Cv1
    have tCv : w.heap.size + 1 + 1 + 1 < w8.heap.size := by omega
    replace Cu0 := keepC k8 (by omega) Cu0
    replace Cu1 := keepC k8 (by omega) Cu1
    have tCu : w.heap.size + 1 + 1 + 1 + 1 < w8.heap.size := by omega
    replace Cm0 := keepC k8 (by omega) Cm0
    replace Cm1 := keepC k8 (by omega) Cm1
    replace Cm2 := keepC k8 (by omega) Cm2
    have tCm : w4.heap.size < w8.heap.size := by omega
    replace Cf0 := keepC k8 (by omega) Cf0
    replace Cf1 := keepC k8 (by omega) Cf1
    have tCf : w5.heap.size < w8.heap.size := by omega
    replace Cy0 := keepC k8 (by omega) Cy0
    replace Cy1 := keepC k8 (by omega) Cy1
    replace Cy2 := keepC k8 (by omega) Cy2
    have tCy : w6.heap.size < w8.heap.size := by omega
    have Ck0 : w8.cell? ⟨w7.heap.size, 0, none⟩ = some (.int .i64 (s + s')) := keepC hb8 (by (first | (simp; done) | (simp; omega))) (by simp [go_sem])
    have Ck1 : w8.cell? ⟨w7.heap.size, 1, none⟩ = some (.int .i64 (h + h')) := keepC hb8 (by (first | (simp; done) | (simp; omega))) (by simp [go_sem])
    have tCk : w7.heap.size < w8.heap.size := by omega
    rw [i1, i2, i3, i4]
    go_wp2_with fail
    go_ret
    exact ⟨rfl, Below.trans h0w8 (Below.mono (by go_grown) h0w8.size)⟩
  cases rr : M.rt b c d
  case false =>
    by_cases hm : M.me l a o s h = 0
    case neg =>
      have hm' := tneq0 hm
      go_enter Tryd.func4, Tryd.ntmps4
      go_wp2_with fail
      refine (alive_any _ (ht.step (by go_grown))).mono ?_
      rintro e w1 ⟨rfl, hb1⟩
      have sz1 := hb1.size
      try simp at sz1
      have k1 : Below w.heap.size w w1 := Below.trans (by go_grown) (hb1.mono (by (first | (simp; done) | (simp; omega))))
      have h0w1 : Below w.heap.size w w1 := k1
      have Cp0 : w1.cell? ⟨w.heap.size, 0, none⟩ = some (.int .i64 l) := keepC hb1 (by (first | (simp; done) | (simp; omega))) (by simp [go_sem])
      have Cp1 : w1.cell? ⟨w.heap.size, 1, none⟩ = some (.int .i64 a) := keepC hb1 (by (first | (simp; done) | (simp; omega))) (by simp [go_sem])
      have Cp2 : w1.cell? ⟨w.heap.size, 2, none⟩ = some (.int .i64 o) := keepC hb1 (by (first | (simp; done) | (simp; omega))) (by simp [go_sem])
      have tCp : w.heap.size < w1.heap.size := by omega
      have Cq0 : w1.cell? ⟨w.heap.size + 1, 0, none⟩ = some (.int .i64 l') := keepC hb1 (by (first | (simp; done) | (simp; omega))) (by simp [go_sem])
      have Cq1 : w1.cell? ⟨w.heap.size + 1, 1, none⟩ = some (.int .i64 a') := keepC hb1 (by (first | (simp; done) | (simp; omega))) (by simp [go_sem])
      have Cq2 : w1.cell? ⟨w.heap.size + 1, 2, none⟩ = some (.int .i64 o') := keepC hb1 (by (first | (simp; done) | (simp; omega))) (by simp [go_sem])
      have tCq : w.heap.size + 1 < w1.heap.size := by omega
      have Cr0 : w1.cell? ⟨w.heap.size + 1 + 1, 0, none⟩ = some (.int .i64 b) := keepC hb1 (by (first | (simp; done) | (simp; omega))) (by simp [go_sem])
      have Cr1 : w1.cell? ⟨w.heap.size + 1 + 1, 1, none⟩ = some (.int .i64 c) := keepC hb1 (by (first | (simp; done) | (simp; omega))) (by simp [go_sem])
      have Cr2 : w1.cell? ⟨w.heap.size + 1 + 1, 2, none⟩ = some (.int .i64 d) := keepC hb1 (by (first | (simp; done) | (simp; omega))) (by simp [go_sem])
      have tCr : w.heap.size + 1 + 1 < w1.heap.size := by omega
      have Cv0 : w1.cell? ⟨w.heap.size + 1 + 1 + 1, 0, none⟩ = some (.int .i64 s) := keepC hb1 (by (first | (simp; done) | (simp; omega))) (by simp [go_sem])
      have Cv1 : w1.cell? ⟨w.heap.size + 1 + 1 + 1, 1, none⟩ = some (.int .i64 h) := keepC hb1 (by (first | (simp; done) | (simp; omega))) (by simp [go_sem])
      have tCv : w.heap.size + 1 + 1 + 1 < w1.heap.size := by omega
      have Cu0 : w1.cell? ⟨w.heap.size + 1 + 1 + 1 + 1, 0, none⟩ = some (.int .i64 s') := keepC hb1 (by (first | (simp; done) | (simp; omega))) (by simp [go_sem])
      have Cu1 : w1.cell? ⟨w.heap.size + 1 + 1 + 1 + 1, 1, none⟩ = some (.int .i64 h') := keepC hb1 (by (first | (simp; done) | (simp; omega))) (by simp [go_sem])
      have tCu : w.heap.size + 1 + 1 + 1 + 1 < w1.heap.size := by omega
      go_wp2_with fail
      refine (Right_any l a o _).mono ?_
      rintro e w2 ⟨rfl, hb2⟩
      have sz2 := hb2.size
      try simp at sz2
      have k2 : Below w1.heap.size w1 w2 := Below.trans (by go_grown) (hb2.mono (by (first | (simp; done) | (simp; omega))))
      have h0w2 : Below w.heap.size w w2 := h0w1.trans (k2.mono h0w1.size)
      replace Cp0 := keepC k2 (by omega) Cp0
      replace Cp1 := keepC k2 (by omega) Cp1
      replace Cp2 := keepC k2 (by omega) Cp2
      have tCp : w.heap.size < w2.heap.size := by omega
      replace Cq0 := keepC k2 (by omega) Cq0
      replace Cq1 := keepC k2 (by omega) Cq1
      replace Cq2 := keepC k2 (by omega) Cq2
      have tCq : w.heap.size + 1 < w2.heap.size := by omega
      replace Cr0 := keepC k2 (by omega) Cr0
      replace Cr1 := keepC k2 (by omega) Cr1
      replace Cr2 := keepC k2 (by omega) Cr2
      have tCr : w.heap.size + 1 + 1 < w2.heap.size := by omega
      replace Cv0 := keepC k2 (by omega) Cv0
      replace Cv1 := keepC k2 (by omega) Cv1
      have tCv : w.heap.size + 1 + 1 + 1 < w2.heap.size := by omega
      replace Cu0 := keepC k2 (by omega) Cu0
      replace Cu1 := keepC k2 (by omega) Cu1
      have tCu : w.heap.size + 1 + 1 + 1 + 1 < w2.heap.size := by omega
      rw [rp]
      go_wp2_with fail
      refine (Right_any l' a' o' _).mono ?_
      rintro e w3 ⟨rfl, hb3⟩
      have sz3 := hb3.size
      try simp at sz3
      have k3 : Below w2.heap.size w2 w3 := Below.trans (by go_grown) (hb3.mono (by (first | (simp; done) | (simp; omega))))
      have h0w3 : Below w.heap.size w w3 := h0w2.trans (k3.mono h0w2.size)
      replace Cp0 := keepC k3 (by omega) Cp0
      replace Cp1 := keepC k3 (by omega) Cp1
      replace Cp2 := keepC k3 (by omega) Cp2
      have tCp : w.heap.size < w3.heap.size := by omega
      replace Cq0 := keepC k3 (by omega) Cq0
      replace Cq1 := keepC k3 (by omega) Cq1
      replace Cq2 := keepC k3 (by omega) Cq2
      have tCq : w.heap.size + 1 < w3.heap.size := by omega
      replace Cr0 := keepC k3 (by omega) Cr0
      replace Cr1 := keepC k3 (by omega) Cr1
      replace Cr2 := keepC k3 (by omega) Cr2
      have tCr : w.heap.size + 1 + 1 < w3.heap.size := by omega
      replace Cv0 := keepC k3 (by omega) Cv0
      replace Cv1 := keepC k3 (by omega) Cv1
      have tCv : w.heap.size + 1 + 1 + 1 < w3.heap.size := by omega
      replace Cu0 := keepC k3 (by omega) Cu0
      replace Cu1 := keepC k3 (by omega) Cu1
      have tCu : w.heap.size + 1 + 1 + 1 + 1 < w3.heap.size := by omega
      rw [rq]
      go_wp2_with fail
      refine (Right_any b c d _).mono ?_
      rintro e w4 ⟨rfl, hb4⟩
      have sz4 := hb4.size
      try simp at sz4
      have k4 : Below w3.heap.size w3 w4 := Below.trans (by go_grown) (hb4.mono (by (first | (simp; done) | (simp; omega))))
      have h0w4 : Below w.heap.size w w4 := h0w3.trans (k4.mono h0w3.size)
      replace Cp0 := keepC k4 (by omega) Cp0
      replace Cp1 := keepC k4 (by omega) Cp1
      replace Cp2 := keepC k4 (by omega) Cp2
      have tCp : w.heap.size < w4.heap.size := by omega
      replace Cq0 := keepC k4 (by omega) Cq0
      replace Cq1 := keepC k4 (by omega) Cq1
      replace Cq2 := keepC k4 (by omega) Cq2
      have tCq : w.heap.size + 1 < w4.heap.size := by omega
      replace Cr0 := keepC k4 (by omega) Cr0
      replace Cr1 := keepC k4 (by omega) Cr1
      replace Cr2 := keepC k4 (by omega) Cr2
      have tCr : w.heap.size + 1 + 1 < w4.heap.size := by omega
      replace Cv0 := keepC k4 (by omega) Cv0
      replace Cv1 := keepC k4 (by omega) Cv1
      have tCv : w.heap.size + 1 + 1 + 1 < w4.heap.size := by omega
      replace Cu0 := keepC k4 (by omega) Cu0
      replace Cu1 := keepC k4 (by omega) Cu1
      have tCu : w.heap.size + 1 + 1 + 1 + 1 < w4.heap.size := by omega
      rw [rr]
      go_wp2_with fail
      refine (Move_any l a o s h _ ((ht.step h0w4).step (by go_grown))).mono ?_
      rintro e w5 ⟨rfl, hb5⟩
      have sz5 := hb5.size
      try simp at sz5
      have k5 : Below w4.heap.size w4 w5 := Below.trans (by go_grown) (hb5.mono (by (first | (simp; done) | (simp; omega))))
      have h0w5 : Below w.heap.size w w5 := h0w4.trans (k5.mono h0w4.size)
      replace Cp0 := keepC k5 (by omega) Cp0
      replace Cp1 := keepC k5 (by omega) Cp1
      replace Cp2 := keepC k5 (by omega) Cp2
      have tCp : w.heap.size < w5.heap.size := by omega
      replace Cq0 := keepC k5 (by omega) Cq0
      replace Cq1 := keepC k5 (by omega) Cq1
      replace Cq2 := keepC k5 (by omega) Cq2
      have tCq : w.heap.size + 1 < w5.heap.size := by omega
      replace Cr0 := keepC k5 (by omega) Cr0
      replace Cr1 := keepC k5 (by omega) Cr1
      replace Cr2 := keepC k5 (by omega) Cr2
      have tCr : w.heap.size + 1 + 1 < w5.heap.size := by omega
      replace Cv0 := keepC k5 (by omega) Cv0
      replace Cv1 := keepC k5 (by omega) Cv1
      have tCv : w.heap.size + 1 + 1 + 1 < w5.heap.size := by omega
      replace Cu0 := keepC k5 (by omega) Cu0
      replace Cu1 := keepC k5 (by omega) Cu1
      have tCu : w.heap.size + 1 + 1 + 1 + 1 < w5.heap.size := by omega
      go_wp2_with fail
      go_ret
      exact ⟨rfl, Below.trans h0w5 (Below.mono (by go_grown) h0w5.size)⟩
    obtain ⟨_, hin, rm, em1, em2⟩ := M.move_ok hm
    have hin' := M.inb_yes hin
    generalize hM1 : M.ml l a o s h = m1 at *
    generalize hM2 : M.ma l a o s h = m2 at *
    generalize hM3 : M.mo l a o s h = m3 at *
    obtain ⟨f0, f1, f2⟩ := M.between_ok rp rm
    rw [em1, show M.st l o + s - M.st l o = s by omega] at f1
    rw [em2, show M.hv l a o + h - M.hv l a o = h by omega] at f2
    by_cases hS : M.se s h s' h' = 0
    case neg =>
      have hS' := tneq0 hS
      go_enter Tryd.func4, Tryd.ntmps4
      go_wp2_with fail
      refine (alive_any _ (ht.step (by go_grown))).mono ?_
      rintro e w1 ⟨rfl, hb1⟩
      have sz1 := hb1.size
      try simp at sz1
      have k1 : Below w.heap.size w w1 := Below.trans (by go_grown) (hb1.mono (by (first | (simp; done) | (simp; omega))))
      have h0w1 : Below w.heap.size w w1 := k1
      have Cp0 : w1.cell? ⟨w.heap.size, 0, none⟩ = some (.int .i64 l) := keepC hb1 (by (first | (simp; done) | (simp; omega))) (by simp [go_sem])
      have Cp1 : w1.cell? ⟨w.heap.size, 1, none⟩ = some (.int .i64 a) := keepC hb1 (by (first | (simp; done) | (simp; omega))) (by simp [go_sem])
      have Cp2 : w1.cell? ⟨w.heap.size, 2, none⟩ = some (.int .i64 o) := keepC hb1 (by (first | (simp; done) | (simp; omega))) (by simp [go_sem])
      have tCp : w.heap.size < w1.heap.size := by omega
      have Cq0 : w1.cell? ⟨w.heap.size + 1, 0, none⟩ = some (.int .i64 l') := keepC hb1 (by (first | (simp; done) | (simp; omega))) (by simp [go_sem])
      have Cq1 : w1.cell? ⟨w.heap.size + 1, 1, none⟩ = some (.int .i64 a') := keepC hb1 (by (first | (simp; done) | (simp; omega))) (by simp [go_sem])
      have Cq2 : w1.cell? ⟨w.heap.size + 1, 2, none⟩ = some (.int .i64 o') := keepC hb1 (by (first | (simp; done) | (simp; omega))) (by simp [go_sem])
      have tCq : w.heap.size + 1 < w1.heap.size := by omega
      have Cr0 : w1.cell? ⟨w.heap.size + 1 + 1, 0, none⟩ = some (.int .i64 b) := keepC hb1 (by (first | (simp; done) | (simp; omega))) (by simp [go_sem])
      have Cr1 : w1.cell? ⟨w.heap.size + 1 + 1, 1, none⟩ = some (.int .i64 c) := keepC hb1 (by (first | (simp; done) | (simp; omega))) (by simp [go_sem])
      have Cr2 : w1.cell? ⟨w.heap.size + 1 + 1, 2, none⟩ = some (.int .i64 d) := keepC hb1 (by (first | (simp; done) | (simp; omega))) (by simp [go_sem])
      have tCr : w.heap.size + 1 + 1 < w1.heap.size := by omega
      have Cv0 : w1.cell? ⟨w.heap.size + 1 + 1 + 1, 0, none⟩ = some (.int .i64 s) := keepC hb1 (by (first | (simp; done) | (simp; omega))) (by simp [go_sem])
      have Cv1 : w1.cell? ⟨w.heap.size + 1 + 1 + 1, 1, none⟩ = some (.int .i64 h) := keepC hb1 (by (first | (simp; done) | (simp; omega))) (by simp [go_sem])
      have tCv : w.heap.size + 1 + 1 + 1 < w1.heap.size := by omega
      have Cu0 : w1.cell? ⟨w.heap.size + 1 + 1 + 1 + 1, 0, none⟩ = some (.int .i64 s') := keepC hb1 (by (first | (simp; done) | (simp; omega))) (by simp [go_sem])
      have Cu1 : w1.cell? ⟨w.heap.size + 1 + 1 + 1 + 1, 1, none⟩ = some (.int .i64 h') := keepC hb1 (by (first | (simp; done) | (simp; omega))) (by simp [go_sem])
      have tCu : w.heap.size + 1 + 1 + 1 + 1 < w1.heap.size := by omega
      go_wp2_with fail
      refine (Right_any l a o _).mono ?_
      rintro e w2 ⟨rfl, hb2⟩
      have sz2 := hb2.size
      try simp at sz2
      have k2 : Below w1.heap.size w1 w2 := Below.trans (by go_grown) (hb2.mono (by (first | (simp; done) | (simp; omega))))
      have h0w2 : Below w.heap.size w w2 := h0w1.trans (k2.mono h0w1.size)
      replace Cp0 := keepC k2 (by omega) Cp0
      replace Cp1 := keepC k2 (by omega) Cp1
      replace Cp2 := keepC k2 (by omega) Cp2
      have tCp : w.heap.size < w2.heap.size := by omega
      replace Cq0 := keepC k2 (by omega) Cq0
      replace Cq1 := keepC k2 (by omega) Cq1
      replace Cq2 := keepC k2 (by omega) Cq2
      have tCq : w.heap.size + 1 < w2.heap.size := by omega
      replace Cr0 := keepC k2 (by omega) Cr0
      replace Cr1 := keepC k2 (by omega) Cr1
      replace Cr2 := keepC k2 (by omega) Cr2
      have tCr : w.heap.size + 1 + 1 < w2.heap.size := by omega
      replace Cv0 := keepC k2 (by omega) Cv0
      replace Cv1 := keepC k2 (by omega) Cv1
      have tCv : w.heap.size + 1 + 1 + 1 < w2.heap.size := by omega
      replace Cu0 := keepC k2 (by omega) Cu0
      replace Cu1 := keepC k2 (by omega) Cu1
      have tCu : w.heap.size + 1 + 1 + 1 + 1 < w2.heap.size := by omega
      rw [rp]
      go_wp2_with fail
      refine (Right_any l' a' o' _).mono ?_
      rintro e w3 ⟨rfl, hb3⟩
      have sz3 := hb3.size
      try simp at sz3
      have k3 : Below w2.heap.size w2 w3 := Below.trans (by go_grown) (hb3.mono (by (first | (simp; done) | (simp; omega))))
      have h0w3 : Below w.heap.size w w3 := h0w2.trans (k3.mono h0w2.size)
      replace Cp0 := keepC k3 (by omega) Cp0
      replace Cp1 := keepC k3 (by omega) Cp1
      replace Cp2 := keepC k3 (by omega) Cp2
      have tCp : w.heap.size < w3.heap.size := by omega
      replace Cq0 := keepC k3 (by omega) Cq0
      replace Cq1 := keepC k3 (by omega) Cq1
      replace Cq2 := keepC k3 (by omega) Cq2
      have tCq : w.heap.size + 1 < w3.heap.size := by omega
      replace Cr0 := keepC k3 (by omega) Cr0
      replace Cr1 := keepC k3 (by omega) Cr1
      replace Cr2 := keepC k3 (by omega) Cr2
      have tCr : w.heap.size + 1 + 1 < w3.heap.size := by omega
      replace Cv0 := keepC k3 (by omega) Cv0
      replace Cv1 := keepC k3 (by omega) Cv1
      have tCv : w.heap.size + 1 + 1 + 1 < w3.heap.size := by omega
      replace Cu0 := keepC k3 (by omega) Cu0
      replace Cu1 := keepC k3 (by omega) Cu1
      have tCu : w.heap.size + 1 + 1 + 1 + 1 < w3.heap.size := by omega
      rw [rq]
      go_wp2_with fail
      refine (Right_any b c d _).mono ?_
      rintro e w4 ⟨rfl, hb4⟩
      have sz4 := hb4.size
      try simp at sz4
      have k4 : Below w3.heap.size w3 w4 := Below.trans (by go_grown) (hb4.mono (by (first | (simp; done) | (simp; omega))))
      have h0w4 : Below w.heap.size w w4 := h0w3.trans (k4.mono h0w3.size)
      replace Cp0 := keepC k4 (by omega) Cp0
      replace Cp1 := keepC k4 (by omega) Cp1
      replace Cp2 := keepC k4 (by omega) Cp2
      have tCp : w.heap.size < w4.heap.size := by omega
      replace Cq0 := keepC k4 (by omega) Cq0
      replace Cq1 := keepC k4 (by omega) Cq1
      replace Cq2 := keepC k4 (by omega) Cq2
      have tCq : w.heap.size + 1 < w4.heap.size := by omega
      replace Cr0 := keepC k4 (by omega) Cr0
      replace Cr1 := keepC k4 (by omega) Cr1
      replace Cr2 := keepC k4 (by omega) Cr2
      have tCr : w.heap.size + 1 + 1 < w4.heap.size := by omega
      replace Cv0 := keepC k4 (by omega) Cv0
      replace Cv1 := keepC k4 (by omega) Cv1
      have tCv : w.heap.size + 1 + 1 + 1 < w4.heap.size := by omega
      replace Cu0 := keepC k4 (by omega) Cu0
      replace Cu1 := keepC k4 (by omega) Cu1
      have tCu : w.heap.size + 1 + 1 + 1 + 1 < w4.heap.size := by omega
      rw [rr]
      go_wp2_with fail
      refine (Move_any l a o s h _ ((ht.step h0w4).step (by go_grown))).mono ?_
      rintro e w5 ⟨rfl, hb5⟩
      have sz5 := hb5.size
      try simp at sz5
      have k5 : Below w4.heap.size w4 w5 := Below.trans (by go_grown) (hb5.mono (by (first | (simp; done) | (simp; omega))))
      have h0w5 : Below w.heap.size w w5 := h0w4.trans (k5.mono h0w4.size)
      replace Cp0 := keepC k5 (by omega) Cp0
      replace Cp1 := keepC k5 (by omega) Cp1
      replace Cp2 := keepC k5 (by omega) Cp2
      have tCp : w.heap.size < w5.heap.size := by omega
      replace Cq0 := keepC k5 (by omega) Cq0
      replace Cq1 := keepC k5 (by omega) Cq1
      replace Cq2 := keepC k5 (by omega) Cq2
      have tCq : w.heap.size + 1 < w5.heap.size := by omega
      replace Cr0 := keepC k5 (by omega) Cr0
      replace Cr1 := keepC k5 (by omega) Cr1
      replace Cr2 := keepC k5 (by omega) Cr2
      have tCr : w.heap.size + 1 + 1 < w5.heap.size := by omega
      replace Cv0 := keepC k5 (by omega) Cv0
      replace Cv1 := keepC k5 (by omega) Cv1
      have tCv : w.heap.size + 1 + 1 + 1 < w5.heap.size := by omega
      replace Cu0 := keepC k5 (by omega) Cu0
      replace Cu1 := keepC k5 (by omega) Cu1
      have tCu : w.heap.size + 1 + 1 + 1 + 1 < w5.heap.size := by omega
      rw [hm, hM1, hM2, hM3]
      go_wp2_with fail
      refine (Between_any l a o m1 m2 m3 _ ((ht.step h0w5).step (by go_grown))).mono ?_
      rintro e w6 ⟨rfl, hb6⟩
      have sz6 := hb6.size
      try simp at sz6
      have k6 : Below w5.heap.size w5 w6 := Below.trans (by go_grown) (hb6.mono (by (first | (simp; done) | (simp; omega))))
      have h0w6 : Below w.heap.size w w6 := h0w5.trans (k6.mono h0w5.size)
      replace Cp0 := keepC k6 (by omega) Cp0
      replace Cp1 := keepC k6 (by omega) Cp1
      replace Cp2 := keepC k6 (by omega) Cp2
      have tCp : w.heap.size < w6.heap.size := by omega
      replace Cq0 := keepC k6 (by omega) Cq0
      replace Cq1 := keepC k6 (by omega) Cq1
      replace Cq2 := keepC k6 (by omega) Cq2
      have tCq : w.heap.size + 1 < w6.heap.size := by omega
      replace Cr0 := keepC k6 (by omega) Cr0
      replace Cr1 := keepC k6 (by omega) Cr1
      replace Cr2 := keepC k6 (by omega) Cr2
      have tCr : w.heap.size + 1 + 1 < w6.heap.size := by omega
      replace Cv0 := keepC k6 (by omega) Cv0
      replace Cv1 := keepC k6 (by omega) Cv1
      have tCv : w.heap.size + 1 + 1 + 1 < w6.heap.size := by omega
      replace Cu0 := keepC k6 (by omega) Cu0
      replace Cu1 := keepC k6 (by omega) Cu1
      have tCu : w.heap.size + 1 + 1 + 1 + 1 < w6.heap.size := by omega
      have Cm0 : w6.cell? ⟨w5.heap.size, 0, none⟩ = some (.int .i64 m1) := keepC hb6 (by (first | (simp; done) | (simp; omega))) (by simp [go_sem])
      have Cm1 : w6.cell? ⟨w5.heap.size, 1, none⟩ = some (.int .i64 m2) := keepC hb6 (by (first | (simp; done) | (simp; omega))) (by simp [go_sem])
      have Cm2 : w6.cell? ⟨w5.heap.size, 2, none⟩ = some (.int .i64 m3) := keepC hb6 (by (first | (simp; done) | (simp; omega))) (by simp [go_sem])
      have tCm : w5.heap.size < w6.heap.size := by omega
      rw [f0, f1, f2]
      go_wp2_with fail
      refine (Move_any m1 m2 m3 s' h' _ ((ht.step h0w6).step (by go_grown))).mono ?_
      rintro e w7 ⟨rfl, hb7⟩
      have sz7 := hb7.size
      try simp at sz7
      have k7 : Below w6.heap.size w6 w7 := Below.trans (by go_grown) (hb7.mono (by (first | (simp; done) | (simp; omega))))
      have h0w7 : Below w.heap.size w w7 := h0w6.trans (k7.mono h0w6.size)
      replace Cp0 := keepC k7 (by omega) Cp0
      replace Cp1 := keepC k7 (by omega) Cp1
      replace Cp2 := keepC k7 (by omega) Cp2
      have tCp : w.heap.size < w7.heap.size := by omega
      replace Cq0 := keepC k7 (by omega) Cq0
      replace Cq1 := keepC k7 (by omega) Cq1
      replace Cq2 := keepC k7 (by omega) Cq2
      have tCq : w.heap.size + 1 < w7.heap.size := by omega
      replace Cr0 := keepC k7 (by omega) Cr0
      replace Cr1 := keepC k7 (by omega) Cr1
      replace Cr2 := keepC k7 (by omega) Cr2
      have tCr : w.heap.size + 1 + 1 < w7.heap.size := by omega
      replace Cv0 := keepC k7 (by omega) Cv0
      replace Cv1 := keepC k7 (by omega) Cv1
      have tCv : w.heap.size + 1 + 1 + 1 < w7.heap.size := by omega
      replace Cu0 := keepC k7 (by omega) Cu0
      replace Cu1 := keepC k7 (by omega) Cu1
      have tCu : w.heap.size + 1 + 1 + 1 + 1 < w7.heap.size := by omega
      replace Cm0 := keepC k7 (by omega) Cm0
      replace Cm1 := keepC k7 (by omega) Cm1
      replace Cm2 := keepC k7 (by omega) Cm2
      have tCm : w5.heap.size < w7.heap.size := by omega
      have Cf0 : w7.cell? ⟨w6.heap.size, 0, none⟩ = some (.int .i64 s) := keepC hb7 (by (first | (simp; done) | (simp; omega))) (by simp [go_sem])
      have Cf1 : w7.cell? ⟨w6.heap.size, 1, none⟩ = some (.int .i64 h) := keepC hb7 (by (first | (simp; done) | (simp; omega))) (by simp [go_sem])
      have tCf : w6.heap.size < w7.heap.size := by omega
      go_wp2_with fail
      refine (Sum_any s h s' h' _).mono ?_
      rintro e w8 ⟨rfl, hb8⟩
      have sz8 := hb8.size
      try simp at sz8
      have k8 : Below w7.heap.size w7 w8 := Below.trans (by go_grown) (hb8.mono (by (first | (simp; done) | (simp; omega))))
      have h0w8 : Below w.heap.size w w8 := h0w7.trans (k8.mono h0w7.size)
      replace Cp0 := keepC k8 (by omega) Cp0
      replace Cp1 := keepC k8 (by omega) Cp1
      replace Cp2 := keepC k8 (by omega) Cp2
      have tCp : w.heap.size < w8.heap.size := by omega
      replace Cq0 := keepC k8 (by omega) Cq0
      replace Cq1 := keepC k8 (by omega) Cq1
      replace Cq2 := keepC k8 (by omega) Cq2
      have tCq : w.heap.size + 1 < w8.heap.size := by omega
      replace Cr0 := keepC k8 (by omega) Cr0
      replace Cr1 := keepC k8 (by omega) Cr1
      replace Cr2 := keepC k8 (by omega) Cr2
      have tCr : w.heap.size + 1 + 1 < w8.heap.size := by omega
      replace Cv0 := keepC k8 (by omega) Cv0
      replace Cv1 := keepC k8 (by omega) Cv1
      have tCv : w.heap.size + 1 + 1 + 1 < w8.heap.size := by omega
      replace Cu0 := keepC k8 (by omega) Cu0
      replace Cu1 := keepC k8 (by omega) Cu1
      have tCu : w.heap.size + 1 + 1 + 1 + 1 < w8.heap.size := by omega
      replace Cm0 := keepC k8 (by omega) Cm0
      replace Cm1 := keepC k8 (by omega) Cm1
      replace Cm2 := keepC k8 (by omega) Cm2
      have tCm : w5.heap.size < w8.heap.size := by omega
      replace Cf0 := keepC k8 (by omega) Cf0
      replace Cf1 := keepC k8 (by omega) Cf1
      have tCf : w6.heap.size < w8.heap.size := by omega
      have Cy0 : w8.cell? ⟨w7.heap.size, 0, none⟩ = some (.int .i64 (M.ml m1 m2 m3 s' h')) := keepC hb8 (by (first | (simp; done) | (simp; omega))) (by simp [go_sem])
      have Cy1 : w8.cell? ⟨w7.heap.size, 1, none⟩ = some (.int .i64 (M.ma m1 m2 m3 s' h')) := keepC hb8 (by (first | (simp; done) | (simp; omega))) (by simp [go_sem])
      have Cy2 : w8.cell? ⟨w7.heap.size, 2, none⟩ = some (.int .i64 (M.mo m1 m2 m3 s' h')) := keepC hb8 (by (first | (simp; done) | (simp; omega))) (by simp [go_sem])
      have tCy : w7.heap.size < w8.heap.size := by omega
      go_wp2_with fail
      go_ret
      exact ⟨rfl, Below.trans h0w8 (Below.mono (by go_grown) h0w8.size)⟩
    obtain ⟨_, ij, ik, g1, g2⟩ := M.sum_ok hS
    obtain ⟨i1, i2, i3, i4⟩ := M.mk_sum rp rm ij ik em1 em2
    go_enter Tryd.func4, Tryd.ntmps4
    go_wp2_with fail
    refine (alive_any _ (ht.step (by go_grown))).mono ?_
    rintro e w1 ⟨rfl, hb1⟩
    have sz1 := hb1.size
    try simp at sz1
    have k1 : Below w.heap.size w w1 := Below.trans (by go_grown) (hb1.mono (by (first | (simp; done) | (simp; omega))))
    have h0w1 : Below w.heap.size w w1 := k1
    have Cp0 : w1.cell? ⟨w.heap.size, 0, none⟩ = some (.int .i64 l) := keepC hb1 (by (first | (simp; done) | (simp; omega))) (by simp [go_sem])
    have Cp1 : w1.cell? ⟨w.heap.size, 1, none⟩ = some (.int .i64 a) := keepC hb1 (by (first | (simp; done) | (simp; omega))) (by simp [go_sem])
    have Cp2 : w1.cell? ⟨w.heap.size, 2, none⟩ = some (.int .i64 o) := keepC hb1 (by (first | (simp; done) | (simp; omega))) (by simp [go_sem])
    have tCp : w.heap.size < w1.heap.size := by omega
    have Cq0 : w1.cell? ⟨w.heap.size + 1, 0, none⟩ = some (.int .i64 l') := keepC hb1 (by (first | (simp; done) | (simp; omega))) (by simp [go_sem])
    have Cq1 : w1.cell? ⟨w.heap.size + 1, 1, none⟩ = some (.int .i64 a') := keepC hb1 (by (first | (simp; done) | (simp; omega))) (by simp [go_sem])
    have Cq2 : w1.cell? ⟨w.heap.size + 1, 2, none⟩ = some (.int .i64 o') := keepC hb1 (by (first | (simp; done) | (simp; omega))) (by simp [go_sem])
    have tCq : w.heap.size + 1 < w1.heap.size := by omega
    have Cr0 : w1.cell? ⟨w.heap.size + 1 + 1, 0, none⟩ = some (.int .i64 b) := keepC hb1 (by (first | (simp; done) | (simp; omega))) (by simp [go_sem])
    have Cr1 : w1.cell? ⟨w.heap.size + 1 + 1, 1, none⟩ = some (.int .i64 c) := keepC hb1 (by (first | (simp; done) | (simp; omega))) (by simp [go_sem])
    have Cr2 : w1.cell? ⟨w.heap.size + 1 + 1, 2, none⟩ = some (.int .i64 d) := keepC hb1 (by (first | (simp; done) | (simp; omega))) (by simp [go_sem])
    have tCr : w.heap.size + 1 + 1 < w1.heap.size := by omega
    have Cv0 : w1.cell? ⟨w.heap.size + 1 + 1 + 1, 0, none⟩ = some (.int .i64 s) := keepC hb1 (by (first | (simp; done) | (simp; omega))) (by simp [go_sem])
    have Cv1 : w1.cell? ⟨w.heap.size + 1 + 1 + 1, 1, none⟩ = some (.int .i64 h) := keepC hb1 (by (first | (simp; done) | (simp; omega))) (by simp [go_sem])
    have tCv : w.heap.size + 1 + 1 + 1 < w1.heap.size := by omega
    have Cu0 : w1.cell? ⟨w.heap.size + 1 + 1 + 1 + 1, 0, none⟩ = some (.int .i64 s') := keepC hb1 (by (first | (simp; done) | (simp; omega))) (by simp [go_sem])
    have Cu1 : w1.cell? ⟨w.heap.size + 1 + 1 + 1 + 1, 1, none⟩ = some (.int .i64 h') := keepC hb1 (by (first | (simp; done) | (simp; omega))) (by simp [go_sem])
    have tCu : w.heap.size + 1 + 1 + 1 + 1 < w1.heap.size := by omega
    go_wp2_with fail
    refine (Right_any l a o _).mono ?_
    rintro e w2 ⟨rfl, hb2⟩
    have sz2 := hb2.size
    try simp at sz2
    have k2 : Below w1.heap.size w1 w2 := Below.trans (by go_grown) (hb2.mono (by (first | (simp; done) | (simp; omega))))
    have h0w2 : Below w.heap.size w w2 := h0w1.trans (k2.mono h0w1.size)
    replace Cp0 := keepC k2 (by omega) Cp0
    replace Cp1 := keepC k2 (by omega) Cp1
    replace Cp2 := keepC k2 (by omega) Cp2
    have tCp : w.heap.size < w2.heap.size := by omega
    replace Cq0 := keepC k2 (by omega) Cq0
    replace Cq1 := keepC k2 (by omega) Cq1
    replace Cq2 := keepC k2 (by omega) Cq2
    have tCq : w.heap.size + 1 < w2.heap.size := by omega
    replace Cr0 := keepC k2 (by omega) Cr0
    replace Cr1 := keepC k2 (by omega) Cr1
    replace Cr2 := keepC k2 (by omega) Cr2
    have tCr : w.heap.size + 1 + 1 < w2.heap.size := by omega
    replace Cv0 := keepC k2 (by omega) Cv0
    replace Cv1 := keepC k2 (by omega) Cv1
    have tCv : w.heap.size + 1 + 1 + 1 < w2.heap.size := by omega
    replace Cu0 := keepC k2 (by omega) Cu0
    replace Cu1 := keepC k2 (by omega) Cu1
    have tCu : w.heap.size + 1 + 1 + 1 + 1 < w2.heap.size := by omega
    rw [rp]
    go_wp2_with fail
    refine (Right_any l' a' o' _).mono ?_
    rintro e w3 ⟨rfl, hb3⟩
    have sz3 := hb3.size
    try simp at sz3
    have k3 : Below w2.heap.size w2 w3 := Below.trans (by go_grown) (hb3.mono (by (first | (simp; done) | (simp; omega))))
    have h0w3 : Below w.heap.size w w3 := h0w2.trans (k3.mono h0w2.size)
    replace Cp0 := keepC k3 (by omega) Cp0
    replace Cp1 := keepC k3 (by omega) Cp1
    replace Cp2 := keepC k3 (by omega) Cp2
    have tCp : w.heap.size < w3.heap.size := by omega
    replace Cq0 := keepC k3 (by omega) Cq0
    replace Cq1 := keepC k3 (by omega) Cq1
    replace Cq2 := keepC k3 (by omega) Cq2
    have tCq : w.heap.size + 1 < w3.heap.size := by omega
    replace Cr0 := keepC k3 (by omega) Cr0
    replace Cr1 := keepC k3 (by omega) Cr1
    replace Cr2 := keepC k3 (by omega) Cr2
    have tCr : w.heap.size + 1 + 1 < w3.heap.size := by omega
    replace Cv0 := keepC k3 (by omega) Cv0
    replace Cv1 := keepC k3 (by omega) Cv1
    have tCv : w.heap.size + 1 + 1 + 1 < w3.heap.size := by omega
    replace Cu0 := keepC k3 (by omega) Cu0
    replace Cu1 := keepC k3 (by omega) Cu1
    have tCu : w.heap.size + 1 + 1 + 1 + 1 < w3.heap.size := by omega
    rw [rq]
    go_wp2_with fail
    refine (Right_any b c d _).mono ?_
    rintro e w4 ⟨rfl, hb4⟩
    have sz4 := hb4.size
    try simp at sz4
    have k4 : Below w3.heap.size w3 w4 := Below.trans (by go_grown) (hb4.mono (by (first | (simp; done) | (simp; omega))))
    have h0w4 : Below w.heap.size w w4 := h0w3.trans (k4.mono h0w3.size)
    replace Cp0 := keepC k4 (by omega) Cp0
    replace Cp1 := keepC k4 (by omega) Cp1
    replace Cp2 := keepC k4 (by omega) Cp2
    have tCp : w.heap.size < w4.heap.size := by omega
    replace Cq0 := keepC k4 (by omega) Cq0
    replace Cq1 := keepC k4 (by omega) Cq1
    replace Cq2 := keepC k4 (by omega) Cq2
    have tCq : w.heap.size + 1 < w4.heap.size := by omega
    replace Cr0 := keepC k4 (by omega) Cr0
    replace Cr1 := keepC k4 (by omega) Cr1
    replace Cr2 := keepC k4 (by omega) Cr2
    have tCr : w.heap.size + 1 + 1 < w4.heap.size := by omega
    replace Cv0 := keepC k4 (by omega) Cv0
    replace Cv1 := keepC k4 (by omega) Cv1
    have tCv : w.heap.size + 1 + 1 + 1 < w4.heap.size := by omega
    replace Cu0 := keepC k4 (by omega) Cu0
    replace Cu1 := keepC k4 (by omega) Cu1
    have tCu : w.heap.size + 1 + 1 + 1 + 1 < w4.heap.size := by omega
    rw [rr]
    go_wp2_with fail
    refine (Move_any l a o s h _ ((ht.step h0w4).step (by go_grown))).mono ?_
    rintro e w5 ⟨rfl, hb5⟩
    have sz5 := hb5.size
    try simp at sz5
    have k5 : Below w4.heap.size w4 w5 := Below.trans (by go_grown) (hb5.mono (by (first | (simp; done) | (simp; omega))))
    have h0w5 : Below w.heap.size w w5 := h0w4.trans (k5.mono h0w4.size)
    replace Cp0 := keepC k5 (by omega) Cp0
    replace Cp1 := keepC k5 (by omega) Cp1
    replace Cp2 := keepC k5 (by omega) Cp2
    have tCp : w.heap.size < w5.heap.size := by omega
    replace Cq0 := keepC k5 (by omega) Cq0
    replace Cq1 := keepC k5 (by omega) Cq1
    replace Cq2 := keepC k5 (by omega) Cq2
    have tCq : w.heap.size + 1 < w5.heap.size := by omega
    replace Cr0 := keepC k5 (by omega) Cr0
    replace Cr1 := keepC k5 (by omega) Cr1
    replace Cr2 := keepC k5 (by omega) Cr2
    have tCr : w.heap.size + 1 + 1 < w5.heap.size := by omega
    replace Cv0 := keepC k5 (by omega) Cv0
    replace Cv1 := keepC k5 (by omega) Cv1
    have tCv : w.heap.size + 1 + 1 + 1 < w5.heap.size := by omega
    replace Cu0 := keepC k5 (by omega) Cu0
    replace Cu1 := keepC k5 (by omega) Cu1
    have tCu : w.heap.size + 1 + 1 + 1 + 1 < w5.heap.size := by omega
    rw [hm, hM1, hM2, hM3]
    go_wp2_with fail
    refine (Between_any l a o m1 m2 m3 _ ((ht.step h0w5).step (by go_grown))).mono ?_
    rintro e w6 ⟨rfl, hb6⟩
    have sz6 := hb6.size
    try simp at sz6
    have k6 : Below w5.heap.size w5 w6 := Below.trans (by go_grown) (hb6.mono (by (first | (simp; done) | (simp; omega))))
    have h0w6 : Below w.heap.size w w6 := h0w5.trans (k6.mono h0w5.size)
    replace Cp0 := keepC k6 (by omega) Cp0
    replace Cp1 := keepC k6 (by omega) Cp1
    replace Cp2 := keepC k6 (by omega) Cp2
    have tCp : w.heap.size < w6.heap.size := by omega
    replace Cq0 := keepC k6 (by omega) Cq0
    replace Cq1 := keepC k6 (by omega) Cq1
    replace Cq2 := keepC k6 (by omega) Cq2
    have tCq : w.heap.size + 1 < w6.heap.size := by omega
    replace Cr0 := keepC k6 (by omega) Cr0
    replace Cr1 := keepC k6 (by omega) Cr1
    replace Cr2 := keepC k6 (by omega) Cr2
    have tCr : w.heap.size + 1 + 1 < w6.heap.size := by omega
    replace Cv0 := keepC k6 (by omega) Cv0
    replace Cv1 := keepC k6 (by omega) Cv1
    have tCv : w.heap.size + 1 + 1 + 1 < w6.heap.size := by omega
    replace Cu0 := keepC k6 (by omega) Cu0
    replace Cu1 := keepC k6 (by omega) Cu1
    have tCu : w.heap.size + 1 + 1 + 1 + 1 < w6.heap.size := by omega
    have Cm0 : w6.cell? ⟨w5.heap.size, 0, none⟩ = some (.int .i64 m1) := keepC hb6 (by (first | (simp; done) | (simp; omega))) (by simp [go_sem])
    have Cm1 : w6.cell? ⟨w5.heap.size, 1, none⟩ = some (.int .i64 m2) := keepC hb6 (by (first | (simp; done) | (simp; omega))) (by simp [go_sem])
    have Cm2 : w6.cell? ⟨w5.heap.size, 2, none⟩ = some (.int .i64 m3) := keepC hb6 (by (first | (simp; done) | (simp; omega))) (by simp [go_sem])
    have tCm : w5.heap.size < w6.heap.size := by omega
    rw [f0, f1, f2]
    go_wp2_with fail
    refine (Move_any m1 m2 m3 s' h' _ ((ht.step h0w6).step (by go_grown))).mono ?_
    rintro e w7 ⟨rfl, hb7⟩
    have sz7 := hb7.size
    try simp at sz7
    have k7 : Below w6.heap.size w6 w7 := Below.trans (by go_grown) (hb7.mono (by (first | (simp; done) | (simp; omega))))
    have h0w7 : Below w.heap.size w w7 := h0w6.trans (k7.mono h0w6.size)
    replace Cp0 := keepC k7 (by omega) Cp0
    replace Cp1 := keepC k7 (by omega) Cp1
    replace Cp2 := keepC k7 (by omega) Cp2
    have tCp : w.heap.size < w7.heap.size := by omega
    replace Cq0 := keepC k7 (by omega) Cq0
    replace Cq1 := keepC k7 (by omega) Cq1
    replace Cq2 := keepC k7 (by omega) Cq2
    have tCq : w.heap.size + 1 < w7.heap.size := by omega
    replace Cr0 := keepC k7 (by omega) Cr0
    replace Cr1 := keepC k7 (by omega) Cr1
    replace Cr2 := keepC k7 (by omega) Cr2
    have tCr : w.heap.size + 1 + 1 < w7.heap.size := by omega
    replace Cv0 := keepC k7 (by omega) Cv0
    replace Cv1 := keepC k7 (by omega) Cv1
    have tCv : w.heap.size + 1 + 1 + 1 < w7.heap.size := by omega
    replace Cu0 := keepC k7 (by omega) Cu0
    replace Cu1 := keepC k7 (by omega) Cu1
    have tCu : w.heap.size + 1 + 1 + 1 + 1 < w7.heap.size := by omega
    replace Cm0 := keepC k7 (by omega) Cm0
    replace Cm1 := keepC k7 (by omega) Cm1
    replace Cm2 := keepC k7 (by omega) Cm2
    have tCm : w5.heap.size < w7.heap.size := by omega
    have Cf0 : w7.cell? ⟨w6.heap.size, 0, none⟩ = some (.int .i64 s) := keepC hb7 (by (first | (simp; done) | (simp; omega))) (by simp [go_sem])
    have Cf1 : w7.cell? ⟨w6.heap.size, 1, none⟩ = some (.int .i64 h) := keepC hb7 (by (first | (simp; done) | (simp; omega))) (by simp [go_sem])
    have tCf : w6.heap.size < w7.heap.size := by omega
    go_wp2_with fail
    refine (Sum_any s h s' h' _).mono ?_
    rintro e w8 ⟨rfl, hb8⟩
    have sz8 := hb8.size
    try simp at sz8
    have k8 : Below w7.heap.size w7 w8 := Below.trans (by go_grown) (hb8.mono (by (first | (simp; done) | (simp; omega))))
    have h0w8 : Below w.heap.size w w8 := h0w7.trans (k8.mono h0w7.size)
    replace Cp0 := keepC k8 (by omega) Cp0
    replace Cp1 := keepC k8 (by omega) Cp1
    replace Cp2 := keepC k8 (by omega) Cp2
    have tCp : w.heap.size < w8.heap.size := by omega
    replace Cq0 := keepC k8 (by omega) Cq0
    replace Cq1 := keepC k8 (by omega) Cq1
    replace Cq2 := keepC k8 (by omega) Cq2
    have tCq : w.heap.size + 1 < w8.heap.size := by omega
    replace Cr0 := keepC k8 (by omega) Cr0
    replace Cr1 := keepC k8 (by omega) Cr1
    replace Cr2 := keepC k8 (by omega) Cr2
    have tCr : w.heap.size + 1 + 1 < w8.heap.size := by omega
    replace Cv0 := keepC k8 (by omega) Cv0
    replace Cv1 := keepC k8 (by omega) Cv1
    have tCv : w.heap.size + 1 + 1 + 1 < w8.heap.size := by omega
    replace Cu0 := keepC k8 (by omega) Cu0
    replace Cu1 := keepC k8 (by omega) Cu1
    have tCu : w.heap.size + 1 + 1 + 1 + 1 < w8.heap.size := by omega
    replace Cm0 := keepC k8 (by omega) Cm0
    replace Cm1 := keepC k8 (by omega) Cm1
    replace Cm2 := keepC k8 (by omega) Cm2
    have tCm : w5.heap.size < w8.heap.size := by omega
    replace Cf0 := keepC k8 (by omega) Cf0
    replace Cf1 := keepC k8 (by omega) Cf1
    have tCf : w6.heap.size < w8.heap.size := by omega
    have Cy0 : w8.cell? ⟨w7.heap.size, 0, none⟩ = some (.int .i64 (M.ml m1 m2 m3 s' h')) := keepC hb8 (by (first | (simp; done) | (simp; omega))) (by simp [go_sem])
    have Cy1 : w8.cell? ⟨w7.heap.size, 1, none⟩ = some (.int .i64 (M.ma m1 m2 m3 s' h')) := keepC hb8 (by (first | (simp; done) | (simp; omega))) (by simp [go_sem])
    have Cy2 : w8.cell? ⟨w7.heap.size, 2, none⟩ = some (.int .i64 (M.mo m1 m2 m3 s' h')) := keepC hb8 (by (first | (simp; done) | (simp; omega))) (by simp [go_sem])
    have tCy : w7.heap.size < w8.heap.size := by omega
    rw [hS, g1, g2]
    go_wp2_with fail
    refine (Move_any l a o (s + s') (h + h') _ ((ht.step h0w8).step (by go_grown))).mono ?_
    rintro e w9 ⟨rfl, hb9⟩
    have sz9 := hb9.size
    try simp at sz9
    have k9 : Below w8.heap.size w8 w9 := Below.trans (by go_grown) (hb9.mono (by (first | (simp; done) | (simp; omega))))
    have h0w9 : Below w.heap.size w w9 := h0w8.trans (k9.mono h0w8.size)
    replace Cp0 := keepC k9 (by omega) Cp0
    replace Cp1 := keepC k9 (by omega) Cp1
    replace Cp2 := keepC k9 (by omega) Cp2
    have tCp : w.heap.size < w9.heap.size := by omega
    replace Cq0 := keepC k9 (by omega) Cq0
    replace Cq1 := keepC k9 (by omega) Cq1
    replace Cq2 := keepC k9 (by omega) Cq2
    have tCq : w.heap.size + 1 < w9.heap.size := by omega
    replace Cr0 := keepC k9 (by omega) Cr0
    replace Cr1 := keepC k9 (by omega) Cr1
    replace Cr2 := keepC k9 (by omega) Cr2
    have tCr : w.heap.size + 1 + 1 < w9.heap.size := by omega
    replace Cv0 := keepC k9 (by omega) Cv0
    replace Cv1 := keepC k9 (by omega) Cv1
    have tCv : w.heap.size + 1 + 1 + 1 < w9.heap.size := by omega
    replace Cu0 := keepC k9 (by omega) Cu0
    replace Cu1 := keepC k9 (by omega) Cu1
    have tCu : w.heap.size + 1 + 1 + 1 + 1 < w9.heap.size := by omega
    replace Cm0 := keepC k9 (by omega) Cm0
    replace Cm1 := keepC k9 (by omega) Cm1
    replace Cm2 := keepC k9 (by omega) Cm2
    have tCm : w5.heap.size < w9.heap.size := by omega
    replace Cf0 := keepC k9 (by omega) Cf0
    replace Cf1 := keepC k9 (by omega) Cf1
    have tCf : w6.heap.size < w9.heap.size := by omega
    replace Cy0 := keepC k9 (by omega) Cy0
    replace Cy1 := keepC k9 (by omega) Cy1
    replace Cy2 := keepC k9 (by omega) Cy2
    have tCy : w7.heap.size < w9.heap.size := by omega
    have Ck0 : w9.cell? ⟨w8.heap.size, 0, none⟩ = some (.int .i64 (s + s')) := keepC hb9 (by (first | (simp; done) | (simp; omega))) (by simp [go_sem])
    have Ck1 : w9.cell? ⟨w8.heap.size, 1, none⟩ = some (.int .i64 (h + h')) := keepC hb9 (by (first | (simp; done) | (simp; omega))) (by simp [go_sem])
    have tCk : w8.heap.size < w9.heap.size := by omega
    rw [i1, i2, i3, i4]
    go_wp2_with fail
    go_ret
    exact ⟨rfl, Below.trans h0w9 (Below.mono (by go_grown) h0w9.size)⟩
  obtain ⟨a0, a1, a2⟩ := M.between_ok rp rq
  obtain ⟨b0, b1, b2⟩ := M.between_ok rq rr
  obtain ⟨c0, c1, c2⟩ := M.between_ok rp rr
  obtain ⟨d0, d1, d2, d3⟩ := M.move_to rp (M.inb_two rp rq) rq (by omega) (by omega)
  obtain ⟨e0, e1, e2, e3⟩ := M.move_none rp
  have bp := M.hv_bd rp
  have bq := M.hv_bd rq
  have br := M.hv_bd rr
  have j1 : (M.st l' o' - M.st l o + (M.st b d - M.st l' o') != M.st b d - M.st l o) = false := by simp; omega
  have j2 : (M.hv l' a' o' - M.hv l a o + (M.hv b c d - M.hv l' a' o') != M.hv b c d - M.hv l a o) = false := by simp; omega
  by_cases hm : M.me l a o s h = 0
  case neg =>
    have hm' := tneq0 hm
    go_enter Tryd.func4, Tryd.ntmps4
    go_wp2_with fail
    refine (alive_any _ (ht.step (by go_grown))).mono ?_
    rintro e w1 ⟨rfl, hb1⟩
    have sz1 := hb1.size
    try simp at sz1
    have k1 : Below w.heap.size w w1 := Below.trans (by go_grown) (hb1.mono (by (first | (simp; done) | (simp; omega))))
    have h0w1 : Below w.heap.size w w1 := k1
    have Cp0 : w1.cell? ⟨w.heap.size, 0, none⟩ = some (.int .i64 l) := keepC hb1 (by (first | (simp; done) | (simp; omega))) (by simp [go_sem])
    have Cp1 : w1.cell? ⟨w.heap.size, 1, none⟩ = some (.int .i64 a) := keepC hb1 (by (first | (simp; done) | (simp; omega))) (by simp [go_sem])
    have Cp2 : w1.cell? ⟨w.heap.size, 2, none⟩ = some (.int .i64 o) := keepC hb1 (by (first | (simp; done) | (simp; omega))) (by simp [go_sem])
    have tCp : w.heap.size < w1.heap.size := by omega
    have Cq0 : w1.cell? ⟨w.heap.size + 1, 0, none⟩ = some (.int .i64 l') := keepC hb1 (by (first | (simp; done) | (simp; omega))) (by simp [go_sem])
    have Cq1 : w1.cell? ⟨w.heap.size + 1, 1, none⟩ = some (.int .i64 a') := keepC hb1 (by (first | (simp; done) | (simp; omega))) (by simp [go_sem])
    have Cq2 : w1.cell? ⟨w.heap.size + 1, 2, none⟩ = some (.int .i64 o') := keepC hb1 (by (first | (simp; done) | (simp; omega))) (by simp [go_sem])
    have tCq : w.heap.size + 1 < w1.heap.size := by omega
    have Cr0 : w1.cell? ⟨w.heap.size + 1 + 1, 0, none⟩ = some (.int .i64 b) := keepC hb1 (by (first | (simp; done) | (simp; omega))) (by simp [go_sem])
    have Cr1 : w1.cell? ⟨w.heap.size + 1 + 1, 1, none⟩ = some (.int .i64 c) := keepC hb1 (by (first | (simp; done) | (simp; omega))) (by simp [go_sem])
    have Cr2 : w1.cell? ⟨w.heap.size + 1 + 1, 2, none⟩ = some (.int .i64 d) := keepC hb1 (by (first | (simp; done) | (simp; omega))) (by simp [go_sem])
    have tCr : w.heap.size + 1 + 1 < w1.heap.size := by omega
    have Cv0 : w1.cell? ⟨w.heap.size + 1 + 1 + 1, 0, none⟩ = some (.int .i64 s) := keepC hb1 (by (first | (simp; done) | (simp; omega))) (by simp [go_sem])
    have Cv1 : w1.cell? ⟨w.heap.size + 1 + 1 + 1, 1, none⟩ = some (.int .i64 h) := keepC hb1 (by (first | (simp; done) | (simp; omega))) (by simp [go_sem])
    have tCv : w.heap.size + 1 + 1 + 1 < w1.heap.size := by omega
    have Cu0 : w1.cell? ⟨w.heap.size + 1 + 1 + 1 + 1, 0, none⟩ = some (.int .i64 s') := keepC hb1 (by (first | (simp; done) | (simp; omega))) (by simp [go_sem])
    have Cu1 : w1.cell? ⟨w.heap.size + 1 + 1 + 1 + 1, 1, none⟩ = some (.int .i64 h') := keepC hb1 (by (first | (simp; done) | (simp; omega))) (by simp [go_sem])
    have tCu : w.heap.size + 1 + 1 + 1 + 1 < w1.heap.size := by omega
    go_wp2_with fail
    refine (Right_any l a o _).mono ?_
    rintro e w2 ⟨rfl, hb2⟩
    have sz2 := hb2.size
    try simp at sz2
    have k2 : Below w1.heap.size w1 w2 := Below.trans (by go_grown) (hb2.mono (by (first | (simp; done) | (simp; omega))))
    have h0w2 : Below w.heap.size w w2 := h0w1.trans (k2.mono h0w1.size)
    replace Cp0 := keepC k2 (by omega) Cp0
    replace Cp1 := keepC k2 (by omega) Cp1
    replace Cp2 := keepC k2 (by omega) Cp2
    have tCp : w.heap.size < w2.heap.size := by omega
    replace Cq0 := keepC k2 (by omega) Cq0
    replace Cq1 := keepC k2 (by omega) Cq1
    replace Cq2 := keepC k2 (by omega) Cq2
    have tCq : w.heap.size + 1 < w2.heap.size := by omega
    replace Cr0 := keepC k2 (by omega) Cr0
    replace Cr1 := keepC k2 (by omega) Cr1
    replace Cr2 := keepC k2 (by omega) Cr2
    have tCr : w.heap.size + 1 + 1 < w2.heap.size := by omega
    replace Cv0 := keepC k2 (by omega) Cv0
    replace Cv1 := keepC k2 (by omega) Cv1
    have tCv : w.heap.size + 1 + 1 + 1 < w2.heap.size := by omega
    replace Cu0 := keepC k2 (by omega) Cu0
    replace Cu1 := keepC k2 (by omega) Cu1
    have tCu : w.heap.size + 1 + 1 + 1 + 1 < w2.heap.size := by omega
    rw [rp]
    go_wp2_with fail
    refine (Right_any l' a' o' _).mono ?_
    rintro e w3 ⟨rfl, hb3⟩
    have sz3 := hb3.size
    try simp at sz3
    have k3 : Below w2.heap.size w2 w3 := Below.trans (by go_grown) (hb3.mono (by (first | (simp; done) | (simp; omega))))
    have h0w3 : Below w.heap.size w w3 := h0w2.trans (k3.mono h0w2.size)
    replace Cp0 := keepC k3 (by omega) Cp0
    replace Cp1 := keepC k3 (by omega) Cp1
    replace Cp2 := keepC k3 (by omega) Cp2
    have tCp : w.heap.size < w3.heap.size := by omega
    replace Cq0 := keepC k3 (by omega) Cq0
    replace Cq1 := keepC k3 (by omega) Cq1
    replace Cq2 := keepC k3 (by omega) Cq2
    have tCq : w.heap.size + 1 < w3.heap.size := by omega
    replace Cr0 := keepC k3 (by omega) Cr0
    replace Cr1 := keepC k3 (by omega) Cr1
    replace Cr2 := keepC k3 (by omega) Cr2
    have tCr : w.heap.size + 1 + 1 < w3.heap.size := by omega
    replace Cv0 := keepC k3 (by omega) Cv0
    replace Cv1 := keepC k3 (by omega) Cv1
    have tCv : w.heap.size + 1 + 1 + 1 < w3.heap.size := by omega
    replace Cu0 := keepC k3 (by omega) Cu0
    replace Cu1 := keepC k3 (by omega) Cu1
    have tCu : w.heap.size + 1 + 1 + 1 + 1 < w3.heap.size := by omega
    rw [rq]
    go_wp2_with fail
    refine (Right_any b c d _).mono ?_
    rintro e w4 ⟨rfl, hb4⟩
    have sz4 := hb4.size
    try simp at sz4
    have k4 : Below w3.heap.size w3 w4 := Below.trans (by go_grown) (hb4.mono (by (first | (simp; done) | (simp; omega))))
    have h0w4 : Below w.heap.size w w4 := h0w3.trans (k4.mono h0w3.size)
    replace Cp0 := keepC k4 (by omega) Cp0
    replace Cp1 := keepC k4 (by omega) Cp1
    replace Cp2 := keepC k4 (by omega) Cp2
    have tCp : w.heap.size < w4.heap.size := by omega
    replace Cq0 := keepC k4 (by omega) Cq0
    replace Cq1 := keepC k4 (by omega) Cq1
    replace Cq2 := keepC k4 (by omega) Cq2
    have tCq : w.heap.size + 1 < w4.heap.size := by omega
    replace Cr0 := keepC k4 (by omega) Cr0
    replace Cr1 := keepC k4 (by omega) Cr1
    replace Cr2 := keepC k4 (by omega) Cr2
    have tCr : w.heap.size + 1 + 1 < w4.heap.size := by omega
    replace Cv0 := keepC k4 (by omega) Cv0
    replace Cv1 := keepC k4 (by omega) Cv1
    have tCv : w.heap.size + 1 + 1 + 1 < w4.heap.size := by omega
    replace Cu0 := keepC k4 (by omega) Cu0
    replace Cu1 := keepC k4 (by omega) Cu1
    have tCu : w.heap.size + 1 + 1 + 1 + 1 < w4.heap.size := by omega
    rw [rr]
    go_wp2_with fail
    refine (Between_any l a o l' a' o' _ ((ht.step h0w4).step (by go_grown))).mono ?_
    rintro e w5 ⟨rfl, hb5⟩
    have sz5 := hb5.size
    try simp at sz5
    have k5 : Below w4.heap.size w4 w5 := Below.trans (by go_grown) (hb5.mono (by (first | (simp; done) | (simp; omega))))
    have h0w5 : Below w.heap.size w w5 := h0w4.trans (k5.mono h0w4.size)
    replace Cp0 := keepC k5 (by omega) Cp0
    replace Cp1 := keepC k5 (by omega) Cp1
    replace Cp2 := keepC k5 (by omega) Cp2
    have tCp : w.heap.size < w5.heap.size := by omega
    replace Cq0 := keepC k5 (by omega) Cq0
    replace Cq1 := keepC k5 (by omega) Cq1
    replace Cq2 := keepC k5 (by omega) Cq2
    have tCq : w.heap.size + 1 < w5.heap.size := by omega
    replace Cr0 := keepC k5 (by omega) Cr0
    replace Cr1 := keepC k5 (by omega) Cr1
    replace Cr2 := keepC k5 (by omega) Cr2
    have tCr : w.heap.size + 1 + 1 < w5.heap.size := by omega
    replace Cv0 := keepC k5 (by omega) Cv0
    replace Cv1 := keepC k5 (by omega) Cv1
    have tCv : w.heap.size + 1 + 1 + 1 < w5.heap.size := by omega
    replace Cu0 := keepC k5 (by omega) Cu0
    replace Cu1 := keepC k5 (by omega) Cu1
    have tCu : w.heap.size + 1 + 1 + 1 + 1 < w5.heap.size := by omega
    rw [a0, a1, a2]
    go_wp2_with fail
    refine (Between_any l' a' o' b c d _ ((ht.step h0w5).step (by go_grown))).mono ?_
    rintro e w6 ⟨rfl, hb6⟩
    have sz6 := hb6.size
    try simp at sz6
    have k6 : Below w5.heap.size w5 w6 := Below.trans (by go_grown) (hb6.mono (by (first | (simp; done) | (simp; omega))))
    have h0w6 : Below w.heap.size w w6 := h0w5.trans (k6.mono h0w5.size)
    replace Cp0 := keepC k6 (by omega) Cp0
    replace Cp1 := keepC k6 (by omega) Cp1
    replace Cp2 := keepC k6 (by omega) Cp2
    have tCp : w.heap.size < w6.heap.size := by omega
    replace Cq0 := keepC k6 (by omega) Cq0
    replace Cq1 := keepC k6 (by omega) Cq1
    replace Cq2 := keepC k6 (by omega) Cq2
    have tCq : w.heap.size + 1 < w6.heap.size := by omega
    replace Cr0 := keepC k6 (by omega) Cr0
    replace Cr1 := keepC k6 (by omega) Cr1
    replace Cr2 := keepC k6 (by omega) Cr2
    have tCr : w.heap.size + 1 + 1 < w6.heap.size := by omega
    replace Cv0 := keepC k6 (by omega) Cv0
    replace Cv1 := keepC k6 (by omega) Cv1
    have tCv : w.heap.size + 1 + 1 + 1 < w6.heap.size := by omega
    replace Cu0 := keepC k6 (by omega) Cu0
    replace Cu1 := keepC k6 (by omega) Cu1
    have tCu : w.heap.size + 1 + 1 + 1 + 1 < w6.heap.size := by omega
    have Ca0 : w6.cell? ⟨w5.heap.size, 0, none⟩ = some (.int .i64 (M.st l' o' - M.st l o)) := keepC hb6 (by (first | (simp; done) | (simp; omega))) (by simp [go_sem])
    have Ca1 : w6.cell? ⟨w5.heap.size, 1, none⟩ = some (.int .i64 (M.hv l' a' o' - M.hv l a o)) := keepC hb6 (by (first | (simp; done) | (simp; omega))) (by simp [go_sem])
    have tCa : w5.heap.size < w6.heap.size := by omega
    rw [b0, b1, b2]
    go_wp2_with fail
    refine (Between_any l a o b c d _ ((ht.step h0w6).step (by go_grown))).mono ?_
    rintro e w7 ⟨rfl, hb7⟩
    have sz7 := hb7.size
    try simp at sz7
    have k7 : Below w6.heap.size w6 w7 := Below.trans (by go_grown) (hb7.mono (by (first | (simp; done) | (simp; omega))))
    have h0w7 : Below w.heap.size w w7 := h0w6.trans (k7.mono h0w6.size)
    replace Cp0 := keepC k7 (by omega) Cp0
    replace Cp1 := keepC k7 (by omega) Cp1
    replace Cp2 := keepC k7 (by omega) Cp2
    have tCp : w.heap.size < w7.heap.size := by omega
    replace Cq0 := keepC k7 (by omega) Cq0
    replace Cq1 := keepC k7 (by omega) Cq1
    replace Cq2 := keepC k7 (by omega) Cq2
    have tCq : w.heap.size + 1 < w7.heap.size := by omega
    replace Cr0 := keepC k7 (by omega) Cr0
    replace Cr1 := keepC k7 (by omega) Cr1
    replace Cr2 := keepC k7 (by omega) Cr2
    have tCr : w.heap.size + 1 + 1 < w7.heap.size := by omega
    replace Cv0 := keepC k7 (by omega) Cv0
    replace Cv1 := keepC k7 (by omega) Cv1
    have tCv : w.heap.size + 1 + 1 + 1 < w7.heap.size := by omega
    replace Cu0 := keepC k7 (by omega) Cu0
    replace Cu1 := keepC k7 (by omega) Cu1
    have tCu : w.heap.size + 1 + 1 + 1 + 1 < w7.heap.size := by omega
    replace Ca0 := keepC k7 (by omega) Ca0
    replace Ca1 := keepC k7 (by omega) Ca1
    have tCa : w5.heap.size < w7.heap.size := by omega
    have Cb0 : w7.cell? ⟨w6.heap.size, 0, none⟩ = some (.int .i64 (M.st b d - M.st l' o')) := keepC hb7 (by (first | (simp; done) | (simp; omega))) (by simp [go_sem])
    have Cb1 : w7.cell? ⟨w6.heap.size, 1, none⟩ = some (.int .i64 (M.hv b c d - M.hv l' a' o')) := keepC hb7 (by (first | (simp; done) | (simp; omega))) (by simp [go_sem])
    have tCb : w6.heap.size < w7.heap.size := by omega
    rw [c0, c1, c2]
    go_wp2_with fail
    refine (Move_any l a o (M.st l' o' - M.st l o) (M.hv l' a' o' - M.hv l a o) _ ((ht.step h0w7).step (by go_grown))).mono ?_
    rintro e w8 ⟨rfl, hb8⟩
    have sz8 := hb8.size
    try simp at sz8
    have k8 : Below w7.heap.size w7 w8 := Below.trans (by go_grown) (hb8.mono (by (first | (simp; done) | (simp; omega))))
    have h0w8 : Below w.heap.size w w8 := h0w7.trans (k8.mono h0w7.size)
    replace Cp0 := keepC k8 (by omega) Cp0
    replace Cp1 := keepC k8 (by omega) Cp1
    replace Cp2 := keepC k8 (by omega) Cp2
    have tCp : w.heap.size < w8.heap.size := by omega
    replace Cq0 := keepC k8 (by omega) Cq0
    replace Cq1 := keepC k8 (by omega) Cq1
    replace Cq2 := keepC k8 (by omega) Cq2
    have tCq : w.heap.size + 1 < w8.heap.size := by omega
    replace Cr0 := keepC k8 (by omega) Cr0
    replace Cr1 := keepC k8 (by omega) Cr1
    replace Cr2 := keepC k8 (by omega) Cr2
    have tCr : w.heap.size + 1 + 1 < w8.heap.size := by omega
    replace Cv0 := keepC k8 (by omega) Cv0
    replace Cv1 := keepC k8 (by omega) Cv1
    have tCv : w.heap.size + 1 + 1 + 1 < w8.heap.size := by omega
    replace Cu0 := keepC k8 (by omega) Cu0
    replace Cu1 := keepC k8 (by omega) Cu1
    have tCu : w.heap.size + 1 + 1 + 1 + 1 < w8.heap.size := by omega
    replace Ca0 := keepC k8 (by omega) Ca0
    replace Ca1 := keepC k8 (by omega) Ca1
    have tCa : w5.heap.size < w8.heap.size := by omega
    replace Cb0 := keepC k8 (by omega) Cb0
    replace Cb1 := keepC k8 (by omega) Cb1
    have tCb : w6.heap.size < w8.heap.size := by omega
    have Cc0 : w8.cell? ⟨w7.heap.size, 0, none⟩ = some (.int .i64 (M.st b d - M.st l o)) := keepC hb8 (by (first | (simp; done) | (simp; omega))) (by simp [go_sem])
    have Cc1 : w8.cell? ⟨w7.heap.size, 1, none⟩ = some (.int .i64 (M.hv b c d - M.hv l a o)) := keepC hb8 (by (first | (simp; done) | (simp; omega))) (by simp [go_sem])
    have tCc : w7.heap.size < w8.heap.size := by omega
    rw [d0, d1, d2, d3]
    go_wp2_with fail
    refine (Move_any l a o 0 0 _ ((ht.step h0w8).step (by go_grown))).mono ?_
    rintro e w9 ⟨rfl, hb9⟩
    have sz9 := hb9.size
    try simp at sz9
    have k9 : Below w8.heap.size w8 w9 := Below.trans (by go_grown) (hb9.mono (by (first | (simp; done) | (simp; omega))))
    have h0w9 : Below w.heap.size w w9 := h0w8.trans (k9.mono h0w8.size)
    replace Cp0 := keepC k9 (by omega) Cp0
    replace Cp1 := keepC k9 (by omega) Cp1
    replace Cp2 := keepC k9 (by omega) Cp2
    have tCp : w.heap.size < w9.heap.size := by omega
    replace Cq0 := keepC k9 (by omega) Cq0
    replace Cq1 := keepC k9 (by omega) Cq1
    replace Cq2 := keepC k9 (by omega) Cq2
    have tCq : w.heap.size + 1 < w9.heap.size := by omega
    replace Cr0 := keepC k9 (by omega) Cr0
    replace Cr1 := keepC k9 (by omega) Cr1
    replace Cr2 := keepC k9 (by omega) Cr2
    have tCr : w.heap.size + 1 + 1 < w9.heap.size := by omega
    replace Cv0 := keepC k9 (by omega) Cv0
    replace Cv1 := keepC k9 (by omega) Cv1
    have tCv : w.heap.size + 1 + 1 + 1 < w9.heap.size := by omega
    replace Cu0 := keepC k9 (by omega) Cu0
    replace Cu1 := keepC k9 (by omega) Cu1
    have tCu : w.heap.size + 1 + 1 + 1 + 1 < w9.heap.size := by omega
    have Cd0 : w9.cell? ⟨w8.heap.size, 0, none⟩ = some (.int .i64 l') := keepC hb9 (by (first | (simp; done) | (simp; omega))) (by simp [go_sem])
    have Cd1 : w9.cell? ⟨w8.heap.size, 1, none⟩ = some (.int .i64 a') := keepC hb9 (by (first | (simp; done) | (simp; omega))) (by simp [go_sem])
    have Cd2 : w9.cell? ⟨w8.heap.size, 2, none⟩ = some (.int .i64 o') := keepC hb9 (by (first | (simp; done) | (simp; omega))) (by simp [go_sem])
    have tCd : w8.heap.size < w9.heap.size := by omega
    rw [e0, e1, e2, e3]
    go_wp2_with fail
    refine (Move_any l a o s h _ ((ht.step h0w9).step (by go_grown))).mono ?_
    rintro e w10 ⟨rfl, hb10⟩
    have sz10 := hb10.size
    try simp at sz10
    have k10 : Below w9.heap.size w9 w10 := Below.trans (by go_grown) (hb10.mono (by (first | (simp; done) | (simp; omega))))
    have h0w10 : Below w.heap.size w w10 := h0w9.trans (k10.mono h0w9.size)
    replace Cp0 := keepC k10 (by omega) Cp0
    replace Cp1 := keepC k10 (by omega) Cp1
    replace Cp2 := keepC k10 (by omega) Cp2
    have tCp : w.heap.size < w10.heap.size := by omega
    replace Cq0 := keepC k10 (by omega) Cq0
    replace Cq1 := keepC k10 (by omega) Cq1
    replace Cq2 := keepC k10 (by omega) Cq2
    have tCq : w.heap.size + 1 < w10.heap.size := by omega
    replace Cr0 := keepC k10 (by omega) Cr0
    replace Cr1 := keepC k10 (by omega) Cr1
    replace Cr2 := keepC k10 (by omega) Cr2
    have tCr : w.heap.size + 1 + 1 < w10.heap.size := by omega
    replace Cv0 := keepC k10 (by omega) Cv0
    replace Cv1 := keepC k10 (by omega) Cv1
    have tCv : w.heap.size + 1 + 1 + 1 < w10.heap.size := by omega
    replace Cu0 := keepC k10 (by omega) Cu0
    replace Cu1 := keepC k10 (by omega) Cu1
    have tCu : w.heap.size + 1 + 1 + 1 + 1 < w10.heap.size := by omega
    replace Cd0 := keepC k10 (by omega) Cd0
    replace Cd1 := keepC k10 (by omega) Cd1
    replace Cd2 := keepC k10 (by omega) Cd2
    have tCd : w8.heap.size < w10.heap.size := by omega
    have Ce0 : w10.cell? ⟨w9.heap.size, 0, none⟩ = some (.int .i64 l) := keepC hb10 (by (first | (simp; done) | (simp; omega))) (by simp [go_sem])
    have Ce1 : w10.cell? ⟨w9.heap.size, 1, none⟩ = some (.int .i64 a) := keepC hb10 (by (first | (simp; done) | (simp; omega))) (by simp [go_sem])
    have Ce2 : w10.cell? ⟨w9.heap.size, 2, none⟩ = some (.int .i64 o) := keepC hb10 (by (first | (simp; done) | (simp; omega))) (by simp [go_sem])
    have tCe : w9.heap.size < w10.heap.size := by omega
    go_wp2_with fail
    go_ret
    exact ⟨rfl, Below.trans h0w10 (Below.mono (by go_grown) h0w10.size)⟩
  obtain ⟨_, hin, rm, em1, em2⟩ := M.move_ok hm
  have hin' := M.inb_yes hin
  generalize hM1 : M.ml l a o s h = m1 at *
  generalize hM2 : M.ma l a o s h = m2 at *
  generalize hM3 : M.mo l a o s h = m3 at *
  obtain ⟨f0, f1, f2⟩ := M.between_ok rp rm
  rw [em1, show M.st l o + s - M.st l o = s by omega] at f1
  rw [em2, show M.hv l a o + h - M.hv l a o = h by omega] at f2
  by_cases hS : M.se s h s' h' = 0
  case neg =>
    have hS' := tneq0 hS
    go_enter Tryd.func4, Tryd.ntmps4
    go_wp2_with fail
    refine (alive_any _ (ht.step (by go_grown))).mono ?_
    rintro e w1 ⟨rfl, hb1⟩
    have sz1 := hb1.size
    try simp at sz1
    have k1 : Below w.heap.size w w1 := Below.trans (by go_grown) (hb1.mono (by (first | (simp; done) | (simp; omega))))
    have h0w1 : Below w.heap.size w w1 := k1
    have Cp0 : w1.cell? ⟨w.heap.size, 0, none⟩ = some (.int .i64 l) := keepC hb1 (by (first | (simp; done) | (simp; omega))) (by simp [go_sem])
    have Cp1 : w1.cell? ⟨w.heap.size, 1, none⟩ = some (.int .i64 a) := keepC hb1 (by (first | (simp; done) | (simp; omega))) (by simp [go_sem])
    have Cp2 : w1.cell? ⟨w.heap.size, 2, none⟩ = some (.int .i64 o) := keepC hb1 (by (first | (simp; done) | (simp; omega))) (by simp [go_sem])
    have tCp : w.heap.size < w1.heap.size := by omega
    have Cq0 : w1.cell? ⟨w.heap.size + 1, 0, none⟩ = some (.int .i64 l') := keepC hb1 (by (first | (simp; done) | (simp; omega))) (by simp [go_sem])
    have Cq1 : w1.cell? ⟨w.heap.size + 1, 1, none⟩ = some (.int .i64 a') := keepC hb1 (by (first | (simp; done) | (simp; omega))) (by simp [go_sem])
    have Cq2 : w1.cell? ⟨w.heap.size + 1, 2, none⟩ = some (.int .i64 o') := keepC hb1 (by (first | (simp; done) | (simp; omega))) (by simp [go_sem])
    have tCq : w.heap.size + 1 < w1.heap.size := by omega
    have Cr0 : w1.cell? ⟨w.heap.size + 1 + 1, 0, none⟩ = some (.int .i64 b) := keepC hb1 (by (first | (simp; done) | (simp; omega))) (by simp [go_sem])
    have Cr1 : w1.cell? ⟨w.heap.size + 1 + 1, 1, none⟩ = some (.int .i64 c) := keepC hb1 (by (first | (simp; done) | (simp; omega))) (by simp [go_sem])
    have Cr2 : w1.cell? ⟨w.heap.size + 1 + 1, 2, none⟩ = some (.int .i64 d) := keepC hb1 (by (first | (simp; done) | (simp; omega))) (by simp [go_sem])
    have tCr : w.heap.size + 1 + 1 < w1.heap.size := by omega
    have Cv0 : w1.cell? ⟨w.heap.size + 1 + 1 + 1, 0, none⟩ = some (.int .i64 s) := keepC hb1 (by (first | (simp; done) | (simp; omega))) (by simp [go_sem])
    have Cv1 : w1.cell? ⟨w.heap.size + 1 + 1 + 1, 1, none⟩ = some (.int .i64 h) := keepC hb1 (by (first | (simp; done) | (simp; omega))) (by simp [go_sem])
    have tCv : w.heap.size + 1 + 1 + 1 < w1.heap.size := by omega
    have Cu0 : w1.cell? ⟨w.heap.size + 1 + 1 + 1 + 1, 0, none⟩ = some (.int .i64 s') := keepC hb1 (by (first | (simp; done) | (simp; omega))) (by simp [go_sem])
    have Cu1 : w1.cell? ⟨w.heap.size + 1 + 1 + 1 + 1, 1, none⟩ = some (.int .i64 h') := keepC hb1 (by (first | (simp; done) | (simp; omega))) (by simp [go_sem])
    have tCu : w.heap.size + 1 + 1 + 1 + 1 < w1.heap.size := by omega
    go_wp2_with fail
    refine (Right_any l a o _).mono ?_
    rintro e w2 ⟨rfl, hb2⟩
    have sz2 := hb2.size
    try simp at sz2
    have k2 : Below w1.heap.size w1 w2 := Below.trans (by go_grown) (hb2.mono (by (first | (simp; done) | (simp; omega))))
    have h0w2 : Below w.heap.size w w2 := h0w1.trans (k2.mono h0w1.size)
    replace Cp0 := keepC k2 (by omega) Cp0
    replace Cp1 := keepC k2 (by omega) Cp1
    replace Cp2 := keepC k2 (by omega) Cp2
    have tCp : w.heap.size < w2.heap.size := by omega
    replace Cq0 := keepC k2 (by omega) Cq0
    replace Cq1 := keepC k2 (by omega) Cq1
    replace Cq2 := keepC k2 (by omega) Cq2
    have tCq : w.heap.size + 1 < w2.heap.size := by omega
    replace Cr0 := keepC k2 (by omega) Cr0
    replace Cr1 := keepC k2 (by omega) Cr1
    replace Cr2 := keepC k2 (by omega) Cr2
    have tCr : w.heap.size + 1 + 1 < w2.heap.size := by omega
    replace Cv0 := keepC k2 (by omega) Cv0
    replace Cv1 := keepC k2 (by omega) Cv1
    have tCv : w.heap.size + 1 + 1 + 1 < w2.heap.size := by omega
    replace Cu0 := keepC k2 (by omega) Cu0
    replace Cu1 := keepC k2 (by omega) Cu1
    have tCu : w.heap.size + 1 + 1 + 1 + 1 < w2.heap.size := by omega
    rw [rp]
    go_wp2_with fail
    refine (Right_any l' a' o' _).mono ?_
    rintro e w3 ⟨rfl, hb3⟩
    have sz3 := hb3.size
    try simp at sz3
    have k3 : Below w2.heap.size w2 w3 := Below.trans (by go_grown) (hb3.mono (by (first | (simp; done) | (simp; omega))))
    have h0w3 : Below w.heap.size w w3 := h0w2.trans (k3.mono h0w2.size)
    replace Cp0 := keepC k3 (by omega) Cp0
    replace Cp1 := keepC k3 (by omega) Cp1
    replace Cp2 := keepC k3 (by omega) Cp2
    have tCp : w.heap.size < w3.heap.size := by omega
    replace Cq0 := keepC k3 (by omega) Cq0
    replace Cq1 := keepC k3 (by omega) Cq1
    replace Cq2 := keepC k3 (by omega) Cq2
    have tCq : w.heap.size + 1 < w3.heap.size := by omega
    replace Cr0 := keepC k3 (by omega) Cr0
    replace Cr1 := keepC k3 (by omega) Cr1
    replace Cr2 := keepC k3 (by omega) Cr2
    have tCr : w.heap.size + 1 + 1 < w3.heap.size := by omega
    replace Cv0 := keepC k3 (by omega) Cv0
    replace Cv1 := keepC k3 (by omega) Cv1
    have tCv : w.heap.size + 1 + 1 + 1 < w3.heap.size := by omega
    replace Cu0 := keepC k3 (by omega) Cu0
    replace Cu1 := keepC k3 (by omega) Cu1
    have tCu : w.heap.size + 1 + 1 + 1 + 1 < w3.heap.size := by omega
    rw [rq]
    go_wp2_with fail
    refine (Right_any b c d _).mono ?_
    rintro e w4 ⟨rfl, hb4⟩
    have sz4 := hb4.size
    try simp at sz4
    have k4 : Below w3.heap.size w3 w4 := Below.trans (by go_grown) (hb4.mono (by (first | (simp; done) | (simp; omega))))
    have h0w4 : Below w.heap.size w w4 := h0w3.trans (k4.mono h0w3.size)
    replace Cp0 := keepC k4 (by omega) Cp0
    replace Cp1 := keepC k4 (by omega) Cp1
    replace Cp2 := keepC k4 (by omega) Cp2
    have tCp : w.heap.size < w4.heap.size := by omega
    replace Cq0 := keepC k4 (by omega) Cq0
    replace Cq1 := keepC k4 (by omega) Cq1
    replace Cq2 := keepC k4 (by omega) Cq2
    have tCq : w.heap.size + 1 < w4.heap.size := by omega
    replace Cr0 := keepC k4 (by omega) Cr0
    replace Cr1 := keepC k4 (by omega) Cr1
    replace Cr2 := keepC k4 (by omega) Cr2
    have tCr : w.heap.size + 1 + 1 < w4.heap.size := by omega
    replace Cv0 := keepC k4 (by omega) Cv0
    replace Cv1 := keepC k4 (by omega) Cv1
    have tCv : w.heap.size + 1 + 1 + 1 < w4.heap.size := by omega
    replace Cu0 := keepC k4 (by omega) Cu0
    replace Cu1 := keepC k4 (by omega) Cu1
    have tCu : w.heap.size + 1 + 1 + 1 + 1 < w4.heap.size := by omega
    rw [rr]
    go_wp2_with fail
    refine (Between_any l a o l' a' o' _ ((ht.step h0w4).step (by go_grown))).mono ?_
    rintro e w5 ⟨rfl, hb5⟩
    have sz5 := hb5.size
    try simp at sz5
    have k5 : Below w4.heap.size w4 w5 := Below.trans (by go_grown) (hb5.mono (by (first | (simp; done) | (simp; omega))))
    have h0w5 : Below w.heap.size w w5 := h0w4.trans (k5.mono h0w4.size)
    replace Cp0 := keepC k5 (by omega) Cp0
    replace Cp1 := keepC k5 (by omega) Cp1
    replace Cp2 := keepC k5 (by omega) Cp2
    have tCp : w.heap.size < w5.heap.size := by omega
    replace Cq0 := keepC k5 (by omega) Cq0
    replace Cq1 := keepC k5 (by omega) Cq1
    replace Cq2 := keepC k5 (by omega) Cq2
    have tCq : w.heap.size + 1 < w5.heap.size := by omega
    replace Cr0 := keepC k5 (by omega) Cr0
    replace Cr1 := keepC k5 (by omega) Cr1
    replace Cr2 := keepC k5 (by omega) Cr2
    have tCr : w.heap.size + 1 + 1 < w5.heap.size := by omega
    replace Cv0 := keepC k5 (by omega) Cv0
    replace Cv1 := keepC k5 (by omega) Cv1
    have tCv : w.heap.size + 1 + 1 + 1 < w5.heap.size := by omega
    replace Cu0 := keepC k5 (by omega) Cu0
    replace Cu1 := keepC k5 (by omega) Cu1
    have tCu : w.heap.size + 1 + 1 + 1 + 1 < w5.heap.size := by omega
    rw [a0, a1, a2]
    go_wp2_with fail
    refine (Between_any l' a' o' b c d _ ((ht.step h0w5).step (by go_grown))).mono ?_
    rintro e w6 ⟨rfl, hb6⟩
    have sz6 := hb6.size
    try simp at sz6
    have k6 : Below w5.heap.size w5 w6 := Below.trans (by go_grown) (hb6.mono (by (first | (simp; done) | (simp; omega))))
    have h0w6 : Below w.heap.size w w6 := h0w5.trans (k6.mono h0w5.size)
    replace Cp0 := keepC k6 (by omega) Cp0
    replace Cp1 := keepC k6 (by omega) Cp1
    replace Cp2 := keepC k6 (by omega) Cp2
    have tCp : w.heap.size < w6.heap.size := by omega
    replace Cq0 := keepC k6 (by omega) Cq0
    replace Cq1 := keepC k6 (by omega) Cq1
    replace Cq2 := keepC k6 (by omega) Cq2
    have tCq : w.heap.size + 1 < w6.heap.size := by omega
    replace Cr0 := keepC k6 (by omega) Cr0
    replace Cr1 := keepC k6 (by omega) Cr1
    replace Cr2 := keepC k6 (by omega) Cr2
    have tCr : w.heap.size + 1 + 1 < w6.heap.size := by omega
    replace Cv0 := keepC k6 (by omega) Cv0
    replace Cv1 := keepC k6 (by omega) Cv1
    have tCv : w.heap.size + 1 + 1 + 1 < w6.heap.size := by omega
    replace Cu0 := keepC k6 (by omega) Cu0
    replace Cu1 := keepC k6 (by omega) Cu1
    have tCu : w.heap.size + 1 + 1 + 1 + 1 < w6.heap.size := by omega
    have Ca0 : w6.cell? ⟨w5.heap.size, 0, none⟩ = some (.int .i64 (M.st l' o' - M.st l o)) := keepC hb6 (by (first | (simp; done) | (simp; omega))) (by simp [go_sem])
    have Ca1 : w6.cell? ⟨w5.heap.size, 1, none⟩ = some (.int .i64 (M.hv l' a' o' - M.hv l a o)) := keepC hb6 (by (first | (simp; done) | (simp; omega))) (by simp [go_sem])
    have tCa : w5.heap.size < w6.heap.size := by omega
    rw [b0, b1, b2]
    go_wp2_with fail
    refine (Between_any l a o b c d _ ((ht.step h0w6).step (by go_grown))).mono ?_
    rintro e w7 ⟨rfl, hb7⟩
    have sz7 := hb7.size
    try simp at sz7
    have k7 : Below w6.heap.size w6 w7 := Below.trans (by go_grown) (hb7.mono (by (first | (simp; done) | (simp; omega))))
    have h0w7 : Below w.heap.size w w7 := h0w6.trans (k7.mono h0w6.size)
    replace Cp0 := keepC k7 (by omega) Cp0
    replace Cp1 := keepC k7 (by omega) Cp1
    replace Cp2 := keepC k7 (by omega) Cp2
    have tCp : w.heap.size < w7.heap.size := by omega
    replace Cq0 := keepC k7 (by omega) Cq0
    replace Cq1 := keepC k7 (by omega) Cq1
    replace Cq2 := keepC k7 (by omega) Cq2
    have tCq : w.heap.size + 1 < w7.heap.size := by omega
    replace Cr0 := keepC k7 (by omega) Cr0
    replace Cr1 := keepC k7 (by omega) Cr1
    replace Cr2 := keepC k7 (by omega) Cr2
    have tCr : w.heap.size + 1 + 1 < w7.heap.size := by omega
    replace Cv0 := keepC k7 (by omega) Cv0
    replace Cv1 := keepC k7 (by omega) Cv1
    have tCv : w.heap.size + 1 + 1 + 1 < w7.heap.size := by omega
    replace Cu0 := keepC k7 (by omega) Cu0
    replace Cu1 := keepC k7 (by omega) Cu1
    have tCu : w.heap.size + 1 + 1 + 1 + 1 < w7.heap.size := by omega
    replace Ca0 := keepC k7 (by omega) Ca0
    replace Ca1 := keepC k7 (by omega) Ca1
    have tCa : w5.heap.size < w7.heap.size := by omega
    have Cb0 : w7.cell? ⟨w6.heap.size, 0, none⟩ = some (.int .i64 (M.st b d - M.st l' o')) := keepC hb7 (by (first | (simp; done) | (simp; omega))) (by simp [go_sem])
    have Cb1 : w7.cell? ⟨w6.heap.size, 1, none⟩ = some (.int .i64 (M.hv b c d - M.hv l' a' o')) := keepC hb7 (by (first | (simp; done) | (simp; omega))) (by simp [go_sem])
    have tCb : w6.heap.size < w7.heap.size := by omega
    rw [c0, c1, c2]
    go_wp2_with fail
    refine (Move_any l a o (M.st l' o' - M.st l o) (M.hv l' a' o' - M.hv l a o) _ ((ht.step h0w7).step (by go_grown))).mono ?_
    rintro e w8 ⟨rfl, hb8⟩
    have sz8 := hb8.size
    try simp at sz8
    have k8 : Below w7.heap.size w7 w8 := Below.trans (by go_grown) (hb8.mono (by (first | (simp; done) | (simp; omega))))
    have h0w8 : Below w.heap.size w w8 := h0w7.trans (k8.mono h0w7.size)
    replace Cp0 := keepC k8 (by omega) Cp0
    replace Cp1 := keepC k8 (by omega) Cp1
    replace Cp2 := keepC k8 (by omega) Cp2
    have tCp : w.heap.size < w8.heap.size := by omega
    replace Cq0 := keepC k8 (by omega) Cq0
    replace Cq1 := keepC k8 (by omega) Cq1
    replace Cq2 := keepC k8 (by omega) Cq2
    have tCq : w.heap.size + 1 < w8.heap.size := by omega
    replace Cr0 := keepC k8 (by omega) Cr0
    replace Cr1 := keepC k8 (by omega) Cr1
    replace Cr2 := keepC k8 (by omega) Cr2
    have tCr : w.heap.size + 1 + 1 < w8.heap.size := by omega
    replace Cv0 := keepC k8 (by omega) Cv0
    replace Cv1 := keepC k8 (by omega) Cv1
    have tCv : w.heap.size + 1 + 1 + 1 < w8.heap.size := by omega
    replace Cu0 := keepC k8 (by omega) Cu0
    replace Cu1 := keepC k8 (by omega) Cu1
    have tCu : w.heap.size + 1 + 1 + 1 + 1 < w8.heap.size := by omega
    replace Ca0 := keepC k8 (by omega) Ca0
    replace Ca1 := keepC k8 (by omega) Ca1
    have tCa : w5.heap.size < w8.heap.size := by omega
    replace Cb0 := keepC k8 (by omega) Cb0
    replace Cb1 := keepC k8 (by omega) Cb1
    have tCb : w6.heap.size < w8.heap.size := by omega
    have Cc0 : w8.cell? ⟨w7.heap.size, 0, none⟩ = some (.int .i64 (M.st b d - M.st l o)) := keepC hb8 (by (first | (simp; done) | (simp; omega))) (by simp [go_sem])
    have Cc1 : w8.cell? ⟨w7.heap.size, 1, none⟩ = some (.int .i64 (M.hv b c d - M.hv l a o)) := keepC hb8 (by (first | (simp; done) | (simp; omega))) (by simp [go_sem])
    have tCc : w7.heap.size < w8.heap.size := by omega
    rw [d0, d1, d2, d3]
    go_wp2_with fail
    refine (Move_any l a o 0 0 _ ((ht.step h0w8).step (by go_grown))).mono ?_
    rintro e w9 ⟨rfl, hb9⟩
    have sz9 := hb9.size
    try simp at sz9
    have k9 : Below w8.heap.size w8 w9 := Below.trans (by go_grown) (hb9.mono (by (first | (simp; done) | (simp; omega))))
    have h0w9 : Below w.heap.size w w9 := h0w8.trans (k9.mono h0w8.size)
    replace Cp0 := keepC k9 (by omega) Cp0
    replace Cp1 := keepC k9 (by omega) Cp1
    replace Cp2 := keepC k9 (by omega) Cp2
    have tCp : w.heap.size < w9.heap.size := by omega
    replace Cq0 := keepC k9 (by omega) Cq0
    replace Cq1 := keepC k9 (by omega) Cq1
    replace Cq2 := keepC k9 (by omega) Cq2
    have tCq : w.heap.size + 1 < w9.heap.size := by omega
    replace Cr0 := keepC k9 (by omega) Cr0
    replace Cr1 := keepC k9 (by omega) Cr1
    replace Cr2 := keepC k9 (by omega) Cr2
    have tCr : w.heap.size + 1 + 1 < w9.heap.size := by omega
    replace Cv0 := keepC k9 (by omega) Cv0
    replace Cv1 := keepC k9 (by omega) Cv1
    have tCv : w.heap.size + 1 + 1 + 1 < w9.heap.size := by omega
    replace Cu0 := keepC k9 (by omega) Cu0
    replace Cu1 := keepC k9 (by omega) Cu1
    have tCu : w.heap.size + 1 + 1 + 1 + 1 < w9.heap.size := by omega
    have Cd0 : w9.cell? ⟨w8.heap.size, 0, none⟩ = some (.int .i64 l') := keepC hb9 (by (first | (simp; done) | (simp; omega))) (by simp [go_sem])
    have Cd1 : w9.cell? ⟨w8.heap.size, 1, none⟩ = some (.int .i64 a') := keepC hb9 (by (first | (simp; done) | (simp; omega))) (by simp [go_sem])
    have Cd2 : w9.cell? ⟨w8.heap.size, 2, none⟩ = some (.int .i64 o') := keepC hb9 (by (first | (simp; done) | (simp; omega))) (by simp [go_sem])
    have tCd : w8.heap.size < w9.heap.size := by omega
    rw [e0, e1, e2, e3]
    go_wp2_with fail
    refine (Move_any l a o s h _ ((ht.step h0w9).step (by go_grown))).mono ?_
    rintro e w10 ⟨rfl, hb10⟩
    have sz10 := hb10.size
    try simp at sz10
    have k10 : Below w9.heap.size w9 w10 := Below.trans (by go_grown) (hb10.mono (by (first | (simp; done) | (simp; omega))))
    have h0w10 : Below w.heap.size w w10 := h0w9.trans (k10.mono h0w9.size)
    replace Cp0 := keepC k10 (by omega) Cp0
    replace Cp1 := keepC k10 (by omega) Cp1
    replace Cp2 := keepC k10 (by omega) Cp2
    have tCp : w.heap.size < w10.heap.size := by omega
    replace Cq0 := keepC k10 (by omega) Cq0
    replace Cq1 := keepC k10 (by omega) Cq1
    replace Cq2 := keepC k10 (by omega) Cq2
    have tCq : w.heap.size + 1 < w10.heap.size := by omega
    replace Cr0 := keepC k10 (by omega) Cr0
    replace Cr1 := keepC k10 (by omega) Cr1
    replace Cr2 := keepC k10 (by omega) Cr2
    have tCr : w.heap.size + 1 + 1 < w10.heap.size := by omega
    replace Cv0 := keepC k10 (by omega) Cv0
    replace Cv1 := keepC k10 (by omega) Cv1
    have tCv : w.heap.size + 1 + 1 + 1 < w10.heap.size := by omega
    replace Cu0 := keepC k10 (by omega) Cu0
    replace Cu1 := keepC k10 (by omega) Cu1
    have tCu : w.heap.size + 1 + 1 + 1 + 1 < w10.heap.size := by omega
    replace Cd0 := keepC k10 (by omega) Cd0
    replace Cd1 := keepC k10 (by omega) Cd1
    replace Cd2 := keepC k10 (by omega) Cd2
    have tCd : w8.heap.size < w10.heap.size := by omega
    have Ce0 : w10.cell? ⟨w9.heap.size, 0, none⟩ = some (.int .i64 l) := keepC hb10 (by (first | (simp; done) | (simp; omega))) (by simp [go_sem])
    have Ce1 : w10.cell? ⟨w9.heap.size, 1, none⟩ = some (.int .i64 a) := keepC hb10 (by (first | (simp; done) | (simp; omega))) (by simp [go_sem])
    have Ce2 : w10.cell? ⟨w9.heap.size, 2, none⟩ = some (.int .i64 o) := keepC hb10 (by (first | (simp; done) | (simp; omega))) (by simp [go_sem])
    have tCe : w9.heap.size < w10.heap.size := by omega
    rw [hm, hM1, hM2, hM3]
    go_wp2_with fail
    refine (Between_any l a o m1 m2 m3 _ ((ht.step h0w10).step (by go_grown))).mono ?_
    rintro e w11 ⟨rfl, hb11⟩
    have sz11 := hb11.size
    try simp at sz11
    have k11 : Below w10.heap.size w10 w11 := Below.trans (by go_grown) (hb11.mono (by (first | (simp; done) | (simp; omega))))
    have h0w11 : Below w.heap.size w w11 := h0w10.trans (k11.mono h0w10.size)
    replace Cp0 := keepC k11 (by omega) Cp0
    replace Cp1 := keepC k11 (by omega) Cp1
    replace Cp2 := keepC k11 (by omega) Cp2
    have tCp : w.heap.size < w11.heap.size := by omega
    replace Cq0 := keepC k11 (by omega) Cq0
    replace Cq1 := keepC k11 (by omega) Cq1
    replace Cq2 := keepC k11 (by omega) Cq2
    have tCq : w.heap.size + 1 < w11.heap.size := by omega
    replace Cr0 := keepC k11 (by omega) Cr0
    replace Cr1 := keepC k11 (by omega) Cr1
    replace Cr2 := keepC k11 (by omega) Cr2
    have tCr : w.heap.size + 1 + 1 < w11.heap.size := by omega
    replace Cv0 := keepC k11 (by omega) Cv0
    replace Cv1 := keepC k11 (by omega) Cv1
    have tCv : w.heap.size + 1 + 1 + 1 < w11.heap.size := by omega
    replace Cu0 := keepC k11 (by omega) Cu0
    replace Cu1 := keepC k11 (by omega) Cu1
    have tCu : w.heap.size + 1 + 1 + 1 + 1 < w11.heap.size := by omega
    replace Cd0 := keepC k11 (by omega) Cd0
    replace Cd1 := keepC k11 (by omega) Cd1
    replace Cd2 := keepC k11 (by omega) Cd2
    have tCd : w8.heap.size < w11.heap.size := by omega
    replace Ce0 := keepC k11 (by omega) Ce0
    replace Ce1 := keepC k11 (by omega) Ce1
    replace Ce2 := keepC k11 (by omega) Ce2
    have tCe : w9.heap.size < w11.heap.size := by omega
    have Cm0 : w11.cell? ⟨w10.heap.size, 0, none⟩ = some (.int .i64 m1) := keepC hb11 (by (first | (simp; done) | (simp; omega))) (by simp [go_sem])
    have Cm1 : w11.cell? ⟨w10.heap.size, 1, none⟩ = some (.int .i64 m2) := keepC hb11 (by (first | (simp; done) | (simp; omega))) (by simp [go_sem])
    have Cm2 : w11.cell? ⟨w10.heap.size, 2, none⟩ = some (.int .i64 m3) := keepC hb11 (by (first | (simp; done) | (simp; omega))) (by simp [go_sem])
    have tCm : w10.heap.size < w11.heap.size := by omega
    rw [f0, f1, f2]
    go_wp2_with fail
    refine (Move_any m1 m2 m3 s' h' _ ((ht.step h0w11).step (by go_grown))).mono ?_
    rintro e w12 ⟨rfl, hb12⟩
    have sz12 := hb12.size
    try simp at sz12
    have k12 : Below w11.heap.size w11 w12 := Below.trans (by go_grown) (hb12.mono (by (first | (simp; done) | (simp; omega))))
    have h0w12 : Below w.heap.size w w12 := h0w11.trans (k12.mono h0w11.size)
    replace Cp0 := keepC k12 (by omega) Cp0
    replace Cp1 := keepC k12 (by omega) Cp1
    replace Cp2 := keepC k12 (by omega) Cp2
    have tCp : w.heap.size < w12.heap.size := by omega
    replace Cq0 := keepC k12 (by omega) Cq0
    replace Cq1 := keepC k12 (by omega) Cq1
    replace Cq2 := keepC k12 (by omega) Cq2
    have tCq : w.heap.size + 1 < w12.heap.size := by omega
    replace Cr0 := keepC k12 (by omega) Cr0
    replace Cr1 := keepC k12 (by omega) Cr1
    replace Cr2 := keepC k12 (by omega) Cr2
    have tCr : w.heap.size + 1 + 1 < w12.heap.size := by omega
    replace Cv0 := keepC k12 (by omega) Cv0
    replace Cv1 := keepC k12 (by omega) Cv1
    have tCv : w.heap.size + 1 + 1 + 1 < w12.heap.size := by omega
    replace Cu0 := keepC k12 (by omega) Cu0
    replace Cu1 := keepC k12 (by omega) Cu1
    have tCu : w.heap.size + 1 + 1 + 1 + 1 < w12.heap.size := by omega
    replace Cm0 := keepC k12 (by omega) Cm0
    replace Cm1 := keepC k12 (by omega) Cm1
    replace Cm2 := keepC k12 (by omega) Cm2
    have tCm : w10.heap.size < w12.heap.size := by omega
    have Cf0 : w12.cell? ⟨w11.heap.size, 0, none⟩ = some (.int .i64 s) := keepC hb12 (by (first | (simp; done) | (simp; omega))) (by simp [go_sem])
    have Cf1 : w12.cell? ⟨w11.heap.size, 1, none⟩ = some (.int .i64 h) := keepC hb12 (by (first | (simp; done) | (simp; omega))) (by simp [go_sem])
    have tCf : w11.heap.size < w12.heap.size := by omega
    go_wp2_with fail
    refine (Sum_any s h s' h' _).mono ?_
    rintro e w13 ⟨rfl, hb13⟩
    have sz13 := hb13.size
    try simp at sz13
    have k13 : Below w12.heap.size w12 w13 := Below.trans (by go_grown) (hb13.mono (by (first | (simp; done) | (simp; omega))))
    have h0w13 : Below w.heap.size w w13 := h0w12.trans (k13.mono h0w12.size)
    replace Cp0 := keepC k13 (by omega) Cp0
    replace Cp1 := keepC k13 (by omega) Cp1
    replace Cp2 := keepC k13 (by omega) Cp2
    have tCp : w.heap.size < w13.heap.size := by omega
    replace Cq0 := keepC k13 (by omega) Cq0
    replace Cq1 := keepC k13 (by omega) Cq1
    replace Cq2 := keepC k13 (by omega) Cq2
    have tCq : w.heap.size + 1 < w13.heap.size := by omega
    replace Cr0 := keepC k13 (by omega) Cr0
    replace Cr1 := keepC k13 (by omega) Cr1
    replace Cr2 := keepC k13 (by omega) Cr2
    have tCr : w.heap.size + 1 + 1 < w13.heap.size := by omega
    replace Cv0 := keepC k13 (by omega) Cv0
    replace Cv1 := keepC k13 (by omega) Cv1
    have tCv : w.heap.size + 1 + 1 + 1 < w13.heap.size := by omega
    replace Cu0 := keepC k13 (by omega) Cu0
    replace Cu1 := keepC k13 (by omega) Cu1
    have tCu : w.heap.size + 1 + 1 + 1 + 1 < w13.heap.size := by omega
    replace Cm0 := keepC k13 (by omega) Cm0
    replace Cm1 := keepC k13 (by omega) Cm1
    replace Cm2 := keepC k13 (by omega) Cm2
    have tCm : w10.heap.size < w13.heap.size := by omega
    replace Cf0 := keepC k13 (by omega) Cf0
    replace Cf1 := keepC k13 (by omega) Cf1
    have tCf : w11.heap.size < w13.heap.size := by omega
    have Cy0 : w13.cell? ⟨w12.heap.size, 0, none⟩ = some (.int .i64 (M.ml m1 m2 m3 s' h')) := keepC hb13 (by (first | (simp; done) | (simp; omega))) (by simp [go_sem])
    have Cy1 : w13.cell? ⟨w12.heap.size, 1, none⟩ = some (.int .i64 (M.ma m1 m2 m3 s' h')) := keepC hb13 (by (first | (simp; done) | (simp; omega))) (by simp [go_sem])
    have Cy2 : w13.cell? ⟨w12.heap.size, 2, none⟩ = some (.int .i64 (M.mo m1 m2 m3 s' h')) := keepC hb13 (by (first | (simp; done) | (simp; omega))) (by simp [go_sem])
    have tCy : w12.heap.size < w13.heap.size := by omega
    go_wp2_with fail
    go_ret
    exact ⟨rfl, Below.trans h0w13 (Below.mono (by go_grown) h0w13.size)⟩
  obtain ⟨_, ij, ik, g1, g2⟩ := M.sum_ok hS
  obtain ⟨i1, i2, i3, i4⟩ := M.mk_sum rp rm ij ik em1 em2
  go_enter Tryd.func4, Tryd.ntmps4
  go_wp2_with fail
  refine (alive_any _ (ht.step (by go_grown))).mono ?_
  rintro e w1 ⟨rfl, hb1⟩
  have sz1 := hb1.size
  try simp at sz1
  have k1 : Below w.heap.size w w1 := Below.trans (by go_grown) (hb1.mono (by (first | (simp; done) | (simp; omega))))
  have h0w1 : Below w.heap.size w w1 := k1
  have Cp0 : w1.cell? ⟨w.heap.size, 0, none⟩ = some (.int .i64 l) := keepC hb1 (by (first | (simp; done) | (simp; omega))) (by simp [go_sem])
  have Cp1 : w1.cell? ⟨w.heap.size, 1, none⟩ = some (.int .i64 a) := keepC hb1 (by (first | (simp; done) | (simp; omega))) (by simp [go_sem])
  have Cp2 : w1.cell? ⟨w.heap.size, 2, none⟩ = some (.int .i64 o) := keepC hb1 (by (first | (simp; done) | (simp; omega))) (by simp [go_sem])
  have tCp : w.heap.size < w1.heap.size := by omega
  have Cq0 : w1.cell? ⟨w.heap.size + 1, 0, none⟩ = some (.int .i64 l') := keepC hb1 (by (first | (simp; done) | (simp; omega))) (by simp [go_sem])
  have Cq1 : w1.cell? ⟨w.heap.size + 1, 1, none⟩ = some (.int .i64 a') := keepC hb1 (by (first | (simp; done) | (simp; omega))) (by simp [go_sem])
  have Cq2 : w1.cell? ⟨w.heap.size + 1, 2, none⟩ = some (.int .i64 o') := keepC hb1 (by (first | (simp; done) | (simp; omega))) (by simp [go_sem])
  have tCq : w.heap.size + 1 < w1.heap.size := by omega
  have Cr0 : w1.cell? ⟨w.heap.size + 1 + 1, 0, none⟩ = some (.int .i64 b) := keepC hb1 (by (first | (simp; done) | (simp; omega))) (by simp [go_sem])
  have Cr1 : w1.cell? ⟨w.heap.size + 1 + 1, 1, none⟩ = some (.int .i64 c) := keepC hb1 (by (first | (simp; done) | (simp; omega))) (by simp [go_sem])
  have Cr2 : w1.cell? ⟨w.heap.size + 1 + 1, 2, none⟩ = some (.int .i64 d) := keepC hb1 (by (first | (simp; done) | (simp; omega))) (by simp [go_sem])
  have tCr : w.heap.size + 1 + 1 < w1.heap.size := by omega
  have Cv0 : w1.cell? ⟨w.heap.size + 1 + 1 + 1, 0, none⟩ = some (.int .i64 s) := keepC hb1 (by (first | (simp; done) | (simp; omega))) (by simp [go_sem])
  have Cv1 : w1.cell? ⟨w.heap.size + 1 + 1 + 1, 1, none⟩ = some (.int .i64 h) := keepC hb1 (by (first | (simp; done) | (simp; omega))) (by simp [go_sem])
  have tCv : w.heap.size + 1 + 1 + 1 < w1.heap.size := by omega
  have Cu0 : w1.cell? ⟨w.heap.size + 1 + 1 + 1 + 1, 0, none⟩ = some (.int .i64 s') := keepC hb1 (by (first | (simp; done) | (simp; omega))) (by simp [go_sem])
  have Cu1 : w1.cell? ⟨w.heap.size + 1 + 1 + 1 + 1, 1, none⟩ = some (.int .i64 h') := keepC hb1 (by (first | (simp; done) | (simp; omega))) (by simp [go_sem])
  have tCu : w.heap.size + 1 + 1 + 1 + 1 < w1.heap.size := by omega
  go_wp2_with fail
  refine (Right_any l a o _).mono ?_
  rintro e w2 ⟨rfl, hb2⟩
  have sz2 := hb2.size
  try simp at sz2
  have k2 : Below w1.heap.size w1 w2 := Below.trans (by go_grown) (hb2.mono (by (first | (simp; done) | (simp; omega))))
  have h0w2 : Below w.heap.size w w2 := h0w1.trans (k2.mono h0w1.size)
  replace Cp0 := keepC k2 (by omega) Cp0
  replace Cp1 := keepC k2 (by omega) Cp1
  replace Cp2 := keepC k2 (by omega) Cp2
  have tCp : w.heap.size < w2.heap.size := by omega
  replace Cq0 := keepC k2 (by omega) Cq0
  replace Cq1 := keepC k2 (by omega) Cq1
  replace Cq2 := keepC k2 (by omega) Cq2
  have tCq : w.heap.size + 1 < w2.heap.size := by omega
  replace Cr0 := keepC k2 (by omega) Cr0
  replace Cr1 := keepC k2 (by omega) Cr1
  replace Cr2 := keepC k2 (by omega) Cr2
  have tCr : w.heap.size + 1 + 1 < w2.heap.size := by omega
  replace Cv0 := keepC k2 (by omega) Cv0
  replace Cv1 := keepC k2 (by omega) Cv1
  have tCv : w.heap.size + 1 + 1 + 1 < w2.heap.size := by omega
  replace Cu0 := keepC k2 (by omega) Cu0
  replace Cu1 := keepC k2 (by omega) Cu1
  have tCu : w.heap.size + 1 + 1 + 1 + 1 < w2.heap.size := by omega
  rw [rp]
  go_wp2_with fail
  refine (Right_any l' a' o' _).mono ?_
  rintro e w3 ⟨rfl, hb3⟩
  have sz3 := hb3.size
  try simp at sz3
  have k3 : Below w2.heap.size w2 w3 := Below.trans (by go_grown) (hb3.mono (by (first | (simp; done) | (simp; omega))))
  have h0w3 : Below w.heap.size w w3 := h0w2.trans (k3.mono h0w2.size)
  replace Cp0 := keepC k3 (by omega) Cp0
  replace Cp1 := keepC k3 (by omega) Cp1
  replace Cp2 := keepC k3 (by omega) Cp2
  have tCp : w.heap.size < w3.heap.size := by omega
  replace Cq0 := keepC k3 (by omega) Cq0
  replace Cq1 := keepC k3 (by omega) Cq1
  replace Cq2 := keepC k3 (by omega) Cq2
  have tCq : w.heap.size + 1 < w3.heap.size := by omega
  replace Cr0 := keepC k3 (by omega) Cr0
  replace Cr1 := keepC k3 (by omega) Cr1
  replace Cr2 := keepC k3 (by omega) Cr2
  have tCr : w.heap.size + 1 + 1 < w3.heap.size := by omega
  replace Cv0 := keepC k3 (by omega) Cv0
  replace Cv1 := keepC k3 (by omega) Cv1
  have tCv : w.heap.size + 1 + 1 + 1 < w3.heap.size := by omega
  replace Cu0 := keepC k3 (by omega) Cu0
  replace Cu1 := keepC k3 (by omega) Cu1
  have tCu : w.heap.size + 1 + 1 + 1 + 1 < w3.heap.size := by omega
  rw [rq]
  go_wp2_with fail
  refine (Right_any b c d _).mono ?_
  rintro e w4 ⟨rfl, hb4⟩
  have sz4 := hb4.size
  try simp at sz4
  have k4 : Below w3.heap.size w3 w4 := Below.trans (by go_grown) (hb4.mono (by (first | (simp; done) | (simp; omega))))
  have h0w4 : Below w.heap.size w w4 := h0w3.trans (k4.mono h0w3.size)
  replace Cp0 := keepC k4 (by omega) Cp0
  replace Cp1 := keepC k4 (by omega) Cp1
  replace Cp2 := keepC k4 (by omega) Cp2
  have tCp : w.heap.size < w4.heap.size := by omega
  replace Cq0 := keepC k4 (by omega) Cq0
  replace Cq1 := keepC k4 (by omega) Cq1
  replace Cq2 := keepC k4 (by omega) Cq2
  have tCq : w.heap.size + 1 < w4.heap.size := by omega
  replace Cr0 := keepC k4 (by omega) Cr0
  replace Cr1 := keepC k4 (by omega) Cr1
  replace Cr2 := keepC k4 (by omega) Cr2
  have tCr : w.heap.size + 1 + 1 < w4.heap.size := by omega
  replace Cv0 := keepC k4 (by omega) Cv0
  replace Cv1 := keepC k4 (by omega) Cv1
  have tCv : w.heap.size + 1 + 1 + 1 < w4.heap.size := by omega
  replace Cu0 := keepC k4 (by omega) Cu0
  replace Cu1 := keepC k4 (by omega) Cu1
  have tCu : w.heap.size + 1 + 1 + 1 + 1 < w4.heap.size := by omega
  rw [rr]
  go_wp2_with fail
  refine (Between_any l a o l' a' o' _ ((ht.step h0w4).step (by go_grown))).mono ?_
  rintro e w5 ⟨rfl, hb5⟩
  have sz5 := hb5.size
  try simp at sz5
  have k5 : Below w4.heap.size w4 w5 := Below.trans (by go_grown) (hb5.mono (by (first | (simp; done) | (simp; omega))))
  have h0w5 : Below w.heap.size w w5 := h0w4.trans (k5.mono h0w4.size)
  replace Cp0 := keepC k5 (by omega) Cp0
  replace Cp1 := keepC k5 (by omega) Cp1
  replace Cp2 := keepC k5 (by omega) Cp2
  have tCp : w.heap.size < w5.heap.size := by omega
  replace Cq0 := keepC k5 (by omega) Cq0
  replace Cq1 := keepC k5 (by omega) Cq1
  replace Cq2 := keepC k5 (by omega) Cq2
  have tCq : w.heap.size + 1 < w5.heap.size := by omega
  replace Cr0 := keepC k5 (by omega) Cr0
  replace Cr1 := keepC k5 (by omega) Cr1
  replace Cr2 := keepC k5 (by omega) Cr2
  have tCr : w.heap.size + 1 + 1 < w5.heap.size := by omega
  replace Cv0 := keepC k5 (by omega) Cv0
  replace Cv1 := keepC k5 (by omega) Cv1
  have tCv : w.heap.size + 1 + 1 + 1 < w5.heap.size := by omega
  replace Cu0 := keepC k5 (by omega) Cu0
  replace Cu1 := keepC k5 (by omega) Cu1
  have tCu : w.heap.size + 1 + 1 + 1 + 1 < w5.heap.size := by omega
  rw [a0, a1, a2]
  go_wp2_with fail
  refine (Between_any l' a' o' b c d _ ((ht.step h0w5).step (by go_grown))).mono ?_
  rintro e w6 ⟨rfl, hb6⟩
  have sz6 := hb6.size
  try simp at sz6
  have k6 : Below w5.heap.size w5 w6 := Below.trans (by go_grown) (hb6.mono (by (first | (simp; done) | (simp; omega))))
  have h0w6 : Below w.heap.size w w6 := h0w5.trans (k6.mono h0w5.size)
  replace Cp0 := keepC k6 (by omega) Cp0
  replace Cp1 := keepC k6 (by omega) Cp1
  replace Cp2 := keepC k6 (by omega) Cp2
  have tCp : w.heap.size < w6.heap.size := by omega
  replace Cq0 := keepC k6 (by omega) Cq0
  replace Cq1 := keepC k6 (by omega) Cq1
  replace Cq2 := keepC k6 (by omega) Cq2
  have tCq : w.heap.size + 1 < w6.heap.size := by omega
  replace Cr0 := keepC k6 (by omega) Cr0
  replace Cr1 := keepC k6 (by omega) Cr1
  replace Cr2 := keepC k6 (by omega) Cr2
  have tCr : w.heap.size + 1 + 1 < w6.heap.size := by omega
  replace Cv0 := keepC k6 (by omega) Cv0
  replace Cv1 := keepC k6 (by omega) Cv1
  have tCv : w.heap.size + 1 + 1 + 1 < w6.heap.size := by omega
  replace Cu0 := keepC k6 (by omega) Cu0
  replace Cu1 := keepC k6 (by omega) Cu1
  have tCu : w.heap.size + 1 + 1 + 1 + 1 < w6.heap.size := by omega
  have Ca0 : w6.cell? ⟨w5.heap.size, 0, none⟩ = some (.int .i64 (M.st l' o' - M.st l o)) := keepC hb6 (by (first | (simp; done) | (simp; omega))) (by simp [go_sem])
  have Ca1 : w6.cell? ⟨w5.heap.size, 1, none⟩ = some (.int .i64 (M.hv l' a' o' - M.hv l a o)) := keepC hb6 (by (first | (simp; done) | (simp; omega))) (by simp [go_sem])
  have tCa : w5.heap.size < w6.heap.size := by omega
  rw [b0, b1, b2]
  go_wp2_with fail
  refine (Between_any l a o b c d _ ((ht.step h0w6).step (by go_grown))).mono ?_
  rintro e w7 ⟨rfl, hb7⟩
  have sz7 := hb7.size
  try simp at sz7
  have k7 : Below w6.heap.size w6 w7 := Below.trans (by go_grown) (hb7.mono (by (first | (simp; done) | (simp; omega))))
  have h0w7 : Below w.heap.size w w7 := h0w6.trans (k7.mono h0w6.size)
  replace Cp0 := keepC k7 (by omega) Cp0
  replace Cp1 := keepC k7 (by omega) Cp1
  replace Cp2 := keepC k7 (by omega) Cp2
  have tCp : w.heap.size < w7.heap.size := by omega
  replace Cq0 := keepC k7 (by omega) Cq0
  replace Cq1 := keepC k7 (by omega) Cq1
  replace Cq2 := keepC k7 (by omega) Cq2
  have tCq : w.heap.size + 1 < w7.heap.size := by omega
  replace Cr0 := keepC k7 (by omega) Cr0
  replace Cr1 := keepC k7 (by omega) Cr1
  replace Cr2 := keepC k7 (by omega) Cr2
  have tCr : w.heap.size + 1 + 1 < w7.heap.size := by omega
  replace Cv0 := keepC k7 (by omega) Cv0
  replace Cv1 := keepC k7 (by omega) Cv1
  have tCv : w.heap.size + 1 + 1 + 1 < w7.heap.size := by omega
  replace Cu0 := keepC k7 (by omega) Cu0
  replace Cu1 := keepC k7 (by omega) Cu1
  have tCu : w.heap.size + 1 + 1 + 1 + 1 < w7.heap.size := by omega
  replace Ca0 := keepC k7 (by omega) Ca0
  replace Ca1 := keepC k7 (by omega) Ca1
  have tCa : w5.heap.size < w7.heap.size := by omega
  have Cb0 : w7.cell? ⟨w6.heap.size, 0, none⟩ = some (.int .i64 (M.st b d - M.st l' o')) := keepC hb7 (by (first | (simp; done) | (simp; omega))) (by simp [go_sem])
  have Cb1 : w7.cell? ⟨w6.heap.size, 1, none⟩ = some (.int .i64 (M.hv b c d - M.hv l' a' o')) := keepC hb7 (by (first | (simp; done) | (simp; omega))) (by simp [go_sem])
  have tCb : w6.heap.size < w7.heap.size := by omega
  rw [c0, c1, c2]
  go_wp2_with fail
  refine (Move_any l a o (M.st l' o' - M.st l o) (M.hv l' a' o' - M.hv l a o) _ ((ht.step h0w7).step (by go_grown))).mono ?_
  rintro e w8 ⟨rfl, hb8⟩
  have sz8 := hb8.size
  try simp at sz8
  have k8 : Below w7.heap.size w7 w8 := Below.trans (by go_grown) (hb8.mono (by (first | (simp; done) | (simp; omega))))
  have h0w8 : Below w.heap.size w w8 := h0w7.trans (k8.mono h0w7.size)
  replace Cp0 := keepC k8 (by omega) Cp0
  replace Cp1 := keepC k8 (by omega) Cp1
  replace Cp2 := keepC k8 (by omega) Cp2
  have tCp : w.heap.size < w8.heap.size := by omega
  replace Cq0 := keepC k8 (by omega) Cq0
  replace Cq1 := keepC k8 (by omega) Cq1
  replace Cq2 := keepC k8 (by omega) Cq2
  have tCq : w.heap.size + 1 < w8.heap.size := by omega
  replace Cr0 := keepC k8 (by omega) Cr0
  replace Cr1 := keepC k8 (by omega) Cr1
  replace Cr2 := keepC k8 (by omega) Cr2
  have tCr : w.heap.size + 1 + 1 < w8.heap.size := by omega
  replace Cv0 := keepC k8 (by omega) Cv0
  replace Cv1 := keepC k8 (by omega) Cv1
  have tCv : w.heap.size + 1 + 1 + 1 < w8.heap.size := by omega
  replace Cu0 := keepC k8 (by omega) Cu0
  replace Cu1 := keepC k8 (by omega) Cu1
  have tCu : w.heap.size + 1 + 1 + 1 + 1 < w8.heap.size := by omega
  replace Ca0 := keepC k8 (by omega) Ca0
  replace Ca1 := keepC k8 (by omega) Ca1
  have tCa : w5.heap.size < w8.heap.size := by omega
  replace Cb0 := keepC k8 (by omega) Cb0
  replace Cb1 := keepC k8 (by omega) Cb1
  have tCb : w6.heap.size < w8.heap.size := by omega
  have Cc0 : w8.cell? ⟨w7.heap.size, 0, none⟩ = some (.int .i64 (M.st b d - M.st l o)) := keepC hb8 (by (first | (simp; done) | (simp; omega))) (by simp [go_sem])
  have Cc1 : w8.cell? ⟨w7.heap.size, 1, none⟩ = some (.int .i64 (M.hv b c d - M.hv l a o)) := keepC hb8 (by (first | (simp; done) | (simp; omega))) (by simp [go_sem])
  have tCc : w7.heap.size < w8.heap.size := by omega
  rw [d0, d1, d2, d3]
  go_wp2_with fail
  refine (Move_any l a o 0 0 _ ((ht.step h0w8).step (by go_grown))).mono ?_
  rintro e w9 ⟨rfl, hb9⟩
  have sz9 := hb9.size
  try simp at sz9
  have k9 : Below w8.heap.size w8 w9 := Below.trans (by go_grown) (hb9.mono (by (first | (simp; done) | (simp; omega))))
  have h0w9 : Below w.heap.size w w9 := h0w8.trans (k9.mono h0w8.size)
  replace Cp0 := keepC k9 (by omega) Cp0
  replace Cp1 := keepC k9 (by omega) Cp1
  replace Cp2 := keepC k9 (by omega) Cp2
  have tCp : w.heap.size < w9.heap.size := by omega
  replace Cq0 := keepC k9 (by omega) Cq0
  replace Cq1 := keepC k9 (by omega) Cq1
  replace Cq2 := keepC k9 (by omega) Cq2
  have tCq : w.heap.size + 1 < w9.heap.size := by omega
  replace Cr0 := keepC k9 (by omega) Cr0
  replace Cr1 := keepC k9 (by omega) Cr1
  replace Cr2 := keepC k9 (by omega) Cr2
  have tCr : w.heap.size + 1 + 1 < w9.heap.size := by omega
  replace Cv0 := keepC k9 (by omega) Cv0
  replace Cv1 := keepC k9 (by omega) Cv1
  have tCv : w.heap.size + 1 + 1 + 1 < w9.heap.size := by omega
  replace Cu0 := keepC k9 (by omega) Cu0
  replace Cu1 := keepC k9 (by omega) Cu1
  have tCu : w.heap.size + 1 + 1 + 1 + 1 < w9.heap.size := by omega
  have Cd0 : w9.cell? ⟨w8.heap.size, 0, none⟩ = some (.int .i64 l') := keepC hb9 (by (first | (simp; done) | (simp; omega))) (by simp [go_sem])
  have Cd1 : w9.cell? ⟨w8.heap.size, 1, none⟩ = some (.int .i64 a') := keepC hb9 (by (first | (simp; done) | (simp; omega))) (by simp [go_sem])
  have Cd2 : w9.cell? ⟨w8.heap.size, 2, none⟩ = some (.int .i64 o') := keepC hb9 (by (first | (simp; done) | (simp; omega))) (by simp [go_sem])
  have tCd : w8.heap.size < w9.heap.size := by omega
  rw [e0, e1, e2, e3]
  go_wp2_with fail
  refine (Move_any l a o s h _ ((ht.step h0w9).step (by go_grown))).mono ?_
  rintro e w10 ⟨rfl, hb10⟩
  have sz10 := hb10.size
  try simp at sz10
  have k10 : Below w9.heap.size w9 w10 := Below.trans (by go_grown) (hb10.mono (by (first | (simp; done) | (simp; omega))))
  have h0w10 : Below w.heap.size w w10 := h0w9.trans (k10.mono h0w9.size)
  replace Cp0 := keepC k10 (by omega) Cp0
  replace Cp1 := keepC k10 (by omega) Cp1
  replace Cp2 := keepC k10 (by omega) Cp2
  have tCp : w.heap.size < w10.heap.size := by omega
  replace Cq0 := keepC k10 (by omega) Cq0
  replace Cq1 := keepC k10 (by omega) Cq1
  replace Cq2 := keepC k10 (by omega) Cq2
  have tCq : w.heap.size + 1 < w10.heap.size := by omega
  replace Cr0 := keepC k10 (by omega) Cr0
  replace Cr1 := keepC k10 (by omega) Cr1
  replace Cr2 := keepC k10 (by omega) Cr2
  have tCr : w.heap.size + 1 + 1 < w10.heap.size := by omega
  replace Cv0 := keepC k10 (by omega) Cv0
  replace Cv1 := keepC k10 (by omega) Cv1
  have tCv : w.heap.size + 1 + 1 + 1 < w10.heap.size := by omega
  replace Cu0 := keepC k10 (by omega) Cu0
  replace Cu1 := keepC k10 (by omega) Cu1
  have tCu : w.heap.size + 1 + 1 + 1 + 1 < w10.heap.size := by omega
  replace Cd0 := keepC k10 (by omega) Cd0
  replace Cd1 := keepC k10 (by omega) Cd1
  replace Cd2 := keepC k10 (by omega) Cd2
  have tCd : w8.heap.size < w10.heap.size := by omega
  have Ce0 : w10.cell? ⟨w9.heap.size, 0, none⟩ = some (.int .i64 l) := keepC hb10 (by (first | (simp; done) | (simp; omega))) (by simp [go_sem])
  have Ce1 : w10.cell? ⟨w9.heap.size, 1, none⟩ = some (.int .i64 a) := keepC hb10 (by (first | (simp; done) | (simp; omega))) (by simp [go_sem])
  have Ce2 : w10.cell? ⟨w9.heap.size, 2, none⟩ = some (.int .i64 o) := keepC hb10 (by (first | (simp; done) | (simp; omega))) (by simp [go_sem])
  have tCe : w9.heap.size < w10.heap.size := by omega
  rw [hm, hM1, hM2, hM3]
  go_wp2_with fail
  refine (Between_any l a o m1 m2 m3 _ ((ht.step h0w10).step (by go_grown))).mono ?_
  rintro e w11 ⟨rfl, hb11⟩
  have sz11 := hb11.size
  try simp at sz11
  have k11 : Below w10.heap.size w10 w11 := Below.trans (by go_grown) (hb11.mono (by (first | (simp; done) | (simp; omega))))
  have h0w11 : Below w.heap.size w w11 := h0w10.trans (k11.mono h0w10.size)
  replace Cp0 := keepC k11 (by omega) Cp0
  replace Cp1 := keepC k11 (by omega) Cp1
  replace Cp2 := keepC k11 (by omega) Cp2
  have tCp : w.heap.size < w11.heap.size := by omega
  replace Cq0 := keepC k11 (by omega) Cq0
  replace Cq1 := keepC k11 (by omega) Cq1
  replace Cq2 := keepC k11 (by omega) Cq2
  have tCq : w.heap.size + 1 < w11.heap.size := by omega
  replace Cr0 := keepC k11 (by omega) Cr0
  replace Cr1 := keepC k11 (by omega) Cr1
  replace Cr2 := keepC k11 (by omega) Cr2
  have tCr : w.heap.size + 1 + 1 < w11.heap.size := by omega
  replace Cv0 := keepC k11 (by omega) Cv0
  replace Cv1 := keepC k11 (by omega) Cv1
  have tCv : w.heap.size + 1 + 1 + 1 < w11.heap.size := by omega
  replace Cu0 := keepC k11 (by omega) Cu0
  replace Cu1 := keepC k11 (by omega) Cu1
  have tCu : w.heap.size + 1 + 1 + 1 + 1 < w11.heap.size := by omega
  replace Cd0 := keepC k11 (by omega) Cd0
  replace Cd1 := keepC k11 (by omega) Cd1
  replace Cd2 := keepC k11 (by omega) Cd2
  have tCd : w8.heap.size < w11.heap.size := by omega
  replace Ce0 := keepC k11 (by omega) Ce0
  replace Ce1 := keepC k11 (by omega) Ce1
  replace Ce2 := keepC k11 (by omega) Ce2
  have tCe : w9.heap.size < w11.heap.size := by omega
  have Cm0 : w11.cell? ⟨w10.heap.size, 0, none⟩ = some (.int .i64 m1) := keepC hb11 (by (first | (simp; done) | (simp; omega))) (by simp [go_sem])
  have Cm1 : w11.cell? ⟨w10.heap.size, 1, none⟩ = some (.int .i64 m2) := keepC hb11 (by (first | (simp; done) | (simp; omega))) (by simp [go_sem])
  have Cm2 : w11.cell? ⟨w10.heap.size, 2, none⟩ = some (.int .i64 m3) := keepC hb11 (by (first | (simp; done) | (simp; omega))) (by simp [go_sem])
  have tCm : w10.heap.size < w11.heap.size := by omega
  rw [f0, f1, f2]
  go_wp2_with fail
  refine (Move_any m1 m2 m3 s' h' _ ((ht.step h0w11).step (by go_grown))).mono ?_
  rintro e w12 ⟨rfl, hb12⟩
  have sz12 := hb12.size
  try simp at sz12
  have k12 : Below w11.heap.size w11 w12 := Below.trans (by go_grown) (hb12.mono (by (first | (simp; done) | (simp; omega))))
  have h0w12 : Below w.heap.size w w12 := h0w11.trans (k12.mono h0w11.size)
  replace Cp0 := keepC k12 (by omega) Cp0
  replace Cp1 := keepC k12 (by omega) Cp1
  replace Cp2 := keepC k12 (by omega) Cp2
  have tCp : w.heap.size < w12.heap.size := by omega
  replace Cq0 := keepC k12 (by omega) Cq0
  replace Cq1 := keepC k12 (by omega) Cq1
  replace Cq2 := keepC k12 (by omega) Cq2
  have tCq : w.heap.size + 1 < w12.heap.size := by omega
  replace Cr0 := keepC k12 (by omega) Cr0
  replace Cr1 := keepC k12 (by omega) Cr1
  replace Cr2 := keepC k12 (by omega) Cr2
  have tCr : w.heap.size + 1 + 1 < w12.heap.size := by omega
  replace Cv0 := keepC k12 (by omega) Cv0
  replace Cv1 := keepC k12 (by omega) Cv1
  have tCv : w.heap.size + 1 + 1 + 1 < w12.heap.size := by omega
  replace Cu0 := keepC k12 (by omega) Cu0
  replace Cu1 := keepC k12 (by omega) Cu1
  have tCu : w.heap.size + 1 + 1 + 1 + 1 < w12.heap.size := by omega
  replace Cm0 := keepC k12 (by omega) Cm0
  replace Cm1 := keepC k12 (by omega) Cm1
  replace Cm2 := keepC k12 (by omega) Cm2
  have tCm : w10.heap.size < w12.heap.size := by omega
  have Cf0 : w12.cell? ⟨w11.heap.size, 0, none⟩ = some (.int .i64 s) := keepC hb12 (by (first | (simp; done) | (simp; omega))) (by simp [go_sem])
  have Cf1 : w12.cell? ⟨w11.heap.size, 1, none⟩ = some (.int .i64 h) := keepC hb12 (by (first | (simp; done) | (simp; omega))) (by simp [go_sem])
  have tCf : w11.heap.size < w12.heap.size := by omega
  go_wp2_with fail
  refine (Sum_any s h s' h' _).mono ?_
  rintro e w13 ⟨rfl, hb13⟩
  have sz13 := hb13.size
  try simp at sz13
  have k13 : Below w12.heap.size w12 w13 := Below.trans (by go_grown) (hb13.mono (by (first | (simp; done) | (simp; omega))))
  have h0w13 : Below w.heap.size w w13 := h0w12.trans (k13.mono h0w12.size)
  replace Cp0 := keepC k13 (by omega) Cp0
  replace Cp1 := keepC k13 (by omega) Cp1
  replace Cp2 := keepC k13 (by omega) Cp2
  have tCp : w.heap.size < w13.heap.size := by omega
  replace Cq0 := keepC k13 (by omega) Cq0
  replace Cq1 := keepC k13 (by omega) Cq1
  replace Cq2 := keepC k13 (by omega) Cq2
  have tCq : w.heap.size + 1 < w13.heap.size := by omega
  replace Cr0 := keepC k13 (by omega) Cr0
  replace Cr1 := keepC k13 (by omega) Cr1
  replace Cr2 := keepC k13 (by omega) Cr2
  have tCr : w.heap.size + 1 + 1 < w13.heap.size := by omega
  replace Cv0 := keepC k13 (by omega) Cv0
  replace Cv1 := keepC k13 (by omega) Cv1
  have tCv : w.heap.size + 1 + 1 + 1 < w13.heap.size := by omega
  replace Cu0 := keepC k13 (by omega) Cu0
  replace Cu1 := keepC k13 (by omega) Cu1
  have tCu : w.heap.size + 1 + 1 + 1 + 1 < w13.heap.size := by omega
  replace Cm0 := keepC k13 (by omega) Cm0
  replace Cm1 := keepC k13 (by omega) Cm1
  replace Cm2 := keepC k13 (by omega) Cm2
  have tCm : w10.heap.size < w13.heap.size := by omega
  replace Cf0 := keepC k13 (by omega) Cf0
  replace Cf1 := keepC k13 (by omega) Cf1
  have tCf : w11.heap.size < w13.heap.size := by omega
  have Cy0 : w13.cell? ⟨w12.heap.size, 0, none⟩ = some (.int .i64 (M.ml m1 m2 m3 s' h')) := keepC hb13 (by (first | (simp; done) | (simp; omega))) (by simp [go_sem])
  have Cy1 : w13.cell? ⟨w12.heap.size, 1, none⟩ = some (.int .i64 (M.ma m1 m2 m3 s' h')) := keepC hb13 (by (first | (simp; done) | (simp; omega))) (by simp [go_sem])
  have Cy2 : w13.cell? ⟨w12.heap.size, 2, none⟩ = some (.int .i64 (M.mo m1 m2 m3 s' h')) := keepC hb13 (by (first | (simp; done) | (simp; omega))) (by simp [go_sem])
  have tCy : w12.heap.size < w13.heap.size := by omega
  rw [hS, g1, g2]
  go_wp2_with fail
  refine (Move_any l a o (s + s') (h + h') _ ((ht.step h0w13).step (by go_grown))).mono ?_
  rintro e w14 ⟨rfl, hb14⟩
  have sz14 := hb14.size
  try simp at sz14
  have k14 : Below w13.heap.size w13 w14 := Below.trans (by go_grown) (hb14.mono (by (first | (simp; done) | (simp; omega))))
  have h0w14 : Below w.heap.size w w14 := h0w13.trans (k14.mono h0w13.size)
  replace Cp0 := keepC k14 (by omega) Cp0
  replace Cp1 := keepC k14 (by omega) Cp1
  replace Cp2 := keepC k14 (by omega) Cp2
  have tCp : w.heap.size < w14.heap.size := by omega
  replace Cq0 := keepC k14 (by omega) Cq0
  replace Cq1 := keepC k14 (by omega) Cq1
  replace Cq2 := keepC k14 (by omega) Cq2
  have tCq : w.heap.size + 1 < w14.heap.size := by omega
  replace Cr0 := keepC k14 (by omega) Cr0
  replace Cr1 := keepC k14 (by omega) Cr1
  replace Cr2 := keepC k14 (by omega) Cr2
  have tCr : w.heap.size + 1 + 1 < w14.heap.size := by omega
  replace Cv0 := keepC k14 (by omega) Cv0
  replace Cv1 := keepC k14 (by omega) Cv1
  have tCv : w.heap.size + 1 + 1 + 1 < w14.heap.size := by omega
  replace Cu0 := keepC k14 (by omega) Cu0
  replace Cu1 := keepC k14 (by omega) Cu1
  have tCu : w.heap.size + 1 + 1 + 1 + 1 < w14.heap.size := by omega
  replace Cm0 := keepC k14 (by omega) Cm0
  replace Cm1 := keepC k14 (by omega) Cm1
  replace Cm2 := keepC k14 (by omega) Cm2
  have tCm : w10.heap.size < w14.heap.size := by omega
  replace Cf0 := keepC k14 (by omega) Cf0
  replace Cf1 := keepC k14 (by omega) Cf1
  have tCf : w11.heap.size < w14.heap.size := by omega
  replace Cy0 := keepC k14 (by omega) Cy0
  replace Cy1 := keepC k14 (by omega) Cy1
  replace Cy2 := keepC k14 (by omega) Cy2
  have tCy : w12.heap.size < w14.heap.size := by omega
  have Ck0 : w14.cell? ⟨w13.heap.size, 0, none⟩ = some (.int .i64 (s + s')) := keepC hb14 (by (first | (simp; done) | (simp; omega))) (by simp [go_sem])
  have Ck1 : w14.cell? ⟨w13.heap.size, 1, none⟩ = some (.int .i64 (h + h')) := keepC hb14 (by (first | (simp; done) | (simp; omega))) (by simp [go_sem])
  have tCk : w13.heap.size < w14.heap.size := by omega
  rw [i1, i2, i3, i4]
  go_wp2_with fail
  go_ret
  exact ⟨rfl, Below.trans h0w14 (Below.mono (by go_grown) h0w14.size)⟩

end Go.Proofs.YtchifnaafboefabDoor
