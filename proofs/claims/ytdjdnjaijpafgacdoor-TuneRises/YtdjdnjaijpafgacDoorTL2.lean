/- The statement TuneRises: the walk of its text. -/
import Derived.Test.YtdjdnjaijpafgacDoorT4
import Derived.Test.YtdjdnjaijpafgacDoorT2
namespace Go.Proofs.YtdjdnjaijpafgacDoor
open Go.RowKit
attribute [local go_sem ↓] Go.wp_at_zero Go.wp_at_succ
set_option linter.unusedVariables false
set_option linter.unusedSimpArgs false

theorem M.hv_up (l a o : Int) : M.hv l a (o + 1) - 57 = M.hv l a o - 57 + 12 := by unfold M.hv; omega

set_option maxHeartbeats 4000000 in
theorem rises_walk (l a o l' a' o' : Int) (x : Nat) (w : World) (ht : Tab w) (hT : Twl w) (hx : x < 18446744073709551616) :
    Calls Tryd.prog 5 #[.agg #[.int .i64 l, .int .i64 a, .int .i64 o], .agg #[.int .i64 l', .int .i64 a', .int .i64 o'], .float .f64 x] w fun e w' => e = .returned (.bool true) ∧ Below w.heap.size w w' := by
  cases rp : M.rt l a o
  case false =>
    obtain ⟨p1, p2⟩ := M.h_form (x := x) rp
    go_enter Tryd.func5, Tryd.ntmps5
    go_wp2_with fail
    refine (F.alive_any _).mono ?_
    rintro e w1 ⟨rfl, hb1⟩
    have sz1 := hb1.size
    try simp at sz1
    have k1 : Below w.heap.size w w1 := Below.trans (by go_grown) (hb1.mono (by (first | (simp; done) | (simp; omega))))
    have h0w1 : Below w.heap.size w w1 := k1
    have Cp0 : w1.cell? ⟨w.heap.size, 0, none⟩ = some (.int .i64 l) := keepC hb1 (by (first | (simp; done) | (simp; omega))) (by simp [go_sem])
    have Cp1 : w1.cell? ⟨w.heap.size, 1, none⟩ = some (.int .i64 a) := keepC hb1 (by (first | (simp; done) | (simp; omega))) (by simp [go_sem])
    have Cp2 : w1.cell? ⟨w.heap.size, 2, none⟩ = some (.int .i64 o) := keepC hb1 (by (first | (simp; done) | (simp; omega))) (by simp [go_sem])
    have tCp : w.heap.size < w1.heap.size := by omega
    have Cq0 : w1.cell? ⟨w.heap.size + 1, 0, none⟩ = some (.int .i64 l') := keepC hb1 (by (first | (simp; done) | (simp; omega))) (by simp [go_sem])
    have Cq1 : w1.cell? ⟨w.heap.size + 1, 1, none⟩ = some (.int .i64 a') := keepC hb1 (by (first | (simp; done) | (simp; omega))) (by simp [go_sem])
    have Cq2 : w1.cell? ⟨w.heap.size + 1, 2, none⟩ = some (.int .i64 o') := keepC hb1 (by (first | (simp; done) | (simp; omega))) (by simp [go_sem])
    have tCq : w.heap.size + 1 < w1.heap.size := by omega
    go_wp2_with fail
    refine (Hertz_any l a o x _ ((ht.step h0w1).step (by go_grown)) ((hT.step h0w1).step (by go_grown)) hx).mono ?_
    rintro e w2 ⟨rfl, hb2⟩
    have sz2 := hb2.size
    try simp at sz2
    have k2 : Below w1.heap.size w1 w2 := Below.trans (by go_grown) (hb2.mono (by (first | (simp; done) | (simp; omega))))
    have h0w2 : Below w.heap.size w w2 := h0w1.trans (k2.mono h0w1.size)
    replace Cp0 := keepC k2 (by omega) Cp0
    replace Cp1 := keepC k2 (by omega) Cp1
    replace Cp2 := keepC k2 (by omega) Cp2
    have tCp : w.heap.size < w2.heap.size := by omega
    replace Cq0 := keepC k2 (by omega) Cq0
    replace Cq1 := keepC k2 (by omega) Cq1
    replace Cq2 := keepC k2 (by omega) Cq2
    have tCq : w.heap.size + 1 < w2.heap.size := by omega
    rw [p1, p2]
    go_wp2_with fail
    go_ret
    exact ⟨rfl, Below.trans h0w2 (Below.mono (by go_grown) h0w2.size)⟩
  cases hf : M.fair x
  case false =>
    obtain ⟨p1, p2⟩ := M.h_range (x := x) rp hf
    go_enter Tryd.func5, Tryd.ntmps5
    go_wp2_with fail
    refine (F.alive_any _).mono ?_
    rintro e w1 ⟨rfl, hb1⟩
    have sz1 := hb1.size
    try simp at sz1
    have k1 : Below w.heap.size w w1 := Below.trans (by go_grown) (hb1.mono (by (first | (simp; done) | (simp; omega))))
    have h0w1 : Below w.heap.size w w1 := k1
    have Cp0 : w1.cell? ⟨w.heap.size, 0, none⟩ = some (.int .i64 l) := keepC hb1 (by (first | (simp; done) | (simp; omega))) (by simp [go_sem])
    have Cp1 : w1.cell? ⟨w.heap.size, 1, none⟩ = some (.int .i64 a) := keepC hb1 (by (first | (simp; done) | (simp; omega))) (by simp [go_sem])
    have Cp2 : w1.cell? ⟨w.heap.size, 2, none⟩ = some (.int .i64 o) := keepC hb1 (by (first | (simp; done) | (simp; omega))) (by simp [go_sem])
    have tCp : w.heap.size < w1.heap.size := by omega
    have Cq0 : w1.cell? ⟨w.heap.size + 1, 0, none⟩ = some (.int .i64 l') := keepC hb1 (by (first | (simp; done) | (simp; omega))) (by simp [go_sem])
    have Cq1 : w1.cell? ⟨w.heap.size + 1, 1, none⟩ = some (.int .i64 a') := keepC hb1 (by (first | (simp; done) | (simp; omega))) (by simp [go_sem])
    have Cq2 : w1.cell? ⟨w.heap.size + 1, 2, none⟩ = some (.int .i64 o') := keepC hb1 (by (first | (simp; done) | (simp; omega))) (by simp [go_sem])
    have tCq : w.heap.size + 1 < w1.heap.size := by omega
    go_wp2_with fail
    refine (Hertz_any l a o x _ ((ht.step h0w1).step (by go_grown)) ((hT.step h0w1).step (by go_grown)) hx).mono ?_
    rintro e w2 ⟨rfl, hb2⟩
    have sz2 := hb2.size
    try simp at sz2
    have k2 : Below w1.heap.size w1 w2 := Below.trans (by go_grown) (hb2.mono (by (first | (simp; done) | (simp; omega))))
    have h0w2 : Below w.heap.size w w2 := h0w1.trans (k2.mono h0w1.size)
    replace Cp0 := keepC k2 (by omega) Cp0
    replace Cp1 := keepC k2 (by omega) Cp1
    replace Cp2 := keepC k2 (by omega) Cp2
    have tCp : w.heap.size < w2.heap.size := by omega
    replace Cq0 := keepC k2 (by omega) Cq0
    replace Cq1 := keepC k2 (by omega) Cq1
    replace Cq2 := keepC k2 (by omega) Cq2
    have tCq : w.heap.size + 1 < w2.heap.size := by omega
    rw [p1, p2]
    go_wp2_with fail
    go_ret
    exact ⟨rfl, Below.trans h0w2 (Below.mono (by go_grown) h0w2.size)⟩
  obtain ⟨p1, p2⟩ := M.h_in (x := x) rp hf
  have hfb := M.fair_yes hf
  have bp := M.hv_bd rp
  have bo := M.rt_yes rp
  have kp := M.kn_yes rp
  have kp2 := M.ke_yes rp
  have X1 := Fl.hz_bd x (M.hv l a o - 57) hfb.1 hfb.2 (by omega) (by omega)
  have hm := fmul (Fl.twice (Fl.hz x (M.hv l a o - 57)) (by omega) (by omega))
  have hup := Fl.hz_up x (M.hv l a o - 57) hfb.1 hfb.2 (by omega) (by omega)
  have hmono := fun k h => Fl.hz_mono x (M.hv l a o - 57) k hfb.1 hfb.2 h
  have hmono' := fun k h => Fl.hz_mono x k (M.hv l a o - 57) hfb.1 hfb.2 h
  have hsame : ∀ k, M.hv l a o - 57 = k → Fl.hz x (M.hv l a o - 57) = Fl.hz x k := fun k h => by rw [h]
  have HM : Hid (∀ k, M.hv l a o - 57 ≤ k → Fl.hz x (M.hv l a o - 57) ≤ Fl.hz x k) := hmono
  have HM' : Hid (∀ k, k ≤ M.hv l a o - 57 → Fl.hz x k ≤ Fl.hz x (M.hv l a o - 57)) := hmono'
  have HE : Hid (∀ k, M.hv l a o - 57 = k → Fl.hz x (M.hv l a o - 57) = Fl.hz x k) := hsame
  clear hmono hmono' hsame
  generalize hX : Fl.hz x (M.hv l a o - 57) = X at *
  cases ru : M.rt l a (o + 1)
  case false =>
    obtain ⟨u1, u2⟩ := M.h_form (x := x) ru
    cases rq : M.rt l' a' o'
    case false =>
      obtain ⟨q1, q2⟩ := M.h_form (x := x) rq
      go_enter Tryd.func5, Tryd.ntmps5
      go_wp2_with fail
      refine (F.alive_any _).mono ?_
      rintro e w1 ⟨rfl, hb1⟩
      have sz1 := hb1.size
      try simp at sz1
      have k1 : Below w.heap.size w w1 := Below.trans (by go_grown) (hb1.mono (by (first | (simp; done) | (simp; omega))))
      have h0w1 : Below w.heap.size w w1 := k1
      have Cp0 : w1.cell? ⟨w.heap.size, 0, none⟩ = some (.int .i64 l) := keepC hb1 (by (first | (simp; done) | (simp; omega))) (by simp [go_sem])
      have Cp1 : w1.cell? ⟨w.heap.size, 1, none⟩ = some (.int .i64 a) := keepC hb1 (by (first | (simp; done) | (simp; omega))) (by simp [go_sem])
      have Cp2 : w1.cell? ⟨w.heap.size, 2, none⟩ = some (.int .i64 o) := keepC hb1 (by (first | (simp; done) | (simp; omega))) (by simp [go_sem])
      have tCp : w.heap.size < w1.heap.size := by omega
      have Cq0 : w1.cell? ⟨w.heap.size + 1, 0, none⟩ = some (.int .i64 l') := keepC hb1 (by (first | (simp; done) | (simp; omega))) (by simp [go_sem])
      have Cq1 : w1.cell? ⟨w.heap.size + 1, 1, none⟩ = some (.int .i64 a') := keepC hb1 (by (first | (simp; done) | (simp; omega))) (by simp [go_sem])
      have Cq2 : w1.cell? ⟨w.heap.size + 1, 2, none⟩ = some (.int .i64 o') := keepC hb1 (by (first | (simp; done) | (simp; omega))) (by simp [go_sem])
      have tCq : w.heap.size + 1 < w1.heap.size := by omega
      go_wp2_with fail
      refine (Hertz_any l a o x _ ((ht.step h0w1).step (by go_grown)) ((hT.step h0w1).step (by go_grown)) hx).mono ?_
      rintro e w2 ⟨rfl, hb2⟩
      have sz2 := hb2.size
      try simp at sz2
      have k2 : Below w1.heap.size w1 w2 := Below.trans (by go_grown) (hb2.mono (by (first | (simp; done) | (simp; omega))))
      have h0w2 : Below w.heap.size w w2 := h0w1.trans (k2.mono h0w1.size)
      replace Cp0 := keepC k2 (by omega) Cp0
      replace Cp1 := keepC k2 (by omega) Cp1
      replace Cp2 := keepC k2 (by omega) Cp2
      have tCp : w.heap.size < w2.heap.size := by omega
      replace Cq0 := keepC k2 (by omega) Cq0
      replace Cq1 := keepC k2 (by omega) Cq1
      replace Cq2 := keepC k2 (by omega) Cq2
      have tCq : w.heap.size + 1 < w2.heap.size := by omega
      rw [p1, p2]
      go_wp2_with fail
      refine (Hertz_any l a (o + 1) x _ ((ht.step h0w2).step (by go_grown)) ((hT.step h0w2).step (by go_grown)) hx).mono ?_
      rintro e w3 ⟨rfl, hb3⟩
      have sz3 := hb3.size
      try simp at sz3
      have k3 : Below w2.heap.size w2 w3 := Below.trans (by go_grown) (hb3.mono (by (first | (simp; done) | (simp; omega))))
      have h0w3 : Below w.heap.size w w3 := h0w2.trans (k3.mono h0w2.size)
      replace Cp0 := keepC k3 (by omega) Cp0
      replace Cp1 := keepC k3 (by omega) Cp1
      replace Cp2 := keepC k3 (by omega) Cp2
      have tCp : w.heap.size < w3.heap.size := by omega
      replace Cq0 := keepC k3 (by omega) Cq0
      replace Cq1 := keepC k3 (by omega) Cq1
      replace Cq2 := keepC k3 (by omega) Cq2
      have tCq : w.heap.size + 1 < w3.heap.size := by omega
      have Cu0 : w3.cell? ⟨w2.heap.size, 0, none⟩ = some (.int .i64 l) := keepC hb3 (by (first | (simp; done) | (simp; omega))) (by simp [go_sem])
      have Cu1 : w3.cell? ⟨w2.heap.size, 1, none⟩ = some (.int .i64 a) := keepC hb3 (by (first | (simp; done) | (simp; omega))) (by simp [go_sem])
      have Cu2 : w3.cell? ⟨w2.heap.size, 2, none⟩ = some (.int .i64 (o + 1)) := keepC hb3 (by (first | (simp; done) | (simp; omega))) (by simp [go_sem])
      have tCu : w2.heap.size < w3.heap.size := by omega
      rw [u1, u2]
      go_wp2_with fail
      refine (Hertz_any l' a' o' x _ ((ht.step h0w3).step (by go_grown)) ((hT.step h0w3).step (by go_grown)) hx).mono ?_
      rintro e w4 ⟨rfl, hb4⟩
      have sz4 := hb4.size
      try simp at sz4
      have k4 : Below w3.heap.size w3 w4 := Below.trans (by go_grown) (hb4.mono (by (first | (simp; done) | (simp; omega))))
      have h0w4 : Below w.heap.size w w4 := h0w3.trans (k4.mono h0w3.size)
      replace Cp0 := keepC k4 (by omega) Cp0
      replace Cp1 := keepC k4 (by omega) Cp1
      replace Cp2 := keepC k4 (by omega) Cp2
      have tCp : w.heap.size < w4.heap.size := by omega
      replace Cq0 := keepC k4 (by omega) Cq0
      replace Cq1 := keepC k4 (by omega) Cq1
      replace Cq2 := keepC k4 (by omega) Cq2
      have tCq : w.heap.size + 1 < w4.heap.size := by omega
      replace Cu0 := keepC k4 (by omega) Cu0
      replace Cu1 := keepC k4 (by omega) Cu1
      replace Cu2 := keepC k4 (by omega) Cu2
      have tCu : w2.heap.size < w4.heap.size := by omega
      rw [q1, q2]
      go_wp2_with fail
      refine (Right_any l' a' o' _).mono ?_
      rintro e w5 ⟨rfl, hb5⟩
      have sz5 := hb5.size
      try simp at sz5
      have k5 : Below w4.heap.size w4 w5 := Below.trans (by go_grown) (hb5.mono (by (first | (simp; done) | (simp; omega))))
      have h0w5 : Below w.heap.size w w5 := h0w4.trans (k5.mono h0w4.size)
      replace Cp0 := keepC k5 (by omega) Cp0
      replace Cp1 := keepC k5 (by omega) Cp1
      replace Cp2 := keepC k5 (by omega) Cp2
      have tCp : w.heap.size < w5.heap.size := by omega
      replace Cq0 := keepC k5 (by omega) Cq0
      replace Cq1 := keepC k5 (by omega) Cq1
      replace Cq2 := keepC k5 (by omega) Cq2
      have tCq : w.heap.size + 1 < w5.heap.size := by omega
      replace Cu0 := keepC k5 (by omega) Cu0
      replace Cu1 := keepC k5 (by omega) Cu1
      replace Cu2 := keepC k5 (by omega) Cu2
      have tCu : w2.heap.size < w5.heap.size := by omega
      rw [rq]
      go_wp2_with fail
      go_ret
      exact ⟨rfl, Below.trans h0w5 (Below.mono (by go_grown) h0w5.size)⟩
    obtain ⟨q1, q2⟩ := M.h_in (x := x) rq hf
    have bq := M.hv_bd rq
    have kq := M.kn_yes rq
    have kq2 := M.ke_yes rq
    have Y1 := Fl.hz_bd x (M.hv l' a' o' - 57) hfb.1 hfb.2 (by omega) (by omega)
    rcases Int.lt_trichotomy (M.hv l a o) (M.hv l' a' o') with hc | hc | hc
    · have hle := HM.out (M.hv l' a' o' - 57) (by omega)
      generalize hY : Fl.hz x (M.hv l' a' o' - 57) = Y at *
      have hcmp : (FloatKind.f64.format.order X Y == some .lt || FloatKind.f64.format.order X Y == some .eq) = true := Fl.le_yes X Y (by omega) hle
      have hne : (M.hv l a o + 12 == M.hv l' a' o' + 12) = false := by simp; omega
      go_enter Tryd.func5, Tryd.ntmps5
      go_wp2_with fail
      refine (F.alive_any _).mono ?_
      rintro e w1 ⟨rfl, hb1⟩
      have sz1 := hb1.size
      try simp at sz1
      have k1 : Below w.heap.size w w1 := Below.trans (by go_grown) (hb1.mono (by (first | (simp; done) | (simp; omega))))
      have h0w1 : Below w.heap.size w w1 := k1
      have Cp0 : w1.cell? ⟨w.heap.size, 0, none⟩ = some (.int .i64 l) := keepC hb1 (by (first | (simp; done) | (simp; omega))) (by simp [go_sem])
      have Cp1 : w1.cell? ⟨w.heap.size, 1, none⟩ = some (.int .i64 a) := keepC hb1 (by (first | (simp; done) | (simp; omega))) (by simp [go_sem])
      have Cp2 : w1.cell? ⟨w.heap.size, 2, none⟩ = some (.int .i64 o) := keepC hb1 (by (first | (simp; done) | (simp; omega))) (by simp [go_sem])
      have tCp : w.heap.size < w1.heap.size := by omega
      have Cq0 : w1.cell? ⟨w.heap.size + 1, 0, none⟩ = some (.int .i64 l') := keepC hb1 (by (first | (simp; done) | (simp; omega))) (by simp [go_sem])
      have Cq1 : w1.cell? ⟨w.heap.size + 1, 1, none⟩ = some (.int .i64 a') := keepC hb1 (by (first | (simp; done) | (simp; omega))) (by simp [go_sem])
      have Cq2 : w1.cell? ⟨w.heap.size + 1, 2, none⟩ = some (.int .i64 o') := keepC hb1 (by (first | (simp; done) | (simp; omega))) (by simp [go_sem])
      have tCq : w.heap.size + 1 < w1.heap.size := by omega
      go_wp2_with fail
      refine (Hertz_any l a o x _ ((ht.step h0w1).step (by go_grown)) ((hT.step h0w1).step (by go_grown)) hx).mono ?_
      rintro e w2 ⟨rfl, hb2⟩
      have sz2 := hb2.size
      try simp at sz2
      have k2 : Below w1.heap.size w1 w2 := Below.trans (by go_grown) (hb2.mono (by (first | (simp; done) | (simp; omega))))
      have h0w2 : Below w.heap.size w w2 := h0w1.trans (k2.mono h0w1.size)
      replace Cp0 := keepC k2 (by omega) Cp0
      replace Cp1 := keepC k2 (by omega) Cp1
      replace Cp2 := keepC k2 (by omega) Cp2
      have tCp : w.heap.size < w2.heap.size := by omega
      replace Cq0 := keepC k2 (by omega) Cq0
      replace Cq1 := keepC k2 (by omega) Cq1
      replace Cq2 := keepC k2 (by omega) Cq2
      have tCq : w.heap.size + 1 < w2.heap.size := by omega
      rw [p1, p2]
      go_wp2_with fail
      refine (Hertz_any l a (o + 1) x _ ((ht.step h0w2).step (by go_grown)) ((hT.step h0w2).step (by go_grown)) hx).mono ?_
      rintro e w3 ⟨rfl, hb3⟩
      have sz3 := hb3.size
      try simp at sz3
      have k3 : Below w2.heap.size w2 w3 := Below.trans (by go_grown) (hb3.mono (by (first | (simp; done) | (simp; omega))))
      have h0w3 : Below w.heap.size w w3 := h0w2.trans (k3.mono h0w2.size)
      replace Cp0 := keepC k3 (by omega) Cp0
      replace Cp1 := keepC k3 (by omega) Cp1
      replace Cp2 := keepC k3 (by omega) Cp2
      have tCp : w.heap.size < w3.heap.size := by omega
      replace Cq0 := keepC k3 (by omega) Cq0
      replace Cq1 := keepC k3 (by omega) Cq1
      replace Cq2 := keepC k3 (by omega) Cq2
      have tCq : w.heap.size + 1 < w3.heap.size := by omega
      have Cu0 : w3.cell? ⟨w2.heap.size, 0, none⟩ = some (.int .i64 l) := keepC hb3 (by (first | (simp; done) | (simp; omega))) (by simp [go_sem])
      have Cu1 : w3.cell? ⟨w2.heap.size, 1, none⟩ = some (.int .i64 a) := keepC hb3 (by (first | (simp; done) | (simp; omega))) (by simp [go_sem])
      have Cu2 : w3.cell? ⟨w2.heap.size, 2, none⟩ = some (.int .i64 (o + 1)) := keepC hb3 (by (first | (simp; done) | (simp; omega))) (by simp [go_sem])
      have tCu : w2.heap.size < w3.heap.size := by omega
      rw [u1, u2]
      go_wp2_with fail
      refine (Hertz_any l' a' o' x _ ((ht.step h0w3).step (by go_grown)) ((hT.step h0w3).step (by go_grown)) hx).mono ?_
      rintro e w4 ⟨rfl, hb4⟩
      have sz4 := hb4.size
      try simp at sz4
      have k4 : Below w3.heap.size w3 w4 := Below.trans (by go_grown) (hb4.mono (by (first | (simp; done) | (simp; omega))))
      have h0w4 : Below w.heap.size w w4 := h0w3.trans (k4.mono h0w3.size)
      replace Cp0 := keepC k4 (by omega) Cp0
      replace Cp1 := keepC k4 (by omega) Cp1
      replace Cp2 := keepC k4 (by omega) Cp2
      have tCp : w.heap.size < w4.heap.size := by omega
      replace Cq0 := keepC k4 (by omega) Cq0
      replace Cq1 := keepC k4 (by omega) Cq1
      replace Cq2 := keepC k4 (by omega) Cq2
      have tCq : w.heap.size + 1 < w4.heap.size := by omega
      replace Cu0 := keepC k4 (by omega) Cu0
      replace Cu1 := keepC k4 (by omega) Cu1
      replace Cu2 := keepC k4 (by omega) Cu2
      have tCu : w2.heap.size < w4.heap.size := by omega
      rw [q1, q2]
      go_wp2_with fail
      refine (Key_any l a o _ ((ht.step h0w4).step (by go_grown))).mono ?_
      rintro e w5 ⟨rfl, hb5⟩
      have sz5 := hb5.size
      try simp at sz5
      have k5 : Below w4.heap.size w4 w5 := Below.trans (by go_grown) (hb5.mono (by (first | (simp; done) | (simp; omega))))
      have h0w5 : Below w.heap.size w w5 := h0w4.trans (k5.mono h0w4.size)
      replace Cp0 := keepC k5 (by omega) Cp0
      replace Cp1 := keepC k5 (by omega) Cp1
      replace Cp2 := keepC k5 (by omega) Cp2
      have tCp : w.heap.size < w5.heap.size := by omega
      replace Cq0 := keepC k5 (by omega) Cq0
      replace Cq1 := keepC k5 (by omega) Cq1
      replace Cq2 := keepC k5 (by omega) Cq2
      have tCq : w.heap.size + 1 < w5.heap.size := by omega
      replace Cu0 := keepC k5 (by omega) Cu0
      replace Cu1 := keepC k5 (by omega) Cu1
      replace Cu2 := keepC k5 (by omega) Cu2
      have tCu : w2.heap.size < w5.heap.size := by omega
      rw [kp, kp2]
      go_wp2_with fail
      refine (Key_any l' a' o' _ ((ht.step h0w5).step (by go_grown))).mono ?_
      rintro e w6 ⟨rfl, hb6⟩
      have sz6 := hb6.size
      try simp at sz6
      have k6 : Below w5.heap.size w5 w6 := Below.trans (by go_grown) (hb6.mono (by (first | (simp; done) | (simp; omega))))
      have h0w6 : Below w.heap.size w w6 := h0w5.trans (k6.mono h0w5.size)
      replace Cp0 := keepC k6 (by omega) Cp0
      replace Cp1 := keepC k6 (by omega) Cp1
      replace Cp2 := keepC k6 (by omega) Cp2
      have tCp : w.heap.size < w6.heap.size := by omega
      replace Cq0 := keepC k6 (by omega) Cq0
      replace Cq1 := keepC k6 (by omega) Cq1
      replace Cq2 := keepC k6 (by omega) Cq2
      have tCq : w.heap.size + 1 < w6.heap.size := by omega
      replace Cu0 := keepC k6 (by omega) Cu0
      replace Cu1 := keepC k6 (by omega) Cu1
      replace Cu2 := keepC k6 (by omega) Cu2
      have tCu : w2.heap.size < w6.heap.size := by omega
      rw [kq, kq2]
      go_wp2_with fail
      go_ret
      exact ⟨rfl, Below.trans h0w6 (Below.mono (by go_grown) h0w6.size)⟩
    · have he := HE.out (M.hv l' a' o' - 57) (by omega)
      rw [← he] at q1
      clear he
      have hne : (M.hv l a o + 12 == M.hv l' a' o' + 12) = true := by simp; omega
      go_enter Tryd.func5, Tryd.ntmps5
      go_wp2_with fail
      refine (F.alive_any _).mono ?_
      rintro e w1 ⟨rfl, hb1⟩
      have sz1 := hb1.size
      try simp at sz1
      have k1 : Below w.heap.size w w1 := Below.trans (by go_grown) (hb1.mono (by (first | (simp; done) | (simp; omega))))
      have h0w1 : Below w.heap.size w w1 := k1
      have Cp0 : w1.cell? ⟨w.heap.size, 0, none⟩ = some (.int .i64 l) := keepC hb1 (by (first | (simp; done) | (simp; omega))) (by simp [go_sem])
      have Cp1 : w1.cell? ⟨w.heap.size, 1, none⟩ = some (.int .i64 a) := keepC hb1 (by (first | (simp; done) | (simp; omega))) (by simp [go_sem])
      have Cp2 : w1.cell? ⟨w.heap.size, 2, none⟩ = some (.int .i64 o) := keepC hb1 (by (first | (simp; done) | (simp; omega))) (by simp [go_sem])
      have tCp : w.heap.size < w1.heap.size := by omega
      have Cq0 : w1.cell? ⟨w.heap.size + 1, 0, none⟩ = some (.int .i64 l') := keepC hb1 (by (first | (simp; done) | (simp; omega))) (by simp [go_sem])
      have Cq1 : w1.cell? ⟨w.heap.size + 1, 1, none⟩ = some (.int .i64 a') := keepC hb1 (by (first | (simp; done) | (simp; omega))) (by simp [go_sem])
      have Cq2 : w1.cell? ⟨w.heap.size + 1, 2, none⟩ = some (.int .i64 o') := keepC hb1 (by (first | (simp; done) | (simp; omega))) (by simp [go_sem])
      have tCq : w.heap.size + 1 < w1.heap.size := by omega
      go_wp2_with fail
      refine (Hertz_any l a o x _ ((ht.step h0w1).step (by go_grown)) ((hT.step h0w1).step (by go_grown)) hx).mono ?_
      rintro e w2 ⟨rfl, hb2⟩
      have sz2 := hb2.size
      try simp at sz2
      have k2 : Below w1.heap.size w1 w2 := Below.trans (by go_grown) (hb2.mono (by (first | (simp; done) | (simp; omega))))
      have h0w2 : Below w.heap.size w w2 := h0w1.trans (k2.mono h0w1.size)
      replace Cp0 := keepC k2 (by omega) Cp0
      replace Cp1 := keepC k2 (by omega) Cp1
      replace Cp2 := keepC k2 (by omega) Cp2
      have tCp : w.heap.size < w2.heap.size := by omega
      replace Cq0 := keepC k2 (by omega) Cq0
      replace Cq1 := keepC k2 (by omega) Cq1
      replace Cq2 := keepC k2 (by omega) Cq2
      have tCq : w.heap.size + 1 < w2.heap.size := by omega
      rw [p1, p2]
      go_wp2_with fail
      refine (Hertz_any l a (o + 1) x _ ((ht.step h0w2).step (by go_grown)) ((hT.step h0w2).step (by go_grown)) hx).mono ?_
      rintro e w3 ⟨rfl, hb3⟩
      have sz3 := hb3.size
      try simp at sz3
      have k3 : Below w2.heap.size w2 w3 := Below.trans (by go_grown) (hb3.mono (by (first | (simp; done) | (simp; omega))))
      have h0w3 : Below w.heap.size w w3 := h0w2.trans (k3.mono h0w2.size)
      replace Cp0 := keepC k3 (by omega) Cp0
      replace Cp1 := keepC k3 (by omega) Cp1
      replace Cp2 := keepC k3 (by omega) Cp2
      have tCp : w.heap.size < w3.heap.size := by omega
      replace Cq0 := keepC k3 (by omega) Cq0
      replace Cq1 := keepC k3 (by omega) Cq1
      replace Cq2 := keepC k3 (by omega) Cq2
      have tCq : w.heap.size + 1 < w3.heap.size := by omega
      have Cu0 : w3.cell? ⟨w2.heap.size, 0, none⟩ = some (.int .i64 l) := keepC hb3 (by (first | (simp; done) | (simp; omega))) (by simp [go_sem])
      have Cu1 : w3.cell? ⟨w2.heap.size, 1, none⟩ = some (.int .i64 a) := keepC hb3 (by (first | (simp; done) | (simp; omega))) (by simp [go_sem])
      have Cu2 : w3.cell? ⟨w2.heap.size, 2, none⟩ = some (.int .i64 (o + 1)) := keepC hb3 (by (first | (simp; done) | (simp; omega))) (by simp [go_sem])
      have tCu : w2.heap.size < w3.heap.size := by omega
      rw [u1, u2]
      go_wp2_with fail
      refine (Hertz_any l' a' o' x _ ((ht.step h0w3).step (by go_grown)) ((hT.step h0w3).step (by go_grown)) hx).mono ?_
      rintro e w4 ⟨rfl, hb4⟩
      have sz4 := hb4.size
      try simp at sz4
      have k4 : Below w3.heap.size w3 w4 := Below.trans (by go_grown) (hb4.mono (by (first | (simp; done) | (simp; omega))))
      have h0w4 : Below w.heap.size w w4 := h0w3.trans (k4.mono h0w3.size)
      replace Cp0 := keepC k4 (by omega) Cp0
      replace Cp1 := keepC k4 (by omega) Cp1
      replace Cp2 := keepC k4 (by omega) Cp2
      have tCp : w.heap.size < w4.heap.size := by omega
      replace Cq0 := keepC k4 (by omega) Cq0
      replace Cq1 := keepC k4 (by omega) Cq1
      replace Cq2 := keepC k4 (by omega) Cq2
      have tCq : w.heap.size + 1 < w4.heap.size := by omega
      replace Cu0 := keepC k4 (by omega) Cu0
      replace Cu1 := keepC k4 (by omega) Cu1
      replace Cu2 := keepC k4 (by omega) Cu2
      have tCu : w2.heap.size < w4.heap.size := by omega
      rw [q1, q2]
      go_wp2_with fail
      refine (Key_any l a o _ ((ht.step h0w4).step (by go_grown))).mono ?_
      rintro e w5 ⟨rfl, hb5⟩
      have sz5 := hb5.size
      try simp at sz5
      have k5 : Below w4.heap.size w4 w5 := Below.trans (by go_grown) (hb5.mono (by (first | (simp; done) | (simp; omega))))
      have h0w5 : Below w.heap.size w w5 := h0w4.trans (k5.mono h0w4.size)
      replace Cp0 := keepC k5 (by omega) Cp0
      replace Cp1 := keepC k5 (by omega) Cp1
      replace Cp2 := keepC k5 (by omega) Cp2
      have tCp : w.heap.size < w5.heap.size := by omega
      replace Cq0 := keepC k5 (by omega) Cq0
      replace Cq1 := keepC k5 (by omega) Cq1
      replace Cq2 := keepC k5 (by omega) Cq2
      have tCq : w.heap.size + 1 < w5.heap.size := by omega
      replace Cu0 := keepC k5 (by omega) Cu0
      replace Cu1 := keepC k5 (by omega) Cu1
      replace Cu2 := keepC k5 (by omega) Cu2
      have tCu : w2.heap.size < w5.heap.size := by omega
      rw [kp, kp2]
      go_wp2_with fail
      refine (Key_any l' a' o' _ ((ht.step h0w5).step (by go_grown))).mono ?_
      rintro e w6 ⟨rfl, hb6⟩
      have sz6 := hb6.size
      try simp at sz6
      have k6 : Below w5.heap.size w5 w6 := Below.trans (by go_grown) (hb6.mono (by (first | (simp; done) | (simp; omega))))
      have h0w6 : Below w.heap.size w w6 := h0w5.trans (k6.mono h0w5.size)
      replace Cp0 := keepC k6 (by omega) Cp0
      replace Cp1 := keepC k6 (by omega) Cp1
      replace Cp2 := keepC k6 (by omega) Cp2
      have tCp : w.heap.size < w6.heap.size := by omega
      replace Cq0 := keepC k6 (by omega) Cq0
      replace Cq1 := keepC k6 (by omega) Cq1
      replace Cq2 := keepC k6 (by omega) Cq2
      have tCq : w.heap.size + 1 < w6.heap.size := by omega
      replace Cu0 := keepC k6 (by omega) Cu0
      replace Cu1 := keepC k6 (by omega) Cu1
      replace Cu2 := keepC k6 (by omega) Cu2
      have tCu : w2.heap.size < w6.heap.size := by omega
      rw [kq, kq2]
      go_wp2_with fail
      refine (Same_same _ _).mono ?_
      rintro e w7 ⟨rfl, hb7⟩
      have sz7 := hb7.size
      try simp at sz7
      have k7 : Below w6.heap.size w6 w7 := Below.trans (by go_grown) (hb7.mono (by (first | (simp; done) | (simp; omega))))
      have h0w7 : Below w.heap.size w w7 := h0w6.trans (k7.mono h0w6.size)
      replace Cp0 := keepC k7 (by omega) Cp0
      replace Cp1 := keepC k7 (by omega) Cp1
      replace Cp2 := keepC k7 (by omega) Cp2
      have tCp : w.heap.size < w7.heap.size := by omega
      replace Cq0 := keepC k7 (by omega) Cq0
      replace Cq1 := keepC k7 (by omega) Cq1
      replace Cq2 := keepC k7 (by omega) Cq2
      have tCq : w.heap.size + 1 < w7.heap.size := by omega
      replace Cu0 := keepC k7 (by omega) Cu0
      replace Cu1 := keepC k7 (by omega) Cu1
      replace Cu2 := keepC k7 (by omega) Cu2
      have tCu : w2.heap.size < w7.heap.size := by omega
      go_wp2_with fail
      go_ret
      exact ⟨rfl, Below.trans h0w7 (Below.mono (by go_grown) h0w7.size)⟩
    · have hle := HM'.out (M.hv l' a' o' - 57) (by omega)
      generalize hY : Fl.hz x (M.hv l' a' o' - 57) = Y at *
      have hcmp : (FloatKind.f64.format.order X Y == some .gt || FloatKind.f64.format.order X Y == some .eq) = true := Fl.ge_yes X Y (by omega) hle (by omega)
      have hne : (M.hv l a o + 12 == M.hv l' a' o' + 12) = false := by simp; omega
      go_enter Tryd.func5, Tryd.ntmps5
      go_wp2_with fail
      refine (F.alive_any _).mono ?_
      rintro e w1 ⟨rfl, hb1⟩
      have sz1 := hb1.size
      try simp at sz1
      have k1 : Below w.heap.size w w1 := Below.trans (by go_grown) (hb1.mono (by (first | (simp; done) | (simp; omega))))
      have h0w1 : Below w.heap.size w w1 := k1
      have Cp0 : w1.cell? ⟨w.heap.size, 0, none⟩ = some (.int .i64 l) := keepC hb1 (by (first | (simp; done) | (simp; omega))) (by simp [go_sem])
      have Cp1 : w1.cell? ⟨w.heap.size, 1, none⟩ = some (.int .i64 a) := keepC hb1 (by (first | (simp; done) | (simp; omega))) (by simp [go_sem])
      have Cp2 : w1.cell? ⟨w.heap.size, 2, none⟩ = some (.int .i64 o) := keepC hb1 (by (first | (simp; done) | (simp; omega))) (by simp [go_sem])
      have tCp : w.heap.size < w1.heap.size := by omega
      have Cq0 : w1.cell? ⟨w.heap.size + 1, 0, none⟩ = some (.int .i64 l') := keepC hb1 (by (first | (simp; done) | (simp; omega))) (by simp [go_sem])
      have Cq1 : w1.cell? ⟨w.heap.size + 1, 1, none⟩ = some (.int .i64 a') := keepC hb1 (by (first | (simp; done) | (simp; omega))) (by simp [go_sem])
      have Cq2 : w1.cell? ⟨w.heap.size + 1, 2, none⟩ = some (.int .i64 o') := keepC hb1 (by (first | (simp; done) | (simp; omega))) (by simp [go_sem])
      have tCq : w.heap.size + 1 < w1.heap.size := by omega
      go_wp2_with fail
      refine (Hertz_any l a o x _ ((ht.step h0w1).step (by go_grown)) ((hT.step h0w1).step (by go_grown)) hx).mono ?_
      rintro e w2 ⟨rfl, hb2⟩
      have sz2 := hb2.size
      try simp at sz2
      have k2 : Below w1.heap.size w1 w2 := Below.trans (by go_grown) (hb2.mono (by (first | (simp; done) | (simp; omega))))
      have h0w2 : Below w.heap.size w w2 := h0w1.trans (k2.mono h0w1.size)
      replace Cp0 := keepC k2 (by omega) Cp0
      replace Cp1 := keepC k2 (by omega) Cp1
      replace Cp2 := keepC k2 (by omega) Cp2
      have tCp : w.heap.size < w2.heap.size := by omega
      replace Cq0 := keepC k2 (by omega) Cq0
      replace Cq1 := keepC k2 (by omega) Cq1
      replace Cq2 := keepC k2 (by omega) Cq2
      have tCq : w.heap.size + 1 < w2.heap.size := by omega
      rw [p1, p2]
      go_wp2_with fail
      refine (Hertz_any l a (o + 1) x _ ((ht.step h0w2).step (by go_grown)) ((hT.step h0w2).step (by go_grown)) hx).mono ?_
      rintro e w3 ⟨rfl, hb3⟩
      have sz3 := hb3.size
      try simp at sz3
      have k3 : Below w2.heap.size w2 w3 := Below.trans (by go_grown) (hb3.mono (by (first | (simp; done) | (simp; omega))))
      have h0w3 : Below w.heap.size w w3 := h0w2.trans (k3.mono h0w2.size)
      replace Cp0 := keepC k3 (by omega) Cp0
      replace Cp1 := keepC k3 (by omega) Cp1
      replace Cp2 := keepC k3 (by omega) Cp2
      have tCp : w.heap.size < w3.heap.size := by omega
      replace Cq0 := keepC k3 (by omega) Cq0
      replace Cq1 := keepC k3 (by omega) Cq1
      replace Cq2 := keepC k3 (by omega) Cq2
      have tCq : w.heap.size + 1 < w3.heap.size := by omega
      have Cu0 : w3.cell? ⟨w2.heap.size, 0, none⟩ = some (.int .i64 l) := keepC hb3 (by (first | (simp; done) | (simp; omega))) (by simp [go_sem])
      have Cu1 : w3.cell? ⟨w2.heap.size, 1, none⟩ = some (.int .i64 a) := keepC hb3 (by (first | (simp; done) | (simp; omega))) (by simp [go_sem])
      have Cu2 : w3.cell? ⟨w2.heap.size, 2, none⟩ = some (.int .i64 (o + 1)) := keepC hb3 (by (first | (simp; done) | (simp; omega))) (by simp [go_sem])
      have tCu : w2.heap.size < w3.heap.size := by omega
      rw [u1, u2]
      go_wp2_with fail
      refine (Hertz_any l' a' o' x _ ((ht.step h0w3).step (by go_grown)) ((hT.step h0w3).step (by go_grown)) hx).mono ?_
      rintro e w4 ⟨rfl, hb4⟩
      have sz4 := hb4.size
      try simp at sz4
      have k4 : Below w3.heap.size w3 w4 := Below.trans (by go_grown) (hb4.mono (by (first | (simp; done) | (simp; omega))))
      have h0w4 : Below w.heap.size w w4 := h0w3.trans (k4.mono h0w3.size)
      replace Cp0 := keepC k4 (by omega) Cp0
      replace Cp1 := keepC k4 (by omega) Cp1
      replace Cp2 := keepC k4 (by omega) Cp2
      have tCp : w.heap.size < w4.heap.size := by omega
      replace Cq0 := keepC k4 (by omega) Cq0
      replace Cq1 := keepC k4 (by omega) Cq1
      replace Cq2 := keepC k4 (by omega) Cq2
      have tCq : w.heap.size + 1 < w4.heap.size := by omega
      replace Cu0 := keepC k4 (by omega) Cu0
      replace Cu1 := keepC k4 (by omega) Cu1
      replace Cu2 := keepC k4 (by omega) Cu2
      have tCu : w2.heap.size < w4.heap.size := by omega
      rw [q1, q2]
      go_wp2_with fail
      refine (Key_any l a o _ ((ht.step h0w4).step (by go_grown))).mono ?_
      rintro e w5 ⟨rfl, hb5⟩
      have sz5 := hb5.size
      try simp at sz5
      have k5 : Below w4.heap.size w4 w5 := Below.trans (by go_grown) (hb5.mono (by (first | (simp; done) | (simp; omega))))
      have h0w5 : Below w.heap.size w w5 := h0w4.trans (k5.mono h0w4.size)
      replace Cp0 := keepC k5 (by omega) Cp0
      replace Cp1 := keepC k5 (by omega) Cp1
      replace Cp2 := keepC k5 (by omega) Cp2
      have tCp : w.heap.size < w5.heap.size := by omega
      replace Cq0 := keepC k5 (by omega) Cq0
      replace Cq1 := keepC k5 (by omega) Cq1
      replace Cq2 := keepC k5 (by omega) Cq2
      have tCq : w.heap.size + 1 < w5.heap.size := by omega
      replace Cu0 := keepC k5 (by omega) Cu0
      replace Cu1 := keepC k5 (by omega) Cu1
      replace Cu2 := keepC k5 (by omega) Cu2
      have tCu : w2.heap.size < w5.heap.size := by omega
      rw [kp, kp2]
      go_wp2_with fail
      refine (Key_any l' a' o' _ ((ht.step h0w5).step (by go_grown))).mono ?_
      rintro e w6 ⟨rfl, hb6⟩
      have sz6 := hb6.size
      try simp at sz6
      have k6 : Below w5.heap.size w5 w6 := Below.trans (by go_grown) (hb6.mono (by (first | (simp; done) | (simp; omega))))
      have h0w6 : Below w.heap.size w w6 := h0w5.trans (k6.mono h0w5.size)
      replace Cp0 := keepC k6 (by omega) Cp0
      replace Cp1 := keepC k6 (by omega) Cp1
      replace Cp2 := keepC k6 (by omega) Cp2
      have tCp : w.heap.size < w6.heap.size := by omega
      replace Cq0 := keepC k6 (by omega) Cq0
      replace Cq1 := keepC k6 (by omega) Cq1
      replace Cq2 := keepC k6 (by omega) Cq2
      have tCq : w.heap.size + 1 < w6.heap.size := by omega
      replace Cu0 := keepC k6 (by omega) Cu0
      replace Cu1 := keepC k6 (by omega) Cu1
      replace Cu2 := keepC k6 (by omega) Cu2
      have tCu : w2.heap.size < w6.heap.size := by omega
      rw [kq, kq2]
      go_wp2_with fail
      go_ret
      exact ⟨rfl, Below.trans h0w6 (Below.mono (by go_grown) h0w6.size)⟩
  obtain ⟨u1, u2⟩ := M.h_in (x := x) ru hf
  rw [M.hv_up, hup] at u1
  cases rq : M.rt l' a' o'
  case false =>
    obtain ⟨q1, q2⟩ := M.h_form (x := x) rq
    go_enter Tryd.func5, Tryd.ntmps5
    go_wp2_with fail
    refine (F.alive_any _).mono ?_
    rintro e w1 ⟨rfl, hb1⟩
    have sz1 := hb1.size
    try simp at sz1
    have k1 : Below w.heap.size w w1 := Below.trans (by go_grown) (hb1.mono (by (first | (simp; done) | (simp; omega))))
    have h0w1 : Below w.heap.size w w1 := k1
    have Cp0 : w1.cell? ⟨w.heap.size, 0, none⟩ = some (.int .i64 l) := keepC hb1 (by (first | (simp; done) | (simp; omega))) (by simp [go_sem])
    have Cp1 : w1.cell? ⟨w.heap.size, 1, none⟩ = some (.int .i64 a) := keepC hb1 (by (first | (simp; done) | (simp; omega))) (by simp [go_sem])
    have Cp2 : w1.cell? ⟨w.heap.size, 2, none⟩ = some (.int .i64 o) := keepC hb1 (by (first | (simp; done) | (simp; omega))) (by simp [go_sem])
    have tCp : w.heap.size < w1.heap.size := by omega
    have Cq0 : w1.cell? ⟨w.heap.size + 1, 0, none⟩ = some (.int .i64 l') := keepC hb1 (by (first | (simp; done) | (simp; omega))) (by simp [go_sem])
    have Cq1 : w1.cell? ⟨w.heap.size + 1, 1, none⟩ = some (.int .i64 a') := keepC hb1 (by (first | (simp; done) | (simp; omega))) (by simp [go_sem])
    have Cq2 : w1.cell? ⟨w.heap.size + 1, 2, none⟩ = some (.int .i64 o') := keepC hb1 (by (first | (simp; done) | (simp; omega))) (by simp [go_sem])
    have tCq : w.heap.size + 1 < w1.heap.size := by omega
    go_wp2_with fail
    refine (Hertz_any l a o x _ ((ht.step h0w1).step (by go_grown)) ((hT.step h0w1).step (by go_grown)) hx).mono ?_
    rintro e w2 ⟨rfl, hb2⟩
    have sz2 := hb2.size
    try simp at sz2
    have k2 : Below w1.heap.size w1 w2 := Below.trans (by go_grown) (hb2.mono (by (first | (simp; done) | (simp; omega))))
    have h0w2 : Below w.heap.size w w2 := h0w1.trans (k2.mono h0w1.size)
    replace Cp0 := keepC k2 (by omega) Cp0
    replace Cp1 := keepC k2 (by omega) Cp1
    replace Cp2 := keepC k2 (by omega) Cp2
    have tCp : w.heap.size < w2.heap.size := by omega
    replace Cq0 := keepC k2 (by omega) Cq0
    replace Cq1 := keepC k2 (by omega) Cq1
    replace Cq2 := keepC k2 (by omega) Cq2
    have tCq : w.heap.size + 1 < w2.heap.size := by omega
    rw [p1, p2]
    go_wp2_with fail
    refine (Hertz_any l a (o + 1) x _ ((ht.step h0w2).step (by go_grown)) ((hT.step h0w2).step (by go_grown)) hx).mono ?_
    rintro e w3 ⟨rfl, hb3⟩
    have sz3 := hb3.size
    try simp at sz3
    have k3 : Below w2.heap.size w2 w3 := Below.trans (by go_grown) (hb3.mono (by (first | (simp; done) | (simp; omega))))
    have h0w3 : Below w.heap.size w w3 := h0w2.trans (k3.mono h0w2.size)
    replace Cp0 := keepC k3 (by omega) Cp0
    replace Cp1 := keepC k3 (by omega) Cp1
    replace Cp2 := keepC k3 (by omega) Cp2
    have tCp : w.heap.size < w3.heap.size := by omega
    replace Cq0 := keepC k3 (by omega) Cq0
    replace Cq1 := keepC k3 (by omega) Cq1
    replace Cq2 := keepC k3 (by omega) Cq2
    have tCq : w.heap.size + 1 < w3.heap.size := by omega
    have Cu0 : w3.cell? ⟨w2.heap.size, 0, none⟩ = some (.int .i64 l) := keepC hb3 (by (first | (simp; done) | (simp; omega))) (by simp [go_sem])
    have Cu1 : w3.cell? ⟨w2.heap.size, 1, none⟩ = some (.int .i64 a) := keepC hb3 (by (first | (simp; done) | (simp; omega))) (by simp [go_sem])
    have Cu2 : w3.cell? ⟨w2.heap.size, 2, none⟩ = some (.int .i64 (o + 1)) := keepC hb3 (by (first | (simp; done) | (simp; omega))) (by simp [go_sem])
    have tCu : w2.heap.size < w3.heap.size := by omega
    rw [u1, u2]
    go_wp2_with (simp only [hm])
    refine (Same_same _ _).mono ?_
    rintro e w4 ⟨rfl, hb4⟩
    have sz4 := hb4.size
    try simp at sz4
    have k4 : Below w3.heap.size w3 w4 := Below.trans (by go_grown) (hb4.mono (by (first | (simp; done) | (simp; omega))))
    have h0w4 : Below w.heap.size w w4 := h0w3.trans (k4.mono h0w3.size)
    replace Cp0 := keepC k4 (by omega) Cp0
    replace Cp1 := keepC k4 (by omega) Cp1
    replace Cp2 := keepC k4 (by omega) Cp2
    have tCp : w.heap.size < w4.heap.size := by omega
    replace Cq0 := keepC k4 (by omega) Cq0
    replace Cq1 := keepC k4 (by omega) Cq1
    replace Cq2 := keepC k4 (by omega) Cq2
    have tCq : w.heap.size + 1 < w4.heap.size := by omega
    replace Cu0 := keepC k4 (by omega) Cu0
    replace Cu1 := keepC k4 (by omega) Cu1
    replace Cu2 := keepC k4 (by omega) Cu2
    have tCu : w2.heap.size < w4.heap.size := by omega
    go_wp2_with fail
    refine (Hertz_any l' a' o' x _ ((ht.step h0w4).step (by go_grown)) ((hT.step h0w4).step (by go_grown)) hx).mono ?_
    rintro e w5 ⟨rfl, hb5⟩
    have sz5 := hb5.size
    try simp at sz5
    have k5 : Below w4.heap.size w4 w5 := Below.trans (by go_grown) (hb5.mono (by (first | (simp; done) | (simp; omega))))
    have h0w5 : Below w.heap.size w w5 := h0w4.trans (k5.mono h0w4.size)
    replace Cp0 := keepC k5 (by omega) Cp0
    replace Cp1 := keepC k5 (by omega) Cp1
    replace Cp2 := keepC k5 (by omega) Cp2
    have tCp : w.heap.size < w5.heap.size := by omega
    replace Cq0 := keepC k5 (by omega) Cq0
    replace Cq1 := keepC k5 (by omega) Cq1
    replace Cq2 := keepC k5 (by omega) Cq2
    have tCq : w.heap.size + 1 < w5.heap.size := by omega
    replace Cu0 := keepC k5 (by omega) Cu0
    replace Cu1 := keepC k5 (by omega) Cu1
    replace Cu2 := keepC k5 (by omega) Cu2
    have tCu : w2.heap.size < w5.heap.size := by omega
    rw [q1, q2]
    go_wp2_with fail
    refine (Right_any l' a' o' _).mono ?_
    rintro e w6 ⟨rfl, hb6⟩
    have sz6 := hb6.size
    try simp at sz6
    have k6 : Below w5.heap.size w5 w6 := Below.trans (by go_grown) (hb6.mono (by (first | (simp; done) | (simp; omega))))
    have h0w6 : Below w.heap.size w w6 := h0w5.trans (k6.mono h0w5.size)
    replace Cp0 := keepC k6 (by omega) Cp0
    replace Cp1 := keepC k6 (by omega) Cp1
    replace Cp2 := keepC k6 (by omega) Cp2
    have tCp : w.heap.size < w6.heap.size := by omega
    replace Cq0 := keepC k6 (by omega) Cq0
    replace Cq1 := keepC k6 (by omega) Cq1
    replace Cq2 := keepC k6 (by omega) Cq2
    have tCq : w.heap.size + 1 < w6.heap.size := by omega
    replace Cu0 := keepC k6 (by omega) Cu0
    replace Cu1 := keepC k6 (by omega) Cu1
    replace Cu2 := keepC k6 (by omega) Cu2
    have tCu : w2.heap.size < w6.heap.size := by omega
    rw [rq]
    go_wp2_with fail
    go_ret
    exact ⟨rfl, Below.trans h0w6 (Below.mono (by go_grown) h0w6.size)⟩
  obtain ⟨q1, q2⟩ := M.h_in (x := x) rq hf
  have bq := M.hv_bd rq
  have kq := M.kn_yes rq
  have kq2 := M.ke_yes rq
  have Y1 := Fl.hz_bd x (M.hv l' a' o' - 57) hfb.1 hfb.2 (by omega) (by omega)
  rcases Int.lt_trichotomy (M.hv l a o) (M.hv l' a' o') with hc | hc | hc
  · have hle := HM.out (M.hv l' a' o' - 57) (by omega)
    generalize hY : Fl.hz x (M.hv l' a' o' - 57) = Y at *
    have hcmp : (FloatKind.f64.format.order X Y == some .lt || FloatKind.f64.format.order X Y == some .eq) = true := Fl.le_yes X Y (by omega) hle
    have hne : (M.hv l a o + 12 == M.hv l' a' o' + 12) = false := by simp; omega
    go_enter Tryd.func5, Tryd.ntmps5
    go_wp2_with fail
    refine (F.alive_any _).mono ?_
    rintro e w1 ⟨rfl, hb1⟩
    have sz1 := hb1.size
    try simp at sz1
    have k1 : Below w.heap.size w w1 := Below.trans (by go_grown) (hb1.mono (by (first | (simp; done) | (simp; omega))))
    have h0w1 : Below w.heap.size w w1 := k1
    have Cp0 : w1.cell? ⟨w.heap.size, 0, none⟩ = some (.int .i64 l) := keepC hb1 (by (first | (simp; done) | (simp; omega))) (by simp [go_sem])
    have Cp1 : w1.cell? ⟨w.heap.size, 1, none⟩ = some (.int .i64 a) := keepC hb1 (by (first | (simp; done) | (simp; omega))) (by simp [go_sem])
    have Cp2 : w1.cell? ⟨w.heap.size, 2, none⟩ = some (.int .i64 o) := keepC hb1 (by (first | (simp; done) | (simp; omega))) (by simp [go_sem])
    have tCp : w.heap.size < w1.heap.size := by omega
    have Cq0 : w1.cell? ⟨w.heap.size + 1, 0, none⟩ = some (.int .i64 l') := keepC hb1 (by (first | (simp; done) | (simp; omega))) (by simp [go_sem])
    have Cq1 : w1.cell? ⟨w.heap.size + 1, 1, none⟩ = some (.int .i64 a') := keepC hb1 (by (first | (simp; done) | (simp; omega))) (by simp [go_sem])
    have Cq2 : w1.cell? ⟨w.heap.size + 1, 2, none⟩ = some (.int .i64 o') := keepC hb1 (by (first | (simp; done) | (simp; omega))) (by simp [go_sem])
    have tCq : w.heap.size + 1 < w1.heap.size := by omega
    go_wp2_with fail
    refine (Hertz_any l a o x _ ((ht.step h0w1).step (by go_grown)) ((hT.step h0w1).step (by go_grown)) hx).mono ?_
    rintro e w2 ⟨rfl, hb2⟩
    have sz2 := hb2.size
    try simp at sz2
    have k2 : Below w1.heap.size w1 w2 := Below.trans (by go_grown) (hb2.mono (by (first | (simp; done) | (simp; omega))))
    have h0w2 : Below w.heap.size w w2 := h0w1.trans (k2.mono h0w1.size)
    replace Cp0 := keepC k2 (by omega) Cp0
    replace Cp1 := keepC k2 (by omega) Cp1
    replace Cp2 := keepC k2 (by omega) Cp2
    have tCp : w.heap.size < w2.heap.size := by omega
    replace Cq0 := keepC k2 (by omega) Cq0
    replace Cq1 := keepC k2 (by omega) Cq1
    replace Cq2 := keepC k2 (by omega) Cq2
    have tCq : w.heap.size + 1 < w2.heap.size := by omega
    rw [p1, p2]
    go_wp2_with fail
    refine (Hertz_any l a (o + 1) x _ ((ht.step h0w2).step (by go_grown)) ((hT.step h0w2).step (by go_grown)) hx).mono ?_
    rintro e w3 ⟨rfl, hb3⟩
    have sz3 := hb3.size
    try simp at sz3
    have k3 : Below w2.heap.size w2 w3 := Below.trans (by go_grown) (hb3.mono (by (first | (simp; done) | (simp; omega))))
    have h0w3 : Below w.heap.size w w3 := h0w2.trans (k3.mono h0w2.size)
    replace Cp0 := keepC k3 (by omega) Cp0
    replace Cp1 := keepC k3 (by omega) Cp1
    replace Cp2 := keepC k3 (by omega) Cp2
    have tCp : w.heap.size < w3.heap.size := by omega
    replace Cq0 := keepC k3 (by omega) Cq0
    replace Cq1 := keepC k3 (by omega) Cq1
    replace Cq2 := keepC k3 (by omega) Cq2
    have tCq : w.heap.size + 1 < w3.heap.size := by omega
    have Cu0 : w3.cell? ⟨w2.heap.size, 0, none⟩ = some (.int .i64 l) := keepC hb3 (by (first | (simp; done) | (simp; omega))) (by simp [go_sem])
    have Cu1 : w3.cell? ⟨w2.heap.size, 1, none⟩ = some (.int .i64 a) := keepC hb3 (by (first | (simp; done) | (simp; omega))) (by simp [go_sem])
    have Cu2 : w3.cell? ⟨w2.heap.size, 2, none⟩ = some (.int .i64 (o + 1)) := keepC hb3 (by (first | (simp; done) | (simp; omega))) (by simp [go_sem])
    have tCu : w2.heap.size < w3.heap.size := by omega
    rw [u1, u2]
    go_wp2_with (simp only [hm])
    refine (Same_same _ _).mono ?_
    rintro e w4 ⟨rfl, hb4⟩
    have sz4 := hb4.size
    try simp at sz4
    have k4 : Below w3.heap.size w3 w4 := Below.trans (by go_grown) (hb4.mono (by (first | (simp; done) | (simp; omega))))
    have h0w4 : Below w.heap.size w w4 := h0w3.trans (k4.mono h0w3.size)
    replace Cp0 := keepC k4 (by omega) Cp0
    replace Cp1 := keepC k4 (by omega) Cp1
    replace Cp2 := keepC k4 (by omega) Cp2
    have tCp : w.heap.size < w4.heap.size := by omega
    replace Cq0 := keepC k4 (by omega) Cq0
    replace Cq1 := keepC k4 (by omega) Cq1
    replace Cq2 := keepC k4 (by omega) Cq2
    have tCq : w.heap.size + 1 < w4.heap.size := by omega
    replace Cu0 := keepC k4 (by omega) Cu0
    replace Cu1 := keepC k4 (by omega) Cu1
    replace Cu2 := keepC k4 (by omega) Cu2
    have tCu : w2.heap.size < w4.heap.size := by omega
    go_wp2_with fail
    refine (Hertz_any l' a' o' x _ ((ht.step h0w4).step (by go_grown)) ((hT.step h0w4).step (by go_grown)) hx).mono ?_
    rintro e w5 ⟨rfl, hb5⟩
    have sz5 := hb5.size
    try simp at sz5
    have k5 : Below w4.heap.size w4 w5 := Below.trans (by go_grown) (hb5.mono (by (first | (simp; done) | (simp; omega))))
    have h0w5 : Below w.heap.size w w5 := h0w4.trans (k5.mono h0w4.size)
    replace Cp0 := keepC k5 (by omega) Cp0
    replace Cp1 := keepC k5 (by omega) Cp1
    replace Cp2 := keepC k5 (by omega) Cp2
    have tCp : w.heap.size < w5.heap.size := by omega
    replace Cq0 := keepC k5 (by omega) Cq0
    replace Cq1 := keepC k5 (by omega) Cq1
    replace Cq2 := keepC k5 (by omega) Cq2
    have tCq : w.heap.size + 1 < w5.heap.size := by omega
    replace Cu0 := keepC k5 (by omega) Cu0
    replace Cu1 := keepC k5 (by omega) Cu1
    replace Cu2 := keepC k5 (by omega) Cu2
    have tCu : w2.heap.size < w5.heap.size := by omega
    rw [q1, q2]
    go_wp2_with fail
    refine (Key_any l a o _ ((ht.step h0w5).step (by go_grown))).mono ?_
    rintro e w6 ⟨rfl, hb6⟩
    have sz6 := hb6.size
    try simp at sz6
    have k6 : Below w5.heap.size w5 w6 := Below.trans (by go_grown) (hb6.mono (by (first | (simp; done) | (simp; omega))))
    have h0w6 : Below w.heap.size w w6 := h0w5.trans (k6.mono h0w5.size)
    replace Cp0 := keepC k6 (by omega) Cp0
    replace Cp1 := keepC k6 (by omega) Cp1
    replace Cp2 := keepC k6 (by omega) Cp2
    have tCp : w.heap.size < w6.heap.size := by omega
    replace Cq0 := keepC k6 (by omega) Cq0
    replace Cq1 := keepC k6 (by omega) Cq1
    replace Cq2 := keepC k6 (by omega) Cq2
    have tCq : w.heap.size + 1 < w6.heap.size := by omega
    replace Cu0 := keepC k6 (by omega) Cu0
    replace Cu1 := keepC k6 (by omega) Cu1
    replace Cu2 := keepC k6 (by omega) Cu2
    have tCu : w2.heap.size < w6.heap.size := by omega
    rw [kp, kp2]
    go_wp2_with fail
    refine (Key_any l' a' o' _ ((ht.step h0w6).step (by go_grown))).mono ?_
    rintro e w7 ⟨rfl, hb7⟩
    have sz7 := hb7.size
    try simp at sz7
    have k7 : Below w6.heap.size w6 w7 := Below.trans (by go_grown) (hb7.mono (by (first | (simp; done) | (simp; omega))))
    have h0w7 : Below w.heap.size w w7 := h0w6.trans (k7.mono h0w6.size)
    replace Cp0 := keepC k7 (by omega) Cp0
    replace Cp1 := keepC k7 (by omega) Cp1
    replace Cp2 := keepC k7 (by omega) Cp2
    have tCp : w.heap.size < w7.heap.size := by omega
    replace Cq0 := keepC k7 (by omega) Cq0
    replace Cq1 := keepC k7 (by omega) Cq1
    replace Cq2 := keepC k7 (by omega) Cq2
    have tCq : w.heap.size + 1 < w7.heap.size := by omega
    replace Cu0 := keepC k7 (by omega) Cu0
    replace Cu1 := keepC k7 (by omega) Cu1
    replace Cu2 := keepC k7 (by omega) Cu2
    have tCu : w2.heap.size < w7.heap.size := by omega
    rw [kq, kq2]
    go_wp2_with fail
    go_ret
    exact ⟨rfl, Below.trans h0w7 (Below.mono (by go_grown) h0w7.size)⟩
  · have he := HE.out (M.hv l' a' o' - 57) (by omega)
    rw [← he] at q1
    clear he
    have hne : (M.hv l a o + 12 == M.hv l' a' o' + 12) = true := by simp; omega
    go_enter Tryd.func5, Tryd.ntmps5
    go_wp2_with fail
    refine (F.alive_any _).mono ?_
    rintro e w1 ⟨rfl, hb1⟩
    have sz1 := hb1.size
    try simp at sz1
    have k1 : Below w.heap.size w w1 := Below.trans (by go_grown) (hb1.mono (by (first | (simp; done) | (simp; omega))))
    have h0w1 : Below w.heap.size w w1 := k1
    have Cp0 : w1.cell? ⟨w.heap.size, 0, none⟩ = some (.int .i64 l) := keepC hb1 (by (first | (simp; done) | (simp; omega))) (by simp [go_sem])
    have Cp1 : w1.cell? ⟨w.heap.size, 1, none⟩ = some (.int .i64 a) := keepC hb1 (by (first | (simp; done) | (simp; omega))) (by simp [go_sem])
    have Cp2 : w1.cell? ⟨w.heap.size, 2, none⟩ = some (.int .i64 o) := keepC hb1 (by (first | (simp; done) | (simp; omega))) (by simp [go_sem])
    have tCp : w.heap.size < w1.heap.size := by omega
    have Cq0 : w1.cell? ⟨w.heap.size + 1, 0, none⟩ = some (.int .i64 l') := keepC hb1 (by (first | (simp; done) | (simp; omega))) (by simp [go_sem])
    have Cq1 : w1.cell? ⟨w.heap.size + 1, 1, none⟩ = some (.int .i64 a') := keepC hb1 (by (first | (simp; done) | (simp; omega))) (by simp [go_sem])
    have Cq2 : w1.cell? ⟨w.heap.size + 1, 2, none⟩ = some (.int .i64 o') := keepC hb1 (by (first | (simp; done) | (simp; omega))) (by simp [go_sem])
    have tCq : w.heap.size + 1 < w1.heap.size := by omega
    go_wp2_with fail
    refine (Hertz_any l a o x _ ((ht.step h0w1).step (by go_grown)) ((hT.step h0w1).step (by go_grown)) hx).mono ?_
    rintro e w2 ⟨rfl, hb2⟩
    have sz2 := hb2.size
    try simp at sz2
    have k2 : Below w1.heap.size w1 w2 := Below.trans (by go_grown) (hb2.mono (by (first | (simp; done) | (simp; omega))))
    have h0w2 : Below w.heap.size w w2 := h0w1.trans (k2.mono h0w1.size)
    replace Cp0 := keepC k2 (by omega) Cp0
    replace Cp1 := keepC k2 (by omega) Cp1
    replace Cp2 := keepC k2 (by omega) Cp2
    have tCp : w.heap.size < w2.heap.size := by omega
    replace Cq0 := keepC k2 (by omega) Cq0
    replace Cq1 := keepC k2 (by omega) Cq1
    replace Cq2 := keepC k2 (by omega) Cq2
    have tCq : w.heap.size + 1 < w2.heap.size := by omega
    rw [p1, p2]
    go_wp2_with fail
    refine (Hertz_any l a (o + 1) x _ ((ht.step h0w2).step (by go_grown)) ((hT.step h0w2).step (by go_grown)) hx).mono ?_
    rintro e w3 ⟨rfl, hb3⟩
    have sz3 := hb3.size
    try simp at sz3
    have k3 : Below w2.heap.size w2 w3 := Below.trans (by go_grown) (hb3.mono (by (first | (simp; done) | (simp; omega))))
    have h0w3 : Below w.heap.size w w3 := h0w2.trans (k3.mono h0w2.size)
    replace Cp0 := keepC k3 (by omega) Cp0
    replace Cp1 := keepC k3 (by omega) Cp1
    replace Cp2 := keepC k3 (by omega) Cp2
    have tCp : w.heap.size < w3.heap.size := by omega
    replace Cq0 := keepC k3 (by omega) Cq0
    replace Cq1 := keepC k3 (by omega) Cq1
    replace Cq2 := keepC k3 (by omega) Cq2
    have tCq : w.heap.size + 1 < w3.heap.size := by omega
    have Cu0 : w3.cell? ⟨w2.heap.size, 0, none⟩ = some (.int .i64 l) := keepC hb3 (by (first | (simp; done) | (simp; omega))) (by simp [go_sem])
    have Cu1 : w3.cell? ⟨w2.heap.size, 1, none⟩ = some (.int .i64 a) := keepC hb3 (by (first | (simp; done) | (simp; omega))) (by simp [go_sem])
    have Cu2 : w3.cell? ⟨w2.heap.size, 2, none⟩ = some (.int .i64 (o + 1)) := keepC hb3 (by (first | (simp; done) | (simp; omega))) (by simp [go_sem])
    have tCu : w2.heap.size < w3.heap.size := by omega
    rw [u1, u2]
    go_wp2_with (simp only [hm])
    refine (Same_same _ _).mono ?_
    rintro e w4 ⟨rfl, hb4⟩
    have sz4 := hb4.size
    try simp at sz4
    have k4 : Below w3.heap.size w3 w4 := Below.trans (by go_grown) (hb4.mono (by (first | (simp; done) | (simp; omega))))
    have h0w4 : Below w.heap.size w w4 := h0w3.trans (k4.mono h0w3.size)
    replace Cp0 := keepC k4 (by omega) Cp0
    replace Cp1 := keepC k4 (by omega) Cp1
    replace Cp2 := keepC k4 (by omega) Cp2
    have tCp : w.heap.size < w4.heap.size := by omega
    replace Cq0 := keepC k4 (by omega) Cq0
    replace Cq1 := keepC k4 (by omega) Cq1
    replace Cq2 := keepC k4 (by omega) Cq2
    have tCq : w.heap.size + 1 < w4.heap.size := by omega
    replace Cu0 := keepC k4 (by omega) Cu0
    replace Cu1 := keepC k4 (by omega) Cu1
    replace Cu2 := keepC k4 (by omega) Cu2
    have tCu : w2.heap.size < w4.heap.size := by omega
    go_wp2_with fail
    refine (Hertz_any l' a' o' x _ ((ht.step h0w4).step (by go_grown)) ((hT.step h0w4).step (by go_grown)) hx).mono ?_
    rintro e w5 ⟨rfl, hb5⟩
    have sz5 := hb5.size
    try simp at sz5
    have k5 : Below w4.heap.size w4 w5 := Below.trans (by go_grown) (hb5.mono (by (first | (simp; done) | (simp; omega))))
    have h0w5 : Below w.heap.size w w5 := h0w4.trans (k5.mono h0w4.size)
    replace Cp0 := keepC k5 (by omega) Cp0
    replace Cp1 := keepC k5 (by omega) Cp1
    replace Cp2 := keepC k5 (by omega) Cp2
    have tCp : w.heap.size < w5.heap.size := by omega
    replace Cq0 := keepC k5 (by omega) Cq0
    replace Cq1 := keepC k5 (by omega) Cq1
    replace Cq2 := keepC k5 (by omega) Cq2
    have tCq : w.heap.size + 1 < w5.heap.size := by omega
    replace Cu0 := keepC k5 (by omega) Cu0
    replace Cu1 := keepC k5 (by omega) Cu1
    replace Cu2 := keepC k5 (by omega) Cu2
    have tCu : w2.heap.size < w5.heap.size := by omega
    rw [q1, q2]
    go_wp2_with fail
    refine (Key_any l a o _ ((ht.step h0w5).step (by go_grown))).mono ?_
    rintro e w6 ⟨rfl, hb6⟩
    have sz6 := hb6.size
    try simp at sz6
    have k6 : Below w5.heap.size w5 w6 := Below.trans (by go_grown) (hb6.mono (by (first | (simp; done) | (simp; omega))))
    have h0w6 : Below w.heap.size w w6 := h0w5.trans (k6.mono h0w5.size)
    replace Cp0 := keepC k6 (by omega) Cp0
    replace Cp1 := keepC k6 (by omega) Cp1
    replace Cp2 := keepC k6 (by omega) Cp2
    have tCp : w.heap.size < w6.heap.size := by omega
    replace Cq0 := keepC k6 (by omega) Cq0
    replace Cq1 := keepC k6 (by omega) Cq1
    replace Cq2 := keepC k6 (by omega) Cq2
    have tCq : w.heap.size + 1 < w6.heap.size := by omega
    replace Cu0 := keepC k6 (by omega) Cu0
    replace Cu1 := keepC k6 (by omega) Cu1
    replace Cu2 := keepC k6 (by omega) Cu2
    have tCu : w2.heap.size < w6.heap.size := by omega
    rw [kp, kp2]
    go_wp2_with fail
    refine (Key_any l' a' o' _ ((ht.step h0w6).step (by go_grown))).mono ?_
    rintro e w7 ⟨rfl, hb7⟩
    have sz7 := hb7.size
    try simp at sz7
    have k7 : Below w6.heap.size w6 w7 := Below.trans (by go_grown) (hb7.mono (by (first | (simp; done) | (simp; omega))))
    have h0w7 : Below w.heap.size w w7 := h0w6.trans (k7.mono h0w6.size)
    replace Cp0 := keepC k7 (by omega) Cp0
    replace Cp1 := keepC k7 (by omega) Cp1
    replace Cp2 := keepC k7 (by omega) Cp2
    have tCp : w.heap.size < w7.heap.size := by omega
    replace Cq0 := keepC k7 (by omega) Cq0
    replace Cq1 := keepC k7 (by omega) Cq1
    replace Cq2 := keepC k7 (by omega) Cq2
    have tCq : w.heap.size + 1 < w7.heap.size := by omega
    replace Cu0 := keepC k7 (by omega) Cu0
    replace Cu1 := keepC k7 (by omega) Cu1
    replace Cu2 := keepC k7 (by omega) Cu2
    have tCu : w2.heap.size < w7.heap.size := by omega
    rw [kq, kq2]
    go_wp2_with fail
    refine (Same_same _ _).mono ?_
    rintro e w8 ⟨rfl, hb8⟩
    have sz8 := hb8.size
    try simp at sz8
    have k8 : Below w7.heap.size w7 w8 := Below.trans (by go_grown) (hb8.mono (by (first | (simp; done) | (simp; omega))))
    have h0w8 : Below w.heap.size w w8 := h0w7.trans (k8.mono h0w7.size)
    replace Cp0 := keepC k8 (by omega) Cp0
    replace Cp1 := keepC k8 (by omega) Cp1
    replace Cp2 := keepC k8 (by omega) Cp2
    have tCp : w.heap.size < w8.heap.size := by omega
    replace Cq0 := keepC k8 (by omega) Cq0
    replace Cq1 := keepC k8 (by omega) Cq1
    replace Cq2 := keepC k8 (by omega) Cq2
    have tCq : w.heap.size + 1 < w8.heap.size := by omega
    replace Cu0 := keepC k8 (by omega) Cu0
    replace Cu1 := keepC k8 (by omega) Cu1
    replace Cu2 := keepC k8 (by omega) Cu2
    have tCu : w2.heap.size < w8.heap.size := by omega
    go_wp2_with fail
    go_ret
    exact ⟨rfl, Below.trans h0w8 (Below.mono (by go_grown) h0w8.size)⟩
  · have hle := HM'.out (M.hv l' a' o' - 57) (by omega)
    generalize hY : Fl.hz x (M.hv l' a' o' - 57) = Y at *
    have hcmp : (FloatKind.f64.format.order X Y == some .gt || FloatKind.f64.format.order X Y == some .eq) = true := Fl.ge_yes X Y (by omega) hle (by omega)
    have hne : (M.hv l a o + 12 == M.hv l' a' o' + 12) = false := by simp; omega
    go_enter Tryd.func5, Tryd.ntmps5
    go_wp2_with fail
    refine (F.alive_any _).mono ?_
    rintro e w1 ⟨rfl, hb1⟩
    have sz1 := hb1.size
    try simp at sz1
    have k1 : Below w.heap.size w w1 := Below.trans (by go_grown) (hb1.mono (by (first | (simp; done) | (simp; omega))))
    have h0w1 : Below w.heap.size w w1 := k1
    have Cp0 : w1.cell? ⟨w.heap.size, 0, none⟩ = some (.int .i64 l) := keepC hb1 (by (first | (simp; done) | (simp; omega))) (by simp [go_sem])
    have Cp1 : w1.cell? ⟨w.heap.size, 1, none⟩ = some (.int .i64 a) := keepC hb1 (by (first | (simp; done) | (simp; omega))) (by simp [go_sem])
    have Cp2 : w1.cell? ⟨w.heap.size, 2, none⟩ = some (.int .i64 o) := keepC hb1 (by (first | (simp; done) | (simp; omega))) (by simp [go_sem])
    have tCp : w.heap.size < w1.heap.size := by omega
    have Cq0 : w1.cell? ⟨w.heap.size + 1, 0, none⟩ = some (.int .i64 l') := keepC hb1 (by (first | (simp; done) | (simp; omega))) (by simp [go_sem])
    have Cq1 : w1.cell? ⟨w.heap.size + 1, 1, none⟩ = some (.int .i64 a') := keepC hb1 (by (first | (simp; done) | (simp; omega))) (by simp [go_sem])
    have Cq2 : w1.cell? ⟨w.heap.size + 1, 2, none⟩ = some (.int .i64 o') := keepC hb1 (by (first | (simp; done) | (simp; omega))) (by simp [go_sem])
    have tCq : w.heap.size + 1 < w1.heap.size := by omega
    go_wp2_with fail
    refine (Hertz_any l a o x _ ((ht.step h0w1).step (by go_grown)) ((hT.step h0w1).step (by go_grown)) hx).mono ?_
    rintro e w2 ⟨rfl, hb2⟩
    have sz2 := hb2.size
    try simp at sz2
    have k2 : Below w1.heap.size w1 w2 := Below.trans (by go_grown) (hb2.mono (by (first | (simp; done) | (simp; omega))))
    have h0w2 : Below w.heap.size w w2 := h0w1.trans (k2.mono h0w1.size)
    replace Cp0 := keepC k2 (by omega) Cp0
    replace Cp1 := keepC k2 (by omega) Cp1
    replace Cp2 := keepC k2 (by omega) Cp2
    have tCp : w.heap.size < w2.heap.size := by omega
    replace Cq0 := keepC k2 (by omega) Cq0
    replace Cq1 := keepC k2 (by omega) Cq1
    replace Cq2 := keepC k2 (by omega) Cq2
    have tCq : w.heap.size + 1 < w2.heap.size := by omega
    rw [p1, p2]
    go_wp2_with fail
    refine (Hertz_any l a (o + 1) x _ ((ht.step h0w2).step (by go_grown)) ((hT.step h0w2).step (by go_grown)) hx).mono ?_
    rintro e w3 ⟨rfl, hb3⟩
    have sz3 := hb3.size
    try simp at sz3
    have k3 : Below w2.heap.size w2 w3 := Below.trans (by go_grown) (hb3.mono (by (first | (simp; done) | (simp; omega))))
    have h0w3 : Below w.heap.size w w3 := h0w2.trans (k3.mono h0w2.size)
    replace Cp0 := keepC k3 (by omega) Cp0
    replace Cp1 := keepC k3 (by omega) Cp1
    replace Cp2 := keepC k3 (by omega) Cp2
    have tCp : w.heap.size < w3.heap.size := by omega
    replace Cq0 := keepC k3 (by omega) Cq0
    replace Cq1 := keepC k3 (by omega) Cq1
    replace Cq2 := keepC k3 (by omega) Cq2
    have tCq : w.heap.size + 1 < w3.heap.size := by omega
    have Cu0 : w3.cell? ⟨w2.heap.size, 0, none⟩ = some (.int .i64 l) := keepC hb3 (by (first | (simp; done) | (simp; omega))) (by simp [go_sem])
    have Cu1 : w3.cell? ⟨w2.heap.size, 1, none⟩ = some (.int .i64 a) := keepC hb3 (by (first | (simp; done) | (simp; omega))) (by simp [go_sem])
    have Cu2 : w3.cell? ⟨w2.heap.size, 2, none⟩ = some (.int .i64 (o + 1)) := keepC hb3 (by (first | (simp; done) | (simp; omega))) (by simp [go_sem])
    have tCu : w2.heap.size < w3.heap.size := by omega
    rw [u1, u2]
    go_wp2_with (simp only [hm])
    refine (Same_same _ _).mono ?_
    rintro e w4 ⟨rfl, hb4⟩
    have sz4 := hb4.size
    try simp at sz4
    have k4 : Below w3.heap.size w3 w4 := Below.trans (by go_grown) (hb4.mono (by (first | (simp; done) | (simp; omega))))
    have h0w4 : Below w.heap.size w w4 := h0w3.trans (k4.mono h0w3.size)
    replace Cp0 := keepC k4 (by omega) Cp0
    replace Cp1 := keepC k4 (by omega) Cp1
    replace Cp2 := keepC k4 (by omega) Cp2
    have tCp : w.heap.size < w4.heap.size := by omega
    replace Cq0 := keepC k4 (by omega) Cq0
    replace Cq1 := keepC k4 (by omega) Cq1
    replace Cq2 := keepC k4 (by omega) Cq2
    have tCq : w.heap.size + 1 < w4.heap.size := by omega
    replace Cu0 := keepC k4 (by omega) Cu0
    replace Cu1 := keepC k4 (by omega) Cu1
    replace Cu2 := keepC k4 (by omega) Cu2
    have tCu : w2.heap.size < w4.heap.size := by omega
    go_wp2_with fail
    refine (Hertz_any l' a' o' x _ ((ht.step h0w4).step (by go_grown)) ((hT.step h0w4).step (by go_grown)) hx).mono ?_
    rintro e w5 ⟨rfl, hb5⟩
    have sz5 := hb5.size
    try simp at sz5
    have k5 : Below w4.heap.size w4 w5 := Below.trans (by go_grown) (hb5.mono (by (first | (simp; done) | (simp; omega))))
    have h0w5 : Below w.heap.size w w5 := h0w4.trans (k5.mono h0w4.size)
    replace Cp0 := keepC k5 (by omega) Cp0
    replace Cp1 := keepC k5 (by omega) Cp1
    replace Cp2 := keepC k5 (by omega) Cp2
    have tCp : w.heap.size < w5.heap.size := by omega
    replace Cq0 := keepC k5 (by omega) Cq0
    replace Cq1 := keepC k5 (by omega) Cq1
    replace Cq2 := keepC k5 (by omega) Cq2
    have tCq : w.heap.size + 1 < w5.heap.size := by omega
    replace Cu0 := keepC k5 (by omega) Cu0
    replace Cu1 := keepC k5 (by omega) Cu1
    replace Cu2 := keepC k5 (by omega) Cu2
    have tCu : w2.heap.size < w5.heap.size := by omega
    rw [q1, q2]
    go_wp2_with fail
    refine (Key_any l a o _ ((ht.step h0w5).step (by go_grown))).mono ?_
    rintro e w6 ⟨rfl, hb6⟩
    have sz6 := hb6.size
    try simp at sz6
    have k6 : Below w5.heap.size w5 w6 := Below.trans (by go_grown) (hb6.mono (by (first | (simp; done) | (simp; omega))))
    have h0w6 : Below w.heap.size w w6 := h0w5.trans (k6.mono h0w5.size)
    replace Cp0 := keepC k6 (by omega) Cp0
    replace Cp1 := keepC k6 (by omega) Cp1
    replace Cp2 := keepC k6 (by omega) Cp2
    have tCp : w.heap.size < w6.heap.size := by omega
    replace Cq0 := keepC k6 (by omega) Cq0
    replace Cq1 := keepC k6 (by omega) Cq1
    replace Cq2 := keepC k6 (by omega) Cq2
    have tCq : w.heap.size + 1 < w6.heap.size := by omega
    replace Cu0 := keepC k6 (by omega) Cu0
    replace Cu1 := keepC k6 (by omega) Cu1
    replace Cu2 := keepC k6 (by omega) Cu2
    have tCu : w2.heap.size < w6.heap.size := by omega
    rw [kp, kp2]
    go_wp2_with fail
    refine (Key_any l' a' o' _ ((ht.step h0w6).step (by go_grown))).mono ?_
    rintro e w7 ⟨rfl, hb7⟩
    have sz7 := hb7.size
    try simp at sz7
    have k7 : Below w6.heap.size w6 w7 := Below.trans (by go_grown) (hb7.mono (by (first | (simp; done) | (simp; omega))))
    have h0w7 : Below w.heap.size w w7 := h0w6.trans (k7.mono h0w6.size)
    replace Cp0 := keepC k7 (by omega) Cp0
    replace Cp1 := keepC k7 (by omega) Cp1
    replace Cp2 := keepC k7 (by omega) Cp2
    have tCp : w.heap.size < w7.heap.size := by omega
    replace Cq0 := keepC k7 (by omega) Cq0
    replace Cq1 := keepC k7 (by omega) Cq1
    replace Cq2 := keepC k7 (by omega) Cq2
    have tCq : w.heap.size + 1 < w7.heap.size := by omega
    replace Cu0 := keepC k7 (by omega) Cu0
    replace Cu1 := keepC k7 (by omega) Cu1
    replace Cu2 := keepC k7 (by omega) Cu2
    have tCu : w2.heap.size < w7.heap.size := by omega
    rw [kq, kq2]
    go_wp2_with fail
    go_ret
    exact ⟨rfl, Below.trans h0w7 (Below.mono (by go_grown) h0w7.size)⟩

end Go.Proofs.YtdjdnjaijpafgacDoor
