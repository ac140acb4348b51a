/- What the program's and the document's Tempered come to. -/
import Derived.Test.YtdjdnjaijpafgacDoorT5
import Derived.Test.YtdjdnjaijpafgacDoorT6
import Derived.Test.YtdjdnjaijpafgacDoorFl3
import Derived.Test.YtdjdnjaijpafgacDoorQMath2
namespace Go.Proofs.YtdjdnjaijpafgacDoor
open Go.RowKit
attribute [local go_sem ↓] Go.wp_at_zero Go.wp_at_succ
set_option linter.unusedSimpArgs false
set_option linter.unusedVariables false

/-- Steps and half tones from the A of octave 4. -/
def M.as (l o : Int) : Int := M.st l o - M.st 5 4
def M.ah (l a o : Int) : Int := M.hv l a o - M.hv 5 0 4
def M.ax (l a o : Int) : Int := F.M.x5 (M.as l o) (M.ah l a o)
def M.ay (l a o : Int) : Int := F.M.y2 (M.as l o) (M.ah l a o)
theorem M.rtA : M.rt 5 0 4 = true := by decide
theorem M.A_bet {l a o : Int} (hr : M.rt l a o = true) : M.be 5 0 4 l a o = 0 ∧ M.bs 5 0 4 l a o = M.as l o ∧ M.bh 5 0 4 l a o = M.ah l a o := M.between_ok M.rtA hr
theorem M.A_no {l a o : Int} (hr : M.rt l a o = false) : M.be 5 0 4 l a o = 2 ∧ M.bs 5 0 4 l a o = 0 ∧ M.bh 5 0 4 l a o = 0 := by
  have hk : M.bk 5 0 4 l a o = false := by unfold M.bk; rw [hr]; simp
  unfold M.be M.bs M.bh
  rw [hk]
  exact ⟨rfl, rfl, rfl⟩
theorem M.A_in {l a o : Int} (hr : M.rt l a o = true) : M.inb (M.as l o) (M.ah l a o) = true := M.inb_two M.rtA hr
theorem fcon (P : Nat) (w : World) : (convert 46 46 (.float .f64 P)).run Tryd.prog w = .ok (.float .f64 P) w := run_convert_float_float w _ _ .f64 .f64 P P (by rw [Tryd.underlying46]; rfl) Tryd.underlying46 (by simp [floatToFloatBits])
/-- Tempered: the number, and what is wrong. -/
def M.tn (l a o : Int) (x : Nat) : Nat := if M.fair x = true ∧ M.rt l a o = true ∧ F.M.qe (M.ax l a o) (M.ay l a o) = 0 then Fl.tm x (F.M.qu (M.ax l a o) (M.ay l a o)) (F.M.qd (M.ax l a o) (M.ay l a o)) else 0
def M.te (l a o : Int) (x : Nat) : Int := if M.fair x = true then if M.rt l a o = true then F.M.qe (M.ax l a o) (M.ay l a o) else 2 else 3
theorem M.t_range {l a o : Int} {x : Nat} (hf : M.fair x = false) : M.tn l a o x = 0 ∧ M.te l a o x = 3 := ⟨if_neg (by rw [hf]; simp), by unfold M.te; rw [if_neg (by rw [hf]; decide)]⟩
theorem M.t_form {l a o : Int} {x : Nat} (hf : M.fair x = true) (hr : M.rt l a o = false) : M.tn l a o x = 0 ∧ M.te l a o x = 2 := ⟨if_neg (by rw [hr]; simp), by unfold M.te; rw [if_pos hf, if_neg (by rw [hr]; decide)]⟩
theorem M.t_much {l a o : Int} {x : Nat} (hf : M.fair x = true) (hr : M.rt l a o = true) (hq : F.M.qe (M.ax l a o) (M.ay l a o) ≠ 0) : M.tn l a o x = 0 ∧ M.te l a o x = F.M.qe (M.ax l a o) (M.ay l a o) := ⟨if_neg (fun h => hq h.2.2), by unfold M.te; rw [if_pos hf, if_pos hr]⟩
theorem M.t_in {l a o : Int} {x : Nat} (hf : M.fair x = true) (hr : M.rt l a o = true) (hq : F.M.qe (M.ax l a o) (M.ay l a o) = 0) : M.tn l a o x = Fl.tm x (F.M.qu (M.ax l a o) (M.ay l a o)) (F.M.qd (M.ax l a o) (M.ay l a o)) ∧ M.te l a o x = 0 := ⟨if_pos ⟨hf, hr, hq⟩, by unfold M.te; rw [if_pos hf, if_pos hr, hq]⟩

set_option maxHeartbeats 2000000 in
theorem Tempered_any (l a o : Int) (x : Nat) (w : World) (ht : Tab w) (hx : x < 18446744073709551616) :
    Calls Tryd.prog 18 #[.agg #[.int .i64 l, .int .i64 a, .int .i64 o], .float .f64 x] w fun e w' => e = .returned (.tuple #[.float .f64 (M.tn l a o x), .int .i64 (M.te l a o x)]) ∧ Below w.heap.size w w' := by
  cases hf : M.fair x
  · rw [(M.t_range hf).1, (M.t_range hf).2]
    go_enter Tryd.func18, Tryd.ntmps18
    go_wp2_with fail
    refine (swings_any x _ hx).mono ?_
    rintro e w0 ⟨rfl, hw0⟩
    rw [hw0, hf]
    go_wp2_with fail
    go_returns
    exact ⟨rfl, by go_grown⟩
  cases hr : M.rt l a o
  · rw [(M.t_form hf hr).1, (M.t_form hf hr).2]
    obtain ⟨b0, b1, b2⟩ := M.A_no hr
    go_enter Tryd.func18, Tryd.ntmps18
    go_wp2_with fail
    refine (swings_any x _ hx).mono ?_
    rintro e w0 ⟨rfl, hw0⟩
    rw [hw0, hf]
    go_wp2_with fail
    refine (Between_any 5 0 4 l a o _ (ht.step (by go_grown))).mono ?_
    rintro e w1 ⟨rfl, hb1⟩
    have sz1 := hb1.size
    try simp at sz1
    have k1 : Below w.heap.size w w1 := Below.trans (by go_grown) (hb1.mono (by (first | (simp; done) | (simp; omega))))
    have h0w1 : Below w.heap.size w w1 := k1
    have Cp0 : w1.cell? ⟨w.heap.size, 0, none⟩ = some (.int .i64 l) := keepC hb1 (by (first | (simp; done) | (simp; omega))) (by simp [go_sem])
    have Cp1 : w1.cell? ⟨w.heap.size, 1, none⟩ = some (.int .i64 a) := keepC hb1 (by (first | (simp; done) | (simp; omega))) (by simp [go_sem])
    have Cp2 : w1.cell? ⟨w.heap.size, 2, none⟩ = some (.int .i64 o) := keepC hb1 (by (first | (simp; done) | (simp; omega))) (by simp [go_sem])
    have tCp : w.heap.size < w1.heap.size := by omega
    rw [b0, b1, b2]
    go_wp2_with fail
    go_returns
    exact ⟨rfl, Below.trans h0w1 (Below.mono (by go_grown) h0w1.size)⟩
  obtain ⟨b0, b1, b2⟩ := M.A_bet hr
  have hin := M.A_in hr
  have hfb := M.fair_yes hf
  by_cases hq : F.M.qe (M.ax l a o) (M.ay l a o) = 0
  case neg =>
    rw [(M.t_much hf hr hq).1, (M.t_much hf hr hq).2]
    have hq' : (F.M.qe (M.ax l a o) (M.ay l a o) != 0) = true := by simp [hq]
    unfold M.ax M.ay at *
    generalize hu : F.M.qu (F.M.x5 (M.as l o) (M.ah l a o)) (F.M.y2 (M.as l o) (M.ah l a o)) = U
    generalize hd : F.M.qd (F.M.x5 (M.as l o) (M.ah l a o)) (F.M.y2 (M.as l o) (M.ah l a o)) = D
    generalize he : F.M.qe (F.M.x5 (M.as l o) (M.ah l a o)) (F.M.y2 (M.as l o) (M.ah l a o)) = E at *
    go_enter Tryd.func18, Tryd.ntmps18
    go_wp2_with fail
    refine (swings_any x _ hx).mono ?_
    rintro e w0 ⟨rfl, hw0⟩
    rw [hw0, hf]
    go_wp2_with fail
    refine (Between_any 5 0 4 l a o _ (ht.step (by go_grown))).mono ?_
    rintro e w1 ⟨rfl, hb1⟩
    have sz1 := hb1.size
    try simp at sz1
    have k1 : Below w.heap.size w w1 := Below.trans (by go_grown) (hb1.mono (by (first | (simp; done) | (simp; omega))))
    have h0w1 : Below w.heap.size w w1 := k1
    have Cp0 : w1.cell? ⟨w.heap.size, 0, none⟩ = some (.int .i64 l) := keepC hb1 (by (first | (simp; done) | (simp; omega))) (by simp [go_sem])
    have Cp1 : w1.cell? ⟨w.heap.size, 1, none⟩ = some (.int .i64 a) := keepC hb1 (by (first | (simp; done) | (simp; omega))) (by simp [go_sem])
    have Cp2 : w1.cell? ⟨w.heap.size, 2, none⟩ = some (.int .i64 o) := keepC hb1 (by (first | (simp; done) | (simp; omega))) (by simp [go_sem])
    have tCp : w.heap.size < w1.heap.size := by omega
    rw [b0, b1, b2]
    go_wp2_with fail
    refine (F.Ratio_in (M.as l o) (M.ah l a o) _ hin).mono ?_
    rintro e w2 ⟨rfl, hb2⟩
    have sz2 := hb2.size
    try simp at sz2
    have k2 : Below w1.heap.size w1 w2 := Below.trans (by go_grown) (hb2.mono (by (first | (simp; done) | (simp; omega))))
    have h0w2 : Below w.heap.size w w2 := h0w1.trans (k2.mono h0w1.size)
    replace Cp0 := keepC k2 (by omega) Cp0
    replace Cp1 := keepC k2 (by omega) Cp1
    replace Cp2 := keepC k2 (by omega) Cp2
    have tCp : w.heap.size < w2.heap.size := by omega
    have Ci0 : w2.cell? ⟨w1.heap.size, 0, none⟩ = some (.int .i64 (M.as l o)) := keepC hb2 (by (first | (simp; done) | (simp; omega))) (by simp [go_sem])
    have Ci1 : w2.cell? ⟨w1.heap.size, 1, none⟩ = some (.int .i64 (M.ah l a o)) := keepC hb2 (by (first | (simp; done) | (simp; omega))) (by simp [go_sem])
    have tCi : w1.heap.size < w2.heap.size := by omega
    rw [hu, hd, he]
    go_wp2_with fail
    go_returns
    exact ⟨rfl, Below.trans h0w2 (Below.mono (by go_grown) h0w2.size)⟩
  rw [(M.t_in hf hr hq).1, (M.t_in hf hr hq).2]
  obtain ⟨y1, y2, y3⟩ := F.M.q_yes _ _ hq
  rw [← y1, ← y2] at y3
  have bo := F.M.ok_yes _ _ y3
  have pu := F.M.eU_pos (M.ax l a o) (M.ay l a o)
  rw [← y1] at pu
  clear y1 y2 y3
  unfold M.ax M.ay at *
  generalize hu : F.M.qu (F.M.x5 (M.as l o) (M.ah l a o)) (F.M.y2 (M.as l o) (M.ah l a o)) = U at *
  generalize hd : F.M.qd (F.M.x5 (M.as l o) (M.ah l a o)) (F.M.y2 (M.as l o) (M.ah l a o)) = D at *
  obtain ⟨m1, m2⟩ := Fl.tm_is x U D hfb.1 hfb.2 pu (by omega) (by omega) (by omega)
  have hm := fmul m1
  have hd2 := fquo m2
  clear m1 m2
  generalize Fl.tm x U D = R at *
  generalize Fl.t1 x U = S at *
  have hc1 := fcon S
  have hc2 := fcon R
  go_enter Tryd.func18, Tryd.ntmps18
  go_wp2_with fail
  refine (swings_any x _ hx).mono ?_
  rintro e w0 ⟨rfl, hw0⟩
  rw [hw0, hf]
  go_wp2_with fail
  refine (Between_any 5 0 4 l a o _ (ht.step (by go_grown))).mono ?_
  rintro e w1 ⟨rfl, hb1⟩
  have sz1 := hb1.size
  try simp at sz1
  have k1 : Below w.heap.size w w1 := Below.trans (by go_grown) (hb1.mono (by (first | (simp; done) | (simp; omega))))
  have h0w1 : Below w.heap.size w w1 := k1
  have Cp0 : w1.cell? ⟨w.heap.size, 0, none⟩ = some (.int .i64 l) := keepC hb1 (by (first | (simp; done) | (simp; omega))) (by simp [go_sem])
  have Cp1 : w1.cell? ⟨w.heap.size, 1, none⟩ = some (.int .i64 a) := keepC hb1 (by (first | (simp; done) | (simp; omega))) (by simp [go_sem])
  have Cp2 : w1.cell? ⟨w.heap.size, 2, none⟩ = some (.int .i64 o) := keepC hb1 (by (first | (simp; done) | (simp; omega))) (by simp [go_sem])
  have tCp : w.heap.size < w1.heap.size := by omega
  rw [b0, b1, b2]
  go_wp2_with fail
  refine (F.Ratio_in (M.as l o) (M.ah l a o) _ hin).mono ?_
  rintro e w2 ⟨rfl, hb2⟩
  have sz2 := hb2.size
  try simp at sz2
  have k2 : Below w1.heap.size w1 w2 := Below.trans (by go_grown) (hb2.mono (by (first | (simp; done) | (simp; omega))))
  have h0w2 : Below w.heap.size w w2 := h0w1.trans (k2.mono h0w1.size)
  replace Cp0 := keepC k2 (by omega) Cp0
  replace Cp1 := keepC k2 (by omega) Cp1
  replace Cp2 := keepC k2 (by omega) Cp2
  have tCp : w.heap.size < w2.heap.size := by omega
  have Ci0 : w2.cell? ⟨w1.heap.size, 0, none⟩ = some (.int .i64 (M.as l o)) := keepC hb2 (by (first | (simp; done) | (simp; omega))) (by simp [go_sem])
  have Ci1 : w2.cell? ⟨w1.heap.size, 1, none⟩ = some (.int .i64 (M.ah l a o)) := keepC hb2 (by (first | (simp; done) | (simp; omega))) (by simp [go_sem])
  have tCi : w1.heap.size < w2.heap.size := by omega
  rw [hu, hd, hq]
  go_wp2_with (first | simp only [hm] | simp only [hd2] | simp only [hc1] | simp only [hc2])
  go_returns
  exact ⟨rfl, Below.trans h0w2 (Below.mono (by go_grown) h0w2.size)⟩

set_option maxHeartbeats 2000000 in
theorem refTempered_any (l a o : Int) (x : Nat) (w : World) (a1 : -9223372036854775808 ≤ a) (a2 : a ≤ 9223372036854775807) (hx : x < 18446744073709551616) :
    Calls Tryd.prog 19 #[.agg #[.int .i64 l, .int .i64 a, .int .i64 o], .float .f64 x] w fun e w' => e = .returned (.tuple #[.float .f64 (M.tn l a o x), .int .i64 (M.te l a o x)]) ∧ Below w.heap.size w w' := by
  cases hf : M.fair x
  · rw [(M.t_range hf).1, (M.t_range hf).2]
    go_enter Tryd.func19, Tryd.ntmps19
    go_wp2_with fail
    refine (fair_any x _ hx).mono ?_
    rintro e w0 ⟨rfl, hw0⟩
    rw [hw0, hf]
    go_wp2_with fail
    go_returns
    exact ⟨rfl, by go_grown⟩
  cases hr : M.rt l a o
  · rw [(M.t_form hf hr).1, (M.t_form hf hr).2]
    obtain ⟨b0, b1, b2⟩ := M.A_no hr
    go_enter Tryd.func19, Tryd.ntmps19
    go_wp2_with fail
    refine (fair_any x _ hx).mono ?_
    rintro e w0 ⟨rfl, hw0⟩
    rw [hw0, hf]
    go_wp2_with fail
    refine (refBetween_any 5 0 4 l a o _ (by omega) (by omega) a1 a2).mono ?_
    rintro e w1 ⟨rfl, hb1⟩
    have sz1 := hb1.size
    try simp at sz1
    have k1 : Below w.heap.size w w1 := Below.trans (by go_grown) (hb1.mono (by (first | (simp; done) | (simp; omega))))
    have h0w1 : Below w.heap.size w w1 := k1
    have Cp0 : w1.cell? ⟨w.heap.size, 0, none⟩ = some (.int .i64 l) := keepC hb1 (by (first | (simp; done) | (simp; omega))) (by simp [go_sem])
    have Cp1 : w1.cell? ⟨w.heap.size, 1, none⟩ = some (.int .i64 a) := keepC hb1 (by (first | (simp; done) | (simp; omega))) (by simp [go_sem])
    have Cp2 : w1.cell? ⟨w.heap.size, 2, none⟩ = some (.int .i64 o) := keepC hb1 (by (first | (simp; done) | (simp; omega))) (by simp [go_sem])
    have tCp : w.heap.size < w1.heap.size := by omega
    rw [b0, b1, b2]
    go_wp2_with fail
    go_returns
    exact ⟨rfl, Below.trans h0w1 (Below.mono (by go_grown) h0w1.size)⟩
  obtain ⟨b0, b1, b2⟩ := M.A_bet hr
  have hin := M.A_in hr
  have hfb := M.fair_yes hf
  by_cases hq : F.M.qe (M.ax l a o) (M.ay l a o) = 0
  case neg =>
    rw [(M.t_much hf hr hq).1, (M.t_much hf hr hq).2]
    have hq' : (F.M.qe (M.ax l a o) (M.ay l a o) != 0) = true := by simp [hq]
    unfold M.ax M.ay at *
    generalize hu : F.M.qu (F.M.x5 (M.as l o) (M.ah l a o)) (F.M.y2 (M.as l o) (M.ah l a o)) = U
    generalize hd : F.M.qd (F.M.x5 (M.as l o) (M.ah l a o)) (F.M.y2 (M.as l o) (M.ah l a o)) = D
    generalize he : F.M.qe (F.M.x5 (M.as l o) (M.ah l a o)) (F.M.y2 (M.as l o) (M.ah l a o)) = E at *
    go_enter Tryd.func19, Tryd.ntmps19
    go_wp2_with fail
    refine (fair_any x _ hx).mono ?_
    rintro e w0 ⟨rfl, hw0⟩
    rw [hw0, hf]
    go_wp2_with fail
    refine (refBetween_any 5 0 4 l a o _ (by omega) (by omega) a1 a2).mono ?_
    rintro e w1 ⟨rfl, hb1⟩
    have sz1 := hb1.size
    try simp at sz1
    have k1 : Below w.heap.size w w1 := Below.trans (by go_grown) (hb1.mono (by (first | (simp; done) | (simp; omega))))
    have h0w1 : Below w.heap.size w w1 := k1
    have Cp0 : w1.cell? ⟨w.heap.size, 0, none⟩ = some (.int .i64 l) := keepC hb1 (by (first | (simp; done) | (simp; omega))) (by simp [go_sem])
    have Cp1 : w1.cell? ⟨w.heap.size, 1, none⟩ = some (.int .i64 a) := keepC hb1 (by (first | (simp; done) | (simp; omega))) (by simp [go_sem])
    have Cp2 : w1.cell? ⟨w.heap.size, 2, none⟩ = some (.int .i64 o) := keepC hb1 (by (first | (simp; done) | (simp; omega))) (by simp [go_sem])
    have tCp : w.heap.size < w1.heap.size := by omega
    rw [b0, b1, b2]
    go_wp2_with fail
    refine (F.refRatio_in (M.as l o) (M.ah l a o) _ hin).mono ?_
    rintro e w2 ⟨rfl, hb2⟩
    have sz2 := hb2.size
    try simp at sz2
    have k2 : Below w1.heap.size w1 w2 := Below.trans (by go_grown) (hb2.mono (by (first | (simp; done) | (simp; omega))))
    have h0w2 : Below w.heap.size w w2 := h0w1.trans (k2.mono h0w1.size)
    replace Cp0 := keepC k2 (by omega) Cp0
    replace Cp1 := keepC k2 (by omega) Cp1
    replace Cp2 := keepC k2 (by omega) Cp2
    have tCp : w.heap.size < w2.heap.size := by omega
    have Ci0 : w2.cell? ⟨w1.heap.size, 0, none⟩ = some (.int .i64 (M.as l o)) := keepC hb2 (by (first | (simp; done) | (simp; omega))) (by simp [go_sem])
    have Ci1 : w2.cell? ⟨w1.heap.size, 1, none⟩ = some (.int .i64 (M.ah l a o)) := keepC hb2 (by (first | (simp; done) | (simp; omega))) (by simp [go_sem])
    have tCi : w1.heap.size < w2.heap.size := by omega
    rw [hu, hd, he]
    go_wp2_with fail
    go_returns
    exact ⟨rfl, Below.trans h0w2 (Below.mono (by go_grown) h0w2.size)⟩
  rw [(M.t_in hf hr hq).1, (M.t_in hf hr hq).2]
  obtain ⟨y1, y2, y3⟩ := F.M.q_yes _ _ hq
  rw [← y1, ← y2] at y3
  have bo := F.M.ok_yes _ _ y3
  have pu := F.M.eU_pos (M.ax l a o) (M.ay l a o)
  rw [← y1] at pu
  clear y1 y2 y3
  unfold M.ax M.ay at *
  generalize hu : F.M.qu (F.M.x5 (M.as l o) (M.ah l a o)) (F.M.y2 (M.as l o) (M.ah l a o)) = U at *
  generalize hd : F.M.qd (F.M.x5 (M.as l o) (M.ah l a o)) (F.M.y2 (M.as l o) (M.ah l a o)) = D at *
  obtain ⟨m1, m2⟩ := Fl.tm_is x U D hfb.1 hfb.2 pu (by omega) (by omega) (by omega)
  have hm := fmul m1
  have hd2 := fquo m2
  clear m1 m2
  generalize Fl.tm x U D = R at *
  generalize Fl.t1 x U = S at *
  have hc1 := fcon S
  have hc2 := fcon R
  go_enter Tryd.func19, Tryd.ntmps19
  go_wp2_with fail
  refine (fair_any x _ hx).mono ?_
  rintro e w0 ⟨rfl, hw0⟩
  rw [hw0, hf]
  go_wp2_with fail
  refine (refBetween_any 5 0 4 l a o _ (by omega) (by omega) a1 a2).mono ?_
  rintro e w1 ⟨rfl, hb1⟩
  have sz1 := hb1.size
  try simp at sz1
  have k1 : Below w.heap.size w w1 := Below.trans (by go_grown) (hb1.mono (by (first | (simp; done) | (simp; omega))))
  have h0w1 : Below w.heap.size w w1 := k1
  have Cp0 : w1.cell? ⟨w.heap.size, 0, none⟩ = some (.int .i64 l) := keepC hb1 (by (first | (simp; done) | (simp; omega))) (by simp [go_sem])
  have Cp1 : w1.cell? ⟨w.heap.size, 1, none⟩ = some (.int .i64 a) := keepC hb1 (by (first | (simp; done) | (simp; omega))) (by simp [go_sem])
  have Cp2 : w1.cell? ⟨w.heap.size, 2, none⟩ = some (.int .i64 o) := keepC hb1 (by (first | (simp; done) | (simp; omega))) (by simp [go_sem])
  have tCp : w.heap.size < w1.heap.size := by omega
  rw [b0, b1, b2]
  go_wp2_with fail
  refine (F.refRatio_in (M.as l o) (M.ah l a o) _ hin).mono ?_
  rintro e w2 ⟨rfl, hb2⟩
  have sz2 := hb2.size
  try simp at sz2
  have k2 : Below w1.heap.size w1 w2 := Below.trans (by go_grown) (hb2.mono (by (first | (simp; done) | (simp; omega))))
  have h0w2 : Below w.heap.size w w2 := h0w1.trans (k2.mono h0w1.size)
  replace Cp0 := keepC k2 (by omega) Cp0
  replace Cp1 := keepC k2 (by omega) Cp1
  replace Cp2 := keepC k2 (by omega) Cp2
  have tCp : w.heap.size < w2.heap.size := by omega
  have Ci0 : w2.cell? ⟨w1.heap.size, 0, none⟩ = some (.int .i64 (M.as l o)) := keepC hb2 (by (first | (simp; done) | (simp; omega))) (by simp [go_sem])
  have Ci1 : w2.cell? ⟨w1.heap.size, 1, none⟩ = some (.int .i64 (M.ah l a o)) := keepC hb2 (by (first | (simp; done) | (simp; omega))) (by simp [go_sem])
  have tCi : w1.heap.size < w2.heap.size := by omega
  rw [hu, hd, hq]
  go_wp2_with (first | simp only [hm] | simp only [hd2] | simp only [hc1] | simp only [hc2])
  go_returns
  exact ⟨rfl, Below.trans h0w2 (Below.mono (by go_grown) h0w2.size)⟩

end Go.Proofs.YtdjdnjaijpafgacDoor
