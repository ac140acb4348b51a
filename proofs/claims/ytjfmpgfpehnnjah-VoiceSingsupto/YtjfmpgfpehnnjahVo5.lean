/- What the document's Held and Level come to. -/
import Derived.Test.YtjfmpgfpehnnjahVo2
import Derived.Test.YtjfmpgfpehnnjahVoMath4
import Derived.Deep.RegionHeld3
import Derived.Lib.QuietBelow
namespace Go.Proofs.Ytjfmpgfpehnnjah.Vo
open Go.RowKit Go.Maps Go.Sort
set_option linter.unusedSimpArgs false
set_option linter.unusedVariables false

theorem ret_int {k : IntKind} {a b : Int} (h : a = b) : Ending.returned (.int k a) = .returned (.int k b) := by rw [h]
theorem keepC {B : Nat} {W w1 : World} (hb : Below B W w1) {b o : Nat} {v : Value} (hlt : b < B) (h : W.cell? ⟨b, o, none⟩ = some v) : w1.cell? ⟨b, o, none⟩ = some v :=
  (hb.cell (p := ⟨b, o, none⟩) hlt).trans h
theorem keepF {B : Nat} {W w1 : World} (hb : Below B W w1) {b o : Nat} {v : Bool} (hlt : b < B) (h : W.frozen? ⟨b, o, none⟩ = v) : w1.frozen? ⟨b, o, none⟩ = v :=
  (hb.frozen (p := ⟨b, o, none⟩) hlt).trans h
/-- A patch as a value. -/
abbrev pv (p : Pt) : Value := .agg #[.int .i64 p.shape, .int .u32 p.step, .float .f64 p.gain, .int .i64 p.atk, .int .i64 p.dec, .int .i64 p.rel, .int .i64 p.sus]

set_option maxHeartbeats 1000000 in
theorem refHeld_any (p : Pt) (h : Ok p) (T : Int) (h0 : 0 ≤ T) (h1 : T ≤ 4611686018427387904) (w : World) :
    Calls Try.prog 55 #[pv p, .int .i64 T] w fun e w' => e = .returned (.int .i64 (held p T)) ∧ Below w.heap.size w w' := by
  obtain ⟨_, _, _, a0, a1, d0, d1, _, _, u0, u1⟩ := h
  obtain ⟨shape, step, gain, atk, dec, rel, sus⟩ := p
  simp only at *
  by_cases c : T < atk
  · have hz : atk ≠ 0 := by omega
    have he : held ⟨shape, step, gain, atk, dec, rel, sus⟩ T = 1048576 * T / atk := by unfold held; exact if_pos c
    have he2 : (1048576 * T).tdiv atk = 1048576 * T / atk := Int.tdiv_eq_ediv_of_nonneg (by omega)
    have p3 : 0 ≤ 1048576 * T / atk := Int.ediv_nonneg (by omega) (by omega)
    have p4 : 1048576 * T / atk ≤ 1048576 * 16777216 := Int.le_trans (Int.ediv_le_self _ (by omega)) (by omega)
    rw [he]
    go_enter Try.func55, Try.ntmps55
    go_wp2
    go_ret
    exact ⟨rfl, by go_grown⟩
  · by_cases d : T < atk + dec
    · have hz : dec ≠ 0 := by omega
      have he : held ⟨shape, step, gain, atk, dec, rel, sus⟩ T = 1048576 - (1048576 - sus) * (T - atk) / dec := by unfold held; simp only; rw [if_neg c, if_pos d]
      have p1 : 0 ≤ (1048576 - sus) * (T - atk) := Int.mul_nonneg (by omega) (by omega)
      have p2 : (1048576 - sus) * (T - atk) ≤ 1048576 * 16777216 := Int.mul_le_mul (by omega) (by omega) (by omega) (by omega)
      have he2 : ((1048576 - sus) * (T - atk)).tdiv dec = (1048576 - sus) * (T - atk) / dec := Int.tdiv_eq_ediv_of_nonneg p1
      have p3 : 0 ≤ (1048576 - sus) * (T - atk) / dec := Int.ediv_nonneg p1 (by omega)
      have p4 : (1048576 - sus) * (T - atk) / dec ≤ 1048576 * 16777216 := Int.le_trans (Int.ediv_le_self _ p1) p2
      rw [he]
      go_enter Try.func55, Try.ntmps55
      go_wp2
      go_ret
      exact ⟨rfl, by go_grown⟩
    · have he : held ⟨shape, step, gain, atk, dec, rel, sus⟩ T = sus := by unfold held; simp only; rw [if_neg c, if_neg d]
      rw [he]
      go_enter Try.func55, Try.ntmps55
      go_wp2
      go_ret
      exact ⟨rfl, by go_grown⟩
theorem lev_none (p : Pt) (T : Nat) : lev p T none = held p T := rfl
theorem lev_some (p : Pt) (T k : Nat) : lev p T (some k) = fade p (held p k) ((T : Int) - k) := rfl
/-- Where it was let go, as the document's text has it: below 0 where it wasn't. -/
def ofs (o : Option Nat) : Int := match o with
  | none => -1
  | some k => k
set_option maxHeartbeats 2000000 in
theorem refLevel_any (p : Pt) (h : Ok p) (T : Nat) (o : Option Nat) (ho : Off T o) (h1 : T ≤ 4611686018427387904) (w : World) :
    Calls Try.prog 39 #[pv p, .int .i64 T, .int .i64 (ofs o)] w fun e w' => e = .returned (.int .i64 (lev p T o)) ∧ Below w.heap.size w w' := by
  cases o with
  | none =>
    rw [lev_none, show ofs none = -1 from rfl]
    have hh := fun w => refHeld_any p h T (by omega) (by omega) w
    generalize held p T = HV at *
    obtain ⟨shape, step, gain, atk, dec, rel, sus⟩ := p
    go_enter Try.func39, Try.ntmps39
    go_wp2_with fail
    refine (hh _).mono ?_
    rintro e w1 ⟨rfl, hb1⟩
    have hb : Below w.heap.size w w1 := Below.trans (by go_grown) (hb1.mono (by simp))
    go_wp2_with fail
    go_ret
    exact ⟨rfl, hb⟩
  | some k =>
    have hk := ho k rfl
    rw [lev_some, show ofs (some k) = (k : Int) from rfl]
    have hh := fun w => refHeld_any p h k (by omega) (by omega) w
    have hb := held_bd p h k (by omega)
    have r0 := h.r0
    have r1 := h.r1
    by_cases c : p.rel ≤ (T : Int) - k
    · rw [show fade p (held p k) ((T : Int) - k) = 0 from if_pos c]
      obtain ⟨shape, step, gain, atk, dec, rel, sus⟩ := p
      simp only at *
      go_enter Try.func39, Try.ntmps39
      go_wp2
      go_ret
      exact ⟨rfl, by go_grown⟩
    · have he : fade p (held p k) ((T : Int) - k) = held p k * (p.rel - ((T : Int) - k)) / p.rel := if_neg c
      rw [he]
      clear he
      generalize held p k = HV at *
      obtain ⟨shape, step, gain, atk, dec, rel, sus⟩ := p
      simp only at *
      clear h
      obtain ⟨b1, b2⟩ := hb
      have p1 : 0 ≤ HV * (rel - ((T : Int) - k)) := Int.mul_nonneg b1 (by omega)
      have p2 : HV * (rel - ((T : Int) - k)) ≤ 1048576 * 16777216 := Int.mul_le_mul b2 (by omega) (by omega) (by omega)
      have he2 : (HV * (rel - ((T : Int) - k))).tdiv rel = HV * (rel - ((T : Int) - k)) / rel := Int.tdiv_eq_ediv_of_nonneg p1
      have p3 : 0 ≤ HV * (rel - ((T : Int) - k)) / rel := Int.ediv_nonneg p1 (by omega)
      have p4 : HV * (rel - ((T : Int) - k)) / rel ≤ 1048576 * 16777216 := Int.le_trans (Int.ediv_le_self _ p1) p2
      have hz : rel ≠ 0 := by omega
      go_enter Try.func39, Try.ntmps39
      go_wp2_with fail
      have hb0 : Below w.heap.size w (w.alloc (Obj.cells #[.int .i64 shape, .int .u32 step, .float .f64 gain, .int .i64 atk, .int .i64 dec, .int .i64 rel, .int .i64 sus] 49)) := (Below.refl _ _).alloc (Nat.le_refl _) _
      generalize hW : w.alloc (Obj.cells #[.int .i64 shape, .int .u32 step, .float .f64 gain, .int .i64 atk, .int .i64 dec, .int .i64 rel, .int .i64 sus] 49) = W at *
      have g0 := cell_regrown (show W.cell? ⟨w.heap.size, 0, none⟩ = some (.int .i64 shape) by rw [← hW]; simp [go_sem])
      have g1 := cell_regrown (show W.cell? ⟨w.heap.size, 1, none⟩ = some (.int .u32 step) by rw [← hW]; simp [go_sem])
      have g2 := cell_regrown (show W.cell? ⟨w.heap.size, 2, none⟩ = some (.float .f64 gain) by rw [← hW]; simp [go_sem])
      have g3 := cell_regrown (show W.cell? ⟨w.heap.size, 3, none⟩ = some (.int .i64 atk) by rw [← hW]; simp [go_sem])
      have g4 := cell_regrown (show W.cell? ⟨w.heap.size, 4, none⟩ = some (.int .i64 dec) by rw [← hW]; simp [go_sem])
      have g5 := cell_regrown (show W.cell? ⟨w.heap.size, 5, none⟩ = some (.int .i64 rel) by rw [← hW]; simp [go_sem])
      have g6 := cell_regrown (show W.cell? ⟨w.heap.size, 6, none⟩ = some (.int .i64 sus) by rw [← hW]; simp [go_sem])
      have cS : ∀ d os, Calls Try.prog 55 #[pv ⟨shape, step, gain, atk, dec, rel, sus⟩, .int .i64 k] (grow (redrawn W d) os) fun e w'' => e = .returned (.int .i64 HV) ∧ ∃ p : Regrown, w'' = grow (redrawn W p.d) p.os := fun d os => Calls.regrown_of (hh _)
      clear hh hW
      refine wp_region_quiet_below (by kernel_rfl) (by kernel_rfl) ?_
      repeat (go_big_quiet_step (exact cS _ _))
      refine wpQuiet_nil ?_
      rintro w4 ⟨⟨dq, osq⟩, hw4⟩
      have hb4 : Below W.heap.size W w4 := by rw [hw4]; exact below_regrown W dq osq
      clear hw4 cS
      go_wp2_with fail
      go_ret
      exact ⟨rfl, hb0.trans (hb4.mono hb0.size)⟩
end Go.Proofs.Ytjfmpgfpehnnjah.Vo
