/- A voice in memory; what upTo, inRange, fading, level and sample come to. -/
import Derived.Test.YtjfmpgfpehnnjahVo3
import Derived.Test.YtjfmpgfpehnnjahVo5
namespace Go.Proofs.Ytjfmpgfpehnnjah.Vo
open Go.RowKit Go.Maps Go.Sort
set_option linter.unusedSimpArgs false
set_option linter.unusedVariables false

@[go_sem] theorem run_store_float (a : Addr) (k : FloatKind) (x : Nat) (m : Mode) (w : World) : (store a (.float k x) m).run Try.prog w = stored Try.prog w a (.float k x) m := run_store Try.prog w a _ m rfl
theorem upTo_any (m n : Int) (w : World) : Calls Try.prog 52 #[.int .i64 m, .int .i64 n] w fun e w' => e = .returned (.bool (upB m n)) ∧ w' = w := by
  by_cases c : 0 ≤ n
  · by_cases d : n ≤ m
    · rw [show upB m n = true by unfold upB; simp [c, d]]
      go_enter Try.func52, Try.ntmps52
      go_wp2
      go_ret
      exact ⟨rfl, rfl⟩
    · rw [show upB m n = false by unfold upB; simp; omega]
      have d' : decide (n ≤ m) = false := decide_eq_false d
      clear d
      go_enter Try.func52, Try.ntmps52
      go_wp2
      go_ret
      exact ⟨rfl, rfl⟩
  · rw [show upB m n = false by unfold upB; simp; omega]
    have c' : n < 0 := by omega
    clear c
    go_enter Try.func52, Try.ntmps52
    go_wp2
    go_ret
    exact ⟨rfl, rfl⟩
set_option maxHeartbeats 2000000 in
theorem inRange_any (p : Pt) (w : World) : Calls Try.prog 35 #[pv p] w fun e w' => e = .returned (.bool (inB p)) ∧ Below w.heap.size w w' := by
  have q1 := fun w => upTo_any 16777216 p.atk w
  have q2 := fun w => upTo_any 16777216 p.dec w
  have q3 := fun w => upTo_any 16777216 p.rel w
  have q4 := fun w => upTo_any 1048576 p.sus w
  rw [show inB p = (gok p.gain && upB 16777216 p.atk && upB 16777216 p.dec && upB 16777216 p.rel && upB 1048576 p.sus) from rfl]
  generalize upB 16777216 p.atk = B1 at *
  generalize upB 16777216 p.dec = B2 at *
  generalize upB 16777216 p.rel = B3 at *
  generalize upB 1048576 p.sus = B4 at *
  obtain ⟨shape, step, gain, atk, dec, rel, sus⟩ := p
  simp only at *
  cases hg : Fl.geT gain 13920626448202203136
  · have g1 : (FloatKind.f64.format.order gain 13920626448202203136 == some .gt || FloatKind.f64.format.order gain 13920626448202203136 == some .eq) = false := hg
    rw [show gok gain = false by unfold gok; rw [hg]; rfl]
    clear hg
    go_enter Try.func35, Try.ntmps35
    go_wp2_with fail
    go_ret
    exact ⟨rfl, by go_grown⟩
  · have g1 : (FloatKind.f64.format.order gain 13920626448202203136 == some .gt || FloatKind.f64.format.order gain 13920626448202203136 == some .eq) = true := hg
    cases hl : Fl.leT gain 4697254411347427328
    · have g2 : (FloatKind.f64.format.order gain 4697254411347427328 == some .lt || FloatKind.f64.format.order gain 4697254411347427328 == some .eq) = false := hl
      rw [show gok gain = false by unfold gok; rw [hg, hl]; rfl]
      clear hg hl
      go_enter Try.func35, Try.ntmps35
      go_wp2_with fail
      go_ret
      exact ⟨rfl, by go_grown⟩
    · have g2 : (FloatKind.f64.format.order gain 4697254411347427328 == some .lt || FloatKind.f64.format.order gain 4697254411347427328 == some .eq) = true := hl
      rw [show gok gain = true by unfold gok; rw [hg, hl]; rfl]
      clear hg hl
      go_enter Try.func35, Try.ntmps35
      go_wp2_with fail
      refine (q1 _).mono ?_
      rintro e w1 ⟨rfl, hw⟩
      rw [hw]
      cases B1
      · go_wp2_with fail
        go_ret
        exact ⟨rfl, by go_grown⟩
      go_wp2_with fail
      refine (q2 _).mono ?_
      rintro e w1 ⟨rfl, hw⟩
      rw [hw]
      cases B2
      · go_wp2_with fail
        go_ret
        exact ⟨rfl, by go_grown⟩
      go_wp2_with fail
      refine (q3 _).mono ?_
      rintro e w1 ⟨rfl, hw⟩
      rw [hw]
      cases B3
      · go_wp2_with fail
        go_ret
        exact ⟨rfl, by go_grown⟩
      go_wp2_with fail
      refine (q4 _).mono ?_
      rintro e w1 ⟨rfl, hw⟩
      rw [hw]
      go_wp2_with fail
      go_ret
      exact ⟨rfl, by go_grown⟩

/-- How long it sounds, or is let go; its level where it was let go. -/
def tm (T : Nat) (o : Option Nat) : Int := match o with
  | none => T
  | some k => (T : Int) - k
def lst (p : Pt) (o : Option Nat) : Int := match o with
  | none => 0
  | some k => held p k
/-- A voice in memory: it made T samples, and was let go ahead of sample o, if it was. -/
structure VL (w : World) (b : Nat) (p : Pt) (T : Nat) (o : Option Nat) : Prop where
  c0 : w.cell? ⟨b, 0, none⟩ = some (.int .i64 p.shape)
  c1 : w.cell? ⟨b, 1, none⟩ = some (.int .u32 p.step)
  c2 : w.cell? ⟨b, 2, none⟩ = some (.float .f64 p.gain)
  c3 : w.cell? ⟨b, 3, none⟩ = some (.int .i64 p.atk)
  c4 : w.cell? ⟨b, 4, none⟩ = some (.int .i64 p.dec)
  c5 : w.cell? ⟨b, 5, none⟩ = some (.int .i64 p.rel)
  c6 : w.cell? ⟨b, 6, none⟩ = some (.int .i64 p.sus)
  c7 : w.cell? ⟨b, 7, none⟩ = some (.int .u32 (pha p T))
  c8 : w.cell? ⟨b, 8, none⟩ = some (.bool o.isSome)
  c9 : w.cell? ⟨b, 9, none⟩ = some (.int .i64 (tm T o))
  c10 : w.cell? ⟨b, 10, none⟩ = some (.int .i64 (lst p o))
  fz : ∀ i, w.frozen? ⟨b, i, none⟩ = false
  lt : b < w.heap.size
  off : Off T o
  bd : T ≤ 4611686018427387904
theorem VL.keep {w w' : World} {b : Nat} {p : Pt} {T : Nat} {o : Option Nat} (h : VL w b p T o) (hk : w'.heap[b]? = w.heap[b]?) (hz : w.heap.size ≤ w'.heap.size) : VL w' b p T o := by
  have hc : ∀ i, w'.cell? ⟨b, i, none⟩ = w.cell? ⟨b, i, none⟩ := fun i => World.cell?_of_block (w := w) (w' := w') (a := ⟨b, i, none⟩) hk
  have hf : ∀ i, w'.frozen? ⟨b, i, none⟩ = w.frozen? ⟨b, i, none⟩ := fun i => World.frozen?_of_block (w := w) (w' := w') (a := ⟨b, i, none⟩) hk
  exact ⟨by rw [hc]; exact h.c0, by rw [hc]; exact h.c1, by rw [hc]; exact h.c2, by rw [hc]; exact h.c3, by rw [hc]; exact h.c4, by rw [hc]; exact h.c5, by rw [hc]; exact h.c6, by rw [hc]; exact h.c7, by rw [hc]; exact h.c8, by rw [hc]; exact h.c9, by rw [hc]; exact h.c10, fun i => by rw [hf]; exact h.fz i, by have := h.lt; omega, h.off, h.bd⟩
theorem VL.bel {w w' : World} {b : Nat} {p : Pt} {T : Nat} {o : Option Nat} (h : VL w b p T o) (hb : Below w.heap.size w w') : VL w' b p T o := h.keep (hb.block b h.lt) hb.size
set_option maxHeartbeats 2000000 in
theorem fading_any (p : Pt) (h : Ok p) (b T k : Nat) (w : World) (hV : VL w b p T (some k)) :
    Calls Try.prog 53 #[.pointer (some ⟨b, 0, none⟩)] w fun e w' => e = .returned (.int .i64 (lev p T (some k))) ∧ Below w.heap.size w w' := by
  have hk := hV.off k rfl
  have hbd := hV.bd
  have hb := held_bd p h k (by omega)
  have c5 : w.cell? ⟨b, 5, none⟩ = some (.int .i64 p.rel) := hV.c5
  have c9 : w.cell? ⟨b, 9, none⟩ = some (.int .i64 ((T : Int) - k)) := hV.c9
  have c10 : w.cell? ⟨b, 10, none⟩ = some (.int .i64 (held p k)) := hV.c10
  have lt := hV.lt
  have r0 := h.r0
  have r1 := h.r1
  rw [lev_some]
  have hc : (p.rel ≤ (T : Int) - k → fade p (held p k) ((T : Int) - k) = 0) ∧ (¬ p.rel ≤ (T : Int) - k → fade p (held p k) ((T : Int) - k) = held p k * (p.rel - ((T : Int) - k)) / p.rel) := ⟨fun c => if_pos c, fun c => if_neg c⟩
  generalize fade p (held p k) ((T : Int) - k) = FD at *
  generalize held p k = HV at *
  generalize p.rel = rel at *
  obtain ⟨b1, b2⟩ := hb
  have u0 : 0 ≤ (T : Int) - k := by omega
  have u1 : (T : Int) - k ≤ 4611686018427387904 := by omega
  clear hV hbd hk h
  generalize (T : Int) - k = u at *
  by_cases c : rel ≤ u
  · have he := hc.1 c
    subst he
    clear hc
    go_enter Try.func53, Try.ntmps53
    go_wp2_with fail
    go_region
    go_wp2_with fail
    go_ret
    exact ⟨rfl, by go_grown⟩
  · have he := hc.2 c
    subst he
    clear hc
    have p1 : 0 ≤ HV * (rel - u) := Int.mul_nonneg b1 (by omega)
    have p2 : HV * (rel - u) ≤ 1048576 * 16777216 := Int.mul_le_mul b2 (by omega) (by omega) (by omega)
    have he2 : (HV * (rel - u)).tdiv rel = HV * (rel - u) / rel := Int.tdiv_eq_ediv_of_nonneg p1
    have p3 : 0 ≤ HV * (rel - u) / rel := Int.ediv_nonneg p1 (by omega)
    have p4 : HV * (rel - u) / rel ≤ 1048576 * 16777216 := Int.le_trans (Int.ediv_le_self _ p1) p2
    have hz : rel ≠ 0 := by omega
    go_enter Try.func53, Try.ntmps53
    go_wp2_with fail
    go_region
    go_wp2_with fail
    go_region
    go_wp2_with fail
    go_ret
    exact ⟨rfl, by go_grown⟩
end Go.Proofs.Ytjfmpgfpehnnjah.Vo
