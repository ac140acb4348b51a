/- What the program's Back comes to. -/
import Derived.Test.YtmccbokjigjpnaeK7
namespace Go.Proofs.Ytmccbokjigjpnae.F
open Go.RowKit
set_option linter.unusedVariables false
set_option linter.unusedSimpArgs false

/-- What Back tells, where nothing is wrong. -/
def BackOk (A P : Nat → Int) (R : Nat → Bool) (n : Nat) (u d p : Int) (e : Ending) : Prop :=
  ∃ H, K.M.Fst A P R n u d p H ∧ ((H = 1048577 ∧ e = .returned (.tuple #[.int .i64 0, .int .i64 6])) ∨ (H ≠ 1048577 ∧ e = .returned (.tuple #[.int .i64 H, .int .i64 0])))
theorem BackOk.one {A P : Nat → Int} {R : Nat → Bool} {n : Nat} {u d p : Int} {e e' : Ending} (h : BackOk A P R n u d p e) (h' : BackOk A P R n u d p e') : e = e' := by
  obtain ⟨H, a, b⟩ := h
  obtain ⟨H', a', b'⟩ := h'
  obtain rfl := a.one a'
  rcases b with ⟨x, rfl⟩ | ⟨x, rfl⟩ <;> rcases b' with ⟨y, rfl⟩ | ⟨y, rfl⟩
  · rfl
  · exact absurd x y
  · exact absurd y x
  · rfl

set_option maxHeartbeats 2000000 in
theorem Back_yes (ao : Option Addr) (n c : Nat) (A P : Nat → Int) (R : Nat → Bool) (p u d : Int) (w : World) (hp : ML w ao n A P R) (hc : n ≤ c) (hcm : c ≤ 9223372036854775807) (h1 : -9223372036854775808 ≤ u) (h2 : u ≤ 9223372036854775807) (h3 : -9223372036854775808 ≤ d) (h4 : d ≤ 9223372036854775807)
    (hw : K.M.wr A P n = 0) (hr : K.M.rte (M.ok u d) u d = 0) :
    Calls Try.prog 13 #[.slice ao n c, .int .i64 p, .agg #[.int .i64 u, .int .i64 d]] w fun e w' => BackOk A P R n u d p e ∧ Below w.heap.size w w' := by
  have HW := fun w hp => Wrong_any ao n c A P R w hp hc hcm
  have HX := fun w => wrongRate_any u d w h1 h2 h3 h4
  obtain ⟨k0, u1, u2, d2⟩ := K.M.rte_zero hr
  obtain ⟨k1, k2, k3, k4, _⟩ := M.ok_yes _ _ k0
  rw [hw] at HW
  rw [hr] at HX
  have HR := K.M.wr_rt hw
  have HS := fun bl br bp w hx hp => Search_any bl br bp ao n c A P R u d p w hx hp hc hcm HR u1 u2 (by omega)
  clear hw hr
  go_enter Try.func13, Try.ntmps13
  go_wp2_with fail
  refine (HW _ (hp.step (by go_grown))).mono ?_
  rintro e w1 ⟨rfl, hb1⟩
  have hX : Bx w1 w.heap.size (w.heap.size + 2) (w.heap.size + 1) ao n c u d p := by
    have z := hb1.size
    simp at z
    exact ⟨by omega, by omega, by omega, keepC hb1 (by simp; omega) (by simp [go_sem]), keepC hb1 (by simp) (by simp [go_sem]), keepC hb1 (by simp) (by simp [go_sem]), keepC hb1 (by simp) (by simp [go_sem])⟩
  have h01 : Below w.heap.size w w1 := Below.trans (by go_grown) (hb1.mono (by simp; omega))
  clear hb1
  obtain ⟨b1, b2, b3, c1, c2, c3, c4⟩ := id hX
  go_wp2_with fail
  refine (HX _).mono ?_
  rintro e w2 ⟨rfl, hb2⟩
  have h02 := h01.trans (hb2.mono h01.size)
  go_wp2_with fail
  refine (HS _ _ _ _ (hX.step hb2) (hp.step h02)).mono ?_
  rintro e w3 ⟨H, rfl, hF, hb3⟩
  have h03 := h02.trans (hb3.mono h02.size)
  have hl := hF.lo
  have hh := hF.hi
  by_cases hg : H = 1048577
  · have hg' : 1048576 < H := by omega
    have hF' : Hid (K.M.Fst A P R n u d p H) := hF
    have hg2 : Hid (H = 1048577) := hg
    clear hg hF
    go_wp2_with fail
    go_returns
    exact ⟨⟨H, hF'.out, .inl ⟨hg2.out, rfl⟩⟩, h03⟩
  · have hg' : ¬ 1048576 < H := by omega
    have hF' : Hid (K.M.Fst A P R n u d p H) := hF
    have hg2 : Hid (H ≠ 1048577) := hg
    clear hg hF
    go_wp2_with fail
    go_returns
    exact ⟨⟨H, hF'.out, .inr ⟨hg2.out, rfl⟩⟩, h03⟩

/-- What Back tells, where something is wrong. -/
theorem Back_no (ao : Option Addr) (n c : Nat) (A P : Nat → Int) (R : Nat → Bool) (p u d E : Int) (w : World) (hp : ML w ao n A P R) (hc : n ≤ c) (hcm : c ≤ 9223372036854775807) (h1 : -9223372036854775808 ≤ u) (h2 : u ≤ 9223372036854775807) (h3 : -9223372036854775808 ≤ d) (h4 : d ≤ 9223372036854775807)
    (hE : E ≠ 0) (hw : K.M.wr A P n = E ∨ (K.M.wr A P n = 0 ∧ K.M.rte (M.ok u d) u d = E)) :
    Calls Try.prog 13 #[.slice ao n c, .int .i64 p, .agg #[.int .i64 u, .int .i64 d]] w fun e w' => e = .returned (.tuple #[.int .i64 0, .int .i64 E]) ∧ Below w.heap.size w w' := by
  have HW := fun w hp => Wrong_any ao n c A P R w hp hc hcm
  have HX := fun w => wrongRate_any u d w h1 h2 h3 h4
  have hne : (E != 0) = true := by simp [hE]
  rcases hw with e | ⟨e, e2⟩
  · rw [e] at HW
    go_enter Try.func13, Try.ntmps13
    go_wp2_with fail
    refine (HW _ (hp.step (by go_grown))).mono ?_
    rintro e w1 ⟨rfl, hb1⟩
    have h01 : Below w.heap.size w w1 := Below.trans (by go_grown) (hb1.mono (by simp; omega))
    go_wp2_with fail
    go_returns
    exact ⟨rfl, h01⟩
  · rw [e] at HW
    rw [e2] at HX
    go_enter Try.func13, Try.ntmps13
    go_wp2_with fail
    refine (HW _ (hp.step (by go_grown))).mono ?_
    rintro e w1 ⟨rfl, hb1⟩
    have h01 : Below w.heap.size w w1 := Below.trans (by go_grown) (hb1.mono (by simp; omega))
    have z := hb1.size
    simp at z
    have c1 : w1.cell? ⟨w.heap.size + 1 + 1, 0, none⟩ = some (.int .i64 u) := keepC hb1 (by simp) (by simp [go_sem])
    have c2 : w1.cell? ⟨w.heap.size + 1 + 1, 1, none⟩ = some (.int .i64 d) := keepC hb1 (by simp) (by simp [go_sem])
    go_wp2_with fail
    refine (HX _).mono ?_
    rintro e w2 ⟨rfl, hb2⟩
    go_wp2_with fail
    go_returns
    exact ⟨rfl, h01.trans (hb2.mono h01.size)⟩
end Go.Proofs.Ytmccbokjigjpnae.F
