/- The walk of the law ScaleKeys. -/
import Derived.Test.YtffhegfapefnfabDoorS10
import Derived.Test.YtffhegfapefnfabDoorS11
namespace Go.Proofs.YtffhegfapefnfabDoor
open Go.RowKit
attribute [local go_sem ↓] Go.wp_at_zero Go.wp_at_succ
set_option linter.unusedSimpArgs false

theorem PB.other {w : World} {b b' i : Nat} {l a o : Int} {v : Value} (h : PB w b l a o) (hne : b ≠ b') : PB (w.setCell ⟨b', i, none⟩ v) b l a o :=
  ⟨by simpa using h.lt, by rw [World.cell?_setCell_other _ _ _ _ (by simp [hne])]; exact h.n0, by rw [World.cell?_setCell_other _ _ _ _ (by simp [hne])]; exact h.n1, by rw [World.cell?_setCell_other _ _ _ _ (by simp [hne])]; exact h.n2, by simpa [go_sem] using h.g0, by simpa [go_sem] using h.g1, by simpa [go_sem] using h.g2⟩
theorem PB.put {w : World} {b : Nat} {l a o u0 u1 u2 : Int} (h : PB w b l a o) : PB (((w.setCell ⟨b, 0, none⟩ (.int .i64 u0)).setCell ⟨b, 1, none⟩ (.int .i64 u1)).setCell ⟨b, 2, none⟩ (.int .i64 u2)) b u0 u1 u2 := ((h.put0).put1).put2

set_option maxRecDepth 20000 in
set_option maxHeartbeats 8000000 in
theorem keys_no (l a o m n K : Int) (w : World) (ht : SW w) (a1 : -9223372036854775808 ≤ a) (a2 : a ≤ 9223372036854775807) (hk : M.zk l a m = false) :
    Calls Tryd.prog 6 #[.agg #[.int .i64 l, .int .i64 a, .int .i64 o], .int .i64 m, .int .i64 n, .int .i64 K] w fun e w' => e = .returned (.bool true) ∧ Below w.heap.size w w' := by
  have hz := M.ze_ne hk
  have hS := Signs_any l a m
  have hS' := fun w => refSigns_any l a m w a1 a2
  have hC := fun w ht => Scale_no l a m w ht hk
  have hC' := fun w => refScale_no l a m w a1 a2 hk
  have hD := Degree_any l a o m n
  have hD' := fun w => refDegree_any l a o m n w a1 a2
  have hP := fun w ht => Spell_no K l a m w ht hk
  have hQ := fun w => refSpell_no K l a m w a1 a2 hk
  generalize M.ze l a m = E at *
  generalize M.zs l a m = Z at *
  generalize M.dl l a o m n = DL at *
  generalize M.da l a o m n = DA at *
  generalize M.dO l a o m n = DO at *
  generalize M.de l a o m n = DE at *
  go_enter Tryd.func6, Tryd.ntmps6
  go_wp2_with fail
  refine (hS _ (ht.fifs.step (by go_grown))).mono ?_
  rintro e w1 ⟨rfl, hb1⟩
  have z1 := hb1.size
  simp at z1
  have h01 : Below w.heap.size w w1 := Below.trans (by go_grown) (hb1.mono (by simp; omega))
  have p0 : w1.cell? ⟨w.heap.size, 0, none⟩ = some (.int .i64 l) := keepC hb1 (by simp; omega) (by simp [go_sem])
  have p1 : w1.cell? ⟨w.heap.size, 1, none⟩ = some (.int .i64 a) := keepC hb1 (by simp; omega) (by simp [go_sem])
  have p2 : w1.cell? ⟨w.heap.size, 2, none⟩ = some (.int .i64 o) := keepC hb1 (by simp; omega) (by simp [go_sem])
  have c0 : w1.cell? ⟨w.heap.size + 1, 0, none⟩ = some (.int .i64 l) := keepC hb1 (by simp) (by simp [go_sem])
  have c1 : w1.cell? ⟨w.heap.size + 1, 1, none⟩ = some (.int .i64 a) := keepC hb1 (by simp) (by simp [go_sem])
  have s1 : w.heap.size + 1 < w1.heap.size := by omega
  go_wp2_with fail
  refine (hS' _).mono ?_
  rintro e w2 ⟨rfl, hb2⟩
  have z2 := hb2.size
  have k2 : Below w1.heap.size w1 w2 := hb2
  have h02 := h01.trans (k2.mono h01.size)
  replace p0 := keepC k2 (by omega) p0
  replace p1 := keepC k2 (by omega) p1
  replace p2 := keepC k2 (by omega) p2
  replace c0 := keepC k2 (by omega) c0
  replace c1 := keepC k2 (by omega) c1
  have s2 : w.heap.size + 1 < w2.heap.size := by omega
  have sA2 : w.heap.size < w2.heap.size := by omega
  go_wp2_with fail
  refine (hC _ (ht.step h02).fifs).mono ?_
  rintro e w3 ⟨rfl, hb3⟩
  have z3 := hb3.size
  have k3 : Below w2.heap.size w2 w3 := hb3
  have h03 := h02.trans (k3.mono h02.size)
  replace p0 := keepC k3 (by omega) p0
  replace p1 := keepC k3 (by omega) p1
  replace p2 := keepC k3 (by omega) p2
  replace c0 := keepC k3 (by omega) c0
  replace c1 := keepC k3 (by omega) c1
  have s3 : w.heap.size + 1 < w3.heap.size := by omega
  have sA3 : w.heap.size < w3.heap.size := by omega
  go_wp2_with fail
  refine (hC' _).mono ?_
  rintro e w4 ⟨rfl, hb4⟩
  have z4 := hb4.size
  have k4 : Below w3.heap.size w3 w4 := hb4
  have h04 := h03.trans (k4.mono h03.size)
  replace p0 := keepC k4 (by omega) p0
  replace p1 := keepC k4 (by omega) p1
  replace p2 := keepC k4 (by omega) p2
  replace c0 := keepC k4 (by omega) c0
  replace c1 := keepC k4 (by omega) c1
  have s4 : w.heap.size + 1 < w4.heap.size := by omega
  have sA4 : w.heap.size < w4.heap.size := by omega
  go_wp2_with fail
  refine (SameClasses_nil _).mono ?_
  rintro e w5 ⟨rfl, hb5⟩
  have z5 := hb5.size
  have k5 : Below w4.heap.size w4 w5 := hb5
  have h05 := h04.trans (k5.mono h04.size)
  replace p0 := keepC k5 (by omega) p0
  replace p1 := keepC k5 (by omega) p1
  replace p2 := keepC k5 (by omega) p2
  replace c0 := keepC k5 (by omega) c0
  replace c1 := keepC k5 (by omega) c1
  have s5 : w.heap.size + 1 < w5.heap.size := by omega
  have sA5 : w.heap.size < w5.heap.size := by omega
  go_wp2_with fail
  refine (hD _ (ht.step h05).fifs).mono ?_
  rintro e w6 ⟨rfl, hb6⟩
  have z6 := hb6.size
  have k6 : Below w5.heap.size w5 w6 := hb6
  have h06 := h05.trans (k6.mono h05.size)
  replace p0 := keepC k6 (by omega) p0
  replace p1 := keepC k6 (by omega) p1
  replace p2 := keepC k6 (by omega) p2
  replace c0 := keepC k6 (by omega) c0
  replace c1 := keepC k6 (by omega) c1
  have s6 : w.heap.size + 1 < w6.heap.size := by omega
  have sA6 : w.heap.size < w6.heap.size := by omega
  go_wp2_with fail
  refine (hD' _).mono ?_
  rintro e w7 ⟨rfl, hb7⟩
  have z7 := hb7.size
  simp at z7
  have k7 : Below w6.heap.size w6 w7 := Below.trans (by go_grown) (hb7.mono (by simp))
  have h07 := h06.trans (k7.mono h06.size)
  replace p0 := keepC k7 (by omega) p0
  replace p1 := keepC k7 (by omega) p1
  replace p2 := keepC k7 (by omega) p2
  replace c0 := keepC k7 (by omega) c0
  replace c1 := keepC k7 (by omega) c1
  have s7 : w.heap.size + 1 < w7.heap.size := by omega
  have sA7 : w.heap.size < w7.heap.size := by omega
  have b1 : PB w7 w6.heap.size DL DA DO := (PB.new w6 DL DA DO 23).step hb7 (by simp) (Nat.le_refl _)
  obtain ⟨q1, q2, q3, q4, q5, q6, q7⟩ := b1
  have hba8 : Below w.heap.size w (w7.alloc (Obj.cells #[.int .i64 DL, .int .i64 DA, .int .i64 DO] 23)) := h07.alloc h07.size _
  go_wp2_with fail
  refine (hP _ (ht.step hba8).fifs).mono ?_
  rintro e w8 ⟨rfl, hb8⟩
  have z8 := hb8.size
  simp at z8
  have k8 : Below w7.heap.size w7 w8 := Below.trans (by go_grown) (hb8.mono (by simp))
  have h08 := h07.trans (k8.mono h07.size)
  replace p0 := keepC k8 (by omega) p0
  replace p1 := keepC k8 (by omega) p1
  replace p2 := keepC k8 (by omega) p2
  replace c0 := keepC k8 (by omega) c0
  replace c1 := keepC k8 (by omega) c1
  have s8 : w.heap.size + 1 < w8.heap.size := by omega
  have sA8 : w.heap.size < w8.heap.size := by omega
  have b1 : PB w8 w6.heap.size DL DA DO := (PB.mk q1 q2 q3 q4 q5 q6 q7).step k8 q1 (Nat.le_refl _)
  have b2 : PB w8 w7.heap.size DL DA DO := (PB.new w7 DL DA DO 23).step hb8 (by simp) (Nat.le_refl _)
  have b3 := b1.put (u0 := 0) (u1 := 0) (u2 := 0)
  have b4 := ((b2.other (b' := w6.heap.size) (i := 0) (v := .int .i64 0) (by omega)).other (b' := w6.heap.size) (i := 1) (v := .int .i64 0) (by omega)).other (b' := w6.heap.size) (i := 2) (v := .int .i64 0) (by omega)
  have k9s : Below w6.heap.size w8 (((w8.setCell ⟨w6.heap.size, 0, none⟩ (.int .i64 0)).setCell ⟨w6.heap.size, 1, none⟩ (.int .i64 0)).setCell ⟨w6.heap.size, 2, none⟩ (.int .i64 0)) := (((Below.refl _ _).setCell (p := ⟨w6.heap.size, 0, none⟩) (Nat.le_refl _) _).setCell (p := ⟨w6.heap.size, 1, none⟩) (Nat.le_refl _) _).setCell (p := ⟨w6.heap.size, 2, none⟩) (Nat.le_refl _) _
  obtain ⟨r1, r2, r3, r4, r5, r6, r7⟩ := b1
  go_wp2_with fail
  refine (hQ _).mono ?_
  rintro e w9 ⟨rfl, hb9⟩
  have z9 := hb9.size
  have b3' := b3.step hb9 b3.lt (Nat.le_refl _)
  have b4' := b4.step hb9 b4.lt (Nat.le_refl _)
  have k9 : Below w6.heap.size w8 w9 := k9s.trans (hb9.mono (by have := k9s.size; omega))
  have h09 := h08.trans (k9.mono (by omega))
  clear b3 b4 b2 k9s
  obtain ⟨t1, t2, t3, t4, t5, t6, t7⟩ := b3'
  obtain ⟨v1, v2, v3, v4, v5, v6, v7⟩ := b4'
  have b5 := (PB.mk v1 v2 v3 v4 v5 v6 v7).put (u0 := 0) (u1 := 0) (u2 := 0)
  have b6 := (((PB.mk t1 t2 t3 t4 t5 t6 t7).other (b' := w7.heap.size) (i := 0) (v := .int .i64 0) (by omega)).other (b' := w7.heap.size) (i := 1) (v := .int .i64 0) (by omega)).other (b' := w7.heap.size) (i := 2) (v := .int .i64 0) (by omega)
  obtain ⟨t1', t2', t3', t4', t5', t6', t7'⟩ := b6
  obtain ⟨v1', v2', v3', v4', v5', v6', v7'⟩ := b5
  go_wp2_with fail
  go_ret
  exact ⟨rfl, ((h09.setCell (p := ⟨w7.heap.size, 0, none⟩) (show w.heap.size ≤ w7.heap.size by omega) _).setCell (p := ⟨w7.heap.size, 1, none⟩) (show w.heap.size ≤ w7.heap.size by omega) _).setCell (p := ⟨w7.heap.size, 2, none⟩) (show w.heap.size ≤ w7.heap.size by omega) _⟩

set_option maxRecDepth 20000 in
set_option maxHeartbeats 8000000 in
theorem keys_yes (x : Nat) (a o m n K : Int) (w : World) (ht : SW w) (hA : Ados w) (a1 : -9223372036854775808 ≤ a) (a2 : a ≤ 9223372036854775807) (k1 : -9223372036854775808 ≤ K) (k2 : K ≤ 9223372036854775807) (hk : M.zk x a m = true) (hx : x < 7) :
    Calls Tryd.prog 6 #[.agg #[.int .i64 x, .int .i64 a, .int .i64 o], .int .i64 m, .int .i64 n, .int .i64 K] w fun e w' => e = .returned (.bool true) ∧ Below w.heap.size w w' := by
  have hS := Signs_any x a m
  have hS' := fun w => refSigns_any x a m w a1 a2
  rw [M.zs_yes hk, M.ze_yes hk] at hS hS'
  have hC := fun w ht => Scale_yes x a m w ht hk hx
  have hC' := fun w => refScale_yes x a m w hk hx
  have hD := Degree_any x a o m n
  have hD' := fun w => refDegree_any x a o m n w a1 a2
  have hP := fun w ht hA => Spell_yes K x a m w ht hA hk hx k1 k2
  have hQ := fun w => refSpell_yes K x a m w hk hx
  generalize M.zr x a m = S at *
  generalize M.dl x a o m n = DL at *
  generalize M.da x a o m n = DA at *
  generalize M.dO x a o m n = DO at *
  generalize M.de x a o m n = DE at *
  go_enter Tryd.func6, Tryd.ntmps6
  go_wp2_with fail
  refine (hS _ (ht.fifs.step (by go_grown))).mono ?_
  rintro e w1 ⟨rfl, hb1⟩
  have z1 := hb1.size
  simp at z1
  have h01 : Below w.heap.size w w1 := Below.trans (by go_grown) (hb1.mono (by simp; omega))
  have p0 : w1.cell? ⟨w.heap.size, 0, none⟩ = some (.int .i64 x) := keepC hb1 (by simp; omega) (by simp [go_sem])
  have p1 : w1.cell? ⟨w.heap.size, 1, none⟩ = some (.int .i64 a) := keepC hb1 (by simp; omega) (by simp [go_sem])
  have p2 : w1.cell? ⟨w.heap.size, 2, none⟩ = some (.int .i64 o) := keepC hb1 (by simp; omega) (by simp [go_sem])
  have c0 : w1.cell? ⟨w.heap.size + 1, 0, none⟩ = some (.int .i64 x) := keepC hb1 (by simp) (by simp [go_sem])
  have c1 : w1.cell? ⟨w.heap.size + 1, 1, none⟩ = some (.int .i64 a) := keepC hb1 (by simp) (by simp [go_sem])
  have s1 : w.heap.size + 1 < w1.heap.size := by omega
  go_wp2_with fail
  refine (hS' _).mono ?_
  rintro e w2 ⟨rfl, hb2⟩
  have z2 := hb2.size
  have k2 : Below w1.heap.size w1 w2 := hb2
  have h02 := h01.trans (k2.mono h01.size)
  replace p0 := keepC k2 (by omega) p0
  replace p1 := keepC k2 (by omega) p1
  replace p2 := keepC k2 (by omega) p2
  replace c0 := keepC k2 (by omega) c0
  replace c1 := keepC k2 (by omega) c1
  have s2 : w.heap.size + 1 < w2.heap.size := by omega
  have sA2 : w.heap.size < w2.heap.size := by omega
  go_wp2_with fail
  refine (hC _ (ht.step h02).fifs).mono ?_
  rintro e w3 ⟨b, hbb, rfl, hb3, hrow⟩
  have z3 := hb3.size
  have k3 : Below w2.heap.size w2 w3 := hb3
  have h03 := h02.trans (k3.mono h02.size)
  replace p0 := keepC k3 (by omega) p0
  replace p1 := keepC k3 (by omega) p1
  replace p2 := keepC k3 (by omega) p2
  replace c0 := keepC k3 (by omega) c0
  replace c1 := keepC k3 (by omega) c1
  have s3 : w.heap.size + 1 < w3.heap.size := by omega
  have sA3 : w.heap.size < w3.heap.size := by omega
  have hl3 := hrow.lt
  go_wp2_with fail
  refine (hC' _).mono ?_
  rintro e w4 ⟨b', cap, hbb', hcap, rfl, hb4, hsev'⟩
  have z4 := hb4.size
  have k4 : Below w3.heap.size w3 w4 := hb4
  have h04 := h03.trans (k4.mono h03.size)
  replace p0 := keepC k4 (by omega) p0
  replace p1 := keepC k4 (by omega) p1
  replace p2 := keepC k4 (by omega) p2
  replace c0 := keepC k4 (by omega) c0
  replace c1 := keepC k4 (by omega) c1
  have s4 : w.heap.size + 1 < w4.heap.size := by omega
  have sA4 : w.heap.size < w4.heap.size := by omega
  have hl4 := hsev'.lt
  have hsev := hrow.sev.step k4 hl3 (Nat.le_refl _)
  clear hrow
  go_wp2_with fail
  refine (SameClasses_sev b b' 7 cap S x _ hsev hsev').mono ?_
  rintro e w5 ⟨rfl, hb5⟩
  have z5 := hb5.size
  have k5 : Below w4.heap.size w4 w5 := hb5
  have h05 := h04.trans (k5.mono h04.size)
  replace p0 := keepC k5 (by omega) p0
  replace p1 := keepC k5 (by omega) p1
  replace p2 := keepC k5 (by omega) p2
  replace c0 := keepC k5 (by omega) c0
  replace c1 := keepC k5 (by omega) c1
  have s5 : w.heap.size + 1 < w5.heap.size := by omega
  have sA5 : w.heap.size < w5.heap.size := by omega
  go_wp2_with fail
  refine (hD _ (ht.step h05).fifs).mono ?_
  rintro e w6 ⟨rfl, hb6⟩
  have z6 := hb6.size
  have k6 : Below w5.heap.size w5 w6 := hb6
  have h06 := h05.trans (k6.mono h05.size)
  replace p0 := keepC k6 (by omega) p0
  replace p1 := keepC k6 (by omega) p1
  replace p2 := keepC k6 (by omega) p2
  replace c0 := keepC k6 (by omega) c0
  replace c1 := keepC k6 (by omega) c1
  have s6 : w.heap.size + 1 < w6.heap.size := by omega
  have sA6 : w.heap.size < w6.heap.size := by omega
  go_wp2_with fail
  refine (hD' _).mono ?_
  rintro e w7 ⟨rfl, hb7⟩
  have z7 := hb7.size
  simp at z7
  have k7 : Below w6.heap.size w6 w7 := Below.trans (by go_grown) (hb7.mono (by simp))
  have h07 := h06.trans (k7.mono h06.size)
  replace p0 := keepC k7 (by omega) p0
  replace p1 := keepC k7 (by omega) p1
  replace p2 := keepC k7 (by omega) p2
  replace c0 := keepC k7 (by omega) c0
  replace c1 := keepC k7 (by omega) c1
  have s7 : w.heap.size + 1 < w7.heap.size := by omega
  have sA7 : w.heap.size < w7.heap.size := by omega
  have b1 : PB w7 w6.heap.size DL DA DO := (PB.new w6 DL DA DO 23).step hb7 (by simp) (Nat.le_refl _)
  obtain ⟨q1, q2, q3, q4, q5, q6, q7⟩ := b1
  have hba8 : Below w.heap.size w (w7.alloc (Obj.cells #[.int .i64 DL, .int .i64 DA, .int .i64 DO] 23)) := h07.alloc h07.size _
  go_wp2_with fail
  refine (hP _ (ht.step hba8) (hA.step hba8)).mono ?_
  rintro e w8 ⟨T, hF, rfl, hb8⟩
  have z8 := hb8.size
  simp at z8
  have k8 : Below w7.heap.size w7 w8 := Below.trans (by go_grown) (hb8.mono (by simp))
  have h08 := h07.trans (k8.mono h07.size)
  replace p0 := keepC k8 (by omega) p0
  replace p1 := keepC k8 (by omega) p1
  replace p2 := keepC k8 (by omega) p2
  replace c0 := keepC k8 (by omega) c0
  replace c1 := keepC k8 (by omega) c1
  have s8 : w.heap.size + 1 < w8.heap.size := by omega
  have sA8 : w.heap.size < w8.heap.size := by omega
  have HF : Hid (M.Fst (M.sp S x K) T) := hF
  clear hF
  obtain ⟨T0, g0⟩ : ∃ v, M.tl x T = v := ⟨_, rfl⟩
  obtain ⟨T1, g1⟩ : ∃ v, M.ta S x T = v := ⟨_, rfl⟩
  obtain ⟨T2, g2⟩ : ∃ v, M.tO S x K T = v := ⟨_, rfl⟩
  obtain ⟨T3, g3⟩ : ∃ v, M.te T = v := ⟨_, rfl⟩
  rw [g0, g1, g2, g3]
  have b1 : PB w8 w6.heap.size DL DA DO := (PB.mk q1 q2 q3 q4 q5 q6 q7).step k8 q1 (Nat.le_refl _)
  have b2 : PB w8 w7.heap.size DL DA DO := (PB.new w7 DL DA DO 23).step hb8 (by simp) (Nat.le_refl _)
  have b3 := b1.put (u0 := T0) (u1 := T1) (u2 := T2)
  have b4 := ((b2.other (b' := w6.heap.size) (i := 0) (v := .int .i64 T0) (by omega)).other (b' := w6.heap.size) (i := 1) (v := .int .i64 T1) (by omega)).other (b' := w6.heap.size) (i := 2) (v := .int .i64 T2) (by omega)
  have k9s : Below w6.heap.size w8 (((w8.setCell ⟨w6.heap.size, 0, none⟩ (.int .i64 T0)).setCell ⟨w6.heap.size, 1, none⟩ (.int .i64 T1)).setCell ⟨w6.heap.size, 2, none⟩ (.int .i64 T2)) := (((Below.refl _ _).setCell (p := ⟨w6.heap.size, 0, none⟩) (Nat.le_refl _) _).setCell (p := ⟨w6.heap.size, 1, none⟩) (Nat.le_refl _) _).setCell (p := ⟨w6.heap.size, 2, none⟩) (Nat.le_refl _) _
  obtain ⟨r1, r2, r3, r4, r5, r6, r7⟩ := b1
  go_wp2_with fail
  refine (hQ _).mono ?_
  rintro e w9 ⟨T', hF', rfl, hb9⟩
  have hTe := HF.out.one hF'
  subst hTe
  rw [g0, g1, g2, g3]
  have z9 := hb9.size
  have b3' := b3.step hb9 b3.lt (Nat.le_refl _)
  have b4' := b4.step hb9 b4.lt (Nat.le_refl _)
  have k9 : Below w6.heap.size w8 w9 := k9s.trans (hb9.mono (by have := k9s.size; omega))
  have h09 := h08.trans (k9.mono (by omega))
  clear b3 b4 b2 k9s
  obtain ⟨t1, t2, t3, t4, t5, t6, t7⟩ := b3'
  obtain ⟨v1, v2, v3, v4, v5, v6, v7⟩ := b4'
  have b5 := (PB.mk v1 v2 v3 v4 v5 v6 v7).put (u0 := T0) (u1 := T1) (u2 := T2)
  have b6 := (((PB.mk t1 t2 t3 t4 t5 t6 t7).other (b' := w7.heap.size) (i := 0) (v := .int .i64 T0) (by omega)).other (b' := w7.heap.size) (i := 1) (v := .int .i64 T1) (by omega)).other (b' := w7.heap.size) (i := 2) (v := .int .i64 T2) (by omega)
  obtain ⟨t1', t2', t3', t4', t5', t6', t7'⟩ := b6
  obtain ⟨v1', v2', v3', v4', v5', v6', v7'⟩ := b5
  go_wp2_with fail
  go_ret
  exact ⟨rfl, ((h09.setCell (p := ⟨w7.heap.size, 0, none⟩) (show w.heap.size ≤ w7.heap.size by omega) _).setCell (p := ⟨w7.heap.size, 1, none⟩) (show w.heap.size ≤ w7.heap.size by omega) _).setCell (p := ⟨w7.heap.size, 2, none⟩) (show w.heap.size ≤ w7.heap.size by omega) _⟩

theorem keys_walk (l a o m n K : Int) (w : World) (ht : SW w ∧ Ados w) (a1 : -9223372036854775808 ≤ a) (a2 : a ≤ 9223372036854775807) (k1 : -9223372036854775808 ≤ K) (k2 : K ≤ 9223372036854775807) :
    Calls Tryd.prog 6 #[.agg #[.int .i64 l, .int .i64 a, .int .i64 o], .int .i64 m, .int .i64 n, .int .i64 K] w fun e w' => e = .returned (.bool true) ∧ Below w.heap.size w w' := by
  cases hk : M.zk l a m
  · exact keys_no l a o m n K w ht.1 a1 a2 hk
  · have := M.rt_yes (M.zk_yes hk).2.1
    obtain ⟨x, rfl⟩ : ∃ x : Nat, l = x := ⟨l.toNat, by omega⟩
    exact keys_yes x a o m n K w ht.1 ht.2 a1 a2 k1 k2 hk (by omega)

end Go.Proofs.YtffhegfapefnfabDoor
