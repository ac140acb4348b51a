/- What the program's withKey comes to. -/
import Derived.Test.YtffhegfapefnfabDoorS3
import Derived.Test.YtffhegfapefnfabDoorSMath3
import Derived.Deep.RegionWith
namespace Go.Proofs.YtffhegfapefnfabDoor
open Go.RowKit
attribute [local go_sem ↓] Go.wp_at_zero Go.wp_at_succ
set_option linter.unusedSimpArgs false

theorem M.key_wrap {K B : Int} (h1 : -9223372036854775808 ≤ K) (h2 : K ≤ 9223372036854775807) (b1 : 0 ≤ B) (b2 : B ≤ 100) (h : K - B < -9223372036854775808) : IntKind.i64.wrap (K - B) = K - B + 18446744073709551616 := by
  rw [IntKind.wrap_i64]; omega
theorem M.tdiv12 {X : Int} (h : X % 12 = 0) : X.tdiv 12 = X / 12 := by
  rcases (show 0 ≤ X ∨ X < 0 by omega) with h0 | h0
  · exact Int.tdiv_eq_ediv_of_nonneg h0
  · have : X.tdiv 12 = -((-X).tdiv 12) := by rw [Int.neg_tdiv, Int.neg_neg]
    rw [this, Int.tdiv_eq_ediv_of_nonneg (by omega)]; omega
theorem M.tmod12 {X : Int} : X.tmod 12 = 0 ↔ X % 12 = 0 := by
  constructor
  · intro h; exact Int.emod_eq_zero_of_dvd (Int.dvd_of_tmod_eq_zero h)
  · intro h; exact Int.tmod_eq_zero_of_dvd (Int.dvd_of_emod_eq_zero h)

set_option maxHeartbeats 1000000 in
theorem withKey_none (l a K : Int) (w : World) (ht : Tab w) (hr : M.rt l a 0 = false) :
    Calls Tryd.prog 58 #[.agg #[.int .i64 l, .int .i64 a], .int .i64 K] w fun e w' => e = .returned (.tuple #[.agg #[.int .i64 0, .int .i64 0, .int .i64 0], .bool false]) ∧ Below w.heap.size w w' := by
  go_enter Tryd.func58, Tryd.ntmps58
  go_wp2_with fail
  refine (inOctave_any l a 0 _).mono ?_
  rintro e w1 ⟨rfl, hb1⟩
  have z1 := hb1.size
  simp at z1
  have hb01 : Below w.heap.size w w1 := Below.trans (by go_grown) (hb1.mono (by simp; omega))
  have d0 : w1.cell? ⟨w.heap.size + 1, 0, none⟩ = some (.int .i64 0) := keepC hb1 (by simp) (by simp [go_sem])
  have d1 : w1.cell? ⟨w.heap.size + 1, 1, none⟩ = some (.int .i64 0) := keepC hb1 (by simp) (by simp [go_sem])
  have d2 : w1.cell? ⟨w.heap.size + 1, 2, none⟩ = some (.int .i64 0) := keepC hb1 (by simp) (by simp [go_sem])
  have f0 : w1.frozen? ⟨w.heap.size + 1, 0, none⟩ = false := keepF hb1 (by simp) (by simp [go_sem])
  have f1 : w1.frozen? ⟨w.heap.size + 1, 1, none⟩ = false := keepF hb1 (by simp) (by simp [go_sem])
  have f2 : w1.frozen? ⟨w.heap.size + 1, 2, none⟩ = false := keepF hb1 (by simp) (by simp [go_sem])
  have s1 : w.heap.size + 1 < w1.heap.size := by omega
  go_wp2_with fail
  refine (Key_any l a 0 _ (ht.step hb01)).mono ?_
  rintro e w2 ⟨rfl, hb2⟩
  rw [M.kn_no hr, M.ke_no hr]
  have z2 := hb2.size
  have hb02 := hb01.trans (hb2.mono hb01.size)
  replace d0 := keepC hb2 (by omega) d0
  replace d1 := keepC hb2 (by omega) d1
  replace d2 := keepC hb2 (by omega) d2
  replace f0 := keepF hb2 (by omega) f0
  replace f1 := keepF hb2 (by omega) f1
  replace f2 := keepF hb2 (by omega) f2
  have s2 : w.heap.size + 1 < w2.heap.size := by omega
  go_wp2_with fail
  refine bodyPost_ret (v := .tuple #[.agg #[.int .i64 0, .int .i64 0, .int .i64 0], .bool false]) (by simp [results, Tryd.results58, go_sem, d0, d1, d2]) rfl ⟨rfl, ?_⟩
  exact (((hb02.setCell (p := ⟨w.heap.size + 1, 0, none⟩) (show w.heap.size ≤ w.heap.size + 1 by omega) _).setCell (p := ⟨w.heap.size + 1, 1, none⟩) (show w.heap.size ≤ w.heap.size + 1 by omega) _).setCell (p := ⟨w.heap.size + 1, 2, none⟩) (show w.heap.size ≤ w.heap.size + 1 by omega) _)

/-- D: the difference as it is reckoned, wrapped or not. -/
theorem withKey_rem (l a K D : Int) (w : World) (ht : Tab w) (hr : M.rt l a 0 = true) (hD : IntKind.i64.wrap (K - (M.hv l a 0 + 12)) = D) (hm : D % 12 ≠ 0) :
    Calls Tryd.prog 58 #[.agg #[.int .i64 l, .int .i64 a], .int .i64 K] w fun e w' => e = .returned (.tuple #[.agg #[.int .i64 0, .int .i64 0, .int .i64 0], .bool false]) ∧ Below w.heap.size w w' := by
  have hm' : D.tmod 12 ≠ 0 := fun h => hm (M.tmod12.1 h)
  have hK := Key_any l a 0
  rw [M.kn_yes hr, M.ke_yes hr] at hK
  have hvb := M.hv_bd hr
  generalize M.hv l a 0 + 12 = B at *
  have hD' : wrap64 (K - B) = D := by rw [← hD, IntKind.wrap_i64]; unfold wrap64; omega
  clear hm
  go_enter Tryd.func58, Tryd.ntmps58
  go_wp2_with fail
  refine (inOctave_any l a 0 _).mono ?_
  rintro e w1 ⟨rfl, hb1⟩
  have z1 := hb1.size
  simp at z1
  have hb01 : Below w.heap.size w w1 := Below.trans (by go_grown) (hb1.mono (by simp; omega))
  have c0 : w1.cell? ⟨w.heap.size, 0, none⟩ = some (.int .i64 l) := keepC hb1 (by simp; omega) (by simp [go_sem])
  have c1 : w1.cell? ⟨w.heap.size, 1, none⟩ = some (.int .i64 a) := keepC hb1 (by simp; omega) (by simp [go_sem])
  have d0 : w1.cell? ⟨w.heap.size + 1, 0, none⟩ = some (.int .i64 0) := keepC hb1 (by simp) (by simp [go_sem])
  have d1 : w1.cell? ⟨w.heap.size + 1, 1, none⟩ = some (.int .i64 0) := keepC hb1 (by simp) (by simp [go_sem])
  have d2 : w1.cell? ⟨w.heap.size + 1, 2, none⟩ = some (.int .i64 0) := keepC hb1 (by simp) (by simp [go_sem])
  have f0 : w1.frozen? ⟨w.heap.size + 1, 0, none⟩ = false := keepF hb1 (by simp) (by simp [go_sem])
  have f1 : w1.frozen? ⟨w.heap.size + 1, 1, none⟩ = false := keepF hb1 (by simp) (by simp [go_sem])
  have f2 : w1.frozen? ⟨w.heap.size + 1, 2, none⟩ = false := keepF hb1 (by simp) (by simp [go_sem])
  have s1 : w.heap.size + 1 < w1.heap.size := by omega
  go_wp2_with fail
  refine (hK _ (ht.step hb01)).mono ?_
  rintro e w2 ⟨rfl, hb2⟩
  have z2 := hb2.size
  have hb02 := hb01.trans (hb2.mono hb01.size)
  replace c0 := keepC hb2 (by omega) c0
  replace c1 := keepC hb2 (by omega) c1
  replace d0 := keepC hb2 (by omega) d0
  replace d1 := keepC hb2 (by omega) d1
  replace d2 := keepC hb2 (by omega) d2
  replace f0 := keepF hb2 (by omega) f0
  replace f1 := keepF hb2 (by omega) f1
  replace f2 := keepF hb2 (by omega) f2
  have s2 : w.heap.size + 1 < w2.heap.size := by omega
  go_wp2_with fail
  refine bodyPost_ret (v := .tuple #[.agg #[.int .i64 0, .int .i64 0, .int .i64 0], .bool false]) (by simp [results, Tryd.results58, go_sem, d0, d1, d2]) rfl ⟨rfl, ?_⟩
  exact (((hb02.setCell (p := ⟨w.heap.size + 1, 0, none⟩) (show w.heap.size ≤ w.heap.size + 1 by omega) _).setCell (p := ⟨w.heap.size + 1, 1, none⟩) (show w.heap.size ≤ w.heap.size + 1 by omega) _).setCell (p := ⟨w.heap.size + 1, 2, none⟩) (show w.heap.size ≤ w.heap.size + 1 by omega) _)

set_option maxHeartbeats 2000000 in
theorem withKey_in (l a K D : Int) (w : World) (ht : Tab w) (hr : M.rt l a 0 = true) (hD : IntKind.i64.wrap (K - (M.hv l a 0 + 12)) = D) (hm : D % 12 = 0) (g1 : -9223372036854775808 ≤ D) (g2 : D ≤ 9223372036854775807) :
    Calls Tryd.prog 58 #[.agg #[.int .i64 l, .int .i64 a], .int .i64 K] w fun e w' => e = .returned (.tuple #[.agg #[.int .i64 l, .int .i64 a, .int .i64 (D / 12)], .bool (M.rt l a (D / 12))]) ∧ Below w.heap.size w w' := by
  have hm' : D.tmod 12 = 0 := M.tmod12.2 hm
  have hq : D.tdiv 12 = D / 12 := M.tdiv12 hm
  obtain ⟨O, hO⟩ : ∃ O, D / 12 = O := ⟨_, rfl⟩
  have hOb : -9223372036854775808 ≤ O ∧ O ≤ 9223372036854775807 := by omega
  rw [hO] at hq
  rw [hO]
  obtain ⟨R, hR⟩ : ∃ R, M.rt l a O = R := ⟨_, rfl⟩
  have HR : Hid (M.rt l a O = R) := hR
  rw [hR]
  have hK := Key_any l a 0
  rw [M.kn_yes hr, M.ke_yes hr] at hK
  have hvb := M.hv_bd hr
  generalize M.hv l a 0 + 12 = B at *
  have hD' : wrap64 (K - B) = D := by rw [← hD, IntKind.wrap_i64]; unfold wrap64; omega
  clear hm hO hR
  go_enter Tryd.func58, Tryd.ntmps58
  go_wp2_with fail
  refine (inOctave_any l a 0 _).mono ?_
  rintro e w1 ⟨rfl, hb1⟩
  have z1 := hb1.size
  simp at z1
  have hb01 : Below w.heap.size w w1 := Below.trans (by go_grown) (hb1.mono (by simp; omega))
  have c0 : w1.cell? ⟨w.heap.size, 0, none⟩ = some (.int .i64 l) := keepC hb1 (by simp; omega) (by simp [go_sem])
  have c1 : w1.cell? ⟨w.heap.size, 1, none⟩ = some (.int .i64 a) := keepC hb1 (by simp; omega) (by simp [go_sem])
  have d0 : w1.cell? ⟨w.heap.size + 1, 0, none⟩ = some (.int .i64 0) := keepC hb1 (by simp) (by simp [go_sem])
  have d1 : w1.cell? ⟨w.heap.size + 1, 1, none⟩ = some (.int .i64 0) := keepC hb1 (by simp) (by simp [go_sem])
  have d2 : w1.cell? ⟨w.heap.size + 1, 2, none⟩ = some (.int .i64 0) := keepC hb1 (by simp) (by simp [go_sem])
  have f0 : w1.frozen? ⟨w.heap.size + 1, 0, none⟩ = false := keepF hb1 (by simp) (by simp [go_sem])
  have f1 : w1.frozen? ⟨w.heap.size + 1, 1, none⟩ = false := keepF hb1 (by simp) (by simp [go_sem])
  have f2 : w1.frozen? ⟨w.heap.size + 1, 2, none⟩ = false := keepF hb1 (by simp) (by simp [go_sem])
  have s1 : w.heap.size + 1 < w1.heap.size := by omega
  go_wp2_with fail
  refine (hK _ (ht.step hb01)).mono ?_
  rintro e w2 ⟨rfl, hb2⟩
  have z2 := hb2.size
  have hb02 := hb01.trans (hb2.mono hb01.size)
  replace c0 := keepC hb2 (by omega) c0
  replace c1 := keepC hb2 (by omega) c1
  replace d0 := keepC hb2 (by omega) d0
  replace d1 := keepC hb2 (by omega) d1
  replace d2 := keepC hb2 (by omega) d2
  replace f0 := keepF hb2 (by omega) f0
  replace f1 := keepF hb2 (by omega) f1
  replace f2 := keepF hb2 (by omega) f2
  have s2 : w.heap.size + 1 < w2.heap.size := by omega
  go_wp2_with fail
  refine (inOctave_any l a O _).mono ?_
  rintro e w3 ⟨rfl, hb3⟩
  have z3 := hb3.size
  have hb03 := hb02.trans (hb3.mono hb02.size)
  replace c0 := keepC hb3 (by omega) c0
  replace c1 := keepC hb3 (by omega) c1
  replace d0 := keepC hb3 (by omega) d0
  replace d1 := keepC hb3 (by omega) d1
  replace d2 := keepC hb3 (by omega) d2
  replace f0 := keepF hb3 (by omega) f0
  replace f1 := keepF hb3 (by omega) f1
  replace f2 := keepF hb3 (by omega) f2
  have s3 : w.heap.size + 1 < w3.heap.size := by omega
  have z03 := hb03.size
  have mk : ∀ wa, Below (w3.heap.size + 1) (w3.alloc (Obj.cells #[.int .i64 l, .int .i64 a, .int .i64 O] 23)) wa → wa.cell? ⟨w3.heap.size, 0, none⟩ = some (.int .i64 l) ∧ wa.cell? ⟨w3.heap.size, 1, none⟩ = some (.int .i64 a) ∧ wa.cell? ⟨w3.heap.size, 2, none⟩ = some (.int .i64 O) ∧ wa.cell? ⟨w.heap.size + 1, 0, none⟩ = some (.int .i64 0) ∧ wa.cell? ⟨w.heap.size + 1, 1, none⟩ = some (.int .i64 0) ∧ wa.cell? ⟨w.heap.size + 1, 2, none⟩ = some (.int .i64 0) ∧ wa.frozen? ⟨w.heap.size + 1, 0, none⟩ = false ∧ wa.frozen? ⟨w.heap.size + 1, 1, none⟩ = false ∧ wa.frozen? ⟨w.heap.size + 1, 2, none⟩ = false ∧ w.heap.size + 1 < wa.heap.size ∧ w3.heap.size < wa.heap.size ∧ Below w.heap.size w wa := by
    intro wa hba
    have za := hba.size
    simp at za
    refine ⟨keepC hba (by omega) (by simp [go_sem]), keepC hba (by omega) (by simp [go_sem]), keepC hba (by omega) (by simp [go_sem]), keepC hba (by omega) (by simp [go_sem, d0, s3]), keepC hba (by omega) (by simp [go_sem, d1, s3]), keepC hba (by omega) (by simp [go_sem, d2, s3]), keepF hba (by omega) (by simp [go_sem, f0, s3]), keepF hba (by omega) (by simp [go_sem, f1, s3]), keepF hba (by omega) (by simp [go_sem, f2, s3]), by omega, by omega, hb03.trans (Below.trans ((Below.refl _ _).alloc (by omega) _) (hba.mono (by omega)))⟩
  go_wp2_with fail
  go_region_with
    (first
      | (go_at_call 14; refine (Right_any l a O _).mono ?_; rintro e wa ⟨rfl, hba⟩; rw [HR.out]; have nn := mk wa ((show Below (w3.heap.size + 1) (w3.alloc (Obj.cells #[.int .i64 l, .int .i64 a, .int .i64 O] 23)) (World.drew (w3.alloc (Obj.cells #[.int .i64 l, .int .i64 a, .int .i64 O] 23))) from (Below.refl _ _).drew).trans (hba.mono (by simp))); obtain ⟨n0, n1, n2, d0, d1, d2, f0, f1, f2, sa, sb, hb0a⟩ := nn))
  all_goals
    go_wp2_with fail
    refine bodyPost_ret (v := .tuple #[.agg #[.int .i64 l, .int .i64 a, .int .i64 O], .bool R]) (by simp [results, Tryd.results58, go_sem, d0, d1, d2]) rfl ⟨rfl, ?_⟩
    exact (((hb0a.setCell (p := ⟨w.heap.size + 1, 0, none⟩) (show w.heap.size ≤ w.heap.size + 1 by omega) _).setCell (p := ⟨w.heap.size + 1, 1, none⟩) (show w.heap.size ≤ w.heap.size + 1 by omega) _).setCell (p := ⟨w.heap.size + 1, 2, none⟩) (show w.heap.size ≤ w.heap.size + 1 by omega) _)

end Go.Proofs.YtffhegfapefnfabDoor
