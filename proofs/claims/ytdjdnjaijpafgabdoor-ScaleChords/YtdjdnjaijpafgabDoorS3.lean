/- What the program's Degree comes to. -/
import Derived.Test.YtdjdnjaijpafgabDoorS2
import Derived.Test.YtdjdnjaijpafgabDoorQW4
import Derived.Deep.RegionHeld3
import Derived.Deep.DeepCutAuto
namespace Go.Proofs.YtdjdnjaijpafgabDoor
open Go.RowKit
attribute [local go_sem ↓] Go.wp_at_zero Go.wp_at_succ
set_option linter.unusedSimpArgs false

theorem snew_kept {X w' : World} {v0 v1 v2 : Value} {t : TypeId} (hb : Below (X.alloc (Obj.cells #[v0, v1, v2] t)).heap.size (X.alloc (Obj.cells #[v0, v1, v2] t)) w') : w'.cell? ⟨X.heap.size, 0, none⟩ = some v0 ∧ w'.cell? ⟨X.heap.size, 1, none⟩ = some v1 ∧ w'.cell? ⟨X.heap.size, 2, none⟩ = some v2 ∧ w'.frozen? ⟨X.heap.size, 0, none⟩ = false ∧ w'.frozen? ⟨X.heap.size, 1, none⟩ = false ∧ w'.frozen? ⟨X.heap.size, 2, none⟩ = false ∧ X.heap.size < w'.heap.size :=
  ⟨keepC hb (by simp) (by simp [go_sem]), keepC hb (by simp) (by simp [go_sem]), keepC hb (by simp) (by simp [go_sem]), keepF hb (by simp) (by simp [go_sem]), keepF hb (by simp) (by simp [go_sem]), keepF hb (by simp) (by simp [go_sem]), by have := hb.size; simp at this; omega⟩
theorem snew_kept_drew {X w' : World} {v0 v1 v2 : Value} {t : TypeId} (hb : Below (X.alloc (Obj.cells #[v0, v1, v2] t)).drew.heap.size (X.alloc (Obj.cells #[v0, v1, v2] t)).drew w') : w'.cell? ⟨X.heap.size, 0, none⟩ = some v0 ∧ w'.cell? ⟨X.heap.size, 1, none⟩ = some v1 ∧ w'.cell? ⟨X.heap.size, 2, none⟩ = some v2 ∧ w'.frozen? ⟨X.heap.size, 0, none⟩ = false ∧ w'.frozen? ⟨X.heap.size, 1, none⟩ = false ∧ w'.frozen? ⟨X.heap.size, 2, none⟩ = false ∧ X.heap.size < w'.heap.size :=
  ⟨keepC hb (by simp) (by simp [go_sem]), keepC hb (by simp) (by simp [go_sem]), keepC hb (by simp) (by simp [go_sem]), keepF hb (by simp) (by simp [go_sem]), keepF hb (by simp) (by simp [go_sem]), keepF hb (by simp) (by simp [go_sem]), by have := hb.size; simp at this; omega⟩

theorem Degree_sign (l a o m n : Int) (w : World) (ht : Fifs w) (hk : M.zk l a m = false) :
    Calls Tryd.prog 24 #[.agg #[.int .i64 l, .int .i64 a, .int .i64 o], .int .i64 m, .int .i64 n] w fun e w' => e = .returned (.tuple #[.agg #[.int .i64 0, .int .i64 0, .int .i64 0], .int .i64 (M.ze l a m)]) ∧ Below w.heap.size w w' := by
  have hz0 := M.ze_ne hk
  have hS := Signs_any l a m
  generalize M.ze l a m = E at *
  go_enter Tryd.func24, Tryd.ntmps24
  go_wp2_with fail
  refine (classOf_any l a o _).mono ?_
  rintro e w1 ⟨rfl, hb1⟩
  have hz := hb1.size
  simp at hz
  have hb01 : Below w.heap.size w w1 := Below.trans (by go_grown) (hb1.mono (by simp; omega))
  have p0 : w1.cell? ⟨w.heap.size, 0, none⟩ = some (.int .i64 l) := keepC hb1 (by simp; omega) (by simp [go_sem])
  have p1 : w1.cell? ⟨w.heap.size, 1, none⟩ = some (.int .i64 a) := keepC hb1 (by simp; omega) (by simp [go_sem])
  have p2 : w1.cell? ⟨w.heap.size, 2, none⟩ = some (.int .i64 o) := keepC hb1 (by simp; omega) (by simp [go_sem])
  have d0 : w1.cell? ⟨w.heap.size + 1, 0, none⟩ = some (.int .i64 0) := keepC hb1 (by simp) (by simp [go_sem])
  have d1 : w1.cell? ⟨w.heap.size + 1, 1, none⟩ = some (.int .i64 0) := keepC hb1 (by simp) (by simp [go_sem])
  have d2 : w1.cell? ⟨w.heap.size + 1, 2, none⟩ = some (.int .i64 0) := keepC hb1 (by simp) (by simp [go_sem])
  have f0 : w1.frozen? ⟨w.heap.size + 1, 0, none⟩ = false := keepF hb1 (by simp) (by simp [go_sem])
  have f1 : w1.frozen? ⟨w.heap.size + 1, 1, none⟩ = false := keepF hb1 (by simp) (by simp [go_sem])
  have f2 : w1.frozen? ⟨w.heap.size + 1, 2, none⟩ = false := keepF hb1 (by simp) (by simp [go_sem])
  have s1 : w.heap.size + 1 < w1.heap.size := by omega
  go_wp2_with fail
  refine (hS _ (ht.step hb01)).mono ?_
  rintro e w2 ⟨rfl, hb2⟩
  have hz2 := hb2.size
  have hb02 := hb01.trans (hb2.mono hb01.size)
  replace p0 := keepC hb2 (by omega) p0
  replace p1 := keepC hb2 (by omega) p1
  replace p2 := keepC hb2 (by omega) p2
  replace d0 := keepC hb2 (by omega) d0
  replace d1 := keepC hb2 (by omega) d1
  replace d2 := keepC hb2 (by omega) d2
  replace f0 := keepF hb2 (by omega) f0
  replace f1 := keepF hb2 (by omega) f1
  replace f2 := keepF hb2 (by omega) f2
  have s2 : w.heap.size + 1 < w2.heap.size := by omega
  go_wp2_with fail
  refine bodyPost_ret (v := .tuple #[.agg #[.int .i64 0, .int .i64 0, .int .i64 0], .int .i64 E]) (by simp [results, Tryd.results24, go_sem, d0, d1, d2]) rfl ⟨rfl, ?_⟩
  exact (((hb02.setCell (p := ⟨w.heap.size + 1, 0, none⟩) (show w.heap.size ≤ w.heap.size + 1 by omega) _).setCell (p := ⟨w.heap.size + 1, 1, none⟩) (show w.heap.size ≤ w.heap.size + 1 by omega) _).setCell (p := ⟨w.heap.size + 1, 2, none⟩) (show w.heap.size ≤ w.heap.size + 1 by omega) _)

theorem Degree_form (l a o m n : Int) (w : World) (ht : Fifs w) (hk : M.zk l a m = true) (hr : M.rt l a o = false) :
    Calls Tryd.prog 24 #[.agg #[.int .i64 l, .int .i64 a, .int .i64 o], .int .i64 m, .int .i64 n] w fun e w' => e = .returned (.tuple #[.agg #[.int .i64 0, .int .i64 0, .int .i64 0], .int .i64 2]) ∧ Below w.heap.size w w' := by
  have hS := Signs_any l a m
  rw [M.zs_yes hk, M.ze_yes hk] at hS
  have hzb := M.zr_bd hk
  generalize M.zr l a m = S at *
  go_enter Tryd.func24, Tryd.ntmps24
  go_wp2_with fail
  refine (classOf_any l a o _).mono ?_
  rintro e w1 ⟨rfl, hb1⟩
  have hz := hb1.size
  simp at hz
  have hb01 : Below w.heap.size w w1 := Below.trans (by go_grown) (hb1.mono (by simp; omega))
  have p0 : w1.cell? ⟨w.heap.size, 0, none⟩ = some (.int .i64 l) := keepC hb1 (by simp; omega) (by simp [go_sem])
  have p1 : w1.cell? ⟨w.heap.size, 1, none⟩ = some (.int .i64 a) := keepC hb1 (by simp; omega) (by simp [go_sem])
  have p2 : w1.cell? ⟨w.heap.size, 2, none⟩ = some (.int .i64 o) := keepC hb1 (by simp; omega) (by simp [go_sem])
  have d0 : w1.cell? ⟨w.heap.size + 1, 0, none⟩ = some (.int .i64 0) := keepC hb1 (by simp) (by simp [go_sem])
  have d1 : w1.cell? ⟨w.heap.size + 1, 1, none⟩ = some (.int .i64 0) := keepC hb1 (by simp) (by simp [go_sem])
  have d2 : w1.cell? ⟨w.heap.size + 1, 2, none⟩ = some (.int .i64 0) := keepC hb1 (by simp) (by simp [go_sem])
  have f0 : w1.frozen? ⟨w.heap.size + 1, 0, none⟩ = false := keepF hb1 (by simp) (by simp [go_sem])
  have f1 : w1.frozen? ⟨w.heap.size + 1, 1, none⟩ = false := keepF hb1 (by simp) (by simp [go_sem])
  have f2 : w1.frozen? ⟨w.heap.size + 1, 2, none⟩ = false := keepF hb1 (by simp) (by simp [go_sem])
  have s1 : w.heap.size + 1 < w1.heap.size := by omega
  go_wp2_with fail
  refine (hS _ (ht.step hb01)).mono ?_
  rintro e w2 ⟨rfl, hb2⟩
  have hz2 := hb2.size
  have hb02 := hb01.trans (hb2.mono hb01.size)
  replace p0 := keepC hb2 (by omega) p0
  replace p1 := keepC hb2 (by omega) p1
  replace p2 := keepC hb2 (by omega) p2
  replace d0 := keepC hb2 (by omega) d0
  replace d1 := keepC hb2 (by omega) d1
  replace d2 := keepC hb2 (by omega) d2
  replace f0 := keepF hb2 (by omega) f0
  replace f1 := keepF hb2 (by omega) f1
  replace f2 := keepF hb2 (by omega) f2
  have s2 : w.heap.size + 1 < w2.heap.size := by omega
  go_wp2_with fail
  refine (Right_any l a o _).mono ?_
  rintro e w3 ⟨rfl, hb3⟩
  have hz3 := hb3.size
  have hb03 := hb02.trans (hb3.mono hb02.size)
  replace p0 := keepC hb3 (by omega) p0
  replace p1 := keepC hb3 (by omega) p1
  replace p2 := keepC hb3 (by omega) p2
  replace d0 := keepC hb3 (by omega) d0
  replace d1 := keepC hb3 (by omega) d1
  replace d2 := keepC hb3 (by omega) d2
  replace f0 := keepF hb3 (by omega) f0
  replace f1 := keepF hb3 (by omega) f1
  replace f2 := keepF hb3 (by omega) f2
  have s3 : w.heap.size + 1 < w3.heap.size := by omega
  rw [hr]
  go_wp2_with fail
  refine bodyPost_ret (v := .tuple #[.agg #[.int .i64 0, .int .i64 0, .int .i64 0], .int .i64 2]) (by simp [results, Tryd.results24, go_sem, d0, d1, d2]) rfl ⟨rfl, ?_⟩
  exact (((hb03.setCell (p := ⟨w.heap.size + 1, 0, none⟩) (show w.heap.size ≤ w.heap.size + 1 by omega) _).setCell (p := ⟨w.heap.size + 1, 1, none⟩) (show w.heap.size ≤ w.heap.size + 1 by omega) _).setCell (p := ⟨w.heap.size + 1, 2, none⟩) (show w.heap.size ≤ w.heap.size + 1 by omega) _)

theorem Degree_range (l a o m n : Int) (w : World) (ht : Fifs w) (hk : M.zk l a m = true) (hr : M.rt l a o = true) (hn : M.wi n 200 = false) :
    Calls Tryd.prog 24 #[.agg #[.int .i64 l, .int .i64 a, .int .i64 o], .int .i64 m, .int .i64 n] w fun e w' => e = .returned (.tuple #[.agg #[.int .i64 0, .int .i64 0, .int .i64 0], .int .i64 3]) ∧ Below w.heap.size w w' := by
  have hn' := M.wi_no hn
  have hS := Signs_any l a m
  rw [M.zs_yes hk, M.ze_yes hk] at hS
  have hzb := M.zr_bd hk
  generalize M.zr l a m = S at *
  rcases (show n < -200 ∨ ¬ n < -200 ∧ 200 < n by omega) with y1 | ⟨y1, y2⟩
  all_goals
    go_enter Tryd.func24, Tryd.ntmps24
    go_wp2_with fail
    refine (classOf_any l a o _).mono ?_
    rintro e w1 ⟨rfl, hb1⟩
    have hz := hb1.size
    simp at hz
    have hb01 : Below w.heap.size w w1 := Below.trans (by go_grown) (hb1.mono (by simp; omega))
    have p0 : w1.cell? ⟨w.heap.size, 0, none⟩ = some (.int .i64 l) := keepC hb1 (by simp; omega) (by simp [go_sem])
    have p1 : w1.cell? ⟨w.heap.size, 1, none⟩ = some (.int .i64 a) := keepC hb1 (by simp; omega) (by simp [go_sem])
    have p2 : w1.cell? ⟨w.heap.size, 2, none⟩ = some (.int .i64 o) := keepC hb1 (by simp; omega) (by simp [go_sem])
    have d0 : w1.cell? ⟨w.heap.size + 1, 0, none⟩ = some (.int .i64 0) := keepC hb1 (by simp) (by simp [go_sem])
    have d1 : w1.cell? ⟨w.heap.size + 1, 1, none⟩ = some (.int .i64 0) := keepC hb1 (by simp) (by simp [go_sem])
    have d2 : w1.cell? ⟨w.heap.size + 1, 2, none⟩ = some (.int .i64 0) := keepC hb1 (by simp) (by simp [go_sem])
    have f0 : w1.frozen? ⟨w.heap.size + 1, 0, none⟩ = false := keepF hb1 (by simp) (by simp [go_sem])
    have f1 : w1.frozen? ⟨w.heap.size + 1, 1, none⟩ = false := keepF hb1 (by simp) (by simp [go_sem])
    have f2 : w1.frozen? ⟨w.heap.size + 1, 2, none⟩ = false := keepF hb1 (by simp) (by simp [go_sem])
    have s1 : w.heap.size + 1 < w1.heap.size := by omega
    go_wp2_with fail
    refine (hS _ (ht.step hb01)).mono ?_
    rintro e w2 ⟨rfl, hb2⟩
    have hz2 := hb2.size
    have hb02 := hb01.trans (hb2.mono hb01.size)
    replace p0 := keepC hb2 (by omega) p0
    replace p1 := keepC hb2 (by omega) p1
    replace p2 := keepC hb2 (by omega) p2
    replace d0 := keepC hb2 (by omega) d0
    replace d1 := keepC hb2 (by omega) d1
    replace d2 := keepC hb2 (by omega) d2
    replace f0 := keepF hb2 (by omega) f0
    replace f1 := keepF hb2 (by omega) f1
    replace f2 := keepF hb2 (by omega) f2
    have s2 : w.heap.size + 1 < w2.heap.size := by omega
    go_wp2_with fail
    refine (Right_any l a o _).mono ?_
    rintro e w3 ⟨rfl, hb3⟩
    have hz3 := hb3.size
    have hb03 := hb02.trans (hb3.mono hb02.size)
    replace p0 := keepC hb3 (by omega) p0
    replace p1 := keepC hb3 (by omega) p1
    replace p2 := keepC hb3 (by omega) p2
    replace d0 := keepC hb3 (by omega) d0
    replace d1 := keepC hb3 (by omega) d1
    replace d2 := keepC hb3 (by omega) d2
    replace f0 := keepF hb3 (by omega) f0
    replace f1 := keepF hb3 (by omega) f1
    replace f2 := keepF hb3 (by omega) f2
    have s3 : w.heap.size + 1 < w3.heap.size := by omega
    rw [hr]
    go_wp2_with fail
    refine bodyPost_ret (v := .tuple #[.agg #[.int .i64 0, .int .i64 0, .int .i64 0], .int .i64 3]) (by simp [results, Tryd.results24, go_sem, d0, d1, d2]) rfl ⟨rfl, ?_⟩
    exact (((hb03.setCell (p := ⟨w.heap.size + 1, 0, none⟩) (show w.heap.size ≤ w.heap.size + 1 by omega) _).setCell (p := ⟨w.heap.size + 1, 1, none⟩) (show w.heap.size ≤ w.heap.size + 1 by omega) _).setCell (p := ⟨w.heap.size + 1, 2, none⟩) (show w.heap.size ≤ w.heap.size + 1 by omega) _)

set_option maxRecDepth 20000 in
set_option maxHeartbeats 4000000 in
theorem Degree_out (l a o m n : Int) (w : World) (ht : Fifs w) (hk : M.zk l a m = true) (hr : M.rt l a o = true) (hn : M.wi n 200 = true) (hR : M.rt ((l + n) % 7) (M.al (M.zr l a m) ((l + n) % 7)) (o + (l + n) / 7) = false) :
    Calls Tryd.prog 24 #[.agg #[.int .i64 l, .int .i64 a, .int .i64 o], .int .i64 m, .int .i64 n] w fun e w' => e = .returned (.tuple #[.agg #[.int .i64 0, .int .i64 0, .int .i64 0], .int .i64 3]) ∧ Below w.heap.size w w' := by
  have hn' := M.wi_yes hn
  obtain ⟨x1, x2, x3, x4, x5, x6⟩ := M.rt_yes hr
  obtain ⟨y, hy⟩ : ∃ y : Nat, (l + n) % 7 = y := ⟨((l + n) % 7).toNat, by omega⟩
  have hy7 : y < 7 := by omega
  have hZ2 : ((l + n) - (y : Int)).tdiv 7 = (l + n) / 7 := by rw [← hy]; exact M.octave7 (l + n)
  have e1 := M.letter7 (l + n)
  rw [hy] at e1
  have eb := M.tmod7_bd (l + n)
  obtain ⟨Z, hZ⟩ : ∃ Z, o + (l + n) / 7 = Z := ⟨_, rfl⟩
  obtain ⟨D, hD⟩ : ∃ D, (l + n) / 7 = D := ⟨_, rfl⟩
  have hDb : -200 ≤ D ∧ D ≤ 200 := by omega
  have hym : (l + n) % 7 = y := hy
  clear hy
  rw [hD] at hZ hZ2
  rw [hym, hD, hZ] at hR
  have hS := Signs_any l a m
  rw [M.zs_yes hk, M.ze_yes hk] at hS
  have hzb := M.zr_bd hk
  generalize M.zr l a m = S at *
  clear hym hD
  have v1 : IntKind.i64.wrap (l + n - (y : Int)) = l + n - y := wid (by omega) (by omega)
  have v2 : IntKind.i64.wrap D = D := wid (by omega) (by omega)
  have v3 : IntKind.i64.wrap Z = Z := wid (by omega) (by omega)
  have HR : Hid (M.rt y (M.al S y) Z = false) := hR
  clear hR
  go_enter Tryd.func24, Tryd.ntmps24
  go_wp2_with fail
  refine (classOf_any l a o _).mono ?_
  rintro e w1 ⟨rfl, hb1⟩
  have hz := hb1.size
  simp at hz
  have hb01 : Below w.heap.size w w1 := Below.trans (by go_grown) (hb1.mono (by simp; omega))
  have p0 : w1.cell? ⟨w.heap.size, 0, none⟩ = some (.int .i64 l) := keepC hb1 (by simp; omega) (by simp [go_sem])
  have p1 : w1.cell? ⟨w.heap.size, 1, none⟩ = some (.int .i64 a) := keepC hb1 (by simp; omega) (by simp [go_sem])
  have p2 : w1.cell? ⟨w.heap.size, 2, none⟩ = some (.int .i64 o) := keepC hb1 (by simp; omega) (by simp [go_sem])
  have d0 : w1.cell? ⟨w.heap.size + 1, 0, none⟩ = some (.int .i64 0) := keepC hb1 (by simp) (by simp [go_sem])
  have d1 : w1.cell? ⟨w.heap.size + 1, 1, none⟩ = some (.int .i64 0) := keepC hb1 (by simp) (by simp [go_sem])
  have d2 : w1.cell? ⟨w.heap.size + 1, 2, none⟩ = some (.int .i64 0) := keepC hb1 (by simp) (by simp [go_sem])
  have f0 : w1.frozen? ⟨w.heap.size + 1, 0, none⟩ = false := keepF hb1 (by simp) (by simp [go_sem])
  have f1 : w1.frozen? ⟨w.heap.size + 1, 1, none⟩ = false := keepF hb1 (by simp) (by simp [go_sem])
  have f2 : w1.frozen? ⟨w.heap.size + 1, 2, none⟩ = false := keepF hb1 (by simp) (by simp [go_sem])
  have s1 : w.heap.size + 1 < w1.heap.size := by omega
  go_wp2_with fail
  refine (hS _ (ht.step hb01)).mono ?_
  rintro e w2 ⟨rfl, hb2⟩
  have hz2 := hb2.size
  have hb02 := hb01.trans (hb2.mono hb01.size)
  replace p0 := keepC hb2 (by omega) p0
  replace p1 := keepC hb2 (by omega) p1
  replace p2 := keepC hb2 (by omega) p2
  replace d0 := keepC hb2 (by omega) d0
  replace d1 := keepC hb2 (by omega) d1
  replace d2 := keepC hb2 (by omega) d2
  replace f0 := keepF hb2 (by omega) f0
  replace f1 := keepF hb2 (by omega) f1
  replace f2 := keepF hb2 (by omega) f2
  have s2 : w.heap.size + 1 < w2.heap.size := by omega
  go_wp2_with fail
  refine (Right_any l a o _).mono ?_
  rintro e w3 ⟨rfl, hb3⟩
  have hz3 := hb3.size
  have hb03 := hb02.trans (hb3.mono hb02.size)
  replace p0 := keepC hb3 (by omega) p0
  replace p1 := keepC hb3 (by omega) p1
  replace p2 := keepC hb3 (by omega) p2
  replace d0 := keepC hb3 (by omega) d0
  replace d1 := keepC hb3 (by omega) d1
  replace d2 := keepC hb3 (by omega) d2
  replace f0 := keepF hb3 (by omega) f0
  replace f1 := keepF hb3 (by omega) f1
  replace f2 := keepF hb3 (by omega) f2
  have s3 : w.heap.size + 1 < w3.heap.size := by omega
  rw [hr]
  have ft3 := ht.step hb03
  have fin : ∀ W, Below w3.heap.size w3 W → Fifs W := fun W h => ft3.step h
  have mkS : ∀ W, Below w3.heap.size w3 W → (Below w3.heap.size w3 W ∧ W.cell? ⟨w.heap.size, 2, none⟩ = some (.int .i64 o)) := fun W h => ⟨h, keepC h (by omega) p2⟩
  go_wp2_with fail
  simp only [e1]
  go_cut [12] (fun c wx => ∃ b : Nat, c = .pointer (some ⟨b, 0, none⟩) ∧ w3.heap.size ≤ b ∧ b < wx.heap.size ∧ Below w3.heap.size w3 wx ∧ wx.cell? ⟨b, 0, none⟩ = some (.int .i64 y) ∧ wx.cell? ⟨b, 1, none⟩ = some (.int .i64 (M.al S y)) ∧ wx.cell? ⟨b, 2, none⟩ = some (.int .i64 Z))
  case first =>
    go_region_held3 (fun W => (Below w3.heap.size w3 W ∧ W.cell? ⟨w.heap.size, 2, none⟩ = some (.int .i64 o)))
      (first | exact mkS _ hbn | exact mkS _ (hbn.alloc hbn.size _) | exact mkS _ (((hbn.setCell hnl _).setCell hnl _).setCell hnl _) | (refine mkS _ ?_; (solve | go_grown)))
      (first
        | (go_at_call 55; refine (stepOf_any S y _ (fin _ ?_) ?_ ?_ ?_).mono ?_; (all_goals first | omega | (first | exact hbn | exact hbn.alloc hbn.size _ | (solve | go_grown)) | skip); rintro e wa ⟨rfl, hba⟩
           first
             | (have hbn : Below w3.heap.size w3 wa := hbn.trans (hba.mono hbn.size); first | (have n0 := keepC hba hnz n0; have n1 := keepC hba hnz n1; have n2 := keepC hba hnz n2; have g0 := keepF hba hnz g0; have g1 := keepF hba hnz g1; have g2 := keepF hba hnz g2; have hnz := Nat.lt_of_lt_of_le hnz hba.size) | skip)
             | (have hnl := hbn.size; have nn := snew_kept hba; obtain ⟨n0, n1, n2, g0, g1, g2, hnz⟩ := nn; have hbn : Below w3.heap.size w3 wa := (hbn.alloc hbn.size _).trans (hba.mono (Nat.le_trans hbn.size (by simp))))
             | (have hbn : Below w3.heap.size w3 wa := Below.trans (by go_grown) (hba.mono (by simp)); first | (have nn := snew_kept_drew hba; obtain ⟨n0, n1, n2, g0, g1, g2, hnz⟩ := nn; have hnl := Nat.le_refl w3.heap.size) | skip))
        | (go_at_call 51; refine (inOctave_any _ _ _ _).mono ?_; (all_goals first | omega | skip); rintro e wa ⟨rfl, hba⟩
           first
             | (have hbn : Below w3.heap.size w3 wa := hbn.trans (hba.mono hbn.size); first | (have n0 := keepC hba hnz n0; have n1 := keepC hba hnz n1; have n2 := keepC hba hnz n2; have g0 := keepF hba hnz g0; have g1 := keepF hba hnz g1; have g2 := keepF hba hnz g2; have hnz := Nat.lt_of_lt_of_le hnz hba.size) | skip)
             | (have hnl := hbn.size; have nn := snew_kept hba; obtain ⟨n0, n1, n2, g0, g1, g2, hnz⟩ := nn; have hbn : Below w3.heap.size w3 wa := (hbn.alloc hbn.size _).trans (hba.mono (Nat.le_trans hbn.size (by simp))))
             | (have hbn : Below w3.heap.size w3 wa := Below.trans (by go_grown) (hba.mono (by simp)); first | (have nn := snew_kept_drew hba; obtain ⟨n0, n1, n2, g0, g1, g2, hnz⟩ := nn; have hnl := Nat.le_refl w3.heap.size) | skip)))
    all_goals
      go_wp2_with fail
      go_meet
      case rel =>
        first
          | exact ⟨wa.heap.size, rfl, hbn.size, by simp, hbn.alloc hbn.size _, by simp [go_sem], by simp [go_sem], by simp [go_sem]⟩
          | exact ⟨_, rfl, hnl, by simpa [World.setCell] using hnz, ((hbn.setCell hnl _).setCell hnl _).setCell hnl _, by simp [go_sem, n0], by simp [go_sem, n1], by simp [go_sem, n2]⟩
  case rest =>
    obtain ⟨b, rfl, hb5, hb6, hbx, n0, n1, n2⟩ := hcut
    replace p0 := keepC hbx (by omega) p0
    replace p1 := keepC hbx (by omega) p1
    replace p2 := keepC hbx (by omega) p2
    replace d0 := keepC hbx (by omega) d0
    replace d1 := keepC hbx (by omega) d1
    replace d2 := keepC hbx (by omega) d2
    replace f0 := keepF hbx (by omega) f0
    replace f1 := keepF hbx (by omega) f1
    replace f2 := keepF hbx (by omega) f2
    have hb0c := hb03.trans (hbx.mono (by omega))
    have s7 : w.heap.size + 1 < wc.heap.size := by omega
    go_wp2_with fail
    refine (Right_any y (M.al S y) Z _).mono ?_
    rintro e w8 ⟨rfl, hb8⟩
    have hz8 := hb8.size
    have hb08 := hb0c.trans (hb8.mono hb0c.size)
    replace n0 := keepC hb8 (by omega) n0
    replace n1 := keepC hb8 (by omega) n1
    replace n2 := keepC hb8 (by omega) n2
    replace p0 := keepC hb8 (by omega) p0
    replace p1 := keepC hb8 (by omega) p1
    replace p2 := keepC hb8 (by omega) p2
    replace d0 := keepC hb8 (by omega) d0
    replace d1 := keepC hb8 (by omega) d1
    replace d2 := keepC hb8 (by omega) d2
    replace f0 := keepF hb8 (by omega) f0
    replace f1 := keepF hb8 (by omega) f1
    replace f2 := keepF hb8 (by omega) f2
    have s8 : w.heap.size + 1 < w8.heap.size := by omega
    have s9 : b < w8.heap.size := by omega
    rw [HR.out]
    go_wp2_with fail
    refine bodyPost_ret (v := .tuple #[.agg #[.int .i64 0, .int .i64 0, .int .i64 0], .int .i64 3]) (by simp [results, Tryd.results24, go_sem, d0, d1, d2]) rfl ⟨rfl, ?_⟩
    exact (((hb08.setCell (p := ⟨w.heap.size + 1, 0, none⟩) (show w.heap.size ≤ w.heap.size + 1 by omega) _).setCell (p := ⟨w.heap.size + 1, 1, none⟩) (show w.heap.size ≤ w.heap.size + 1 by omega) _).setCell (p := ⟨w.heap.size + 1, 2, none⟩) (show w.heap.size ≤ w.heap.size + 1 by omega) _)

set_option maxRecDepth 20000 in
set_option maxHeartbeats 4000000 in
theorem Degree_yes (l a o m n : Int) (w : World) (ht : Fifs w) (hk : M.zk l a m = true) (hr : M.rt l a o = true) (hn : M.wi n 200 = true) (hR : M.rt ((l + n) % 7) (M.al (M.zr l a m) ((l + n) % 7)) (o + (l + n) / 7) = true) :
    Calls Tryd.prog 24 #[.agg #[.int .i64 l, .int .i64 a, .int .i64 o], .int .i64 m, .int .i64 n] w fun e w' => e = .returned (.tuple #[.agg #[.int .i64 ((l + n) % 7), .int .i64 (M.al (M.zr l a m) ((l + n) % 7)), .int .i64 (o + (l + n) / 7)], .int .i64 0]) ∧ Below w.heap.size w w' := by
  have hn' := M.wi_yes hn
  obtain ⟨x1, x2, x3, x4, x5, x6⟩ := M.rt_yes hr
  obtain ⟨y, hy⟩ : ∃ y : Nat, (l + n) % 7 = y := ⟨((l + n) % 7).toNat, by omega⟩
  have hy7 : y < 7 := by omega
  have hZ2 : ((l + n) - (y : Int)).tdiv 7 = (l + n) / 7 := by rw [← hy]; exact M.octave7 (l + n)
  have e1 := M.letter7 (l + n)
  rw [hy] at e1
  have eb := M.tmod7_bd (l + n)
  obtain ⟨Z, hZ⟩ : ∃ Z, o + (l + n) / 7 = Z := ⟨_, rfl⟩
  obtain ⟨D, hD⟩ : ∃ D, (l + n) / 7 = D := ⟨_, rfl⟩
  have hDb : -200 ≤ D ∧ D ≤ 200 := by omega
  have hym : (l + n) % 7 = y := hy
  clear hy
  rw [hD] at hZ hZ2
  rw [hym, hD, hZ] at hR
  rw [hym, hD, hZ]
  have hS := Signs_any l a m
  rw [M.zs_yes hk, M.ze_yes hk] at hS
  have hzb := M.zr_bd hk
  generalize M.zr l a m = S at *
  clear hym hD
  have v1 : IntKind.i64.wrap (l + n - (y : Int)) = l + n - y := wid (by omega) (by omega)
  have v2 : IntKind.i64.wrap D = D := wid (by omega) (by omega)
  have v3 : IntKind.i64.wrap Z = Z := wid (by omega) (by omega)
  have HR : Hid (M.rt y (M.al S y) Z = true) := hR
  clear hR
  go_enter Tryd.func24, Tryd.ntmps24
  go_wp2_with fail
  refine (classOf_any l a o _).mono ?_
  rintro e w1 ⟨rfl, hb1⟩
  have hz := hb1.size
  simp at hz
  have hb01 : Below w.heap.size w w1 := Below.trans (by go_grown) (hb1.mono (by simp; omega))
  have p0 : w1.cell? ⟨w.heap.size, 0, none⟩ = some (.int .i64 l) := keepC hb1 (by simp; omega) (by simp [go_sem])
  have p1 : w1.cell? ⟨w.heap.size, 1, none⟩ = some (.int .i64 a) := keepC hb1 (by simp; omega) (by simp [go_sem])
  have p2 : w1.cell? ⟨w.heap.size, 2, none⟩ = some (.int .i64 o) := keepC hb1 (by simp; omega) (by simp [go_sem])
  have d0 : w1.cell? ⟨w.heap.size + 1, 0, none⟩ = some (.int .i64 0) := keepC hb1 (by simp) (by simp [go_sem])
  have d1 : w1.cell? ⟨w.heap.size + 1, 1, none⟩ = some (.int .i64 0) := keepC hb1 (by simp) (by simp [go_sem])
  have d2 : w1.cell? ⟨w.heap.size + 1, 2, none⟩ = some (.int .i64 0) := keepC hb1 (by simp) (by simp [go_sem])
  have f0 : w1.frozen? ⟨w.heap.size + 1, 0, none⟩ = false := keepF hb1 (by simp) (by simp [go_sem])
  have f1 : w1.frozen? ⟨w.heap.size + 1, 1, none⟩ = false := keepF hb1 (by simp) (by simp [go_sem])
  have f2 : w1.frozen? ⟨w.heap.size + 1, 2, none⟩ = false := keepF hb1 (by simp) (by simp [go_sem])
  have s1 : w.heap.size + 1 < w1.heap.size := by omega
  go_wp2_with fail
  refine (hS _ (ht.step hb01)).mono ?_
  rintro e w2 ⟨rfl, hb2⟩
  have hz2 := hb2.size
  have hb02 := hb01.trans (hb2.mono hb01.size)
  replace p0 := keepC hb2 (by omega) p0
  replace p1 := keepC hb2 (by omega) p1
  replace p2 := keepC hb2 (by omega) p2
  replace d0 := keepC hb2 (by omega) d0
  replace d1 := keepC hb2 (by omega) d1
  replace d2 := keepC hb2 (by omega) d2
  replace f0 := keepF hb2 (by omega) f0
  replace f1 := keepF hb2 (by omega) f1
  replace f2 := keepF hb2 (by omega) f2
  have s2 : w.heap.size + 1 < w2.heap.size := by omega
  go_wp2_with fail
  refine (Right_any l a o _).mono ?_
  rintro e w3 ⟨rfl, hb3⟩
  have hz3 := hb3.size
  have hb03 := hb02.trans (hb3.mono hb02.size)
  replace p0 := keepC hb3 (by omega) p0
  replace p1 := keepC hb3 (by omega) p1
  replace p2 := keepC hb3 (by omega) p2
  replace d0 := keepC hb3 (by omega) d0
  replace d1 := keepC hb3 (by omega) d1
  replace d2 := keepC hb3 (by omega) d2
  replace f0 := keepF hb3 (by omega) f0
  replace f1 := keepF hb3 (by omega) f1
  replace f2 := keepF hb3 (by omega) f2
  have s3 : w.heap.size + 1 < w3.heap.size := by omega
  rw [hr]
  have ft3 := ht.step hb03
  have fin : ∀ W, Below w3.heap.size w3 W → Fifs W := fun W h => ft3.step h
  have mkS : ∀ W, Below w3.heap.size w3 W → (Below w3.heap.size w3 W ∧ W.cell? ⟨w.heap.size, 2, none⟩ = some (.int .i64 o)) := fun W h => ⟨h, keepC h (by omega) p2⟩
  go_wp2_with fail
  simp only [e1]
  go_cut [12] (fun c wx => ∃ b : Nat, c = .pointer (some ⟨b, 0, none⟩) ∧ w3.heap.size ≤ b ∧ b < wx.heap.size ∧ Below w3.heap.size w3 wx ∧ wx.cell? ⟨b, 0, none⟩ = some (.int .i64 y) ∧ wx.cell? ⟨b, 1, none⟩ = some (.int .i64 (M.al S y)) ∧ wx.cell? ⟨b, 2, none⟩ = some (.int .i64 Z))
  case first =>
    go_region_held3 (fun W => (Below w3.heap.size w3 W ∧ W.cell? ⟨w.heap.size, 2, none⟩ = some (.int .i64 o)))
      (first | exact mkS _ hbn | exact mkS _ (hbn.alloc hbn.size _) | exact mkS _ (((hbn.setCell hnl _).setCell hnl _).setCell hnl _) | (refine mkS _ ?_; (solve | go_grown)))
      (first
        | (go_at_call 55; refine (stepOf_any S y _ (fin _ ?_) ?_ ?_ ?_).mono ?_; (all_goals first | omega | (first | exact hbn | exact hbn.alloc hbn.size _ | (solve | go_grown)) | skip); rintro e wa ⟨rfl, hba⟩
           first
             | (have hbn : Below w3.heap.size w3 wa := hbn.trans (hba.mono hbn.size); first | (have n0 := keepC hba hnz n0; have n1 := keepC hba hnz n1; have n2 := keepC hba hnz n2; have g0 := keepF hba hnz g0; have g1 := keepF hba hnz g1; have g2 := keepF hba hnz g2; have hnz := Nat.lt_of_lt_of_le hnz hba.size) | skip)
             | (have hnl := hbn.size; have nn := snew_kept hba; obtain ⟨n0, n1, n2, g0, g1, g2, hnz⟩ := nn; have hbn : Below w3.heap.size w3 wa := (hbn.alloc hbn.size _).trans (hba.mono (Nat.le_trans hbn.size (by simp))))
             | (have hbn : Below w3.heap.size w3 wa := Below.trans (by go_grown) (hba.mono (by simp)); first | (have nn := snew_kept_drew hba; obtain ⟨n0, n1, n2, g0, g1, g2, hnz⟩ := nn; have hnl := Nat.le_refl w3.heap.size) | skip))
        | (go_at_call 51; refine (inOctave_any _ _ _ _).mono ?_; (all_goals first | omega | skip); rintro e wa ⟨rfl, hba⟩
           first
             | (have hbn : Below w3.heap.size w3 wa := hbn.trans (hba.mono hbn.size); first | (have n0 := keepC hba hnz n0; have n1 := keepC hba hnz n1; have n2 := keepC hba hnz n2; have g0 := keepF hba hnz g0; have g1 := keepF hba hnz g1; have g2 := keepF hba hnz g2; have hnz := Nat.lt_of_lt_of_le hnz hba.size) | skip)
             | (have hnl := hbn.size; have nn := snew_kept hba; obtain ⟨n0, n1, n2, g0, g1, g2, hnz⟩ := nn; have hbn : Below w3.heap.size w3 wa := (hbn.alloc hbn.size _).trans (hba.mono (Nat.le_trans hbn.size (by simp))))
             | (have hbn : Below w3.heap.size w3 wa := Below.trans (by go_grown) (hba.mono (by simp)); first | (have nn := snew_kept_drew hba; obtain ⟨n0, n1, n2, g0, g1, g2, hnz⟩ := nn; have hnl := Nat.le_refl w3.heap.size) | skip)))
    all_goals
      go_wp2_with fail
      go_meet
      case rel =>
        first
          | exact ⟨wa.heap.size, rfl, hbn.size, by simp, hbn.alloc hbn.size _, by simp [go_sem], by simp [go_sem], by simp [go_sem]⟩
          | exact ⟨_, rfl, hnl, by simpa [World.setCell] using hnz, ((hbn.setCell hnl _).setCell hnl _).setCell hnl _, by simp [go_sem, n0], by simp [go_sem, n1], by simp [go_sem, n2]⟩
  case rest =>
    obtain ⟨b, rfl, hb5, hb6, hbx, n0, n1, n2⟩ := hcut
    replace p0 := keepC hbx (by omega) p0
    replace p1 := keepC hbx (by omega) p1
    replace p2 := keepC hbx (by omega) p2
    replace d0 := keepC hbx (by omega) d0
    replace d1 := keepC hbx (by omega) d1
    replace d2 := keepC hbx (by omega) d2
    replace f0 := keepF hbx (by omega) f0
    replace f1 := keepF hbx (by omega) f1
    replace f2 := keepF hbx (by omega) f2
    have hb0c := hb03.trans (hbx.mono (by omega))
    have s7 : w.heap.size + 1 < wc.heap.size := by omega
    go_wp2_with fail
    refine (Right_any y (M.al S y) Z _).mono ?_
    rintro e w8 ⟨rfl, hb8⟩
    have hz8 := hb8.size
    have hb08 := hb0c.trans (hb8.mono hb0c.size)
    replace n0 := keepC hb8 (by omega) n0
    replace n1 := keepC hb8 (by omega) n1
    replace n2 := keepC hb8 (by omega) n2
    replace p0 := keepC hb8 (by omega) p0
    replace p1 := keepC hb8 (by omega) p1
    replace p2 := keepC hb8 (by omega) p2
    replace d0 := keepC hb8 (by omega) d0
    replace d1 := keepC hb8 (by omega) d1
    replace d2 := keepC hb8 (by omega) d2
    replace f0 := keepF hb8 (by omega) f0
    replace f1 := keepF hb8 (by omega) f1
    replace f2 := keepF hb8 (by omega) f2
    have s8 : w.heap.size + 1 < w8.heap.size := by omega
    have s9 : b < w8.heap.size := by omega
    rw [HR.out]
    go_wp2_with fail
    refine bodyPost_ret (v := .tuple #[.agg #[.int .i64 y, .int .i64 (M.al S y), .int .i64 Z], .int .i64 0]) (by simp [results, Tryd.results24, go_sem, d0, d1, d2]) rfl ⟨rfl, ?_⟩
    exact (((hb08.setCell (p := ⟨w.heap.size + 1, 0, none⟩) (show w.heap.size ≤ w.heap.size + 1 by omega) _).setCell (p := ⟨w.heap.size + 1, 1, none⟩) (show w.heap.size ≤ w.heap.size + 1 by omega) _).setCell (p := ⟨w.heap.size + 1, 2, none⟩) (show w.heap.size ≤ w.heap.size + 1 by omega) _)

theorem Degree_any (l a o m n : Int) (w : World) (ht : Fifs w) :
    Calls Tryd.prog 24 #[.agg #[.int .i64 l, .int .i64 a, .int .i64 o], .int .i64 m, .int .i64 n] w fun e w' => e = .returned (.tuple #[.agg #[.int .i64 (M.dl l a o m n), .int .i64 (M.da l a o m n), .int .i64 (M.dO l a o m n)], .int .i64 (M.de l a o m n)]) ∧ Below w.heap.size w w' := by
  cases hk : M.zk l a m
  · obtain ⟨k1, k2⟩ := M.de_sign (o := o) (n := n) hk
    rw [M.dl_no k1, M.da_no k1, M.dO_no k1, k2]; exact Degree_sign l a o m n w ht hk
  · cases hr : M.rt l a o
    · obtain ⟨k1, k2⟩ := M.de_form (n := n) hk hr
      rw [M.dl_no k1, M.da_no k1, M.dO_no k1, k2]; exact Degree_form l a o m n w ht hk hr
    · cases hn : M.wi n 200
      · obtain ⟨k1, k2⟩ := M.de_range hk hr hn
        rw [M.dl_no k1, M.da_no k1, M.dO_no k1, k2]; exact Degree_range l a o m n w ht hk hr hn
      · cases hR : M.rt ((l + n) % 7) (M.al (M.zr l a m) ((l + n) % 7)) (o + (l + n) / 7)
        · obtain ⟨k1, k2⟩ := M.de_out hk hr hn hR
          rw [M.dl_no k1, M.da_no k1, M.dO_no k1, k2]; exact Degree_out l a o m n w ht hk hr hn hR
        · have k1 := M.dk_mk hk hr hn hR
          rw [M.dl_yes k1, M.da_yes k1, M.dO_yes k1, M.de_yes k1]; exact Degree_yes l a o m n w ht hk hr hn hR

end Go.Proofs.YtdjdnjaijpafgabDoor
