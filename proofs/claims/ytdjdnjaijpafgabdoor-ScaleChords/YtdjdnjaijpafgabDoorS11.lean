/- What the document's Degree comes to. -/
import Derived.Test.YtdjdnjaijpafgabDoorS7
import Derived.Deep.RegionWith
import Derived.Deep.DeepCutAuto
namespace Go.Proofs.YtdjdnjaijpafgabDoor
open Go.RowKit
attribute [local go_sem ↓] Go.wp_at_zero Go.wp_at_succ
set_option linter.unusedSimpArgs false

/-- A pitch in a block of its own. -/
structure PB (w : World) (b : Nat) (l a o : Int) : Prop where
  lt : b < w.heap.size
  n0 : w.cell? ⟨b, 0, none⟩ = some (.int .i64 l)
  n1 : w.cell? ⟨b, 1, none⟩ = some (.int .i64 a)
  n2 : w.cell? ⟨b, 2, none⟩ = some (.int .i64 o)
  g0 : w.frozen? ⟨b, 0, none⟩ = false
  g1 : w.frozen? ⟨b, 1, none⟩ = false
  g2 : w.frozen? ⟨b, 2, none⟩ = false
theorem PB.step {w w' : World} {B b : Nat} {l a o : Int} (h : PB w b l a o) (hb : Below B w w') (hB : b < B) (hs : B ≤ w.heap.size) : PB w' b l a o := by
  have hz := hb.size
  exact ⟨by omega, keepC hb hB h.n0, keepC hb hB h.n1, keepC hb hB h.n2, keepF hb hB h.g0, keepF hb hB h.g1, keepF hb hB h.g2⟩
theorem PB.put0 {w : World} {b : Nat} {l a o v : Int} (h : PB w b l a o) : PB (w.setCell ⟨b, 0, none⟩ (.int .i64 v)) b v a o :=
  ⟨by simpa using h.lt, by simp [go_sem, h.n0], by simp [go_sem, h.n1], by simp [go_sem, h.n2], by simp [go_sem, h.g0], by simp [go_sem, h.g1], by simp [go_sem, h.g2]⟩
theorem PB.put1 {w : World} {b : Nat} {l a o v : Int} (h : PB w b l a o) : PB (w.setCell ⟨b, 1, none⟩ (.int .i64 v)) b l v o :=
  ⟨by simpa using h.lt, by simp [go_sem, h.n0], by simp [go_sem, h.n1], by simp [go_sem, h.n2], by simp [go_sem, h.g0], by simp [go_sem, h.g1], by simp [go_sem, h.g2]⟩
theorem PB.put2 {w : World} {b : Nat} {l a o v : Int} (h : PB w b l a o) : PB (w.setCell ⟨b, 2, none⟩ (.int .i64 v)) b l a v :=
  ⟨by simpa using h.lt, by simp [go_sem, h.n0], by simp [go_sem, h.n1], by simp [go_sem, h.n2], by simp [go_sem, h.g0], by simp [go_sem, h.g1], by simp [go_sem, h.g2]⟩
theorem PB.new (w : World) (l a o : Int) (t : TypeId) : PB (w.alloc (Obj.cells #[.int .i64 l, .int .i64 a, .int .i64 o] t)) w.heap.size l a o :=
  ⟨by simp, by simp [go_sem], by simp [go_sem], by simp [go_sem], by simp [go_sem], by simp [go_sem], by simp [go_sem]⟩

theorem refDegree_sign (l a o m n : Int) (w : World) (a1 : -9223372036854775808 ≤ a) (a2 : a ≤ 9223372036854775807) (hk : M.zk l a m = false) :
    Calls Tryd.prog 25 #[.agg #[.int .i64 l, .int .i64 a, .int .i64 o], .int .i64 m, .int .i64 n] w fun e w' => e = .returned (.tuple #[.agg #[.int .i64 0, .int .i64 0, .int .i64 0], .int .i64 (M.ze l a m)]) ∧ Below w.heap.size w w' := by
  have hz0 := M.ze_ne hk
  have hS := fun w => refSigns_any l a m w a1 a2
  generalize M.ze l a m = E at *
  go_enter Tryd.func25, Tryd.ntmps25
  go_wp2_with fail
  refine (hS _).mono ?_
  rintro e w1 ⟨rfl, hb1⟩
  have hz := hb1.size
  simp at hz
  have hb01 : Below w.heap.size w w1 := Below.trans (by go_grown) (hb1.mono (by simp; omega))
  have p0 : w1.cell? ⟨w.heap.size, 0, none⟩ = some (.int .i64 l) := keepC hb1 (by simp; omega) (by simp [go_sem])
  have p1 : w1.cell? ⟨w.heap.size, 1, none⟩ = some (.int .i64 a) := keepC hb1 (by simp; omega) (by simp [go_sem])
  have p2 : w1.cell? ⟨w.heap.size, 2, none⟩ = some (.int .i64 o) := keepC hb1 (by simp; omega) (by simp [go_sem])
  have d0 : w1.cell? ⟨w.heap.size + 1, 0, none⟩ = some (.int .i64 0) := keepC hb1 (by simp) (by simp [go_sem])
  have d1 : w1.cell? ⟨w.heap.size + 1, 1, none⟩ = some (.int .i64 0) := keepC hb1 (by simp) (by simp [go_sem])
  have d2 : w1.cell? ⟨w.heap.size + 1, 2, none⟩ = some (.int .i64 0) := keepC hb1 (by simp) (by simp [go_sem])
  have f0 : w1.frozen? ⟨w.heap.size + 1, 0, none⟩ = false := keepF hb1 (by simp) (by simp [go_sem])
  have f1 : w1.frozen? ⟨w.heap.size + 1, 1, none⟩ = false := keepF hb1 (by simp) (by simp [go_sem])
  have f2 : w1.frozen? ⟨w.heap.size + 1, 2, none⟩ = false := keepF hb1 (by simp) (by simp [go_sem])
  have s1 : w.heap.size + 1 < w1.heap.size := by omega
  go_wp2_with fail
  refine bodyPost_ret (v := .tuple #[.agg #[.int .i64 0, .int .i64 0, .int .i64 0], .int .i64 E]) (by simp [results, Tryd.results25, go_sem, d0, d1, d2]) rfl ⟨rfl, ?_⟩
  exact (((hb01.setCell (p := ⟨w.heap.size + 1, 0, none⟩) (show w.heap.size ≤ w.heap.size + 1 by omega) _).setCell (p := ⟨w.heap.size + 1, 1, none⟩) (show w.heap.size ≤ w.heap.size + 1 by omega) _).setCell (p := ⟨w.heap.size + 1, 2, none⟩) (show w.heap.size ≤ w.heap.size + 1 by omega) _)

theorem refDegree_form (l a o m n : Int) (w : World) (a1 : -9223372036854775808 ≤ a) (a2 : a ≤ 9223372036854775807) (hk : M.zk l a m = true) (hr : M.rt l a o = false) :
    Calls Tryd.prog 25 #[.agg #[.int .i64 l, .int .i64 a, .int .i64 o], .int .i64 m, .int .i64 n] w fun e w' => e = .returned (.tuple #[.agg #[.int .i64 0, .int .i64 0, .int .i64 0], .int .i64 2]) ∧ Below w.heap.size w w' := by
  have hS := fun w => refSigns_any l a m w a1 a2
  rw [M.zs_yes hk, M.ze_yes hk] at hS
  have hzb := M.zr_bd hk
  generalize M.zr l a m = S at *
  go_enter Tryd.func25, Tryd.ntmps25
  go_wp2_with fail
  refine (hS _).mono ?_
  rintro e w1 ⟨rfl, hb1⟩
  have hz := hb1.size
  simp at hz
  have hb01 : Below w.heap.size w w1 := Below.trans (by go_grown) (hb1.mono (by simp; omega))
  have p0 : w1.cell? ⟨w.heap.size, 0, none⟩ = some (.int .i64 l) := keepC hb1 (by simp; omega) (by simp [go_sem])
  have p1 : w1.cell? ⟨w.heap.size, 1, none⟩ = some (.int .i64 a) := keepC hb1 (by simp; omega) (by simp [go_sem])
  have p2 : w1.cell? ⟨w.heap.size, 2, none⟩ = some (.int .i64 o) := keepC hb1 (by simp; omega) (by simp [go_sem])
  have d0 : w1.cell? ⟨w.heap.size + 1, 0, none⟩ = some (.int .i64 0) := keepC hb1 (by simp) (by simp [go_sem])
  have d1 : w1.cell? ⟨w.heap.size + 1, 1, none⟩ = some (.int .i64 0) := keepC hb1 (by simp) (by simp [go_sem])
  have d2 : w1.cell? ⟨w.heap.size + 1, 2, none⟩ = some (.int .i64 0) := keepC hb1 (by simp) (by simp [go_sem])
  have f0 : w1.frozen? ⟨w.heap.size + 1, 0, none⟩ = false := keepF hb1 (by simp) (by simp [go_sem])
  have f1 : w1.frozen? ⟨w.heap.size + 1, 1, none⟩ = false := keepF hb1 (by simp) (by simp [go_sem])
  have f2 : w1.frozen? ⟨w.heap.size + 1, 2, none⟩ = false := keepF hb1 (by simp) (by simp [go_sem])
  have s1 : w.heap.size + 1 < w1.heap.size := by omega
  go_wp2_with fail
  refine (refRight_any l a o _ a1 a2).mono ?_
  rintro e w2 ⟨rfl, hb2⟩
  have hz2 := hb2.size
  have hb02 := hb01.trans (hb2.mono hb01.size)
  replace p0 := keepC hb2 (by omega) p0
  replace p1 := keepC hb2 (by omega) p1
  replace p2 := keepC hb2 (by omega) p2
  replace d0 := keepC hb2 (by omega) d0
  replace d1 := keepC hb2 (by omega) d1
  replace d2 := keepC hb2 (by omega) d2
  replace f0 := keepF hb2 (by omega) f0
  replace f1 := keepF hb2 (by omega) f1
  replace f2 := keepF hb2 (by omega) f2
  have s2 : w.heap.size + 1 < w2.heap.size := by omega
  rw [hr]
  go_wp2_with fail
  refine bodyPost_ret (v := .tuple #[.agg #[.int .i64 0, .int .i64 0, .int .i64 0], .int .i64 2]) (by simp [results, Tryd.results25, go_sem, d0, d1, d2]) rfl ⟨rfl, ?_⟩
  exact (((hb02.setCell (p := ⟨w.heap.size + 1, 0, none⟩) (show w.heap.size ≤ w.heap.size + 1 by omega) _).setCell (p := ⟨w.heap.size + 1, 1, none⟩) (show w.heap.size ≤ w.heap.size + 1 by omega) _).setCell (p := ⟨w.heap.size + 1, 2, none⟩) (show w.heap.size ≤ w.heap.size + 1 by omega) _)

theorem refDegree_range (l a o m n : Int) (w : World) (a1 : -9223372036854775808 ≤ a) (a2 : a ≤ 9223372036854775807) (hk : M.zk l a m = true) (hr : M.rt l a o = true) (hn : M.wi n 200 = false) :
    Calls Tryd.prog 25 #[.agg #[.int .i64 l, .int .i64 a, .int .i64 o], .int .i64 m, .int .i64 n] w fun e w' => e = .returned (.tuple #[.agg #[.int .i64 0, .int .i64 0, .int .i64 0], .int .i64 3]) ∧ Below w.heap.size w w' := by
  have hn' := M.wi_no hn
  have hS := fun w => refSigns_any l a m w a1 a2
  rw [M.zs_yes hk, M.ze_yes hk] at hS
  have hzb := M.zr_bd hk
  generalize M.zr l a m = S at *
  rcases (show n < -200 ∨ ¬ n < -200 ∧ 200 < n by omega) with y1 | ⟨y1, y2⟩
  all_goals
    go_enter Tryd.func25, Tryd.ntmps25
    go_wp2_with fail
    refine (hS _).mono ?_
    rintro e w1 ⟨rfl, hb1⟩
    have hz := hb1.size
    simp at hz
    have hb01 : Below w.heap.size w w1 := Below.trans (by go_grown) (hb1.mono (by simp; omega))
    have p0 : w1.cell? ⟨w.heap.size, 0, none⟩ = some (.int .i64 l) := keepC hb1 (by simp; omega) (by simp [go_sem])
    have p1 : w1.cell? ⟨w.heap.size, 1, none⟩ = some (.int .i64 a) := keepC hb1 (by simp; omega) (by simp [go_sem])
    have p2 : w1.cell? ⟨w.heap.size, 2, none⟩ = some (.int .i64 o) := keepC hb1 (by simp; omega) (by simp [go_sem])
    have d0 : w1.cell? ⟨w.heap.size + 1, 0, none⟩ = some (.int .i64 0) := keepC hb1 (by simp) (by simp [go_sem])
    have d1 : w1.cell? ⟨w.heap.size + 1, 1, none⟩ = some (.int .i64 0) := keepC hb1 (by simp) (by simp [go_sem])
    have d2 : w1.cell? ⟨w.heap.size + 1, 2, none⟩ = some (.int .i64 0) := keepC hb1 (by simp) (by simp [go_sem])
    have f0 : w1.frozen? ⟨w.heap.size + 1, 0, none⟩ = false := keepF hb1 (by simp) (by simp [go_sem])
    have f1 : w1.frozen? ⟨w.heap.size + 1, 1, none⟩ = false := keepF hb1 (by simp) (by simp [go_sem])
    have f2 : w1.frozen? ⟨w.heap.size + 1, 2, none⟩ = false := keepF hb1 (by simp) (by simp [go_sem])
    have s1 : w.heap.size + 1 < w1.heap.size := by omega
    go_wp2_with fail
    refine (refRight_any l a o _ a1 a2).mono ?_
    rintro e w2 ⟨rfl, hb2⟩
    have hz2 := hb2.size
    have hb02 := hb01.trans (hb2.mono hb01.size)
    replace p0 := keepC hb2 (by omega) p0
    replace p1 := keepC hb2 (by omega) p1
    replace p2 := keepC hb2 (by omega) p2
    replace d0 := keepC hb2 (by omega) d0
    replace d1 := keepC hb2 (by omega) d1
    replace d2 := keepC hb2 (by omega) d2
    replace f0 := keepF hb2 (by omega) f0
    replace f1 := keepF hb2 (by omega) f1
    replace f2 := keepF hb2 (by omega) f2
    have s2 : w.heap.size + 1 < w2.heap.size := by omega
    rw [hr]
    go_wp2_with fail
    refine bodyPost_ret (v := .tuple #[.agg #[.int .i64 0, .int .i64 0, .int .i64 0], .int .i64 3]) (by simp [results, Tryd.results25, go_sem, d0, d1, d2]) rfl ⟨rfl, ?_⟩
    exact (((hb02.setCell (p := ⟨w.heap.size + 1, 0, none⟩) (show w.heap.size ≤ w.heap.size + 1 by omega) _).setCell (p := ⟨w.heap.size + 1, 1, none⟩) (show w.heap.size ≤ w.heap.size + 1 by omega) _).setCell (p := ⟨w.heap.size + 1, 2, none⟩) (show w.heap.size ≤ w.heap.size + 1 by omega) _)

set_option maxRecDepth 20000 in
set_option maxHeartbeats 8000000 in
theorem refDegree_out (l a o m n : Int) (w : World) (a1 : -9223372036854775808 ≤ a) (a2 : a ≤ 9223372036854775807) (hk : M.zk l a m = true) (hr : M.rt l a o = true) (hn : M.wi n 200 = true) (hR : M.rt ((l + n) % 7) (M.al (M.zr l a m) ((l + n) % 7)) (o + (l + n) / 7) = false) :
    Calls Tryd.prog 25 #[.agg #[.int .i64 l, .int .i64 a, .int .i64 o], .int .i64 m, .int .i64 n] w fun e w' => e = .returned (.tuple #[.agg #[.int .i64 0, .int .i64 0, .int .i64 0], .int .i64 3]) ∧ Below w.heap.size w w' := by
  have hn' := M.wi_yes hn
  obtain ⟨x1, x2, x3, x4, x5, x6⟩ := M.rt_yes hr
  obtain ⟨y, hym⟩ : ∃ y : Nat, (l + n) % 7 = y := ⟨((l + n) % 7).toNat, by omega⟩
  have hy7 : y < 7 := by omega
  obtain ⟨Z, hZ⟩ : ∃ Z, o + (l + n) / 7 = Z := ⟨_, rfl⟩
  obtain ⟨D, hD⟩ : ∃ D, (l + n) / 7 = D := ⟨_, rfl⟩
  rw [hD] at hZ
  rw [hym, hD, hZ] at hR
  have hS := fun w => refSigns_any l a m w a1 a2
  rw [M.zs_yes hk, M.ze_yes hk] at hS
  have hzb := M.zr_bd hk
  generalize M.zr l a m = S at *
  have halb := M.al_bd S y
  have HR : Hid (M.rt y (M.al S y) Z = false) := hR
  clear hR
  have HX : Hid ((l + n) % 7 = y ∧ (l + n) / 7 = D ∧ o + D = Z) := ⟨hym, hD, hZ⟩
  clear hym hD hZ
  go_enter Tryd.func25, Tryd.ntmps25
  go_wp2_with fail
  refine (hS _).mono ?_
  rintro e w1 ⟨rfl, hb1⟩
  have hz := hb1.size
  simp at hz
  have hb01 : Below w.heap.size w w1 := Below.trans (by go_grown) (hb1.mono (by simp; omega))
  have p0 : w1.cell? ⟨w.heap.size, 0, none⟩ = some (.int .i64 l) := keepC hb1 (by simp; omega) (by simp [go_sem])
  have p1 : w1.cell? ⟨w.heap.size, 1, none⟩ = some (.int .i64 a) := keepC hb1 (by simp; omega) (by simp [go_sem])
  have p2 : w1.cell? ⟨w.heap.size, 2, none⟩ = some (.int .i64 o) := keepC hb1 (by simp; omega) (by simp [go_sem])
  have d0 : w1.cell? ⟨w.heap.size + 1, 0, none⟩ = some (.int .i64 0) := keepC hb1 (by simp) (by simp [go_sem])
  have d1 : w1.cell? ⟨w.heap.size + 1, 1, none⟩ = some (.int .i64 0) := keepC hb1 (by simp) (by simp [go_sem])
  have d2 : w1.cell? ⟨w.heap.size + 1, 2, none⟩ = some (.int .i64 0) := keepC hb1 (by simp) (by simp [go_sem])
  have f0 : w1.frozen? ⟨w.heap.size + 1, 0, none⟩ = false := keepF hb1 (by simp) (by simp [go_sem])
  have f1 : w1.frozen? ⟨w.heap.size + 1, 1, none⟩ = false := keepF hb1 (by simp) (by simp [go_sem])
  have f2 : w1.frozen? ⟨w.heap.size + 1, 2, none⟩ = false := keepF hb1 (by simp) (by simp [go_sem])
  have s1 : w.heap.size + 1 < w1.heap.size := by omega
  go_wp2_with fail
  refine (refRight_any l a o _ a1 a2).mono ?_
  rintro e w2 ⟨rfl, hb2⟩
  have hz2 := hb2.size
  have hb02 := hb01.trans (hb2.mono hb01.size)
  replace p0 := keepC hb2 (by omega) p0
  replace p1 := keepC hb2 (by omega) p1
  replace p2 := keepC hb2 (by omega) p2
  replace d0 := keepC hb2 (by omega) d0
  replace d1 := keepC hb2 (by omega) d1
  replace d2 := keepC hb2 (by omega) d2
  replace f0 := keepF hb2 (by omega) f0
  replace f1 := keepF hb2 (by omega) f1
  replace f2 := keepF hb2 (by omega) f2
  have s2 : w.heap.size + 1 < w2.heap.size := by omega
  rw [hr]
  have D0 := d0
  have D1 := d1
  have D2 := d2
  have F0 := f0
  have F1 := f1
  have F2 := f2
  go_wp2_with fail
  go_loopw [2] (fun i wr => ∃ r : Int, (r = n ∨ 0 ≤ r ∧ r ≤ n) ∧ i = .int .i64 r ∧ Below w2.heap.size w2 wr ∧ PB wr w2.heap.size ((l + (n - r)) % 7) a (o + (l + (n - r)) / 7))
    (fun i _ => (intOf i).toNat)
  case atStart => exact ⟨n, .inl rfl, rfl, (Below.refl _ _).alloc (Nat.le_refl _) _, by rw [show (l + (n - n)) % 7 = l by omega, show o + (l + (n - n)) / 7 = o by omega]; exact PB.new _ _ _ _ _⟩
  case round =>
    obtain ⟨r, hrn, rfl, hbr, hpb⟩ := hrel
    have zr := hbr.size
    by_cases hlt : 0 < r
    · obtain ⟨y, hy⟩ : ∃ y, (l + (n - r)) % 7 = y := ⟨_, rfl⟩
      obtain ⟨z, hz5⟩ : ∃ z, o + (l + (n - r)) / 7 = z := ⟨_, rfl⟩
      rw [hy, hz5] at hpb
      have hyb : 0 ≤ y ∧ y ≤ 6 := by omega
      have hzz : -100 ≤ z ∧ z ≤ 100 := by omega
      have HH : Hid ((l + (n - r)) % 7 = y ∧ o + (l + (n - r)) / 7 = z) := ⟨hy, hz5⟩
      clear hy hz5
      obtain ⟨pl, n0, n1, n2, g0, g1, g2⟩ := hpb
      have hpb : PB wr w2.heap.size y a z := ⟨pl, n0, n1, n2, g0, g1, g2⟩
      by_cases he : y = 6
      · have e0 : (l + (n - (r - 1))) % 7 = 0 := by have := HH.out; omega
        have e1 : o + (l + (n - (r - 1))) / 7 = z + 1 := by have := HH.out; omega
        have he2 : y + 1 = 7 := by omega
        have hpb2 := ((hpb.put0 (v := y + 1)).put0 (v := 0)).put2 (v := z + 1)
        have hpb3 := (hpb.put0 (v := 0)).put2 (v := z + 1)
        have hE : Hid ((l + (n - (r - 1))) % 7 = 0 ∧ o + (l + (n - (r - 1))) / 7 = z + 1) := ⟨e0, e1⟩
        clear e0 e1 HH
        subst he
        go_wp2_with fail
        go_roundw
        case rel => first | exact ⟨r - 1, by omega, by go_num, ((hbr.setCell (p := ⟨w2.heap.size, 0, none⟩) (Nat.le_refl _) _).setCell (p := ⟨w2.heap.size, 0, none⟩) (Nat.le_refl _) _).setCell (p := ⟨w2.heap.size, 2, none⟩) (Nat.le_refl _) _, by rw [hE.out.1, hE.out.2]; exact hpb2⟩ | exact ⟨r - 1, by omega, by go_num, (hbr.setCell (p := ⟨w2.heap.size, 0, none⟩) (Nat.le_refl _) _).setCell (p := ⟨w2.heap.size, 2, none⟩) (Nat.le_refl _) _, by rw [hE.out.1, hE.out.2]; exact hpb3⟩
        case measure => simp [intOf]; omega
      · have e0 : (l + (n - (r - 1))) % 7 = y + 1 := by have := HH.out; omega
        have e1 : o + (l + (n - (r - 1))) / 7 = z := by have := HH.out; omega
        have hpb2 := hpb.put0 (v := y + 1)
        have hE : Hid ((l + (n - (r - 1))) % 7 = y + 1 ∧ o + (l + (n - (r - 1))) / 7 = z) := ⟨e0, e1⟩
        have he3 : (y + 1 == 7) = false := by simp; omega
        clear e0 e1 HH
        go_wp2_with fail
        go_roundw
        case rel => exact ⟨r - 1, by omega, by go_num, hbr.setCell (p := ⟨w2.heap.size, 0, none⟩) (Nat.le_refl _) _, by rw [hE.out.1, hE.out.2]; exact hpb2⟩
        case measure => simp [intOf]; omega
    · have hrm : r ≤ 0 := by omega
      go_wp2_with fail
      go_loopw [2] (fun i wx => ∃ r : Int, (n ≤ r ∧ r ≤ 0 ∨ r = 0) ∧ i = .int .i64 r ∧ Below w2.heap.size w2 wx ∧ PB wx w2.heap.size ((l + (n - r)) % 7) a (o + (l + (n - r)) / 7))
        (fun i _ => (- intOf i).toNat)
      case atStart => exact ⟨r, by omega, rfl, hbr, hpb⟩
      case round =>
        clear hbr hpb hrn zr hlt hrm
        rename World => wx
        obtain ⟨r, hrn, rfl, hbr, hpb⟩ := hrel
        have zr := hbr.size
        by_cases hlt : r < 0
        · obtain ⟨y, hy⟩ : ∃ y, (l + (n - r)) % 7 = y := ⟨_, rfl⟩
          obtain ⟨z, hz5⟩ : ∃ z, o + (l + (n - r)) / 7 = z := ⟨_, rfl⟩
          rw [hy, hz5] at hpb
          have hyb : 0 ≤ y ∧ y ≤ 6 := by omega
          have hzz : -100 ≤ z ∧ z ≤ 100 := by omega
          have HH : Hid ((l + (n - r)) % 7 = y ∧ o + (l + (n - r)) / 7 = z) := ⟨hy, hz5⟩
          clear hy hz5
          obtain ⟨pl, n0, n1, n2, g0, g1, g2⟩ := hpb
          have hpb : PB wx w2.heap.size y a z := ⟨pl, n0, n1, n2, g0, g1, g2⟩
          by_cases he : y = 0
          · have e0 : (l + (n - (r + 1))) % 7 = 6 := by have := HH.out; omega
            have e1 : o + (l + (n - (r + 1))) / 7 = z - 1 := by have := HH.out; omega
            have he2 : y - 1 = -1 := by omega
            have hpb2 := ((hpb.put0 (v := y - 1)).put0 (v := 6)).put2 (v := z - 1)
            have hpb3 := (hpb.put0 (v := 6)).put2 (v := z - 1)
            have hE : Hid ((l + (n - (r + 1))) % 7 = 6 ∧ o + (l + (n - (r + 1))) / 7 = z - 1) := ⟨e0, e1⟩
            clear e0 e1 HH
            subst he
            go_wp2_with fail
            go_roundw
            case rel => first | exact ⟨r + 1, by omega, by go_num, ((hbr.setCell (p := ⟨w2.heap.size, 0, none⟩) (Nat.le_refl _) _).setCell (p := ⟨w2.heap.size, 0, none⟩) (Nat.le_refl _) _).setCell (p := ⟨w2.heap.size, 2, none⟩) (Nat.le_refl _) _, by rw [hE.out.1, hE.out.2]; exact hpb2⟩ | exact ⟨r + 1, by omega, by go_num, (hbr.setCell (p := ⟨w2.heap.size, 0, none⟩) (Nat.le_refl _) _).setCell (p := ⟨w2.heap.size, 2, none⟩) (Nat.le_refl _) _, by rw [hE.out.1, hE.out.2]; exact hpb3⟩
            case measure => simp [intOf]; omega
          · have e0 : (l + (n - (r + 1))) % 7 = y - 1 := by have := HH.out; omega
            have e1 : o + (l + (n - (r + 1))) / 7 = z := by have := HH.out; omega
            have hpb2 := hpb.put0 (v := y - 1)
            have hE : Hid ((l + (n - (r + 1))) % 7 = y - 1 ∧ o + (l + (n - (r + 1))) / 7 = z) := ⟨e0, e1⟩
            have he3 : 0 < y := by omega
            clear e0 e1 HH
            go_wp2_with fail
            go_roundw
            case rel => exact ⟨r + 1, by omega, by go_num, hbr.setCell (p := ⟨w2.heap.size, 0, none⟩) (Nat.le_refl _) _, by rw [hE.out.1, hE.out.2]; exact hpb2⟩
            case measure => simp [intOf]; omega
        · have hym := HX.out.1
          have hD := HX.out.2.1
          have hZ := HX.out.2.2
          have hr0 : r = 0 := by omega
          subst hr0
          rw [show l + (n - 0) = l + n by omega] at hpb
          rw [hym, hD, hZ] at hpb
          have hb0x := hb02.trans (hbr.mono (by omega))
          have zx := hbr.size
          obtain ⟨pl, n0, n1, n2, g0, g1, g2⟩ := hpb
          have hpb : PB wx w2.heap.size y a Z := ⟨pl, n0, n1, n2, g0, g1, g2⟩
          replace d0 := keepC hbr (by omega) d0
          replace d1 := keepC hbr (by omega) d1
          replace d2 := keepC hbr (by omega) d2
          replace f0 := keepF hbr (by omega) f0
          replace f1 := keepF hbr (by omega) f1
          replace f2 := keepF hbr (by omega) f2
          clear hym hD hZ
          go_wp2_with fail
          go_cut [75] (fun q wy => q = .pointer (some ⟨w2.heap.size, 1, none⟩) ∧ Below w2.heap.size w2 wy ∧ PB wy w2.heap.size y (M.al S y) Z)
          case first =>
            go_region_with
              (first
                | (go_at_call 54; refine (Major_any S _ hzb.1 hzb.2).mono ?_; rintro e wa ⟨b, hbb, rfl, hba, hrow⟩; have hkc := hrow.c y hy7; have hlb := hrow.lt; have hbn : Below wx.heap.size wx wa := Below.trans (by go_grown) (hba.mono (by simp)); have hpa := hpb.step hbn pl (Nat.le_refl _); obtain ⟨pl, n0, n1, n2, g0, g1, g2⟩ := hpa; have hpa : PB wa w2.heap.size y a Z := ⟨pl, n0, n1, n2, g0, g1, g2⟩))
            all_goals
              go_wp2_with fail
              go_meet
              case rel => exact ⟨rfl, (hbr.trans (hbn.mono (by omega))).setCell (p := ⟨w2.heap.size, 1, none⟩) (Nat.le_refl _) _, hpa.put1⟩
          case rest =>
            obtain ⟨rfl, hby, hpy⟩ := hcut
            rename World => wy
            have zy := hby.size
            have d0 := keepC hby (by omega) D0
            have d1 := keepC hby (by omega) D1
            have d2 := keepC hby (by omega) D2
            have f0 := keepF hby (by omega) F0
            have f1 := keepF hby (by omega) F1
            have f2 := keepF hby (by omega) F2
            have hb0y := hb02.trans (hby.mono (by omega))
            obtain ⟨pl, n0, n1, n2, g0, g1, g2⟩ := hpy
            have s7 : w.heap.size + 1 < wy.heap.size := by omega
            go_wp2_with fail
            refine (refRight_any y (M.al S y) Z _ (by omega) (by omega)).mono ?_
            rintro e w8 ⟨rfl, hb8⟩
            have hz8 := hb8.size
            have hb08 := hb0y.trans (hb8.mono hb0y.size)
            replace n0 := keepC hb8 (by omega) n0
            replace n1 := keepC hb8 (by omega) n1
            replace n2 := keepC hb8 (by omega) n2
            replace d0 := keepC hb8 (by omega) d0
            replace d1 := keepC hb8 (by omega) d1
            replace d2 := keepC hb8 (by omega) d2
            replace f0 := keepF hb8 (by omega) f0
            replace f1 := keepF hb8 (by omega) f1
            replace f2 := keepF hb8 (by omega) f2
            have s8 : w.heap.size + 1 < w8.heap.size := by omega
            have s9 : w2.heap.size < w8.heap.size := by omega
            rw [HR.out]
            go_wp2_with fail
            refine bodyPost_ret (v := .tuple #[.agg #[.int .i64 0, .int .i64 0, .int .i64 0], .int .i64 3]) (by simp [results, Tryd.results25, go_sem, d0, d1, d2]) rfl ⟨rfl, ?_⟩
            exact (((hb08.setCell (p := ⟨w.heap.size + 1, 0, none⟩) (show w.heap.size ≤ w.heap.size + 1 by omega) _).setCell (p := ⟨w.heap.size + 1, 1, none⟩) (show w.heap.size ≤ w.heap.size + 1 by omega) _).setCell (p := ⟨w.heap.size + 1, 2, none⟩) (show w.heap.size ≤ w.heap.size + 1 by omega) _)

set_option maxRecDepth 20000 in
set_option maxHeartbeats 8000000 in
theorem refDegree_yes (l a o m n : Int) (w : World) (a1 : -9223372036854775808 ≤ a) (a2 : a ≤ 9223372036854775807) (hk : M.zk l a m = true) (hr : M.rt l a o = true) (hn : M.wi n 200 = true) (hR : M.rt ((l + n) % 7) (M.al (M.zr l a m) ((l + n) % 7)) (o + (l + n) / 7) = true) :
    Calls Tryd.prog 25 #[.agg #[.int .i64 l, .int .i64 a, .int .i64 o], .int .i64 m, .int .i64 n] w fun e w' => e = .returned (.tuple #[.agg #[.int .i64 ((l + n) % 7), .int .i64 (M.al (M.zr l a m) ((l + n) % 7)), .int .i64 (o + (l + n) / 7)], .int .i64 0]) ∧ Below w.heap.size w w' := by
  have hn' := M.wi_yes hn
  obtain ⟨x1, x2, x3, x4, x5, x6⟩ := M.rt_yes hr
  obtain ⟨y, hym⟩ : ∃ y : Nat, (l + n) % 7 = y := ⟨((l + n) % 7).toNat, by omega⟩
  have hy7 : y < 7 := by omega
  obtain ⟨Z, hZ⟩ : ∃ Z, o + (l + n) / 7 = Z := ⟨_, rfl⟩
  obtain ⟨D, hD⟩ : ∃ D, (l + n) / 7 = D := ⟨_, rfl⟩
  rw [hD] at hZ
  rw [hym, hD, hZ] at hR
  rw [hym, hD, hZ]
  have hS := fun w => refSigns_any l a m w a1 a2
  rw [M.zs_yes hk, M.ze_yes hk] at hS
  have hzb := M.zr_bd hk
  generalize M.zr l a m = S at *
  have halb := M.al_bd S y
  have HR : Hid (M.rt y (M.al S y) Z = true) := hR
  clear hR
  have HX : Hid ((l + n) % 7 = y ∧ (l + n) / 7 = D ∧ o + D = Z) := ⟨hym, hD, hZ⟩
  clear hym hD hZ
  go_enter Tryd.func25, Tryd.ntmps25
  go_wp2_with fail
  refine (hS _).mono ?_
  rintro e w1 ⟨rfl, hb1⟩
  have hz := hb1.size
  simp at hz
  have hb01 : Below w.heap.size w w1 := Below.trans (by go_grown) (hb1.mono (by simp; omega))
  have p0 : w1.cell? ⟨w.heap.size, 0, none⟩ = some (.int .i64 l) := keepC hb1 (by simp; omega) (by simp [go_sem])
  have p1 : w1.cell? ⟨w.heap.size, 1, none⟩ = some (.int .i64 a) := keepC hb1 (by simp; omega) (by simp [go_sem])
  have p2 : w1.cell? ⟨w.heap.size, 2, none⟩ = some (.int .i64 o) := keepC hb1 (by simp; omega) (by simp [go_sem])
  have d0 : w1.cell? ⟨w.heap.size + 1, 0, none⟩ = some (.int .i64 0) := keepC hb1 (by simp) (by simp [go_sem])
  have d1 : w1.cell? ⟨w.heap.size + 1, 1, none⟩ = some (.int .i64 0) := keepC hb1 (by simp) (by simp [go_sem])
  have d2 : w1.cell? ⟨w.heap.size + 1, 2, none⟩ = some (.int .i64 0) := keepC hb1 (by simp) (by simp [go_sem])
  have f0 : w1.frozen? ⟨w.heap.size + 1, 0, none⟩ = false := keepF hb1 (by simp) (by simp [go_sem])
  have f1 : w1.frozen? ⟨w.heap.size + 1, 1, none⟩ = false := keepF hb1 (by simp) (by simp [go_sem])
  have f2 : w1.frozen? ⟨w.heap.size + 1, 2, none⟩ = false := keepF hb1 (by simp) (by simp [go_sem])
  have s1 : w.heap.size + 1 < w1.heap.size := by omega
  go_wp2_with fail
  refine (refRight_any l a o _ a1 a2).mono ?_
  rintro e w2 ⟨rfl, hb2⟩
  have hz2 := hb2.size
  have hb02 := hb01.trans (hb2.mono hb01.size)
  replace p0 := keepC hb2 (by omega) p0
  replace p1 := keepC hb2 (by omega) p1
  replace p2 := keepC hb2 (by omega) p2
  replace d0 := keepC hb2 (by omega) d0
  replace d1 := keepC hb2 (by omega) d1
  replace d2 := keepC hb2 (by omega) d2
  replace f0 := keepF hb2 (by omega) f0
  replace f1 := keepF hb2 (by omega) f1
  replace f2 := keepF hb2 (by omega) f2
  have s2 : w.heap.size + 1 < w2.heap.size := by omega
  rw [hr]
  have D0 := d0
  have D1 := d1
  have D2 := d2
  have F0 := f0
  have F1 := f1
  have F2 := f2
  go_wp2_with fail
  go_loopw [2] (fun i wr => ∃ r : Int, (r = n ∨ 0 ≤ r ∧ r ≤ n) ∧ i = .int .i64 r ∧ Below w2.heap.size w2 wr ∧ PB wr w2.heap.size ((l + (n - r)) % 7) a (o + (l + (n - r)) / 7))
    (fun i _ => (intOf i).toNat)
  case atStart => exact ⟨n, .inl rfl, rfl, (Below.refl _ _).alloc (Nat.le_refl _) _, by rw [show (l + (n - n)) % 7 = l by omega, show o + (l + (n - n)) / 7 = o by omega]; exact PB.new _ _ _ _ _⟩
  case round =>
    obtain ⟨r, hrn, rfl, hbr, hpb⟩ := hrel
    have zr := hbr.size
    by_cases hlt : 0 < r
    · obtain ⟨y, hy⟩ : ∃ y, (l + (n - r)) % 7 = y := ⟨_, rfl⟩
      obtain ⟨z, hz5⟩ : ∃ z, o + (l + (n - r)) / 7 = z := ⟨_, rfl⟩
      rw [hy, hz5] at hpb
      have hyb : 0 ≤ y ∧ y ≤ 6 := by omega
      have hzz : -100 ≤ z ∧ z ≤ 100 := by omega
      have HH : Hid ((l + (n - r)) % 7 = y ∧ o + (l + (n - r)) / 7 = z) := ⟨hy, hz5⟩
      clear hy hz5
      obtain ⟨pl, n0, n1, n2, g0, g1, g2⟩ := hpb
      have hpb : PB wr w2.heap.size y a z := ⟨pl, n0, n1, n2, g0, g1, g2⟩
      by_cases he : y = 6
      · have e0 : (l + (n - (r - 1))) % 7 = 0 := by have := HH.out; omega
        have e1 : o + (l + (n - (r - 1))) / 7 = z + 1 := by have := HH.out; omega
        have he2 : y + 1 = 7 := by omega
        have hpb2 := ((hpb.put0 (v := y + 1)).put0 (v := 0)).put2 (v := z + 1)
        have hpb3 := (hpb.put0 (v := 0)).put2 (v := z + 1)
        have hE : Hid ((l + (n - (r - 1))) % 7 = 0 ∧ o + (l + (n - (r - 1))) / 7 = z + 1) := ⟨e0, e1⟩
        clear e0 e1 HH
        subst he
        go_wp2_with fail
        go_roundw
        case rel => first | exact ⟨r - 1, by omega, by go_num, ((hbr.setCell (p := ⟨w2.heap.size, 0, none⟩) (Nat.le_refl _) _).setCell (p := ⟨w2.heap.size, 0, none⟩) (Nat.le_refl _) _).setCell (p := ⟨w2.heap.size, 2, none⟩) (Nat.le_refl _) _, by rw [hE.out.1, hE.out.2]; exact hpb2⟩ | exact ⟨r - 1, by omega, by go_num, (hbr.setCell (p := ⟨w2.heap.size, 0, none⟩) (Nat.le_refl _) _).setCell (p := ⟨w2.heap.size, 2, none⟩) (Nat.le_refl _) _, by rw [hE.out.1, hE.out.2]; exact hpb3⟩
        case measure => simp [intOf]; omega
      · have e0 : (l + (n - (r - 1))) % 7 = y + 1 := by have := HH.out; omega
        have e1 : o + (l + (n - (r - 1))) / 7 = z := by have := HH.out; omega
        have hpb2 := hpb.put0 (v := y + 1)
        have hE : Hid ((l + (n - (r - 1))) % 7 = y + 1 ∧ o + (l + (n - (r - 1))) / 7 = z) := ⟨e0, e1⟩
        have he3 : (y + 1 == 7) = false := by simp; omega
        clear e0 e1 HH
        go_wp2_with fail
        go_roundw
        case rel => exact ⟨r - 1, by omega, by go_num, hbr.setCell (p := ⟨w2.heap.size, 0, none⟩) (Nat.le_refl _) _, by rw [hE.out.1, hE.out.2]; exact hpb2⟩
        case measure => simp [intOf]; omega
    · have hrm : r ≤ 0 := by omega
      go_wp2_with fail
      go_loopw [2] (fun i wx => ∃ r : Int, (n ≤ r ∧ r ≤ 0 ∨ r = 0) ∧ i = .int .i64 r ∧ Below w2.heap.size w2 wx ∧ PB wx w2.heap.size ((l + (n - r)) % 7) a (o + (l + (n - r)) / 7))
        (fun i _ => (- intOf i).toNat)
      case atStart => exact ⟨r, by omega, rfl, hbr, hpb⟩
      case round =>
        clear hbr hpb hrn zr hlt hrm
        rename World => wx
        obtain ⟨r, hrn, rfl, hbr, hpb⟩ := hrel
        have zr := hbr.size
        by_cases hlt : r < 0
        · obtain ⟨y, hy⟩ : ∃ y, (l + (n - r)) % 7 = y := ⟨_, rfl⟩
          obtain ⟨z, hz5⟩ : ∃ z, o + (l + (n - r)) / 7 = z := ⟨_, rfl⟩
          rw [hy, hz5] at hpb
          have hyb : 0 ≤ y ∧ y ≤ 6 := by omega
          have hzz : -100 ≤ z ∧ z ≤ 100 := by omega
          have HH : Hid ((l + (n - r)) % 7 = y ∧ o + (l + (n - r)) / 7 = z) := ⟨hy, hz5⟩
          clear hy hz5
          obtain ⟨pl, n0, n1, n2, g0, g1, g2⟩ := hpb
          have hpb : PB wx w2.heap.size y a z := ⟨pl, n0, n1, n2, g0, g1, g2⟩
          by_cases he : y = 0
          · have e0 : (l + (n - (r + 1))) % 7 = 6 := by have := HH.out; omega
            have e1 : o + (l + (n - (r + 1))) / 7 = z - 1 := by have := HH.out; omega
            have he2 : y - 1 = -1 := by omega
            have hpb2 := ((hpb.put0 (v := y - 1)).put0 (v := 6)).put2 (v := z - 1)
            have hpb3 := (hpb.put0 (v := 6)).put2 (v := z - 1)
            have hE : Hid ((l + (n - (r + 1))) % 7 = 6 ∧ o + (l + (n - (r + 1))) / 7 = z - 1) := ⟨e0, e1⟩
            clear e0 e1 HH
            subst he
            go_wp2_with fail
            go_roundw
            case rel => first | exact ⟨r + 1, by omega, by go_num, ((hbr.setCell (p := ⟨w2.heap.size, 0, none⟩) (Nat.le_refl _) _).setCell (p := ⟨w2.heap.size, 0, none⟩) (Nat.le_refl _) _).setCell (p := ⟨w2.heap.size, 2, none⟩) (Nat.le_refl _) _, by rw [hE.out.1, hE.out.2]; exact hpb2⟩ | exact ⟨r + 1, by omega, by go_num, (hbr.setCell (p := ⟨w2.heap.size, 0, none⟩) (Nat.le_refl _) _).setCell (p := ⟨w2.heap.size, 2, none⟩) (Nat.le_refl _) _, by rw [hE.out.1, hE.out.2]; exact hpb3⟩
            case measure => simp [intOf]; omega
          · have e0 : (l + (n - (r + 1))) % 7 = y - 1 := by have := HH.out; omega
            have e1 : o + (l + (n - (r + 1))) / 7 = z := by have := HH.out; omega
            have hpb2 := hpb.put0 (v := y - 1)
            have hE : Hid ((l + (n - (r + 1))) % 7 = y - 1 ∧ o + (l + (n - (r + 1))) / 7 = z) := ⟨e0, e1⟩
            have he3 : 0 < y := by omega
            clear e0 e1 HH
            go_wp2_with fail
            go_roundw
            case rel => exact ⟨r + 1, by omega, by go_num, hbr.setCell (p := ⟨w2.heap.size, 0, none⟩) (Nat.le_refl _) _, by rw [hE.out.1, hE.out.2]; exact hpb2⟩
            case measure => simp [intOf]; omega
        · have hym := HX.out.1
          have hD := HX.out.2.1
          have hZ := HX.out.2.2
          have hr0 : r = 0 := by omega
          subst hr0
          rw [show l + (n - 0) = l + n by omega] at hpb
          rw [hym, hD, hZ] at hpb
          have hb0x := hb02.trans (hbr.mono (by omega))
          have zx := hbr.size
          obtain ⟨pl, n0, n1, n2, g0, g1, g2⟩ := hpb
          have hpb : PB wx w2.heap.size y a Z := ⟨pl, n0, n1, n2, g0, g1, g2⟩
          replace d0 := keepC hbr (by omega) d0
          replace d1 := keepC hbr (by omega) d1
          replace d2 := keepC hbr (by omega) d2
          replace f0 := keepF hbr (by omega) f0
          replace f1 := keepF hbr (by omega) f1
          replace f2 := keepF hbr (by omega) f2
          clear hym hD hZ
          go_wp2_with fail
          go_cut [75] (fun q wy => q = .pointer (some ⟨w2.heap.size, 1, none⟩) ∧ Below w2.heap.size w2 wy ∧ PB wy w2.heap.size y (M.al S y) Z)
          case first =>
            go_region_with
              (first
                | (go_at_call 54; refine (Major_any S _ hzb.1 hzb.2).mono ?_; rintro e wa ⟨b, hbb, rfl, hba, hrow⟩; have hkc := hrow.c y hy7; have hlb := hrow.lt; have hbn : Below wx.heap.size wx wa := Below.trans (by go_grown) (hba.mono (by simp)); have hpa := hpb.step hbn pl (Nat.le_refl _); obtain ⟨pl, n0, n1, n2, g0, g1, g2⟩ := hpa; have hpa : PB wa w2.heap.size y a Z := ⟨pl, n0, n1, n2, g0, g1, g2⟩))
            all_goals
              go_wp2_with fail
              go_meet
              case rel => exact ⟨rfl, (hbr.trans (hbn.mono (by omega))).setCell (p := ⟨w2.heap.size, 1, none⟩) (Nat.le_refl _) _, hpa.put1⟩
          case rest =>
            obtain ⟨rfl, hby, hpy⟩ := hcut
            rename World => wy
            have zy := hby.size
            have d0 := keepC hby (by omega) D0
            have d1 := keepC hby (by omega) D1
            have d2 := keepC hby (by omega) D2
            have f0 := keepF hby (by omega) F0
            have f1 := keepF hby (by omega) F1
            have f2 := keepF hby (by omega) F2
            have hb0y := hb02.trans (hby.mono (by omega))
            obtain ⟨pl, n0, n1, n2, g0, g1, g2⟩ := hpy
            have s7 : w.heap.size + 1 < wy.heap.size := by omega
            go_wp2_with fail
            refine (refRight_any y (M.al S y) Z _ (by omega) (by omega)).mono ?_
            rintro e w8 ⟨rfl, hb8⟩
            have hz8 := hb8.size
            have hb08 := hb0y.trans (hb8.mono hb0y.size)
            replace n0 := keepC hb8 (by omega) n0
            replace n1 := keepC hb8 (by omega) n1
            replace n2 := keepC hb8 (by omega) n2
            replace d0 := keepC hb8 (by omega) d0
            replace d1 := keepC hb8 (by omega) d1
            replace d2 := keepC hb8 (by omega) d2
            replace f0 := keepF hb8 (by omega) f0
            replace f1 := keepF hb8 (by omega) f1
            replace f2 := keepF hb8 (by omega) f2
            have s8 : w.heap.size + 1 < w8.heap.size := by omega
            have s9 : w2.heap.size < w8.heap.size := by omega
            rw [HR.out]
            go_wp2_with fail
            refine bodyPost_ret (v := .tuple #[.agg #[.int .i64 y, .int .i64 (M.al S y), .int .i64 Z], .int .i64 0]) (by simp [results, Tryd.results25, go_sem, d0, d1, d2]) rfl ⟨rfl, ?_⟩
            exact (((hb08.setCell (p := ⟨w.heap.size + 1, 0, none⟩) (show w.heap.size ≤ w.heap.size + 1 by omega) _).setCell (p := ⟨w.heap.size + 1, 1, none⟩) (show w.heap.size ≤ w.heap.size + 1 by omega) _).setCell (p := ⟨w.heap.size + 1, 2, none⟩) (show w.heap.size ≤ w.heap.size + 1 by omega) _)

theorem refDegree_any (l a o m n : Int) (w : World) (a1 : -9223372036854775808 ≤ a) (a2 : a ≤ 9223372036854775807) :
    Calls Tryd.prog 25 #[.agg #[.int .i64 l, .int .i64 a, .int .i64 o], .int .i64 m, .int .i64 n] w fun e w' => e = .returned (.tuple #[.agg #[.int .i64 (M.dl l a o m n), .int .i64 (M.da l a o m n), .int .i64 (M.dO l a o m n)], .int .i64 (M.de l a o m n)]) ∧ Below w.heap.size w w' := by
  cases hk : M.zk l a m
  · obtain ⟨k1, k2⟩ := M.de_sign (o := o) (n := n) hk
    rw [M.dl_no k1, M.da_no k1, M.dO_no k1, k2]; exact refDegree_sign l a o m n w a1 a2 hk
  · cases hr : M.rt l a o
    · obtain ⟨k1, k2⟩ := M.de_form (n := n) hk hr
      rw [M.dl_no k1, M.da_no k1, M.dO_no k1, k2]; exact refDegree_form l a o m n w a1 a2 hk hr
    · cases hn : M.wi n 200
      · obtain ⟨k1, k2⟩ := M.de_range hk hr hn
        rw [M.dl_no k1, M.da_no k1, M.dO_no k1, k2]; exact refDegree_range l a o m n w a1 a2 hk hr hn
      · cases hR : M.rt ((l + n) % 7) (M.al (M.zr l a m) ((l + n) % 7)) (o + (l + n) / 7)
        · obtain ⟨k1, k2⟩ := M.de_out hk hr hn hR
          rw [M.dl_no k1, M.da_no k1, M.dO_no k1, k2]; exact refDegree_out l a o m n w a1 a2 hk hr hn hR
        · have k1 := M.dk_mk hk hr hn hR
          rw [M.dl_yes k1, M.da_yes k1, M.dO_yes k1, M.de_yes k1]; exact refDegree_yes l a o m n w a1 a2 hk hr hn hR

end Go.Proofs.YtdjdnjaijpafgabDoor
