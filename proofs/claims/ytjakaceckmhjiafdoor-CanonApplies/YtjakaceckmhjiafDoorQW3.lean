/- What the program's Sum, Move and Mirror come to, and the law's first question. -/
import Derived.Test.YtjakaceckmhjiafDoorQW2
import Derived.Deep.DeepCutAuto
namespace Go.Proofs.YtjakaceckmhjiafDoor
open Go.RowKit
attribute [local go_sem ↓] Go.wp_at_zero Go.wp_at_succ
set_option linter.unusedSimpArgs false

set_option maxHeartbeats 1000000 in
theorem Sum_any (s h s' h' : Int) (w : World) :
    Calls Tryd.prog 19 #[.agg #[.int .i64 s, .int .i64 h], .agg #[.int .i64 s', .int .i64 h']] w fun e w' => e = .returned (.tuple #[.agg #[.int .i64 (M.ss s h s' h'), .int .i64 (M.sh s h s' h')], .int .i64 (M.se s h s' h')]) ∧ Below w.heap.size w w' := by
  cases hi : M.inb s h
  · have hk : M.sk s h s' h' = false := by unfold M.sk; rw [hi]; simp
    rw [M.ss_no hk, M.sh_no hk, M.se_no hk]
    go_enter Tryd.func19, Tryd.ntmps19
    go_wp2_with fail
    refine (bounded_any s h _).mono ?_
    rintro e w1 ⟨rfl, hb1⟩
    rw [hi]
    have hz := hb1.size
    simp at hz
    have hb01 : Below w.heap.size w w1 := Below.trans (by go_grown) (hb1.mono (by simp; omega))
    have d0 : w1.cell? ⟨w.heap.size + 1 + 1, 0, none⟩ = some (.int .i64 0) := keepC hb1 (by simp) (by simp [go_sem])
    have d1 : w1.cell? ⟨w.heap.size + 1 + 1, 1, none⟩ = some (.int .i64 0) := keepC hb1 (by simp) (by simp [go_sem])
    have f0 : w1.frozen? ⟨w.heap.size + 1 + 1, 0, none⟩ = false := keepF hb1 (by simp) (by simp [go_sem])
    have f1 : w1.frozen? ⟨w.heap.size + 1 + 1, 1, none⟩ = false := keepF hb1 (by simp) (by simp [go_sem])
    go_wp2_with fail
    refine bodyPost_ret (v := .tuple #[.agg #[.int .i64 0, .int .i64 0], .int .i64 3]) (by simp [results, Tryd.results19, go_sem, d0, d1]) rfl ⟨rfl, ?_⟩
    exact ((hb01.setCell (by simp; omega) _).setCell (by simp; omega) _)
  cases hj : M.inb s' h'
  · have hk : M.sk s h s' h' = false := by unfold M.sk; rw [hj]; simp
    rw [M.ss_no hk, M.sh_no hk, M.se_no hk]
    go_enter Tryd.func19, Tryd.ntmps19
    go_wp2_with fail
    refine (bounded_any s h _).mono ?_
    rintro e w1 ⟨rfl, hb1⟩
    rw [hi]
    have hz := hb1.size
    simp at hz
    have hb01 : Below w.heap.size w w1 := Below.trans (by go_grown) (hb1.mono (by simp; omega))
    have d0 : w1.cell? ⟨w.heap.size + 1 + 1, 0, none⟩ = some (.int .i64 0) := keepC hb1 (by simp) (by simp [go_sem])
    have d1 : w1.cell? ⟨w.heap.size + 1 + 1, 1, none⟩ = some (.int .i64 0) := keepC hb1 (by simp) (by simp [go_sem])
    have f0 : w1.frozen? ⟨w.heap.size + 1 + 1, 0, none⟩ = false := keepF hb1 (by simp) (by simp [go_sem])
    have f1 : w1.frozen? ⟨w.heap.size + 1 + 1, 1, none⟩ = false := keepF hb1 (by simp) (by simp [go_sem])
    have p0 : w1.cell? ⟨w.heap.size, 0, none⟩ = some (.int .i64 s) := keepC hb1 (by simp; omega) (by simp [go_sem])
    have p1 : w1.cell? ⟨w.heap.size, 1, none⟩ = some (.int .i64 h) := keepC hb1 (by simp; omega) (by simp [go_sem])
    have q0 : w1.cell? ⟨w.heap.size + 1, 0, none⟩ = some (.int .i64 s') := keepC hb1 (by simp) (by simp [go_sem])
    have q1 : w1.cell? ⟨w.heap.size + 1, 1, none⟩ = some (.int .i64 h') := keepC hb1 (by simp) (by simp [go_sem])
    go_wp2_with fail
    refine (bounded_any s' h' _).mono ?_
    rintro e w2 ⟨rfl, hb2⟩
    rw [hj]
    have hz2 := hb2.size
    have hb02 := hb01.trans (hb2.mono hb01.size)
    replace p0 := keepC hb2 (by omega) p0
    replace p1 := keepC hb2 (by omega) p1
    replace q0 := keepC hb2 (by omega) q0
    replace q1 := keepC hb2 (by omega) q1
    replace d0 := keepC hb2 (by omega) d0
    replace d1 := keepC hb2 (by omega) d1
    replace f0 := keepF hb2 (by omega) f0
    replace f1 := keepF hb2 (by omega) f1
    have s2 : w.heap.size + 1 + 1 < w2.heap.size := by omega
    go_wp2_with fail
    refine bodyPost_ret (v := .tuple #[.agg #[.int .i64 0, .int .i64 0], .int .i64 3]) (by simp [results, Tryd.results19, go_sem, d0, d1]) rfl ⟨rfl, ?_⟩
    exact ((hb02.setCell (by simp; omega) _).setCell (by simp; omega) _)
  have hi' := M.inb_yes hi
  have hj' := M.inb_yes hj
  cases hm : M.inb (s + s') (h + h')
  · have hk : M.sk s h s' h' = false := by unfold M.sk; rw [hm]; simp
    rw [M.ss_no hk, M.sh_no hk, M.se_no hk]
    go_enter Tryd.func19, Tryd.ntmps19
    go_wp2_with fail
    refine (bounded_any s h _).mono ?_
    rintro e w1 ⟨rfl, hb1⟩
    rw [hi]
    have hz := hb1.size
    simp at hz
    have hb01 : Below w.heap.size w w1 := Below.trans (by go_grown) (hb1.mono (by simp; omega))
    have d0 : w1.cell? ⟨w.heap.size + 1 + 1, 0, none⟩ = some (.int .i64 0) := keepC hb1 (by simp) (by simp [go_sem])
    have d1 : w1.cell? ⟨w.heap.size + 1 + 1, 1, none⟩ = some (.int .i64 0) := keepC hb1 (by simp) (by simp [go_sem])
    have f0 : w1.frozen? ⟨w.heap.size + 1 + 1, 0, none⟩ = false := keepF hb1 (by simp) (by simp [go_sem])
    have f1 : w1.frozen? ⟨w.heap.size + 1 + 1, 1, none⟩ = false := keepF hb1 (by simp) (by simp [go_sem])
    have p0 : w1.cell? ⟨w.heap.size, 0, none⟩ = some (.int .i64 s) := keepC hb1 (by simp; omega) (by simp [go_sem])
    have p1 : w1.cell? ⟨w.heap.size, 1, none⟩ = some (.int .i64 h) := keepC hb1 (by simp; omega) (by simp [go_sem])
    have q0 : w1.cell? ⟨w.heap.size + 1, 0, none⟩ = some (.int .i64 s') := keepC hb1 (by simp) (by simp [go_sem])
    have q1 : w1.cell? ⟨w.heap.size + 1, 1, none⟩ = some (.int .i64 h') := keepC hb1 (by simp) (by simp [go_sem])
    go_wp2_with fail
    refine (bounded_any s' h' _).mono ?_
    rintro e w2 ⟨rfl, hb2⟩
    rw [hj]
    have hz2 := hb2.size
    have hb02 := hb01.trans (hb2.mono hb01.size)
    replace p0 := keepC hb2 (by omega) p0
    replace p1 := keepC hb2 (by omega) p1
    replace q0 := keepC hb2 (by omega) q0
    replace q1 := keepC hb2 (by omega) q1
    replace d0 := keepC hb2 (by omega) d0
    replace d1 := keepC hb2 (by omega) d1
    replace f0 := keepF hb2 (by omega) f0
    replace f1 := keepF hb2 (by omega) f1
    have s2 : w.heap.size + 1 + 1 < w2.heap.size := by omega
    go_wp2_with fail
    refine (bounded_any (s + s') (h + h') _).mono ?_
    rintro e w3 ⟨rfl, hb3⟩
    rw [hm]
    have hz3 := hb3.size
    simp at hz3
    have hb23 : Below w2.heap.size w2 w3 := Below.trans (by go_grown) (hb3.mono (by simp))
    have hb03 := hb02.trans (hb23.mono (by omega))
    replace d0 := keepC hb23 (by omega) d0
    replace d1 := keepC hb23 (by omega) d1
    replace f0 := keepF hb23 (by omega) f0
    replace f1 := keepF hb23 (by omega) f1
    have n0 : w3.cell? ⟨w2.heap.size, 0, none⟩ = some (.int .i64 (s + s')) := keepC hb3 (by simp) (by simp [go_sem])
    have n1 : w3.cell? ⟨w2.heap.size, 1, none⟩ = some (.int .i64 (h + h')) := keepC hb3 (by simp) (by simp [go_sem])
    have s3 : w.heap.size + 1 + 1 < w3.heap.size := by omega
    have s4 : w2.heap.size < w3.heap.size := by omega
    go_wp2_with fail
    refine bodyPost_ret (v := .tuple #[.agg #[.int .i64 0, .int .i64 0], .int .i64 3]) (by simp [results, Tryd.results19, go_sem, d0, d1]) rfl ⟨rfl, ?_⟩
    exact ((hb03.setCell (by simp; omega) _).setCell (by simp; omega) _)
  · have hk : M.sk s h s' h' = true := by unfold M.sk; rw [hi, hj, hm]; rfl
    rw [M.ss_yes hk, M.sh_yes hk, M.se_yes hk]
    go_enter Tryd.func19, Tryd.ntmps19
    go_wp2_with fail
    refine (bounded_any s h _).mono ?_
    rintro e w1 ⟨rfl, hb1⟩
    rw [hi]
    have hz := hb1.size
    simp at hz
    have hb01 : Below w.heap.size w w1 := Below.trans (by go_grown) (hb1.mono (by simp; omega))
    have d0 : w1.cell? ⟨w.heap.size + 1 + 1, 0, none⟩ = some (.int .i64 0) := keepC hb1 (by simp) (by simp [go_sem])
    have d1 : w1.cell? ⟨w.heap.size + 1 + 1, 1, none⟩ = some (.int .i64 0) := keepC hb1 (by simp) (by simp [go_sem])
    have f0 : w1.frozen? ⟨w.heap.size + 1 + 1, 0, none⟩ = false := keepF hb1 (by simp) (by simp [go_sem])
    have f1 : w1.frozen? ⟨w.heap.size + 1 + 1, 1, none⟩ = false := keepF hb1 (by simp) (by simp [go_sem])
    have p0 : w1.cell? ⟨w.heap.size, 0, none⟩ = some (.int .i64 s) := keepC hb1 (by simp; omega) (by simp [go_sem])
    have p1 : w1.cell? ⟨w.heap.size, 1, none⟩ = some (.int .i64 h) := keepC hb1 (by simp; omega) (by simp [go_sem])
    have q0 : w1.cell? ⟨w.heap.size + 1, 0, none⟩ = some (.int .i64 s') := keepC hb1 (by simp) (by simp [go_sem])
    have q1 : w1.cell? ⟨w.heap.size + 1, 1, none⟩ = some (.int .i64 h') := keepC hb1 (by simp) (by simp [go_sem])
    go_wp2_with fail
    refine (bounded_any s' h' _).mono ?_
    rintro e w2 ⟨rfl, hb2⟩
    rw [hj]
    have hz2 := hb2.size
    have hb02 := hb01.trans (hb2.mono hb01.size)
    replace p0 := keepC hb2 (by omega) p0
    replace p1 := keepC hb2 (by omega) p1
    replace q0 := keepC hb2 (by omega) q0
    replace q1 := keepC hb2 (by omega) q1
    replace d0 := keepC hb2 (by omega) d0
    replace d1 := keepC hb2 (by omega) d1
    replace f0 := keepF hb2 (by omega) f0
    replace f1 := keepF hb2 (by omega) f1
    have s2 : w.heap.size + 1 + 1 < w2.heap.size := by omega
    go_wp2_with fail
    refine (bounded_any (s + s') (h + h') _).mono ?_
    rintro e w3 ⟨rfl, hb3⟩
    rw [hm]
    have hz3 := hb3.size
    simp at hz3
    have hb23 : Below w2.heap.size w2 w3 := Below.trans (by go_grown) (hb3.mono (by simp))
    have hb03 := hb02.trans (hb23.mono (by omega))
    replace d0 := keepC hb23 (by omega) d0
    replace d1 := keepC hb23 (by omega) d1
    replace f0 := keepF hb23 (by omega) f0
    replace f1 := keepF hb23 (by omega) f1
    have n0 : w3.cell? ⟨w2.heap.size, 0, none⟩ = some (.int .i64 (s + s')) := keepC hb3 (by simp) (by simp [go_sem])
    have n1 : w3.cell? ⟨w2.heap.size, 1, none⟩ = some (.int .i64 (h + h')) := keepC hb3 (by simp) (by simp [go_sem])
    have s3 : w.heap.size + 1 + 1 < w3.heap.size := by omega
    have s4 : w2.heap.size < w3.heap.size := by omega
    go_wp2_with fail
    refine bodyPost_ret (v := .tuple #[.agg #[.int .i64 (s + s'), .int .i64 (h + h')], .int .i64 0]) (by simp [results, Tryd.results19, go_sem, d0, d1]) rfl ⟨rfl, ?_⟩
    exact ((hb03.setCell (by simp; omega) _).setCell (by simp; omega) _)

theorem Move_form (l a o s h : Int) (w : World) (hr : M.rt l a o = false) :
    Calls Tryd.prog 50 #[.agg #[.int .i64 l, .int .i64 a, .int .i64 o], .agg #[.int .i64 s, .int .i64 h]] w fun e w' => e = .returned (.tuple #[.agg #[.int .i64 0, .int .i64 0, .int .i64 0], .int .i64 2]) ∧ Below w.heap.size w w' := by
  go_enter Tryd.func50, Tryd.ntmps50
  go_wp2_with fail
  refine (Right_any l a o _).mono ?_
  rintro e w1 ⟨rfl, hb1⟩
  rw [hr]
  have hz := hb1.size
  simp at hz
  have hb01 : Below w.heap.size w w1 := Below.trans (by go_grown) (hb1.mono (by simp; omega))
  have d0 : w1.cell? ⟨w.heap.size + 1 + 1, 0, none⟩ = some (.int .i64 0) := keepC hb1 (by simp) (by simp [go_sem])
  have d1 : w1.cell? ⟨w.heap.size + 1 + 1, 1, none⟩ = some (.int .i64 0) := keepC hb1 (by simp) (by simp [go_sem])
  have d2 : w1.cell? ⟨w.heap.size + 1 + 1, 2, none⟩ = some (.int .i64 0) := keepC hb1 (by simp) (by simp [go_sem])
  have f0 : w1.frozen? ⟨w.heap.size + 1 + 1, 0, none⟩ = false := keepF hb1 (by simp) (by simp [go_sem])
  have f1 : w1.frozen? ⟨w.heap.size + 1 + 1, 1, none⟩ = false := keepF hb1 (by simp) (by simp [go_sem])
  have f2 : w1.frozen? ⟨w.heap.size + 1 + 1, 2, none⟩ = false := keepF hb1 (by simp) (by simp [go_sem])
  go_wp2_with fail
  refine bodyPost_ret (v := .tuple #[.agg #[.int .i64 0, .int .i64 0, .int .i64 0], .int .i64 2]) (by simp [results, Tryd.results50, go_sem, d0, d1, d2]) rfl ⟨rfl, ?_⟩
  exact (((hb01.setCell (by simp; omega) _).setCell (by simp; omega) _).setCell (by simp; omega) _)

theorem Move_range (l a o s h : Int) (w : World) (hr : M.rt l a o = true) (hi : M.inb s h = false) :
    Calls Tryd.prog 50 #[.agg #[.int .i64 l, .int .i64 a, .int .i64 o], .agg #[.int .i64 s, .int .i64 h]] w fun e w' => e = .returned (.tuple #[.agg #[.int .i64 0, .int .i64 0, .int .i64 0], .int .i64 3]) ∧ Below w.heap.size w w' := by
  go_enter Tryd.func50, Tryd.ntmps50
  go_wp2_with fail
  refine (Right_any l a o _).mono ?_
  rintro e w1 ⟨rfl, hb1⟩
  rw [hr]
  have hz := hb1.size
  simp at hz
  have hb01 : Below w.heap.size w w1 := Below.trans (by go_grown) (hb1.mono (by simp; omega))
  have p0 : w1.cell? ⟨w.heap.size, 0, none⟩ = some (.int .i64 l) := keepC hb1 (by simp; omega) (by simp [go_sem])
  have p1 : w1.cell? ⟨w.heap.size, 1, none⟩ = some (.int .i64 a) := keepC hb1 (by simp; omega) (by simp [go_sem])
  have p2 : w1.cell? ⟨w.heap.size, 2, none⟩ = some (.int .i64 o) := keepC hb1 (by simp; omega) (by simp [go_sem])
  have q0 : w1.cell? ⟨w.heap.size + 1, 0, none⟩ = some (.int .i64 s) := keepC hb1 (by simp) (by simp [go_sem])
  have q1 : w1.cell? ⟨w.heap.size + 1, 1, none⟩ = some (.int .i64 h) := keepC hb1 (by simp) (by simp [go_sem])
  have d0 : w1.cell? ⟨w.heap.size + 1 + 1, 0, none⟩ = some (.int .i64 0) := keepC hb1 (by simp) (by simp [go_sem])
  have d1 : w1.cell? ⟨w.heap.size + 1 + 1, 1, none⟩ = some (.int .i64 0) := keepC hb1 (by simp) (by simp [go_sem])
  have d2 : w1.cell? ⟨w.heap.size + 1 + 1, 2, none⟩ = some (.int .i64 0) := keepC hb1 (by simp) (by simp [go_sem])
  have f0 : w1.frozen? ⟨w.heap.size + 1 + 1, 0, none⟩ = false := keepF hb1 (by simp) (by simp [go_sem])
  have f1 : w1.frozen? ⟨w.heap.size + 1 + 1, 1, none⟩ = false := keepF hb1 (by simp) (by simp [go_sem])
  have f2 : w1.frozen? ⟨w.heap.size + 1 + 1, 2, none⟩ = false := keepF hb1 (by simp) (by simp [go_sem])
  go_wp2_with fail
  refine (bounded_any s h _).mono ?_
  rintro e w2 ⟨rfl, hb2⟩
  rw [hi]
  have hz2 := hb2.size
  have hb02 := hb01.trans (hb2.mono hb01.size)
  replace p0 := keepC hb2 (by omega) p0
  replace p1 := keepC hb2 (by omega) p1
  replace p2 := keepC hb2 (by omega) p2
  replace q0 := keepC hb2 (by omega) q0
  replace q1 := keepC hb2 (by omega) q1
  replace d0 := keepC hb2 (by omega) d0
  replace d1 := keepC hb2 (by omega) d1
  replace d2 := keepC hb2 (by omega) d2
  replace f0 := keepF hb2 (by omega) f0
  replace f1 := keepF hb2 (by omega) f1
  replace f2 := keepF hb2 (by omega) f2
  have s2 : w.heap.size + 1 + 1 < w2.heap.size := by omega
  go_wp2_with fail
  refine bodyPost_ret (v := .tuple #[.agg #[.int .i64 0, .int .i64 0, .int .i64 0], .int .i64 3]) (by simp [results, Tryd.results50, go_sem, d0, d1, d2]) rfl ⟨rfl, ?_⟩
  exact (((hb02.setCell (by simp; omega) _).setCell (by simp; omega) _).setCell (by simp; omega) _)

end Go.Proofs.YtjakaceckmhjiafDoor
