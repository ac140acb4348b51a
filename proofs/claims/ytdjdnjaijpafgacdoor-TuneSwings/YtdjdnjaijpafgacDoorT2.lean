/- What the program's Ratio comes to: powers of three and two. -/
import Derived.Test.YtdjdnjaijpafgacDoorT1
import Derived.Test.YtdjdnjaijpafgacDoorQW3
namespace Go.Proofs.YtdjdnjaijpafgacDoor.F
open Go.RowKit
attribute [local go_sem ↓] Go.wp_at_zero Go.wp_at_succ
set_option linter.unusedSimpArgs false
set_option linter.unusedVariables false

/-- Fifths, and twos, of an interval. -/
def M.x5 (s h : Int) : Int := 7 * h - 12 * s
def M.y2 (s h : Int) : Int := 7 * s - 4 * h - (7 * h - 12 * s)
theorem M.sk0 (s h : Int) : YtdjdnjaijpafgacDoor.M.sk s h 0 0 = YtdjdnjaijpafgacDoor.M.inb s h := by
  unfold YtdjdnjaijpafgacDoor.M.sk
  rw [show s + 0 = s by omega, show h + 0 = h by omega, show YtdjdnjaijpafgacDoor.M.inb 0 0 = true by decide]
  cases YtdjdnjaijpafgacDoor.M.inb s h <;> rfl

set_option maxHeartbeats 1000000 in
theorem Ratio_no (s h : Int) (w : World) (hi : YtdjdnjaijpafgacDoor.M.inb s h = false) :
    Calls Tryd.prog 13 #[.agg #[.int .i64 s, .int .i64 h]] w fun e w' => e = .returned (.tuple #[.agg #[.int .i64 0, .int .i64 0], .int .i64 3]) ∧ Below w.heap.size w w' := by
  have hk : YtdjdnjaijpafgacDoor.M.sk s h 0 0 = false := by rw [M.sk0]; exact hi
  go_enter Tryd.func13, Tryd.ntmps13
  go_wp2_with fail
  refine (Sum_any s h 0 0 _).mono ?_
  rintro e w1 ⟨rfl, hb1⟩
  rw [YtdjdnjaijpafgacDoor.M.ss_no hk, YtdjdnjaijpafgacDoor.M.sh_no hk, YtdjdnjaijpafgacDoor.M.se_no hk]
  have z1 := hb1.size
  simp at z1
  have hb01 : Below w.heap.size w w1 := Below.trans (by go_grown) (hb1.mono (by simp; omega))
  have p0 : w1.cell? ⟨w.heap.size, 0, none⟩ = some (.int .i64 s) := keepC hb1 (by simp; omega) (by simp [go_sem])
  have p1 : w1.cell? ⟨w.heap.size, 1, none⟩ = some (.int .i64 h) := keepC hb1 (by simp; omega) (by simp [go_sem])
  have d0 : w1.cell? ⟨w.heap.size + 1, 0, none⟩ = some (.int .i64 0) := keepC hb1 (by simp) (by simp [go_sem])
  have d1 : w1.cell? ⟨w.heap.size + 1, 1, none⟩ = some (.int .i64 0) := keepC hb1 (by simp) (by simp [go_sem])
  have f0 : w1.frozen? ⟨w.heap.size + 1, 0, none⟩ = false := keepF hb1 (by simp) (by simp [go_sem])
  have f1 : w1.frozen? ⟨w.heap.size + 1, 1, none⟩ = false := keepF hb1 (by simp) (by simp [go_sem])
  have s1 : w.heap.size + 1 < w1.heap.size := by omega
  have s0 : w.heap.size < w1.heap.size := by omega
  go_wp2_with fail
  refine bodyPost_ret (v := .tuple #[.agg #[.int .i64 0, .int .i64 0], .int .i64 3]) (by simp [results, Tryd.results13, go_sem, d0, d1, s1]) rfl ⟨rfl, ?_⟩
  have hX := ((hb01.setCell (p := ⟨w.heap.size + 1, 0, none⟩) (show w.heap.size ≤ w.heap.size + 1 by omega) (.int .i64 0)).setCell (p := ⟨w.heap.size + 1, 1, none⟩) (show w.heap.size ≤ w.heap.size + 1 by omega) (.int .i64 0))
  exact hX.alloc hX.size _

set_option maxHeartbeats 2000000 in
theorem Ratio_in (s h : Int) (w : World) (hi : YtdjdnjaijpafgacDoor.M.inb s h = true) :
    Calls Tryd.prog 13 #[.agg #[.int .i64 s, .int .i64 h]] w fun e w' => e = .returned (.tuple #[.agg #[.int .i64 (M.qu (M.x5 s h) (M.y2 s h)), .int .i64 (M.qd (M.x5 s h) (M.y2 s h))], .int .i64 (M.qe (M.x5 s h) (M.y2 s h))]) ∧ Below w.heap.size w w' := by
  have hk : YtdjdnjaijpafgacDoor.M.sk s h 0 0 = true := by rw [M.sk0]; exact hi
  go_enter Tryd.func13, Tryd.ntmps13
  go_wp2_with fail
  refine (Sum_any s h 0 0 _).mono ?_
  rintro e w1 ⟨rfl, hb1⟩
  rw [YtdjdnjaijpafgacDoor.M.se_yes hk]
  generalize YtdjdnjaijpafgacDoor.M.ss s h 0 0 = u0
  generalize YtdjdnjaijpafgacDoor.M.sh s h 0 0 = u1
  have hb' := YtdjdnjaijpafgacDoor.M.inb_yes hi
  have z1 := hb1.size
  simp at z1
  have hb01 : Below w.heap.size w w1 := Below.trans (by go_grown) (hb1.mono (by simp; omega))
  have p0 : w1.cell? ⟨w.heap.size, 0, none⟩ = some (.int .i64 s) := keepC hb1 (by simp; omega) (by simp [go_sem])
  have p1 : w1.cell? ⟨w.heap.size, 1, none⟩ = some (.int .i64 h) := keepC hb1 (by simp; omega) (by simp [go_sem])
  have d0 : w1.cell? ⟨w.heap.size + 1, 0, none⟩ = some (.int .i64 0) := keepC hb1 (by simp) (by simp [go_sem])
  have d1 : w1.cell? ⟨w.heap.size + 1, 1, none⟩ = some (.int .i64 0) := keepC hb1 (by simp) (by simp [go_sem])
  have f0 : w1.frozen? ⟨w.heap.size + 1, 0, none⟩ = false := keepF hb1 (by simp) (by simp [go_sem])
  have f1 : w1.frozen? ⟨w.heap.size + 1, 1, none⟩ = false := keepF hb1 (by simp) (by simp [go_sem])
  have s1 : w.heap.size + 1 < w1.heap.size := by omega
  have s0 : w.heap.size < w1.heap.size := by omega
  go_wp2_with fail
  have u1' := M.cU_pos (7 * h - 12 * s) (7 * s - 4 * h - (7 * h - 12 * s))
  have u2' := M.cU_le (7 * h - 12 * s) (7 * s - 4 * h - (7 * h - 12 * s))
  have u3' := M.cU_pos (-(7 * h - 12 * s)) (-(7 * s - 4 * h - (7 * h - 12 * s)))
  have u4' := M.cU_le (-(7 * h - 12 * s)) (-(7 * s - 4 * h - (7 * h - 12 * s)))
  obtain ⟨g1, g2, g3⟩ := M.cap_same (7 * h - 12 * s) (7 * s - 4 * h - (7 * h - 12 * s))
  unfold M.cU at u1' u2' u3' u4' g1 g2 g3
  have HQ : Hid (_ ∧ _ ∧ _) := ⟨g1, g2, g3⟩
  clear g1 g2 g3
  refine (power_any _ _ _ (by omega) (by omega) (by omega)).mono ?_
  rintro e w2 ⟨rfl, hw2⟩
  rw [hw2]
  go_wp2_with fail
  refine (power_any _ _ _ (by omega) (by omega) (by omega)).mono ?_
  rintro e w3 ⟨rfl, hw3⟩
  rw [hw3]
  go_wp2_with fail
  refine (power_any _ _ _ (by omega) (by omega) (by omega)).mono ?_
  rintro e w4 ⟨rfl, hw4⟩
  rw [hw4]
  go_wp2_with fail
  refine (power_any _ _ _ (by omega) (by omega) (by omega)).mono ?_
  rintro e w5 ⟨rfl, hw5⟩
  rw [hw5]
  go_wp2_with fail
  refine (Make_any _ _ _ (by omega) (by omega) (by omega)).mono ?_
  rintro e w6 ⟨rfl, hb6⟩
  rw [M.mu_yes _ _ u3', M.md_yes _ _ u3', M.me_yes _ _ u3', HQ.out.1, HQ.out.2.1, HQ.out.2.2]
  have z6 := hb6.size
  simp at z6
  have hb06 : Below w.heap.size w w6 := (hb01.alloc hb01.size _).trans (hb6.mono (by simp; omega))
  replace d0 : w6.cell? ⟨w.heap.size + 1, 0, none⟩ = some (.int .i64 0) := keepC hb6 (by simp; omega) (by simp [go_sem, d0, s1])
  replace d1 : w6.cell? ⟨w.heap.size + 1, 1, none⟩ = some (.int .i64 0) := keepC hb6 (by simp; omega) (by simp [go_sem, d1, s1])
  replace f0 : w6.frozen? ⟨w.heap.size + 1, 0, none⟩ = false := keepF hb6 (by simp; omega) (by simp [go_sem, f0, s1])
  replace f1 : w6.frozen? ⟨w.heap.size + 1, 1, none⟩ = false := keepF hb6 (by simp; omega) (by simp [go_sem, f1, s1])
  have s6 : w.heap.size + 1 < w6.heap.size := by omega
  rw [show 7 * h - 12 * s = M.x5 s h from rfl, show 7 * s - 4 * h - M.x5 s h = M.y2 s h from rfl]
  go_wp2_with fail
  refine bodyPost_ret (v := .tuple #[.agg #[.int .i64 (M.qu (M.x5 s h) (M.y2 s h)), .int .i64 (M.qd (M.x5 s h) (M.y2 s h))], .int .i64 (M.qe (M.x5 s h) (M.y2 s h))]) (by simp [results, Tryd.results13, go_sem, d0, d1, s6]) rfl ⟨rfl, ?_⟩
  exact ((hb06.setCell (p := ⟨w.heap.size + 1, 0, none⟩) (show w.heap.size ≤ w.heap.size + 1 by omega) _).setCell (p := ⟨w.heap.size + 1, 1, none⟩) (show w.heap.size ≤ w.heap.size + 1 by omega) _)

theorem alive_any (w : World) : Calls Tryd.prog 20 #[] w fun e w' => e = .returned (.bool true) ∧ Below w.heap.size w w' := by
  have e1 : M.qu (M.x5 4 7) (M.y2 4 7) = 3 := by decide +kernel
  have e2 : M.qd (M.x5 4 7) (M.y2 4 7) = 2 := by decide +kernel
  have e3 : M.qe (M.x5 4 7) (M.y2 4 7) = 0 := by decide +kernel
  have HE : Hid (M.qu (M.x5 4 7) (M.y2 4 7) = 3 ∧ M.qd (M.x5 4 7) (M.y2 4 7) = 2 ∧ M.qe (M.x5 4 7) (M.y2 4 7) = 0) := ⟨e1, e2, e3⟩
  clear e1 e2 e3
  go_enter Tryd.func20, Tryd.ntmps20
  go_wp2_with fail
  refine (Ratio_in 4 7 _ (by decide)).mono ?_
  rintro e w1 ⟨rfl, hb1⟩
  rw [HE.out.1, HE.out.2.1, HE.out.2.2]
  go_wp2
  go_ret
  exact ⟨rfl, hb1.alloc (by simpa using hb1.size) _⟩
end Go.Proofs.YtdjdnjaijpafgacDoor.F
