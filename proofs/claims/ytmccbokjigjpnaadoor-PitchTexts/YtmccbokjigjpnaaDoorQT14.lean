/- The program's Read at every text. -/
import Derived.Test.YtmccbokjigjpnaaDoorQT13
namespace Go.Proofs.YtmccbokjigjpnaaDoor
open Go.RowKit Go.Lib Go.Joins
set_option linter.unusedSimpArgs false
set_option linter.unusedVariables false

set_option maxRecDepth 100000 in
set_option maxHeartbeats 2000000 in
theorem Read_signs (s : ByteArray) (w : World) (h0 : 0 < s.size) (hs : s.size ≤ 140737488355328) (hl : 0 ≤ M.ix s) (ga gk ge : Int) (hG : M.sg (M.r1 s) = (ga, gk, ge)) (he : ge ≠ 0) :
    Calls Tryd.prog 21 #[.string s] w fun e w' => e = .returned (.tuple #[.agg #[.int .i64 0, .int .i64 0, .int .i64 0], .agg #[.int .i64 (ge), .int .i64 (1 + gk)]]) ∧ Below w.heap.size w w' := by
  have hem : s.toList.isEmpty = false := by
    rw [ByteArray.toList_eq]
    cases hc : s.data.toList with
    | nil => exact absurd h0 (by rw [Lib.size_eq, hc]; decide)
    | cons x r => rfl
  have hlen : (1 : Int) ≤ s.size := by omega
  have hh : s[0]'h0 = s.data.toList.headD 0 := by
    have hl : 0 < s.data.toList.length := by rw [← Lib.size_eq]; exact h0
    exact (show s[0]'h0 = s.data.toList[0]'hl from rfl).trans (head_eq _ hl)
  have hix : ((s[0]'h0).toNat : Int).toNat.toUInt8 = s[0]'h0 := by simp
  have h1 : Lib.indexByte [67, 68, 69, 70, 71, 65, 66] (s[0]'h0) = M.ix s := by rw [hh]; rfl
  clear hh
  have h3 : s.extract 1 s.size = M.r1 s := rfl
  have hl' : ¬ M.ix s < 0 := by omega
  have hr2 : ((M.r1 s).size : Int) + 1 = s.size := by unfold M.r1; rw [ByteArray.size_extract]; omega
  have hr1 : (M.r1 s).size ≤ 140737488355328 := by omega
  have hsg : 0 ≤ gk ∧ gk ≤ ((M.r1 s).size : Int) := by have := M.sg_bd (M.r1 s); rw [hG] at this; exact this
  have hgk : gk ≤ 9000000000000 * 100000 := by omega
  have he' : (ge != 0) = true := by simp [he]
  go_enter Tryd.func21, Tryd.ntmps21
  go_wp2_with (go_at_call 44; refine (Tryd.strings_IndexByte _ _ _).mono ?_; rintro e w' ⟨rfl, hw⟩; rw [hw, hix, show (ByteArray.mk #[67, 68, 69, 70, 71, 65, 66]).data.toList = [67, 68, 69, 70, 71, 65, 66] from rfl, h1])
  refine (readSigns_any (M.r1 s) _ (by omega)).mono ?_
  rintro e w1 ⟨rfl, hb1⟩
  rw [hG]
  have z1 := hb1.size
  simp at z1
  have hb01 : Below w.heap.size w w1 := Below.trans (by go_grown) (hb1.mono (by simp; omega))
  have p0 : w1.cell? ⟨w.heap.size, 0, none⟩ = some (.int .i64 0) := keepC hb1 (by (first | (simp; done) | (simp; omega))) (by simp [go_sem])
  have p1 : w1.cell? ⟨w.heap.size, 1, none⟩ = some (.int .i64 0) := keepC hb1 (by (first | (simp; done) | (simp; omega))) (by simp [go_sem])
  have p2 : w1.cell? ⟨w.heap.size, 2, none⟩ = some (.int .i64 0) := keepC hb1 (by (first | (simp; done) | (simp; omega))) (by simp [go_sem])
  have q0 : w1.cell? ⟨w.heap.size + 1, 0, none⟩ = some (.int .i64 0) := keepC hb1 (by (first | (simp; done) | (simp; omega))) (by simp [go_sem])
  have q1 : w1.cell? ⟨w.heap.size + 1, 1, none⟩ = some (.int .i64 0) := keepC hb1 (by (first | (simp; done) | (simp; omega))) (by simp [go_sem])
  have f0 : w1.frozen? ⟨w.heap.size, 0, none⟩ = false := keepF hb1 (by (first | (simp; done) | (simp; omega))) (by simp [go_sem])
  have f1 : w1.frozen? ⟨w.heap.size, 1, none⟩ = false := keepF hb1 (by (first | (simp; done) | (simp; omega))) (by simp [go_sem])
  have f2 : w1.frozen? ⟨w.heap.size, 2, none⟩ = false := keepF hb1 (by (first | (simp; done) | (simp; omega))) (by simp [go_sem])
  have g0 : w1.frozen? ⟨w.heap.size + 1, 0, none⟩ = false := keepF hb1 (by (first | (simp; done) | (simp; omega))) (by simp [go_sem])
  have g1 : w1.frozen? ⟨w.heap.size + 1, 1, none⟩ = false := keepF hb1 (by (first | (simp; done) | (simp; omega))) (by simp [go_sem])
  have t1 : w.heap.size + 1 < w1.heap.size := by omega
  go_wp2_with fail
  refine (wrongAt_any _ _ _).mono ?_
  rintro e w9 ⟨rfl, hb9⟩
  have z9 := hb9.size
  have hb09 := hb01.trans (hb9.mono hb01.size)
  replace p0 := keepC hb9 (by omega) p0
  replace p1 := keepC hb9 (by omega) p1
  replace p2 := keepC hb9 (by omega) p2
  replace q0 := keepC hb9 (by omega) q0
  replace q1 := keepC hb9 (by omega) q1
  replace f0 := keepF hb9 (by omega) f0
  replace f1 := keepF hb9 (by omega) f1
  replace f2 := keepF hb9 (by omega) f2
  replace g0 := keepF hb9 (by omega) g0
  replace g1 := keepF hb9 (by omega) g1
  have t9 : w.heap.size + 1 < w9.heap.size := by omega
  go_wp2_with fail
  refine bodyPost_ret (v := .tuple #[.agg #[.int .i64 0, .int .i64 0, .int .i64 0], .agg #[.int .i64 (ge), .int .i64 (1 + gk)]]) (by simp [results, Tryd.results21, go_sem, p0, p1, p2, q0, q1]) rfl ⟨rfl, ?_⟩
  exact ((((hb09.setCell (by simp) _).setCell (by simp) _).setCell (by simp) _).setCell (by simp) _).setCell (by simp) _

set_option maxRecDepth 100000 in
set_option maxHeartbeats 2000000 in
theorem Read_number (s : ByteArray) (w : World) (h0 : 0 < s.size) (hs : s.size ≤ 140737488355328) (hl : 0 ≤ M.ix s) (ga gk : Int) (hG : M.sg (M.r1 s) = (ga, gk, 0)) (hn : M.isN (M.r2 s) = false) :
    Calls Tryd.prog 21 #[.string s] w fun e w' => e = .returned (.tuple #[.agg #[.int .i64 0, .int .i64 0, .int .i64 0], .agg #[.int .i64 (2), .int .i64 (1 + gk)]]) ∧ Below w.heap.size w w' := by
  have hem : s.toList.isEmpty = false := by
    rw [ByteArray.toList_eq]
    cases hc : s.data.toList with
    | nil => exact absurd h0 (by rw [Lib.size_eq, hc]; decide)
    | cons x r => rfl
  have hlen : (1 : Int) ≤ s.size := by omega
  have hh : s[0]'h0 = s.data.toList.headD 0 := by
    have hl : 0 < s.data.toList.length := by rw [← Lib.size_eq]; exact h0
    exact (show s[0]'h0 = s.data.toList[0]'hl from rfl).trans (head_eq _ hl)
  have hix : ((s[0]'h0).toNat : Int).toNat.toUInt8 = s[0]'h0 := by simp
  have h1 : Lib.indexByte [67, 68, 69, 70, 71, 65, 66] (s[0]'h0) = M.ix s := by rw [hh]; rfl
  clear hh
  have h3 : s.extract 1 s.size = M.r1 s := rfl
  have hl' : ¬ M.ix s < 0 := by omega
  have hr2 : ((M.r1 s).size : Int) + 1 = s.size := by unfold M.r1; rw [ByteArray.size_extract]; omega
  have hr1 : (M.r1 s).size ≤ 140737488355328 := by omega
  have hsg : 0 ≤ gk ∧ gk ≤ ((M.r1 s).size : Int) := by have := M.sg_bd (M.r1 s); rw [hG] at this; exact this
  have hgk : gk ≤ 9000000000000 * 100000 := by omega
  have hk0 : (0 : Int) ≤ 1 + gk := by omega
  have hk1 : (1 : Int) + gk ≤ s.size := by omega
  have h8 : s.extract (1 + gk).toNat s.size = M.r2 s := by unfold M.r2 M.at'; rw [hG]
  generalize M.r2 s = R at *
  go_enter Tryd.func21, Tryd.ntmps21
  go_wp2_with (go_at_call 44; refine (Tryd.strings_IndexByte _ _ _).mono ?_; rintro e w' ⟨rfl, hw⟩; rw [hw, hix, show (ByteArray.mk #[67, 68, 69, 70, 71, 65, 66]).data.toList = [67, 68, 69, 70, 71, 65, 66] from rfl, h1])
  refine (readSigns_any (M.r1 s) _ (by omega)).mono ?_
  rintro e w1 ⟨rfl, hb1⟩
  rw [hG]
  have z1 := hb1.size
  simp at z1
  have hb01 : Below w.heap.size w w1 := Below.trans (by go_grown) (hb1.mono (by simp; omega))
  have p0 : w1.cell? ⟨w.heap.size, 0, none⟩ = some (.int .i64 0) := keepC hb1 (by (first | (simp; done) | (simp; omega))) (by simp [go_sem])
  have p1 : w1.cell? ⟨w.heap.size, 1, none⟩ = some (.int .i64 0) := keepC hb1 (by (first | (simp; done) | (simp; omega))) (by simp [go_sem])
  have p2 : w1.cell? ⟨w.heap.size, 2, none⟩ = some (.int .i64 0) := keepC hb1 (by (first | (simp; done) | (simp; omega))) (by simp [go_sem])
  have q0 : w1.cell? ⟨w.heap.size + 1, 0, none⟩ = some (.int .i64 0) := keepC hb1 (by (first | (simp; done) | (simp; omega))) (by simp [go_sem])
  have q1 : w1.cell? ⟨w.heap.size + 1, 1, none⟩ = some (.int .i64 0) := keepC hb1 (by (first | (simp; done) | (simp; omega))) (by simp [go_sem])
  have f0 : w1.frozen? ⟨w.heap.size, 0, none⟩ = false := keepF hb1 (by (first | (simp; done) | (simp; omega))) (by simp [go_sem])
  have f1 : w1.frozen? ⟨w.heap.size, 1, none⟩ = false := keepF hb1 (by (first | (simp; done) | (simp; omega))) (by simp [go_sem])
  have f2 : w1.frozen? ⟨w.heap.size, 2, none⟩ = false := keepF hb1 (by (first | (simp; done) | (simp; omega))) (by simp [go_sem])
  have g0 : w1.frozen? ⟨w.heap.size + 1, 0, none⟩ = false := keepF hb1 (by (first | (simp; done) | (simp; omega))) (by simp [go_sem])
  have g1 : w1.frozen? ⟨w.heap.size + 1, 1, none⟩ = false := keepF hb1 (by (first | (simp; done) | (simp; omega))) (by simp [go_sem])
  have t1 : w.heap.size + 1 < w1.heap.size := by omega
  go_wp2_with fail
  refine (readNumber_no R _ hn).mono ?_
  rintro e w2 ⟨rfl, hb2⟩
  have z2 := hb2.size
  have hb02 := hb01.trans (hb2.mono hb01.size)
  replace p0 := keepC hb2 (by omega) p0
  replace p1 := keepC hb2 (by omega) p1
  replace p2 := keepC hb2 (by omega) p2
  replace q0 := keepC hb2 (by omega) q0
  replace q1 := keepC hb2 (by omega) q1
  replace f0 := keepF hb2 (by omega) f0
  replace f1 := keepF hb2 (by omega) f1
  replace f2 := keepF hb2 (by omega) f2
  replace g0 := keepF hb2 (by omega) g0
  replace g1 := keepF hb2 (by omega) g1
  have t2 : w.heap.size + 1 < w2.heap.size := by omega
  go_wp2_with fail
  refine (wrongAt_any _ _ _).mono ?_
  rintro e w9 ⟨rfl, hb9⟩
  have z9 := hb9.size
  have hb09 := hb02.trans (hb9.mono hb02.size)
  replace p0 := keepC hb9 (by omega) p0
  replace p1 := keepC hb9 (by omega) p1
  replace p2 := keepC hb9 (by omega) p2
  replace q0 := keepC hb9 (by omega) q0
  replace q1 := keepC hb9 (by omega) q1
  replace f0 := keepF hb9 (by omega) f0
  replace f1 := keepF hb9 (by omega) f1
  replace f2 := keepF hb9 (by omega) f2
  replace g0 := keepF hb9 (by omega) g0
  replace g1 := keepF hb9 (by omega) g1
  have t9 : w.heap.size + 1 < w9.heap.size := by omega
  go_wp2_with fail
  refine bodyPost_ret (v := .tuple #[.agg #[.int .i64 0, .int .i64 0, .int .i64 0], .agg #[.int .i64 (2), .int .i64 (1 + gk)]]) (by simp [results, Tryd.results21, go_sem, p0, p1, p2, q0, q1]) rfl ⟨rfl, ?_⟩
  exact ((((hb09.setCell (by simp) _).setCell (by simp) _).setCell (by simp) _).setCell (by simp) _).setCell (by simp) _

set_option maxRecDepth 100000 in
set_option maxHeartbeats 2000000 in
theorem Read_octave (s : ByteArray) (w : World) (h0 : 0 < s.size) (hs : s.size ≤ 140737488355328) (hl : 0 ≤ M.ix s) (ga gk : Int) (hG : M.sg (M.r1 s) = (ga, gk, 0)) (hn : M.isN (M.r2 s) = true) (ho : M.wi (M.valN (M.r2 s)) 12 = false) :
    Calls Tryd.prog 21 #[.string s] w fun e w' => e = .returned (.tuple #[.agg #[.int .i64 0, .int .i64 0, .int .i64 0], .agg #[.int .i64 (3), .int .i64 (1 + gk)]]) ∧ Below w.heap.size w w' := by
  have hem : s.toList.isEmpty = false := by
    rw [ByteArray.toList_eq]
    cases hc : s.data.toList with
    | nil => exact absurd h0 (by rw [Lib.size_eq, hc]; decide)
    | cons x r => rfl
  have hlen : (1 : Int) ≤ s.size := by omega
  have hh : s[0]'h0 = s.data.toList.headD 0 := by
    have hl : 0 < s.data.toList.length := by rw [← Lib.size_eq]; exact h0
    exact (show s[0]'h0 = s.data.toList[0]'hl from rfl).trans (head_eq _ hl)
  have hix : ((s[0]'h0).toNat : Int).toNat.toUInt8 = s[0]'h0 := by simp
  have h1 : Lib.indexByte [67, 68, 69, 70, 71, 65, 66] (s[0]'h0) = M.ix s := by rw [hh]; rfl
  clear hh
  have h3 : s.extract 1 s.size = M.r1 s := rfl
  have hl' : ¬ M.ix s < 0 := by omega
  have hr2 : ((M.r1 s).size : Int) + 1 = s.size := by unfold M.r1; rw [ByteArray.size_extract]; omega
  have hr1 : (M.r1 s).size ≤ 140737488355328 := by omega
  have hsg : 0 ≤ gk ∧ gk ≤ ((M.r1 s).size : Int) := by have := M.sg_bd (M.r1 s); rw [hG] at this; exact this
  have hgk : gk ≤ 9000000000000 * 100000 := by omega
  have hk0 : (0 : Int) ≤ 1 + gk := by omega
  have hk1 : (1 : Int) + gk ≤ s.size := by omega
  have h8 : s.extract (1 + gk).toNat s.size = M.r2 s := by unfold M.r2 M.at'; rw [hG]
  generalize M.r2 s = R at *
  go_enter Tryd.func21, Tryd.ntmps21
  go_wp2_with (go_at_call 44; refine (Tryd.strings_IndexByte _ _ _).mono ?_; rintro e w' ⟨rfl, hw⟩; rw [hw, hix, show (ByteArray.mk #[67, 68, 69, 70, 71, 65, 66]).data.toList = [67, 68, 69, 70, 71, 65, 66] from rfl, h1])
  refine (readSigns_any (M.r1 s) _ (by omega)).mono ?_
  rintro e w1 ⟨rfl, hb1⟩
  rw [hG]
  have z1 := hb1.size
  simp at z1
  have hb01 : Below w.heap.size w w1 := Below.trans (by go_grown) (hb1.mono (by simp; omega))
  have p0 : w1.cell? ⟨w.heap.size, 0, none⟩ = some (.int .i64 0) := keepC hb1 (by (first | (simp; done) | (simp; omega))) (by simp [go_sem])
  have p1 : w1.cell? ⟨w.heap.size, 1, none⟩ = some (.int .i64 0) := keepC hb1 (by (first | (simp; done) | (simp; omega))) (by simp [go_sem])
  have p2 : w1.cell? ⟨w.heap.size, 2, none⟩ = some (.int .i64 0) := keepC hb1 (by (first | (simp; done) | (simp; omega))) (by simp [go_sem])
  have q0 : w1.cell? ⟨w.heap.size + 1, 0, none⟩ = some (.int .i64 0) := keepC hb1 (by (first | (simp; done) | (simp; omega))) (by simp [go_sem])
  have q1 : w1.cell? ⟨w.heap.size + 1, 1, none⟩ = some (.int .i64 0) := keepC hb1 (by (first | (simp; done) | (simp; omega))) (by simp [go_sem])
  have f0 : w1.frozen? ⟨w.heap.size, 0, none⟩ = false := keepF hb1 (by (first | (simp; done) | (simp; omega))) (by simp [go_sem])
  have f1 : w1.frozen? ⟨w.heap.size, 1, none⟩ = false := keepF hb1 (by (first | (simp; done) | (simp; omega))) (by simp [go_sem])
  have f2 : w1.frozen? ⟨w.heap.size, 2, none⟩ = false := keepF hb1 (by (first | (simp; done) | (simp; omega))) (by simp [go_sem])
  have g0 : w1.frozen? ⟨w.heap.size + 1, 0, none⟩ = false := keepF hb1 (by (first | (simp; done) | (simp; omega))) (by simp [go_sem])
  have g1 : w1.frozen? ⟨w.heap.size + 1, 1, none⟩ = false := keepF hb1 (by (first | (simp; done) | (simp; omega))) (by simp [go_sem])
  have t1 : w.heap.size + 1 < w1.heap.size := by omega
  go_wp2_with fail
  refine (readNumber_yes R _ hn).mono ?_
  rintro e w2 ⟨rfl, hb2⟩
  have z2 := hb2.size
  have hb02 := hb01.trans (hb2.mono hb01.size)
  replace p0 := keepC hb2 (by omega) p0
  replace p1 := keepC hb2 (by omega) p1
  replace p2 := keepC hb2 (by omega) p2
  replace q0 := keepC hb2 (by omega) q0
  replace q1 := keepC hb2 (by omega) q1
  replace f0 := keepF hb2 (by omega) f0
  replace f1 := keepF hb2 (by omega) f1
  replace f2 := keepF hb2 (by omega) f2
  replace g0 := keepF hb2 (by omega) g0
  replace g1 := keepF hb2 (by omega) g1
  have t2 : w.heap.size + 1 < w2.heap.size := by omega
  go_wp2_with (go_at_call 27; refine (within_any _ _ _ (by omega) (by omega)).mono ?_; rintro e w' ⟨rfl, hw⟩; rw [hw, ho])
  refine (wrongAt_any _ _ _).mono ?_
  rintro e w9 ⟨rfl, hb9⟩
  have z9 := hb9.size
  have hb09 := hb02.trans (hb9.mono hb02.size)
  replace p0 := keepC hb9 (by omega) p0
  replace p1 := keepC hb9 (by omega) p1
  replace p2 := keepC hb9 (by omega) p2
  replace q0 := keepC hb9 (by omega) q0
  replace q1 := keepC hb9 (by omega) q1
  replace f0 := keepF hb9 (by omega) f0
  replace f1 := keepF hb9 (by omega) f1
  replace f2 := keepF hb9 (by omega) f2
  replace g0 := keepF hb9 (by omega) g0
  replace g1 := keepF hb9 (by omega) g1
  have t9 : w.heap.size + 1 < w9.heap.size := by omega
  go_wp2_with fail
  refine bodyPost_ret (v := .tuple #[.agg #[.int .i64 0, .int .i64 0, .int .i64 0], .agg #[.int .i64 (3), .int .i64 (1 + gk)]]) (by simp [results, Tryd.results21, go_sem, p0, p1, p2, q0, q1]) rfl ⟨rfl, ?_⟩
  exact ((((hb09.setCell (by simp) _).setCell (by simp) _).setCell (by simp) _).setCell (by simp) _).setCell (by simp) _

set_option maxRecDepth 100000 in
set_option maxHeartbeats 2000000 in
theorem Read_yes (s : ByteArray) (w : World) (h0 : 0 < s.size) (hs : s.size ≤ 140737488355328) (hl : 0 ≤ M.ix s) (ga gk : Int) (hG : M.sg (M.r1 s) = (ga, gk, 0)) (hn : M.isN (M.r2 s) = true) (ho : M.wi (M.valN (M.r2 s)) 12 = true) :
    Calls Tryd.prog 21 #[.string s] w fun e w' => e = .returned (.tuple #[.agg #[.int .i64 (M.ix s), .int .i64 ga, .int .i64 (M.valN (M.r2 s))], .agg #[.int .i64 0, .int .i64 0]]) ∧ Below w.heap.size w w' := by
  have hem : s.toList.isEmpty = false := by
    rw [ByteArray.toList_eq]
    cases hc : s.data.toList with
    | nil => exact absurd h0 (by rw [Lib.size_eq, hc]; decide)
    | cons x r => rfl
  have hlen : (1 : Int) ≤ s.size := by omega
  have hh : s[0]'h0 = s.data.toList.headD 0 := by
    have hl : 0 < s.data.toList.length := by rw [← Lib.size_eq]; exact h0
    exact (show s[0]'h0 = s.data.toList[0]'hl from rfl).trans (head_eq _ hl)
  have hix : ((s[0]'h0).toNat : Int).toNat.toUInt8 = s[0]'h0 := by simp
  have h1 : Lib.indexByte [67, 68, 69, 70, 71, 65, 66] (s[0]'h0) = M.ix s := by rw [hh]; rfl
  clear hh
  have h3 : s.extract 1 s.size = M.r1 s := rfl
  have hl' : ¬ M.ix s < 0 := by omega
  have hr2 : ((M.r1 s).size : Int) + 1 = s.size := by unfold M.r1; rw [ByteArray.size_extract]; omega
  have hr1 : (M.r1 s).size ≤ 140737488355328 := by omega
  have hsg : 0 ≤ gk ∧ gk ≤ ((M.r1 s).size : Int) := by have := M.sg_bd (M.r1 s); rw [hG] at this; exact this
  have hgk : gk ≤ 9000000000000 * 100000 := by omega
  have hk0 : (0 : Int) ≤ 1 + gk := by omega
  have hk1 : (1 : Int) + gk ≤ s.size := by omega
  have h8 : s.extract (1 + gk).toNat s.size = M.r2 s := by unfold M.r2 M.at'; rw [hG]
  generalize M.r2 s = R at *
  go_enter Tryd.func21, Tryd.ntmps21
  go_wp2_with (go_at_call 44; refine (Tryd.strings_IndexByte _ _ _).mono ?_; rintro e w' ⟨rfl, hw⟩; rw [hw, hix, show (ByteArray.mk #[67, 68, 69, 70, 71, 65, 66]).data.toList = [67, 68, 69, 70, 71, 65, 66] from rfl, h1])
  refine (readSigns_any (M.r1 s) _ (by omega)).mono ?_
  rintro e w1 ⟨rfl, hb1⟩
  rw [hG]
  have z1 := hb1.size
  simp at z1
  have hb01 : Below w.heap.size w w1 := Below.trans (by go_grown) (hb1.mono (by simp; omega))
  have p0 : w1.cell? ⟨w.heap.size, 0, none⟩ = some (.int .i64 0) := keepC hb1 (by (first | (simp; done) | (simp; omega))) (by simp [go_sem])
  have p1 : w1.cell? ⟨w.heap.size, 1, none⟩ = some (.int .i64 0) := keepC hb1 (by (first | (simp; done) | (simp; omega))) (by simp [go_sem])
  have p2 : w1.cell? ⟨w.heap.size, 2, none⟩ = some (.int .i64 0) := keepC hb1 (by (first | (simp; done) | (simp; omega))) (by simp [go_sem])
  have q0 : w1.cell? ⟨w.heap.size + 1, 0, none⟩ = some (.int .i64 0) := keepC hb1 (by (first | (simp; done) | (simp; omega))) (by simp [go_sem])
  have q1 : w1.cell? ⟨w.heap.size + 1, 1, none⟩ = some (.int .i64 0) := keepC hb1 (by (first | (simp; done) | (simp; omega))) (by simp [go_sem])
  have f0 : w1.frozen? ⟨w.heap.size, 0, none⟩ = false := keepF hb1 (by (first | (simp; done) | (simp; omega))) (by simp [go_sem])
  have f1 : w1.frozen? ⟨w.heap.size, 1, none⟩ = false := keepF hb1 (by (first | (simp; done) | (simp; omega))) (by simp [go_sem])
  have f2 : w1.frozen? ⟨w.heap.size, 2, none⟩ = false := keepF hb1 (by (first | (simp; done) | (simp; omega))) (by simp [go_sem])
  have g0 : w1.frozen? ⟨w.heap.size + 1, 0, none⟩ = false := keepF hb1 (by (first | (simp; done) | (simp; omega))) (by simp [go_sem])
  have g1 : w1.frozen? ⟨w.heap.size + 1, 1, none⟩ = false := keepF hb1 (by (first | (simp; done) | (simp; omega))) (by simp [go_sem])
  have t1 : w.heap.size + 1 < w1.heap.size := by omega
  go_wp2_with fail
  refine (readNumber_yes R _ hn).mono ?_
  rintro e w2 ⟨rfl, hb2⟩
  have z2 := hb2.size
  have hb02 := hb01.trans (hb2.mono hb01.size)
  replace p0 := keepC hb2 (by omega) p0
  replace p1 := keepC hb2 (by omega) p1
  replace p2 := keepC hb2 (by omega) p2
  replace q0 := keepC hb2 (by omega) q0
  replace q1 := keepC hb2 (by omega) q1
  replace f0 := keepF hb2 (by omega) f0
  replace f1 := keepF hb2 (by omega) f1
  replace f2 := keepF hb2 (by omega) f2
  replace g0 := keepF hb2 (by omega) g0
  replace g1 := keepF hb2 (by omega) g1
  have t2 : w.heap.size + 1 < w2.heap.size := by omega
  go_wp2_with (go_at_call 27; refine (within_any _ _ _ (by omega) (by omega)).mono ?_; rintro e w' ⟨rfl, hw⟩; rw [hw, ho])
  refine bodyPost_ret (v := .tuple #[.agg #[.int .i64 (M.ix s), .int .i64 ga, .int .i64 (M.valN R)], .agg #[.int .i64 0, .int .i64 0]]) (by simp [results, Tryd.results21, go_sem, p0, p1, p2, q0, q1]) rfl ⟨rfl, ?_⟩
  exact ((((hb02.setCell (by simp) _).setCell (by simp) _).setCell (by simp) _).setCell (by simp) _).setCell (by simp) _

end Go.Proofs.YtmccbokjigjpnaaDoor
