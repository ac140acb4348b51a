/- What the program's Named comes to, at every text. -/
import Derived.Test.YtmccbokjigjpnaaDoorQN4
import Derived.Test.YtmccbokjigjpnaaDoorQT12
namespace Go.Proofs.YtmccbokjigjpnaaDoor
open Go.RowKit Go.Lib
set_option linter.unusedVariables false
set_option linter.unusedSimpArgs false

theorem readNumber_any (s : ByteArray) (w : World) :
    Calls Tryd.prog 46 #[.string s] w fun e w' => e = .returned (.tuple #[.int .i64 (if M.isN s = true then M.valN s else 0), .bool (M.isN s)]) ∧ Below w.heap.size w w' := by
  cases h : M.isN s
  · exact readNumber_no s w h
  · exact readNumber_yes s w h
theorem isE_no {q : ByteArray} (b1 : 0 < q.size) : q.toList.isEmpty = false := by
  rw [ByteArray.toList_eq]
  cases hc : q.data.toList with
  | nil => exact absurd b1 (by rw [Lib.size_eq, hc]; decide)
  | cons x r => rfl
theorem isE_yes {q : ByteArray} (b1 : q.size = 0) : q.toList.isEmpty = true := by
  rw [ByteArray.toList_eq]
  cases hc : q.data.toList with
  | nil => rfl
  | cons x r => exact absurd b1 (by rw [Lib.size_eq, hc]; simp)
set_option maxRecDepth 100000 in
set_option maxHeartbeats 2000000 in
theorem Named_g1 (s body q r : ByteArray) (dn ok : Bool) (N : Int) (w : World) (a1 : Lib.hasPrefix s.data.toList [45] = dn) (a2 : Lib.trimPrefix s.data.toList [45] = body.data.toList)
    (HQ : ∀ w, Calls Tryd.prog 50 #[.string body] w fun e w' => e = .returned (.tuple #[.string q, .string r]) ∧ Below w.heap.size w w')
    (HN : ∀ w, Calls Tryd.prog 46 #[.string r] w fun e w' => e = .returned (.tuple #[.int .i64 N, .bool ok]) ∧ Below w.heap.size w w')
    (hcond : q.size = 0 ∨ ok = false ∨ N < 1) :
    Calls Tryd.prog 23 #[.string s] w fun e w' => e = .returned (.tuple #[.agg #[.int .i64 0, .int .i64 0], .int .i64 2]) ∧ Below w.heap.size w w' := by
  have hbody : (⟨body.data.toList.toArray⟩ : ByteArray) = body := by cases body; simp
  rcases (show q.size = 0 ∨ (0 < q.size ∧ ok = false) ∨ (0 < q.size ∧ ok = true ∧ N < 1) by
    rcases hcond with h | h | h
    · exact .inl h
    · by_cases e : q.size = 0
      · exact .inl e
      · exact .inr (.inl ⟨by omega, h⟩)
    · by_cases e : q.size = 0
      · exact .inl e
      · cases ok
        · exact .inr (.inl ⟨by omega, rfl⟩)
        · exact .inr (.inr ⟨by omega, rfl, h⟩)) with h | ⟨h, rfl⟩ | ⟨h, rfl, h2⟩
  · have hem := isE_yes h
    clear hcond h
    go_enter Tryd.func23, Tryd.ntmps23
    go_wp2_with (go_at_call 49; refine (Tryd.strings_CutPrefix _ _ _).mono ?_; rintro e w' ⟨rfl, hw⟩; rw [hw, show (ByteArray.mk #[45]).data.toList = [45] from rfl, a1, a2, hbody])
    refine (HQ _).mono ?_
    rintro e w1 ⟨rfl, hb1⟩
    have z1 := hb1.size
    simp at z1
    have hb01 : Below w.heap.size w w1 := Below.trans (by go_grown) (hb1.mono (by simp))
    have p0 : w1.cell? ⟨w.heap.size, 0, none⟩ = some (.int .i64 0) := keepC hb1 (by simp) (by simp [go_sem])
    have p1 : w1.cell? ⟨w.heap.size, 1, none⟩ = some (.int .i64 0) := keepC hb1 (by simp) (by simp [go_sem])
    have f0 : w1.frozen? ⟨w.heap.size, 0, none⟩ = false := keepF hb1 (by simp) (by simp [go_sem])
    have f1 : w1.frozen? ⟨w.heap.size, 1, none⟩ = false := keepF hb1 (by simp) (by simp [go_sem])
    have t1 : w.heap.size < w1.heap.size := by omega
    go_wp2_with fail
    refine (HN _).mono ?_
    rintro e w2 ⟨rfl, hb2⟩
    have z2 := hb2.size
    have hb02 := hb01.trans (hb2.mono hb01.size)
    replace p0 := keepC hb2 (by omega) p0
    replace p1 := keepC hb2 (by omega) p1
    replace f0 := keepF hb2 (by omega) f0
    replace f1 := keepF hb2 (by omega) f1
    have t2 : w.heap.size < w2.heap.size := by omega
    go_wp2_with fail
    refine bodyPost_ret (v := .tuple #[.agg #[.int .i64 0, .int .i64 0], .int .i64 2]) (by simp [results, Tryd.results23, go_sem, p0, p1]) rfl ⟨rfl, ?_⟩
    exact (hb02.setCell (by simp) _).setCell (by simp) _
  · have hem := isE_no h
    clear hcond h
    go_enter Tryd.func23, Tryd.ntmps23
    go_wp2_with (go_at_call 49; refine (Tryd.strings_CutPrefix _ _ _).mono ?_; rintro e w' ⟨rfl, hw⟩; rw [hw, show (ByteArray.mk #[45]).data.toList = [45] from rfl, a1, a2, hbody])
    refine (HQ _).mono ?_
    rintro e w1 ⟨rfl, hb1⟩
    have z1 := hb1.size
    simp at z1
    have hb01 : Below w.heap.size w w1 := Below.trans (by go_grown) (hb1.mono (by simp))
    have p0 : w1.cell? ⟨w.heap.size, 0, none⟩ = some (.int .i64 0) := keepC hb1 (by simp) (by simp [go_sem])
    have p1 : w1.cell? ⟨w.heap.size, 1, none⟩ = some (.int .i64 0) := keepC hb1 (by simp) (by simp [go_sem])
    have f0 : w1.frozen? ⟨w.heap.size, 0, none⟩ = false := keepF hb1 (by simp) (by simp [go_sem])
    have f1 : w1.frozen? ⟨w.heap.size, 1, none⟩ = false := keepF hb1 (by simp) (by simp [go_sem])
    have t1 : w.heap.size < w1.heap.size := by omega
    go_wp2_with fail
    refine (HN _).mono ?_
    rintro e w2 ⟨rfl, hb2⟩
    have z2 := hb2.size
    have hb02 := hb01.trans (hb2.mono hb01.size)
    replace p0 := keepC hb2 (by omega) p0
    replace p1 := keepC hb2 (by omega) p1
    replace f0 := keepF hb2 (by omega) f0
    replace f1 := keepF hb2 (by omega) f1
    have t2 : w.heap.size < w2.heap.size := by omega
    go_wp2_with fail
    refine bodyPost_ret (v := .tuple #[.agg #[.int .i64 0, .int .i64 0], .int .i64 2]) (by simp [results, Tryd.results23, go_sem, p0, p1]) rfl ⟨rfl, ?_⟩
    exact (hb02.setCell (by simp) _).setCell (by simp) _
  · have hem := isE_no h
    clear hcond h
    go_enter Tryd.func23, Tryd.ntmps23
    go_wp2_with (go_at_call 49; refine (Tryd.strings_CutPrefix _ _ _).mono ?_; rintro e w' ⟨rfl, hw⟩; rw [hw, show (ByteArray.mk #[45]).data.toList = [45] from rfl, a1, a2, hbody])
    refine (HQ _).mono ?_
    rintro e w1 ⟨rfl, hb1⟩
    have z1 := hb1.size
    simp at z1
    have hb01 : Below w.heap.size w w1 := Below.trans (by go_grown) (hb1.mono (by simp))
    have p0 : w1.cell? ⟨w.heap.size, 0, none⟩ = some (.int .i64 0) := keepC hb1 (by simp) (by simp [go_sem])
    have p1 : w1.cell? ⟨w.heap.size, 1, none⟩ = some (.int .i64 0) := keepC hb1 (by simp) (by simp [go_sem])
    have f0 : w1.frozen? ⟨w.heap.size, 0, none⟩ = false := keepF hb1 (by simp) (by simp [go_sem])
    have f1 : w1.frozen? ⟨w.heap.size, 1, none⟩ = false := keepF hb1 (by simp) (by simp [go_sem])
    have t1 : w.heap.size < w1.heap.size := by omega
    go_wp2_with fail
    refine (HN _).mono ?_
    rintro e w2 ⟨rfl, hb2⟩
    have z2 := hb2.size
    have hb02 := hb01.trans (hb2.mono hb01.size)
    replace p0 := keepC hb2 (by omega) p0
    replace p1 := keepC hb2 (by omega) p1
    replace f0 := keepF hb2 (by omega) f0
    replace f1 := keepF hb2 (by omega) f1
    have t2 : w.heap.size < w2.heap.size := by omega
    go_wp2_with fail
    refine bodyPost_ret (v := .tuple #[.agg #[.int .i64 0, .int .i64 0], .int .i64 2]) (by simp [results, Tryd.results23, go_sem, p0, p1]) rfl ⟨rfl, ?_⟩
    exact (hb02.setCell (by simp) _).setCell (by simp) _
set_option maxRecDepth 100000 in
set_option maxHeartbeats 2000000 in
theorem Named_g2 (s body q r : ByteArray) (dn ok : Bool) (N : Int) (w : World) (a1 : Lib.hasPrefix s.data.toList [45] = dn) (a2 : Lib.trimPrefix s.data.toList [45] = body.data.toList)
    (HQ : ∀ w, Calls Tryd.prog 50 #[.string body] w fun e w' => e = .returned (.tuple #[.string q, .string r]) ∧ Below w.heap.size w w')
    (HN : ∀ w, Calls Tryd.prog 46 #[.string r] w fun e w' => e = .returned (.tuple #[.int .i64 N, .bool ok]) ∧ Below w.heap.size w w')
    (hok : ok = true) (hN : 1 ≤ N) (hN2 : N ≤ 100000) (hq : 0 < q.size) (hcond : 201 < N ∨ (N ≤ 201 ∧ 6 < q.size)) :
    Calls Tryd.prog 23 #[.string s] w fun e w' => e = .returned (.tuple #[.agg #[.int .i64 0, .int .i64 0], .int .i64 3]) ∧ Below w.heap.size w w' := by
  have hbody : (⟨body.data.toList.toArray⟩ : ByteArray) = body := by cases body; simp
  have hem := isE_no hq
  subst hok
  rcases hcond with h | ⟨h, h2⟩
  · have h3 : 200 < N - 1 := by omega
    clear hq
    go_enter Tryd.func23, Tryd.ntmps23
    go_wp2_with (go_at_call 49; refine (Tryd.strings_CutPrefix _ _ _).mono ?_; rintro e w' ⟨rfl, hw⟩; rw [hw, show (ByteArray.mk #[45]).data.toList = [45] from rfl, a1, a2, hbody])
    refine (HQ _).mono ?_
    rintro e w1 ⟨rfl, hb1⟩
    have z1 := hb1.size
    simp at z1
    have hb01 : Below w.heap.size w w1 := Below.trans (by go_grown) (hb1.mono (by simp))
    have p0 : w1.cell? ⟨w.heap.size, 0, none⟩ = some (.int .i64 0) := keepC hb1 (by simp) (by simp [go_sem])
    have p1 : w1.cell? ⟨w.heap.size, 1, none⟩ = some (.int .i64 0) := keepC hb1 (by simp) (by simp [go_sem])
    have f0 : w1.frozen? ⟨w.heap.size, 0, none⟩ = false := keepF hb1 (by simp) (by simp [go_sem])
    have f1 : w1.frozen? ⟨w.heap.size, 1, none⟩ = false := keepF hb1 (by simp) (by simp [go_sem])
    have t1 : w.heap.size < w1.heap.size := by omega
    go_wp2_with fail
    refine (HN _).mono ?_
    rintro e w2 ⟨rfl, hb2⟩
    have z2 := hb2.size
    have hb02 := hb01.trans (hb2.mono hb01.size)
    replace p0 := keepC hb2 (by omega) p0
    replace p1 := keepC hb2 (by omega) p1
    replace f0 := keepF hb2 (by omega) f0
    replace f1 := keepF hb2 (by omega) f1
    have t2 : w.heap.size < w2.heap.size := by omega
    go_wp2_with fail
    refine bodyPost_ret (v := .tuple #[.agg #[.int .i64 0, .int .i64 0], .int .i64 3]) (by simp [results, Tryd.results23, go_sem, p0, p1]) rfl ⟨rfl, ?_⟩
    exact (hb02.setCell (by simp) _).setCell (by simp) _
  · have h3 : ¬ 200 < N - 1 := by omega
    have h4 : (6 : Int) < q.size := by omega
    clear hq
    go_enter Tryd.func23, Tryd.ntmps23
    go_wp2_with (go_at_call 49; refine (Tryd.strings_CutPrefix _ _ _).mono ?_; rintro e w' ⟨rfl, hw⟩; rw [hw, show (ByteArray.mk #[45]).data.toList = [45] from rfl, a1, a2, hbody])
    refine (HQ _).mono ?_
    rintro e w1 ⟨rfl, hb1⟩
    have z1 := hb1.size
    simp at z1
    have hb01 : Below w.heap.size w w1 := Below.trans (by go_grown) (hb1.mono (by simp))
    have p0 : w1.cell? ⟨w.heap.size, 0, none⟩ = some (.int .i64 0) := keepC hb1 (by simp) (by simp [go_sem])
    have p1 : w1.cell? ⟨w.heap.size, 1, none⟩ = some (.int .i64 0) := keepC hb1 (by simp) (by simp [go_sem])
    have f0 : w1.frozen? ⟨w.heap.size, 0, none⟩ = false := keepF hb1 (by simp) (by simp [go_sem])
    have f1 : w1.frozen? ⟨w.heap.size, 1, none⟩ = false := keepF hb1 (by simp) (by simp [go_sem])
    have t1 : w.heap.size < w1.heap.size := by omega
    go_wp2_with fail
    refine (HN _).mono ?_
    rintro e w2 ⟨rfl, hb2⟩
    have z2 := hb2.size
    have hb02 := hb01.trans (hb2.mono hb01.size)
    replace p0 := keepC hb2 (by omega) p0
    replace p1 := keepC hb2 (by omega) p1
    replace f0 := keepF hb2 (by omega) f0
    replace f1 := keepF hb2 (by omega) f1
    have t2 : w.heap.size < w2.heap.size := by omega
    go_wp2_with fail
    refine bodyPost_ret (v := .tuple #[.agg #[.int .i64 0, .int .i64 0], .int .i64 3]) (by simp [results, Tryd.results23, go_sem, p0, p1]) rfl ⟨rfl, ?_⟩
    exact (hb02.setCell (by simp) _).setCell (by simp) _
set_option maxRecDepth 100000 in
set_option maxHeartbeats 2000000 in
theorem Named_ok_false (s body q r : ByteArray) (dn ok : Bool) (N : Int) (w : World) (a1 : Lib.hasPrefix s.data.toList [45] = dn) (a2 : Lib.trimPrefix s.data.toList [45] = body.data.toList)
    (HQ : ∀ w, Calls Tryd.prog 50 #[.string body] w fun e w' => e = .returned (.tuple #[.string q, .string r]) ∧ Below w.heap.size w w')
    (HN : ∀ w, Calls Tryd.prog 46 #[.string r] w fun e w' => e = .returned (.tuple #[.int .i64 N, .bool ok]) ∧ Below w.heap.size w w')
    (hok : ok = true) (hN : 1 ≤ N) (hN2 : N ≤ 201) (hq : 0 < q.size) (hq6 : q.size ≤ 6) (c : UInt8) (hc : q[0]'hq = c) (H : Int) (hH : H = M.hz c (q.size : Int) (N - 1)) (ht : Tab w) (hpw : Pows w) (T : ByteArray) (Er : Int)
    (hnm : M.NmQ (N - 1) H T Er)
    (hdn : dn = false) (hE : Er = 0) (hT : T = s) :
    Calls Tryd.prog 23 #[.string s] w fun e w' => e = .returned (.tuple #[.agg #[.int .i64 (N - 1), .int .i64 H], .int .i64 0]) ∧ Below w.heap.size w w' := by
  have hbody : (⟨body.data.toList.toArray⟩ : ByteArray) = body := by cases body; simp
  have hem := isE_no hq
  have h3 : ¬ 200 < N - 1 := by omega
  have h4 : ¬ (6 : Int) < q.size := by omega
  have hwb := M.wh_bd (N - 1)
  have hHb : -100000 ≤ H ∧ H ≤ 100000 := by rw [hH]; unfold M.hz; repeat' split <;> omega
  have HS := fun w ht => sized_ok q c (q.size : Int) (N - 1) w ht hq hc rfl (by omega) (by omega) (by omega) H hH
  have HM := fun w ht hpw => Name_any ((N - 1)) (H) T Er w ht hpw hnm
  subst hok
  subst hdn
  clear hH hc hnm hwb
  generalize hSS : N - 1 = S at *
  subst hE
  subst hT
  go_enter Tryd.func23, Tryd.ntmps23
  go_wp2_with (go_at_call 49; refine (Tryd.strings_CutPrefix _ _ _).mono ?_; rintro e w' ⟨rfl, hw⟩; rw [hw, show (ByteArray.mk #[45]).data.toList = [45] from rfl, a1, a2, hbody])
  refine (HQ _).mono ?_
  rintro e w1 ⟨rfl, hb1⟩
  have z1 := hb1.size
  simp at z1
  have hb01 : Below w.heap.size w w1 := Below.trans (by go_grown) (hb1.mono (by simp))
  have p0 : w1.cell? ⟨w.heap.size, 0, none⟩ = some (.int .i64 0) := keepC hb1 (by simp) (by simp [go_sem])
  have p1 : w1.cell? ⟨w.heap.size, 1, none⟩ = some (.int .i64 0) := keepC hb1 (by simp) (by simp [go_sem])
  have f0 : w1.frozen? ⟨w.heap.size, 0, none⟩ = false := keepF hb1 (by simp) (by simp [go_sem])
  have f1 : w1.frozen? ⟨w.heap.size, 1, none⟩ = false := keepF hb1 (by simp) (by simp [go_sem])
  have t1 : w.heap.size < w1.heap.size := by omega
  go_wp2_with fail
  refine (HN _).mono ?_
  rintro e w2 ⟨rfl, hb2⟩
  have z2 := hb2.size
  have hb02 := hb01.trans (hb2.mono hb01.size)
  replace p0 := keepC hb2 (by omega) p0
  replace p1 := keepC hb2 (by omega) p1
  replace f0 := keepF hb2 (by omega) f0
  replace f1 := keepF hb2 (by omega) f1
  have t2 : w.heap.size < w2.heap.size := by omega
  go_wp2_with fail
  first | rw [hSS] | skip
  refine (HS _ (ht.step hb02)).mono ?_
  rintro e w3 ⟨rfl, hb3⟩
  have z3 := hb3.size
  have hb03 := hb02.trans (hb3.mono hb02.size)
  replace p0 := keepC hb3 (by omega) p0
  replace p1 := keepC hb3 (by omega) p1
  replace f0 := keepF hb3 (by omega) f0
  replace f1 := keepF hb3 (by omega) f1
  have t3 : w.heap.size < w3.heap.size := by omega
  clear HS HN HQ
  go_wp2_with fail
  refine (HM _ ((ht.step hb03).step (by go_grown)) ((hpw.step hb03).step (by go_grown))).mono ?_
  rintro e w5 ⟨rfl, hb5⟩
  have z5 := hb5.size
  simp at z5
  have k5 : Below w3.heap.size w3 w5 := Below.trans (by go_grown) (hb5.mono (by simp))
  have hb05 := hb03.trans (k5.mono hb03.size)
  replace p0 := keepC k5 (by omega) p0
  replace p1 := keepC k5 (by omega) p1
  replace f0 := keepF k5 (by omega) f0
  replace f1 := keepF k5 (by omega) f1
  have r0 : w5.cell? ⟨w3.heap.size, 0, none⟩ = some (.int .i64 S) := keepC hb5 (by simp) (by simp [go_sem])
  have r1 : w5.cell? ⟨w3.heap.size, 1, none⟩ = some (.int .i64 H) := keepC hb5 (by simp) (by simp [go_sem])
  have t5 : w3.heap.size < w5.heap.size := by omega
  have t6 : w.heap.size < w5.heap.size := by omega
  go_wp2_with fail
  refine bodyPost_ret (v := .tuple #[.agg #[.int .i64 (S), .int .i64 H], .int .i64 0]) (by simp [results, Tryd.results23, go_sem, p0, p1]) rfl ⟨rfl, ?_⟩
  exact (hb05.setCell (by simp) _).setCell (by simp) _
set_option maxRecDepth 100000 in
set_option maxHeartbeats 2000000 in
theorem Named_e_false (s body q r : ByteArray) (dn ok : Bool) (N : Int) (w : World) (a1 : Lib.hasPrefix s.data.toList [45] = dn) (a2 : Lib.trimPrefix s.data.toList [45] = body.data.toList)
    (HQ : ∀ w, Calls Tryd.prog 50 #[.string body] w fun e w' => e = .returned (.tuple #[.string q, .string r]) ∧ Below w.heap.size w w')
    (HN : ∀ w, Calls Tryd.prog 46 #[.string r] w fun e w' => e = .returned (.tuple #[.int .i64 N, .bool ok]) ∧ Below w.heap.size w w')
    (hok : ok = true) (hN : 1 ≤ N) (hN2 : N ≤ 201) (hq : 0 < q.size) (hq6 : q.size ≤ 6) (c : UInt8) (hc : q[0]'hq = c) (H : Int) (hH : H = M.hz c (q.size : Int) (N - 1)) (ht : Tab w) (hpw : Pows w) (T : ByteArray) (Er : Int)
    (hnm : M.NmQ (N - 1) H T Er)
    (hdn : dn = false) (hE : Er = 3) :
    Calls Tryd.prog 23 #[.string s] w fun e w' => e = .returned (.tuple #[.agg #[.int .i64 0, .int .i64 0], .int .i64 2]) ∧ Below w.heap.size w w' := by
  have hbody : (⟨body.data.toList.toArray⟩ : ByteArray) = body := by cases body; simp
  have hem := isE_no hq
  have h3 : ¬ 200 < N - 1 := by omega
  have h4 : ¬ (6 : Int) < q.size := by omega
  have hwb := M.wh_bd (N - 1)
  have hHb : -100000 ≤ H ∧ H ≤ 100000 := by rw [hH]; unfold M.hz; repeat' split <;> omega
  have HS := fun w ht => sized_ok q c (q.size : Int) (N - 1) w ht hq hc rfl (by omega) (by omega) (by omega) H hH
  have HM := fun w ht hpw => Name_any ((N - 1)) (H) T Er w ht hpw hnm
  subst hok
  subst hdn
  clear hH hc hnm hwb
  generalize hSS : N - 1 = S at *
  subst hE
  go_enter Tryd.func23, Tryd.ntmps23
  go_wp2_with (go_at_call 49; refine (Tryd.strings_CutPrefix _ _ _).mono ?_; rintro e w' ⟨rfl, hw⟩; rw [hw, show (ByteArray.mk #[45]).data.toList = [45] from rfl, a1, a2, hbody])
  refine (HQ _).mono ?_
  rintro e w1 ⟨rfl, hb1⟩
  have z1 := hb1.size
  simp at z1
  have hb01 : Below w.heap.size w w1 := Below.trans (by go_grown) (hb1.mono (by simp))
  have p0 : w1.cell? ⟨w.heap.size, 0, none⟩ = some (.int .i64 0) := keepC hb1 (by simp) (by simp [go_sem])
  have p1 : w1.cell? ⟨w.heap.size, 1, none⟩ = some (.int .i64 0) := keepC hb1 (by simp) (by simp [go_sem])
  have f0 : w1.frozen? ⟨w.heap.size, 0, none⟩ = false := keepF hb1 (by simp) (by simp [go_sem])
  have f1 : w1.frozen? ⟨w.heap.size, 1, none⟩ = false := keepF hb1 (by simp) (by simp [go_sem])
  have t1 : w.heap.size < w1.heap.size := by omega
  go_wp2_with fail
  refine (HN _).mono ?_
  rintro e w2 ⟨rfl, hb2⟩
  have z2 := hb2.size
  have hb02 := hb01.trans (hb2.mono hb01.size)
  replace p0 := keepC hb2 (by omega) p0
  replace p1 := keepC hb2 (by omega) p1
  replace f0 := keepF hb2 (by omega) f0
  replace f1 := keepF hb2 (by omega) f1
  have t2 : w.heap.size < w2.heap.size := by omega
  go_wp2_with fail
  first | rw [hSS] | skip
  refine (HS _ (ht.step hb02)).mono ?_
  rintro e w3 ⟨rfl, hb3⟩
  have z3 := hb3.size
  have hb03 := hb02.trans (hb3.mono hb02.size)
  replace p0 := keepC hb3 (by omega) p0
  replace p1 := keepC hb3 (by omega) p1
  replace f0 := keepF hb3 (by omega) f0
  replace f1 := keepF hb3 (by omega) f1
  have t3 : w.heap.size < w3.heap.size := by omega
  clear HS HN HQ
  go_wp2_with fail
  refine (HM _ ((ht.step hb03).step (by go_grown)) ((hpw.step hb03).step (by go_grown))).mono ?_
  rintro e w5 ⟨rfl, hb5⟩
  have z5 := hb5.size
  simp at z5
  have k5 : Below w3.heap.size w3 w5 := Below.trans (by go_grown) (hb5.mono (by simp))
  have hb05 := hb03.trans (k5.mono hb03.size)
  replace p0 := keepC k5 (by omega) p0
  replace p1 := keepC k5 (by omega) p1
  replace f0 := keepF k5 (by omega) f0
  replace f1 := keepF k5 (by omega) f1
  have r0 : w5.cell? ⟨w3.heap.size, 0, none⟩ = some (.int .i64 S) := keepC hb5 (by simp) (by simp [go_sem])
  have r1 : w5.cell? ⟨w3.heap.size, 1, none⟩ = some (.int .i64 H) := keepC hb5 (by simp) (by simp [go_sem])
  have t5 : w3.heap.size < w5.heap.size := by omega
  have t6 : w.heap.size < w5.heap.size := by omega
  go_wp2_with fail
  refine bodyPost_ret (v := .tuple #[.agg #[.int .i64 0, .int .i64 0], .int .i64 2]) (by simp [results, Tryd.results23, go_sem, p0, p1]) rfl ⟨rfl, ?_⟩
  exact (hb05.setCell (by simp) _).setCell (by simp) _
set_option maxRecDepth 100000 in
set_option maxHeartbeats 2000000 in
theorem Named_t_false (s body q r : ByteArray) (dn ok : Bool) (N : Int) (w : World) (a1 : Lib.hasPrefix s.data.toList [45] = dn) (a2 : Lib.trimPrefix s.data.toList [45] = body.data.toList)
    (HQ : ∀ w, Calls Tryd.prog 50 #[.string body] w fun e w' => e = .returned (.tuple #[.string q, .string r]) ∧ Below w.heap.size w w')
    (HN : ∀ w, Calls Tryd.prog 46 #[.string r] w fun e w' => e = .returned (.tuple #[.int .i64 N, .bool ok]) ∧ Below w.heap.size w w')
    (hok : ok = true) (hN : 1 ≤ N) (hN2 : N ≤ 201) (hq : 0 < q.size) (hq6 : q.size ≤ 6) (c : UInt8) (hc : q[0]'hq = c) (H : Int) (hH : H = M.hz c (q.size : Int) (N - 1)) (ht : Tab w) (hpw : Pows w) (T : ByteArray) (Er : Int)
    (hnm : M.NmQ (N - 1) H T Er)
    (hdn : dn = false) (hE : Er = 0) (hT : T ≠ s) :
    Calls Tryd.prog 23 #[.string s] w fun e w' => e = .returned (.tuple #[.agg #[.int .i64 0, .int .i64 0], .int .i64 2]) ∧ Below w.heap.size w w' := by
  have hbody : (⟨body.data.toList.toArray⟩ : ByteArray) = body := by cases body; simp
  have hem := isE_no hq
  have h3 : ¬ 200 < N - 1 := by omega
  have h4 : ¬ (6 : Int) < q.size := by omega
  have hwb := M.wh_bd (N - 1)
  have hHb : -100000 ≤ H ∧ H ≤ 100000 := by rw [hH]; unfold M.hz; repeat' split <;> omega
  have HS := fun w ht => sized_ok q c (q.size : Int) (N - 1) w ht hq hc rfl (by omega) (by omega) (by omega) H hH
  have HM := fun w ht hpw => Name_any ((N - 1)) (H) T Er w ht hpw hnm
  subst hok
  subst hdn
  clear hH hc hnm hwb
  generalize hSS : N - 1 = S at *
  subst hE
  have c1 : (T.toList == s.toList) = false := beq_false_of_ne (fun e => hT (by rw [ByteArray.toList_eq, ByteArray.toList_eq] at e; cases T; cases s; simp_all))
  have c3 : decide (T = s) = false := decide_eq_false hT
  have c5 : (T.toList != s.toList) = true := by rw [bne, c1]; rfl
  go_enter Tryd.func23, Tryd.ntmps23
  go_wp2_with (go_at_call 49; refine (Tryd.strings_CutPrefix _ _ _).mono ?_; rintro e w' ⟨rfl, hw⟩; rw [hw, show (ByteArray.mk #[45]).data.toList = [45] from rfl, a1, a2, hbody])
  refine (HQ _).mono ?_
  rintro e w1 ⟨rfl, hb1⟩
  have z1 := hb1.size
  simp at z1
  have hb01 : Below w.heap.size w w1 := Below.trans (by go_grown) (hb1.mono (by simp))
  have p0 : w1.cell? ⟨w.heap.size, 0, none⟩ = some (.int .i64 0) := keepC hb1 (by simp) (by simp [go_sem])
  have p1 : w1.cell? ⟨w.heap.size, 1, none⟩ = some (.int .i64 0) := keepC hb1 (by simp) (by simp [go_sem])
  have f0 : w1.frozen? ⟨w.heap.size, 0, none⟩ = false := keepF hb1 (by simp) (by simp [go_sem])
  have f1 : w1.frozen? ⟨w.heap.size, 1, none⟩ = false := keepF hb1 (by simp) (by simp [go_sem])
  have t1 : w.heap.size < w1.heap.size := by omega
  go_wp2_with fail
  refine (HN _).mono ?_
  rintro e w2 ⟨rfl, hb2⟩
  have z2 := hb2.size
  have hb02 := hb01.trans (hb2.mono hb01.size)
  replace p0 := keepC hb2 (by omega) p0
  replace p1 := keepC hb2 (by omega) p1
  replace f0 := keepF hb2 (by omega) f0
  replace f1 := keepF hb2 (by omega) f1
  have t2 : w.heap.size < w2.heap.size := by omega
  go_wp2_with fail
  first | rw [hSS] | skip
  refine (HS _ (ht.step hb02)).mono ?_
  rintro e w3 ⟨rfl, hb3⟩
  have z3 := hb3.size
  have hb03 := hb02.trans (hb3.mono hb02.size)
  replace p0 := keepC hb3 (by omega) p0
  replace p1 := keepC hb3 (by omega) p1
  replace f0 := keepF hb3 (by omega) f0
  replace f1 := keepF hb3 (by omega) f1
  have t3 : w.heap.size < w3.heap.size := by omega
  clear HS HN HQ
  go_wp2_with fail
  refine (HM _ ((ht.step hb03).step (by go_grown)) ((hpw.step hb03).step (by go_grown))).mono ?_
  rintro e w5 ⟨rfl, hb5⟩
  have z5 := hb5.size
  simp at z5
  have k5 : Below w3.heap.size w3 w5 := Below.trans (by go_grown) (hb5.mono (by simp))
  have hb05 := hb03.trans (k5.mono hb03.size)
  replace p0 := keepC k5 (by omega) p0
  replace p1 := keepC k5 (by omega) p1
  replace f0 := keepF k5 (by omega) f0
  replace f1 := keepF k5 (by omega) f1
  have r0 : w5.cell? ⟨w3.heap.size, 0, none⟩ = some (.int .i64 S) := keepC hb5 (by simp) (by simp [go_sem])
  have r1 : w5.cell? ⟨w3.heap.size, 1, none⟩ = some (.int .i64 H) := keepC hb5 (by simp) (by simp [go_sem])
  have t5 : w3.heap.size < w5.heap.size := by omega
  have t6 : w.heap.size < w5.heap.size := by omega
  go_wp2_with fail
  refine bodyPost_ret (v := .tuple #[.agg #[.int .i64 0, .int .i64 0], .int .i64 2]) (by simp [results, Tryd.results23, go_sem, p0, p1]) rfl ⟨rfl, ?_⟩
  exact (hb05.setCell (by simp) _).setCell (by simp) _
set_option maxRecDepth 100000 in
set_option maxHeartbeats 2000000 in
theorem Named_ok_true (s body q r : ByteArray) (dn ok : Bool) (N : Int) (w : World) (a1 : Lib.hasPrefix s.data.toList [45] = dn) (a2 : Lib.trimPrefix s.data.toList [45] = body.data.toList)
    (HQ : ∀ w, Calls Tryd.prog 50 #[.string body] w fun e w' => e = .returned (.tuple #[.string q, .string r]) ∧ Below w.heap.size w w')
    (HN : ∀ w, Calls Tryd.prog 46 #[.string r] w fun e w' => e = .returned (.tuple #[.int .i64 N, .bool ok]) ∧ Below w.heap.size w w')
    (hok : ok = true) (hN : 1 ≤ N) (hN2 : N ≤ 201) (hq : 0 < q.size) (hq6 : q.size ≤ 6) (c : UInt8) (hc : q[0]'hq = c) (H : Int) (hH : H = M.hz c (q.size : Int) (N - 1)) (ht : Tab w) (hpw : Pows w) (T : ByteArray) (Er : Int)
    (hnm : M.NmQ (-(N - 1)) (-H) T Er)
    (hdn : dn = true) (hE : Er = 0) (hT : T = s) :
    Calls Tryd.prog 23 #[.string s] w fun e w' => e = .returned (.tuple #[.agg #[.int .i64 (-(N - 1)), .int .i64 (-H)], .int .i64 0]) ∧ Below w.heap.size w w' := by
  have hbody : (⟨body.data.toList.toArray⟩ : ByteArray) = body := by cases body; simp
  have hem := isE_no hq
  have h3 : ¬ 200 < N - 1 := by omega
  have h4 : ¬ (6 : Int) < q.size := by omega
  have hwb := M.wh_bd (N - 1)
  have hHb : -100000 ≤ H ∧ H ≤ 100000 := by rw [hH]; unfold M.hz; repeat' split <;> omega
  have HS := fun w ht => sized_ok q c (q.size : Int) (N - 1) w ht hq hc rfl (by omega) (by omega) (by omega) H hH
  have HM := fun w ht hpw => Name_any ((-(N - 1))) ((-H)) T Er w ht hpw hnm
  subst hok
  subst hdn
  clear hH hc hnm hwb
  generalize hSS : N - 1 = S at *
  subst hE
  subst hT
  go_enter Tryd.func23, Tryd.ntmps23
  go_wp2_with (go_at_call 49; refine (Tryd.strings_CutPrefix _ _ _).mono ?_; rintro e w' ⟨rfl, hw⟩; rw [hw, show (ByteArray.mk #[45]).data.toList = [45] from rfl, a1, a2, hbody])
  refine (HQ _).mono ?_
  rintro e w1 ⟨rfl, hb1⟩
  have z1 := hb1.size
  simp at z1
  have hb01 : Below w.heap.size w w1 := Below.trans (by go_grown) (hb1.mono (by simp))
  have p0 : w1.cell? ⟨w.heap.size, 0, none⟩ = some (.int .i64 0) := keepC hb1 (by simp) (by simp [go_sem])
  have p1 : w1.cell? ⟨w.heap.size, 1, none⟩ = some (.int .i64 0) := keepC hb1 (by simp) (by simp [go_sem])
  have f0 : w1.frozen? ⟨w.heap.size, 0, none⟩ = false := keepF hb1 (by simp) (by simp [go_sem])
  have f1 : w1.frozen? ⟨w.heap.size, 1, none⟩ = false := keepF hb1 (by simp) (by simp [go_sem])
  have t1 : w.heap.size < w1.heap.size := by omega
  go_wp2_with fail
  refine (HN _).mono ?_
  rintro e w2 ⟨rfl, hb2⟩
  have z2 := hb2.size
  have hb02 := hb01.trans (hb2.mono hb01.size)
  replace p0 := keepC hb2 (by omega) p0
  replace p1 := keepC hb2 (by omega) p1
  replace f0 := keepF hb2 (by omega) f0
  replace f1 := keepF hb2 (by omega) f1
  have t2 : w.heap.size < w2.heap.size := by omega
  go_wp2_with fail
  first | rw [hSS] | skip
  refine (HS _ (ht.step hb02)).mono ?_
  rintro e w3 ⟨rfl, hb3⟩
  have z3 := hb3.size
  have hb03 := hb02.trans (hb3.mono hb02.size)
  replace p0 := keepC hb3 (by omega) p0
  replace p1 := keepC hb3 (by omega) p1
  replace f0 := keepF hb3 (by omega) f0
  replace f1 := keepF hb3 (by omega) f1
  have t3 : w.heap.size < w3.heap.size := by omega
  clear HS HN HQ
  go_wp2_with fail
  refine (turned_any S H _ (by omega) (by omega) (by omega) (by omega)).mono ?_
  rintro e w4 ⟨rfl, hb4⟩
  have z4 := hb4.size
  simp at z4
  have k4 : Below w3.heap.size w3 w4 := Below.trans (by go_grown) (hb4.mono (by simp))
  have hb04 := hb03.trans (k4.mono hb03.size)
  replace p0 := keepC k4 (by omega) p0
  replace p1 := keepC k4 (by omega) p1
  replace f0 := keepF k4 (by omega) f0
  replace f1 := keepF k4 (by omega) f1
  have r0 : w4.cell? ⟨w3.heap.size, 0, none⟩ = some (.int .i64 S) := keepC hb4 (by simp) (by simp [go_sem])
  have r1 : w4.cell? ⟨w3.heap.size, 1, none⟩ = some (.int .i64 H) := keepC hb4 (by simp) (by simp [go_sem])
  have v0 : w4.frozen? ⟨w3.heap.size, 0, none⟩ = false := keepF hb4 (by simp) (by simp [go_sem])
  have v1 : w4.frozen? ⟨w3.heap.size, 1, none⟩ = false := keepF hb4 (by simp) (by simp [go_sem])
  have t4 : w3.heap.size < w4.heap.size := by omega
  have hset : Below w.heap.size w ((w4.setCell ⟨w3.heap.size, 0, none⟩ (.int .i64 (-S))).setCell ⟨w3.heap.size, 1, none⟩ (.int .i64 (-H))) := (hb04.setCell (p := ⟨w3.heap.size, 0, none⟩) hb03.size _).setCell (p := ⟨w3.heap.size, 1, none⟩) hb03.size _
  have kset : Below w3.heap.size w4 ((w4.setCell ⟨w3.heap.size, 0, none⟩ (.int .i64 (-S))).setCell ⟨w3.heap.size, 1, none⟩ (.int .i64 (-H))) := ((Below.refl w3.heap.size w4).setCell (p := ⟨w3.heap.size, 0, none⟩) (Nat.le_refl _) _).setCell (p := ⟨w3.heap.size, 1, none⟩) (Nat.le_refl _) _
  go_wp2_with fail
  refine (HM _ (ht.step hset) (hpw.step hset)).mono ?_
  rintro e w5 ⟨rfl, hb5⟩
  have z5 := hb5.size
  simp [World.setCell] at z5
  have hb05 := hset.trans (hb5.mono hset.size)
  have k5 : Below w3.heap.size w4 w5 := kset.trans (hb5.mono (by simp [World.setCell]; omega))
  replace p0 := keepC k5 (by omega) p0
  replace p1 := keepC k5 (by omega) p1
  replace f0 := keepF k5 (by omega) f0
  replace f1 := keepF k5 (by omega) f1
  have R0 : w5.cell? ⟨w3.heap.size, 0, none⟩ = some (.int .i64 (-S)) := keepC hb5 (by simpa [World.setCell] using t4) (by simp [go_sem, r0])
  have R1 : w5.cell? ⟨w3.heap.size, 1, none⟩ = some (.int .i64 (-H)) := keepC hb5 (by simpa [World.setCell] using t4) (by simp [go_sem, r1])
  clear r0 r1
  have t5 : w3.heap.size < w5.heap.size := by omega
  have t6 : w.heap.size < w5.heap.size := by omega
  go_wp2_with fail
  refine bodyPost_ret (v := .tuple #[.agg #[.int .i64 (-(S)), .int .i64 (-H)], .int .i64 0]) (by simp [results, Tryd.results23, go_sem, p0, p1]) rfl ⟨rfl, ?_⟩
  exact (hb05.setCell (by simp) _).setCell (by simp) _
set_option maxRecDepth 100000 in
set_option maxHeartbeats 2000000 in
theorem Named_e_true (s body q r : ByteArray) (dn ok : Bool) (N : Int) (w : World) (a1 : Lib.hasPrefix s.data.toList [45] = dn) (a2 : Lib.trimPrefix s.data.toList [45] = body.data.toList)
    (HQ : ∀ w, Calls Tryd.prog 50 #[.string body] w fun e w' => e = .returned (.tuple #[.string q, .string r]) ∧ Below w.heap.size w w')
    (HN : ∀ w, Calls Tryd.prog 46 #[.string r] w fun e w' => e = .returned (.tuple #[.int .i64 N, .bool ok]) ∧ Below w.heap.size w w')
    (hok : ok = true) (hN : 1 ≤ N) (hN2 : N ≤ 201) (hq : 0 < q.size) (hq6 : q.size ≤ 6) (c : UInt8) (hc : q[0]'hq = c) (H : Int) (hH : H = M.hz c (q.size : Int) (N - 1)) (ht : Tab w) (hpw : Pows w) (T : ByteArray) (Er : Int)
    (hnm : M.NmQ (-(N - 1)) (-H) T Er)
    (hdn : dn = true) (hE : Er = 3) :
    Calls Tryd.prog 23 #[.string s] w fun e w' => e = .returned (.tuple #[.agg #[.int .i64 0, .int .i64 0], .int .i64 2]) ∧ Below w.heap.size w w' := by
  have hbody : (⟨body.data.toList.toArray⟩ : ByteArray) = body := by cases body; simp
  have hem := isE_no hq
  have h3 : ¬ 200 < N - 1 := by omega
  have h4 : ¬ (6 : Int) < q.size := by omega
  have hwb := M.wh_bd (N - 1)
  have hHb : -100000 ≤ H ∧ H ≤ 100000 := by rw [hH]; unfold M.hz; repeat' split <;> omega
  have HS := fun w ht => sized_ok q c (q.size : Int) (N - 1) w ht hq hc rfl (by omega) (by omega) (by omega) H hH
  have HM := fun w ht hpw => Name_any ((-(N - 1))) ((-H)) T Er w ht hpw hnm
  subst hok
  subst hdn
  clear hH hc hnm hwb
  generalize hSS : N - 1 = S at *
  subst hE
  go_enter Tryd.func23, Tryd.ntmps23
  go_wp2_with (go_at_call 49; refine (Tryd.strings_CutPrefix _ _ _).mono ?_; rintro e w' ⟨rfl, hw⟩; rw [hw, show (ByteArray.mk #[45]).data.toList = [45] from rfl, a1, a2, hbody])
  refine (HQ _).mono ?_
  rintro e w1 ⟨rfl, hb1⟩
  have z1 := hb1.size
  simp at z1
  have hb01 : Below w.heap.size w w1 := Below.trans (by go_grown) (hb1.mono (by simp))
  have p0 : w1.cell? ⟨w.heap.size, 0, none⟩ = some (.int .i64 0) := keepC hb1 (by simp) (by simp [go_sem])
  have p1 : w1.cell? ⟨w.heap.size, 1, none⟩ = some (.int .i64 0) := keepC hb1 (by simp) (by simp [go_sem])
  have f0 : w1.frozen? ⟨w.heap.size, 0, none⟩ = false := keepF hb1 (by simp) (by simp [go_sem])
  have f1 : w1.frozen? ⟨w.heap.size, 1, none⟩ = false := keepF hb1 (by simp) (by simp [go_sem])
  have t1 : w.heap.size < w1.heap.size := by omega
  go_wp2_with fail
  refine (HN _).mono ?_
  rintro e w2 ⟨rfl, hb2⟩
  have z2 := hb2.size
  have hb02 := hb01.trans (hb2.mono hb01.size)
  replace p0 := keepC hb2 (by omega) p0
  replace p1 := keepC hb2 (by omega) p1
  replace f0 := keepF hb2 (by omega) f0
  replace f1 := keepF hb2 (by omega) f1
  have t2 : w.heap.size < w2.heap.size := by omega
  go_wp2_with fail
  first | rw [hSS] | skip
  refine (HS _ (ht.step hb02)).mono ?_
  rintro e w3 ⟨rfl, hb3⟩
  have z3 := hb3.size
  have hb03 := hb02.trans (hb3.mono hb02.size)
  replace p0 := keepC hb3 (by omega) p0
  replace p1 := keepC hb3 (by omega) p1
  replace f0 := keepF hb3 (by omega) f0
  replace f1 := keepF hb3 (by omega) f1
  have t3 : w.heap.size < w3.heap.size := by omega
  clear HS HN HQ
  go_wp2_with fail
  refine (turned_any S H _ (by omega) (by omega) (by omega) (by omega)).mono ?_
  rintro e w4 ⟨rfl, hb4⟩
  have z4 := hb4.size
  simp at z4
  have k4 : Below w3.heap.size w3 w4 := Below.trans (by go_grown) (hb4.mono (by simp))
  have hb04 := hb03.trans (k4.mono hb03.size)
  replace p0 := keepC k4 (by omega) p0
  replace p1 := keepC k4 (by omega) p1
  replace f0 := keepF k4 (by omega) f0
  replace f1 := keepF k4 (by omega) f1
  have r0 : w4.cell? ⟨w3.heap.size, 0, none⟩ = some (.int .i64 S) := keepC hb4 (by simp) (by simp [go_sem])
  have r1 : w4.cell? ⟨w3.heap.size, 1, none⟩ = some (.int .i64 H) := keepC hb4 (by simp) (by simp [go_sem])
  have v0 : w4.frozen? ⟨w3.heap.size, 0, none⟩ = false := keepF hb4 (by simp) (by simp [go_sem])
  have v1 : w4.frozen? ⟨w3.heap.size, 1, none⟩ = false := keepF hb4 (by simp) (by simp [go_sem])
  have t4 : w3.heap.size < w4.heap.size := by omega
  have hset : Below w.heap.size w ((w4.setCell ⟨w3.heap.size, 0, none⟩ (.int .i64 (-S))).setCell ⟨w3.heap.size, 1, none⟩ (.int .i64 (-H))) := (hb04.setCell (p := ⟨w3.heap.size, 0, none⟩) hb03.size _).setCell (p := ⟨w3.heap.size, 1, none⟩) hb03.size _
  have kset : Below w3.heap.size w4 ((w4.setCell ⟨w3.heap.size, 0, none⟩ (.int .i64 (-S))).setCell ⟨w3.heap.size, 1, none⟩ (.int .i64 (-H))) := ((Below.refl w3.heap.size w4).setCell (p := ⟨w3.heap.size, 0, none⟩) (Nat.le_refl _) _).setCell (p := ⟨w3.heap.size, 1, none⟩) (Nat.le_refl _) _
  go_wp2_with fail
  refine (HM _ (ht.step hset) (hpw.step hset)).mono ?_
  rintro e w5 ⟨rfl, hb5⟩
  have z5 := hb5.size
  simp [World.setCell] at z5
  have hb05 := hset.trans (hb5.mono hset.size)
  have k5 : Below w3.heap.size w4 w5 := kset.trans (hb5.mono (by simp [World.setCell]; omega))
  replace p0 := keepC k5 (by omega) p0
  replace p1 := keepC k5 (by omega) p1
  replace f0 := keepF k5 (by omega) f0
  replace f1 := keepF k5 (by omega) f1
  have R0 : w5.cell? ⟨w3.heap.size, 0, none⟩ = some (.int .i64 (-S)) := keepC hb5 (by simpa [World.setCell] using t4) (by simp [go_sem, r0])
  have R1 : w5.cell? ⟨w3.heap.size, 1, none⟩ = some (.int .i64 (-H)) := keepC hb5 (by simpa [World.setCell] using t4) (by simp [go_sem, r1])
  clear r0 r1
  have t5 : w3.heap.size < w5.heap.size := by omega
  have t6 : w.heap.size < w5.heap.size := by omega
  go_wp2_with fail
  refine bodyPost_ret (v := .tuple #[.agg #[.int .i64 0, .int .i64 0], .int .i64 2]) (by simp [results, Tryd.results23, go_sem, p0, p1]) rfl ⟨rfl, ?_⟩
  exact (hb05.setCell (by simp) _).setCell (by simp) _
set_option maxRecDepth 100000 in
set_option maxHeartbeats 2000000 in
theorem Named_t_true (s body q r : ByteArray) (dn ok : Bool) (N : Int) (w : World) (a1 : Lib.hasPrefix s.data.toList [45] = dn) (a2 : Lib.trimPrefix s.data.toList [45] = body.data.toList)
    (HQ : ∀ w, Calls Tryd.prog 50 #[.string body] w fun e w' => e = .returned (.tuple #[.string q, .string r]) ∧ Below w.heap.size w w')
    (HN : ∀ w, Calls Tryd.prog 46 #[.string r] w fun e w' => e = .returned (.tuple #[.int .i64 N, .bool ok]) ∧ Below w.heap.size w w')
    (hok : ok = true) (hN : 1 ≤ N) (hN2 : N ≤ 201) (hq : 0 < q.size) (hq6 : q.size ≤ 6) (c : UInt8) (hc : q[0]'hq = c) (H : Int) (hH : H = M.hz c (q.size : Int) (N - 1)) (ht : Tab w) (hpw : Pows w) (T : ByteArray) (Er : Int)
    (hnm : M.NmQ (-(N - 1)) (-H) T Er)
    (hdn : dn = true) (hE : Er = 0) (hT : T ≠ s) :
    Calls Tryd.prog 23 #[.string s] w fun e w' => e = .returned (.tuple #[.agg #[.int .i64 0, .int .i64 0], .int .i64 2]) ∧ Below w.heap.size w w' := by
  have hbody : (⟨body.data.toList.toArray⟩ : ByteArray) = body := by cases body; simp
  have hem := isE_no hq
  have h3 : ¬ 200 < N - 1 := by omega
  have h4 : ¬ (6 : Int) < q.size := by omega
  have hwb := M.wh_bd (N - 1)
  have hHb : -100000 ≤ H ∧ H ≤ 100000 := by rw [hH]; unfold M.hz; repeat' split <;> omega
  have HS := fun w ht => sized_ok q c (q.size : Int) (N - 1) w ht hq hc rfl (by omega) (by omega) (by omega) H hH
  have HM := fun w ht hpw => Name_any ((-(N - 1))) ((-H)) T Er w ht hpw hnm
  subst hok
  subst hdn
  clear hH hc hnm hwb
  generalize hSS : N - 1 = S at *
  subst hE
  have c1 : (T.toList == s.toList) = false := beq_false_of_ne (fun e => hT (by rw [ByteArray.toList_eq, ByteArray.toList_eq] at e; cases T; cases s; simp_all))
  have c3 : decide (T = s) = false := decide_eq_false hT
  have c5 : (T.toList != s.toList) = true := by rw [bne, c1]; rfl
  go_enter Tryd.func23, Tryd.ntmps23
  go_wp2_with (go_at_call 49; refine (Tryd.strings_CutPrefix _ _ _).mono ?_; rintro e w' ⟨rfl, hw⟩; rw [hw, show (ByteArray.mk #[45]).data.toList = [45] from rfl, a1, a2, hbody])
  refine (HQ _).mono ?_
  rintro e w1 ⟨rfl, hb1⟩
  have z1 := hb1.size
  simp at z1
  have hb01 : Below w.heap.size w w1 := Below.trans (by go_grown) (hb1.mono (by simp))
  have p0 : w1.cell? ⟨w.heap.size, 0, none⟩ = some (.int .i64 0) := keepC hb1 (by simp) (by simp [go_sem])
  have p1 : w1.cell? ⟨w.heap.size, 1, none⟩ = some (.int .i64 0) := keepC hb1 (by simp) (by simp [go_sem])
  have f0 : w1.frozen? ⟨w.heap.size, 0, none⟩ = false := keepF hb1 (by simp) (by simp [go_sem])
  have f1 : w1.frozen? ⟨w.heap.size, 1, none⟩ = false := keepF hb1 (by simp) (by simp [go_sem])
  have t1 : w.heap.size < w1.heap.size := by omega
  go_wp2_with fail
  refine (HN _).mono ?_
  rintro e w2 ⟨rfl, hb2⟩
  have z2 := hb2.size
  have hb02 := hb01.trans (hb2.mono hb01.size)
  replace p0 := keepC hb2 (by omega) p0
  replace p1 := keepC hb2 (by omega) p1
  replace f0 := keepF hb2 (by omega) f0
  replace f1 := keepF hb2 (by omega) f1
  have t2 : w.heap.size < w2.heap.size := by omega
  go_wp2_with fail
  first | rw [hSS] | skip
  refine (HS _ (ht.step hb02)).mono ?_
  rintro e w3 ⟨rfl, hb3⟩
  have z3 := hb3.size
  have hb03 := hb02.trans (hb3.mono hb02.size)
  replace p0 := keepC hb3 (by omega) p0
  replace p1 := keepC hb3 (by omega) p1
  replace f0 := keepF hb3 (by omega) f0
  replace f1 := keepF hb3 (by omega) f1
  have t3 : w.heap.size < w3.heap.size := by omega
  clear HS HN HQ
  go_wp2_with fail
  refine (turned_any S H _ (by omega) (by omega) (by omega) (by omega)).mono ?_
  rintro e w4 ⟨rfl, hb4⟩
  have z4 := hb4.size
  simp at z4
  have k4 : Below w3.heap.size w3 w4 := Below.trans (by go_grown) (hb4.mono (by simp))
  have hb04 := hb03.trans (k4.mono hb03.size)
  replace p0 := keepC k4 (by omega) p0
  replace p1 := keepC k4 (by omega) p1
  replace f0 := keepF k4 (by omega) f0
  replace f1 := keepF k4 (by omega) f1
  have r0 : w4.cell? ⟨w3.heap.size, 0, none⟩ = some (.int .i64 S) := keepC hb4 (by simp) (by simp [go_sem])
  have r1 : w4.cell? ⟨w3.heap.size, 1, none⟩ = some (.int .i64 H) := keepC hb4 (by simp) (by simp [go_sem])
  have v0 : w4.frozen? ⟨w3.heap.size, 0, none⟩ = false := keepF hb4 (by simp) (by simp [go_sem])
  have v1 : w4.frozen? ⟨w3.heap.size, 1, none⟩ = false := keepF hb4 (by simp) (by simp [go_sem])
  have t4 : w3.heap.size < w4.heap.size := by omega
  have hset : Below w.heap.size w ((w4.setCell ⟨w3.heap.size, 0, none⟩ (.int .i64 (-S))).setCell ⟨w3.heap.size, 1, none⟩ (.int .i64 (-H))) := (hb04.setCell (p := ⟨w3.heap.size, 0, none⟩) hb03.size _).setCell (p := ⟨w3.heap.size, 1, none⟩) hb03.size _
  have kset : Below w3.heap.size w4 ((w4.setCell ⟨w3.heap.size, 0, none⟩ (.int .i64 (-S))).setCell ⟨w3.heap.size, 1, none⟩ (.int .i64 (-H))) := ((Below.refl w3.heap.size w4).setCell (p := ⟨w3.heap.size, 0, none⟩) (Nat.le_refl _) _).setCell (p := ⟨w3.heap.size, 1, none⟩) (Nat.le_refl _) _
  go_wp2_with fail
  refine (HM _ (ht.step hset) (hpw.step hset)).mono ?_
  rintro e w5 ⟨rfl, hb5⟩
  have z5 := hb5.size
  simp [World.setCell] at z5
  have hb05 := hset.trans (hb5.mono hset.size)
  have k5 : Below w3.heap.size w4 w5 := kset.trans (hb5.mono (by simp [World.setCell]; omega))
  replace p0 := keepC k5 (by omega) p0
  replace p1 := keepC k5 (by omega) p1
  replace f0 := keepF k5 (by omega) f0
  replace f1 := keepF k5 (by omega) f1
  have R0 : w5.cell? ⟨w3.heap.size, 0, none⟩ = some (.int .i64 (-S)) := keepC hb5 (by simpa [World.setCell] using t4) (by simp [go_sem, r0])
  have R1 : w5.cell? ⟨w3.heap.size, 1, none⟩ = some (.int .i64 (-H)) := keepC hb5 (by simpa [World.setCell] using t4) (by simp [go_sem, r1])
  clear r0 r1
  have t5 : w3.heap.size < w5.heap.size := by omega
  have t6 : w.heap.size < w5.heap.size := by omega
  go_wp2_with fail
  refine bodyPost_ret (v := .tuple #[.agg #[.int .i64 0, .int .i64 0], .int .i64 2]) (by simp [results, Tryd.results23, go_sem, p0, p1]) rfl ⟨rfl, ?_⟩
  exact (hb05.setCell (by simp) _).setCell (by simp) _
end Go.Proofs.YtmccbokjigjpnaaDoor
