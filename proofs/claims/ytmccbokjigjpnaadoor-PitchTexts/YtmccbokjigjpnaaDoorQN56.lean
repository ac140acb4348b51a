/- What the program's Named comes to, at every text. -/
import Derived.Test.YtmccbokjigjpnaaDoorQN34
import Derived.Test.YtmccbokjigjpnaaDoorQT12
namespace Go.Proofs.YtmccbokjigjpnaaDoor
open Go.RowKit Go.Lib
set_option linter.unusedVariables false
set_option linter.unusedSimpArgs false

theorem readNumber_any (s : ByteArray) (w : World) :
    Calls Tryd.prog 46 #[.string s] w fun e w' => e = .returned (.tuple #[.int .i64 (if M.isN s = true then M.valN s else 0), .bool (M.isN s)]) ∧ Below w.heap.size w w' := by
  cases h : M.isN s
  · exact readNumber_no s w h
  · exact readNumber_yes s w h
theorem isE_no {q : ByteArray} (b1 : 0 < q.size) : q.toList.isEmpty = false := by
  rw [ByteArray.toList_eq]
  cases hc : q.data.toList with
  | nil => exact absurd b1 (by rw [Lib.size_eq, hc]; decide)
  | cons x r => rfl
theorem isE_yes {q : ByteArray} (b1 : q.size = 0) : q.toList.isEmpty = true := by
  rw [ByteArray.toList_eq]
  cases hc : q.data.toList with
  | nil => rfl
  | cons x r => exact absurd b1 (by rw [Lib.size_eq, hc]; simp)
set_option maxRecDepth 100000 in
set_option maxHeartbeats 2000000 in
theorem Named_g1 (s body q r : ByteArray) (dn ok : Bool) (N : Int) (w : World) (a1 : Lib.hasPrefix s.data.toList [45] = dn) (a2 : Lib.trimPrefix s.data.toList [45] = body.data.toList)
    (HQ : ∀ w, Calls Tryd.prog 50 #[.string body] w fun e w' => e = .returned (.tuple #[.string q, .string r]) ∧ Below w.heap.size w w')
    (HN : ∀ w, Calls Tryd.prog 46 #[.string r] w fun e w' => e = .returned (.tuple #[.int .i64 N, .bool ok]) ∧ Below w.heap.size w w')
    (hcond : q.size = 0 ∨ ok = false ∨ N < 1) :
    Calls Tryd.prog 23 #[.string s] w fun e w' => e = .returned (.tuple #[.agg #[.int .i64 0, .int .i64 0], .int .i64 2]) ∧ Below w.heap.size w w' := by
  have hbody : (⟨body.data.toList.toArray⟩ : ByteArray) = body := by cases body; simp
  rcases (show q.size = 0 ∨ (0 < q.size ∧ ok = false) ∨ (0 < q.size ∧ ok = true ∧ N < 1) by
    rcases hcond with h | h | h
    · exact .inl h
    · by_cases e : q.size = 0
      · exact .inl e
      · exact .inr (.inl ⟨by omega, h⟩)
    · by_cases e : q.size = 0
      · exact .inl e
      · cases ok
        · exact .inr (.inl ⟨by omega, rfl⟩)
        · exact .inr (.inr ⟨by omega, rfl, h⟩)) with h | ⟨h, rfl⟩ | ⟨h, rfl, h2⟩
  · have hem := isE_yes h
    clear hcond h
    go_enter Tryd.func23, Tryd.ntmps23
    go_wp2_with (go_at_call 49; refine (Tryd.strings_CutPrefix _ _ _).mono ?_; rintro e w' ⟨rfl, hw⟩; rw [hw, show (ByteArray.mk #[45]).data.toList = [45] from rfl, a1, a2, hbody])
    refine (HQ _).mono ?_
    rintro e w1 ⟨rfl, hb1⟩
    have z1 := hb1.size
    simp at z1
    have hb01 : Below w.heap.size w w1 := Below.trans (by go_grown) (hb1.mono (by simp))
    have p0 : w1.cell? ⟨w.heap.size, 0, none⟩ = some (.int .i64 0) := keepC hb1 (by simp) (by simp [go_sem])
    have p1 : w1.cell? ⟨w.heap.size, 1, none⟩ = some (.int .i64 0) := keepC hb1 (by simp) (by simp [go_sem])
    have f0 : w1.frozen? ⟨w.heap.size, 0, none⟩ = false := keepF hb1 (by simp) (by simp [go_sem])
    have f1 : w1.frozen? ⟨w.heap.size, 1, none⟩ = false := keepF hb1 (by simp) (by simp [go_sem])
    have t1 : w.heap.size < w1.heap.size := by omega
    go_wp2_with fail
    refine (HN _).mono ?_
    rintro e w2 ⟨rfl, hb2⟩
    have z2 := hb2.size
    have hb02 := hb01.trans (hb2.mono hb01.size)
    replace p0 := keepC hb2 (by omega) p0
    replace p1 := keepC hb2 (by omega) p1
    replace f0 := keepF hb2 (by omega) f0
    replace f1 := keepF hb2 (by omega) f1
    have t2 : w.heap.size < w2.heap.size := by omega
    go_wp2_with fail
    refine bodyPost_ret (v := .tuple #[.agg #[.int .i64 0, .int .i64 0], .int .i64 2]) (by simp [results, Tryd.results23, go_sem, p0, p1]) rfl ⟨rfl, ?_⟩
    exact (hb02.setCell (by simp) _).setCell (by simp) _
  · have hem := isE_no h
    clear hcond h
    go_enter Tryd.func23, Tryd.ntmps23
    go_wp2_with (go_at_call 49; refine (Tryd.strings_CutPrefix _ _ _).mono ?_; rintro e w' ⟨rfl, hw⟩; rw [hw, show (ByteArray.mk #[45]).data.toList = [45] from rfl, a1, a2, hbody])
    refine (HQ _).mono ?_
    rintro e w1 ⟨rfl, hb1⟩
    have z1 := hb1.size
    simp at z1
    have hb01 : Below w.heap.size w w1 := Below.trans (by go_grown) (hb1.mono (by simp))
    have p0 : w1.cell? ⟨w.heap.size, 0, none⟩ = some (.int .i64 0) := keepC hb1 (by simp) (by simp [go_sem])
    have p1 : w1.cell? ⟨w.heap.size, 1, none⟩ = some (.int .i64 0) := keepC hb1 (by simp) (by simp [go_sem])
    have f0 : w1.frozen? ⟨w.heap.size, 0, none⟩ = false := keepF hb1 (by simp) (by simp [go_sem])
    have f1 : w1.frozen? ⟨w.heap.size, 1, none⟩ = false := keepF hb1 (by simp) (by simp [go_sem])
    have t1 : w.heap.size < w1.heap.size := by omega
    go_wp2_with fail
    refine (HN _).mono ?_
    rintro e w2 ⟨rfl, hb2⟩
    have z2 := hb2.size
    have hb02 := hb01.trans (hb2.mono hb01.size)
    replace p0 := keepC hb2 (by omega) p0
    replace p1 := keepC hb2 (by omega) p1
    replace f0 := keepF hb2 (by omega) f0
    replace f1 := keepF hb2 (by omega) f1
    have t2 : w.heap.size < w2.heap.size := by omega
    go_wp2_with fail
    refine bodyPost_ret (v := .tuple #[.agg #[.int .i64 0, .int .i64 0], .int .i64 2]) (by simp [results, Tryd.results23, go_sem, p0, p1]) rfl ⟨rfl, ?_⟩
    exact (hb02.setCell (by simp) _).setCell (by simp) _
  · have hem := isE_no h
    clear hcond h
    go_enter Tryd.func23, Tryd.ntmps23
    go_wp2_with (go_at_call 49; refine (Tryd.strings_CutPrefix _ _ _).mono ?_; rintro e w' ⟨rfl, hw⟩; rw [hw, show (ByteArray.mk #[45]).data.toList = [45] from rfl, a1, a2, hbody])
    refine (HQ _).mono ?_
    rintro e w1 ⟨rfl, hb1⟩
    have z1 := hb1.size
    simp at z1
    have hb01 : Below w.heap.size w w1 := Below.trans (by go_grown) (hb1.mono (by simp))
    have p0 : w1.cell? ⟨w.heap.size, 0, none⟩ = some (.int .i64 0) := keepC hb1 (by simp) (by simp [go_sem])
    have p1 : w1.cell? ⟨w.heap.size, 1, none⟩ = some (.int .i64 0) := keepC hb1 (by simp) (by simp [go_sem])
    have f0 : w1.frozen? ⟨w.heap.size, 0, none⟩ = false := keepF hb1 (by simp) (by simp [go_sem])
    have f1 : w1.frozen? ⟨w.heap.size, 1, none⟩ = false := keepF hb1 (by simp) (by simp [go_sem])
    have t1 : w.heap.size < w1.heap.size := by omega
    go_wp2_with fail
    refine (HN _).mono ?_
    rintro e w2 ⟨rfl, hb2⟩
    have z2 := hb2.size
    have hb02 := hb01.trans (hb2.mono hb01.size)
    replace p0 := keepC hb2 (by omega) p0
    replace p1 := keepC hb2 (by omega) p1
    replace f0 := keepF hb2 (by omega) f0
    replace f1 := keepF hb2 (by omega) f1
    have t2 : w.heap.size < w2.heap.size := by omega
    go_wp2_with fail
    refine bodyPost_ret (v := .tuple #[.agg #[.int .i64 0, .int .i64 0], .int .i64 2]) (by simp [results, Tryd.results23, go_sem, p0, p1]) rfl ⟨rfl, ?_⟩
    exact (hb02.setCell (by simp) _).setCell (by simp) _
set_option maxRecDepth 100000 in
set_option maxHeartbeats 2000000 in
theorem Named_g2 (s body q r : ByteArray) (dn ok : Bool) (N : Int) (w : World) (a1 : Lib.hasPrefix s.data.toList [45] = dn) (a2 : Lib.trimPrefix s.data.toList [45] = body.data.toList)
    (HQ : ∀ w, Calls Tryd.prog 50 #[.string body] w fun e w' => e = .returned (.tuple #[.string q, .string r]) ∧ Below w.heap.size w w')
    (HN : ∀ w, Calls Tryd.prog 46 #[.string r] w fun e w' => e = .returned (.tuple #[.int .i64 N, .bool ok]) ∧ Below w.heap.size w w')
    (hok : ok = true) (hN : 1 ≤ N) (hN2 : N ≤ 100000) (hq : 0 < q.size) (hcond : 201 < N ∨ (N ≤ 201 ∧ 6 < q.size)) :
    Calls Tryd.prog 23 #[.string s] w fun e w' => e = .returned (.tuple #[.agg #[.int .i64 0, .int .i64 0], .int .i64 3]) ∧ Below w.heap.size w w' := by
  have hbody : (⟨body.data.toList.toArray⟩ : ByteArray) = body := by cases body; simp
  have hem := isE_no hq
  subst hok
  rcases hcond with h | ⟨h, h2⟩
  · have h3 : 200 < N - 1 := by omega
    clear hq
    go_enter Tryd.func23, Tryd.ntmps23
    go_wp2_with (go_at_call 49; refine (Tryd.strings_CutPrefix _ _ _).mono ?_; rintro e w' ⟨rfl, hw⟩; rw [hw, show (ByteArray.mk #[45]).data.toList = [45] from rfl, a1, a2, hbody])
    refine (HQ _).mono ?_
    rintro e w1 ⟨rfl, hb1⟩
    have z1 := hb1.size
    simp at z1
    have hb01 : Below w.heap.size w w1 := Below.trans (by go_grown) (hb1.mono (by simp))
    have p0 : w1.cell? ⟨w.heap.size, 0, none⟩ = some (.int .i64 0) := keepC hb1 (by simp) (by simp [go_sem])
    have p1 : w1.cell? ⟨w.heap.size, 1, none⟩ = some (.int .i64 0) := keepC hb1 (by simp) (by simp [go_sem])
    have f0 : w1.frozen? ⟨w.heap.size, 0, none⟩ = false := keepF hb1 (by simp) (by simp [go_sem])
    have f1 : w1.frozen? ⟨w.heap.size, 1, none⟩ = false := keepF hb1 (by simp) (by simp [go_sem])
    have t1 : w.heap.size < w1.heap.size := by omega
    go_wp2_with fail
    refine (HN _).mono ?_
    rintro e w2 ⟨rfl, hb2⟩
    have z2 := hb2.size
    have hb02 := hb01.trans (hb2.mono hb01.size)
    replace p0 := keepC hb2 (by omega) p0
    replace p1 := keepC hb2 (by omega) p1
    replace f0 := keepF hb2 (by omega) f0
    replace f1 := keepF hb2 (by omega) f1
    have t2 : w.heap.size < w2.heap.size := by omega
    go_wp2_with fail
    refine bodyPost_ret (v := .tuple #[.agg #[.int .i64 0, .int .i64 0], .int .i64 3]) (by simp [results, Tryd.results23, go_sem, p0, p1]) rfl ⟨rfl, ?_⟩
    exact (hb02.setCell (by simp) _).setCell (by simp) _
  · have h3 : ¬ 200 < N - 1 := by omega
    have h4 : (6 : Int) < q.size := by omega
    clear hq
    go_enter Tryd.func23, Tryd.ntmps23
    go_wp2_with (go_at_call 49; refine (Tryd.strings_CutPrefix _ _ _).mono ?_; rintro e w' ⟨rfl, hw⟩; rw [hw, show (ByteArray.mk #[45]).data.toList = [45] from rfl, a1, a2, hbody])
    refine (HQ _).mono ?_
    rintro e w1 ⟨rfl, hb1⟩
    have z1 := hb1.size
    simp at z1
    have hb01 : Below w.heap.size w w1 := Below.trans (by go_grown) (hb1.mono (by simp))
    have p0 : w1.cell? ⟨w.heap.size, 0, none⟩ = some (.int .i64 0) := keepC hb1 (by simp) (by simp [go_sem])
    have p1 : w1.cell? ⟨w.heap.size, 1, none⟩ = some (.int .i64 0) := keepC hb1 (by simp) (by simp [go_sem])
    have f0 : w1.frozen? ⟨w.heap.size, 0, none⟩ = false := keepF hb1 (by simp) (by simp [go_sem])
    have f1 : w1.frozen? ⟨w.heap.size, 1, none⟩ = false := keepF hb1 (by simp) (by simp [go_sem])
    have t1 : w.heap.size < w1.heap.size := by omega
    go_wp2_with fail
    refine (HN _).mono ?_
    rintro e w2 ⟨rfl, hb2⟩
    have z2 := hb2.size
    have hb02 := hb01.trans (hb2.mono hb01.size)
    replace p0 := keepC hb2 (by omega) p0
    replace p1 := keepC hb2 (by omega) p1
    replace f0 := keepF hb2 (by omega) f0
    replace f1 := keepF hb2 (by omega) f1
    have t2 : w.heap.size < w2.heap.size := by omega
    go_wp2_with fail
    refine bodyPost_ret (v := .tuple #[.agg #[.int .i64 0, .int .i64 0], .int .i64 3]) (by simp [results, Tryd.results23, go_sem, p0, p1]) rfl ⟨rfl, ?_⟩
    exact (hb02.setCell (by simp) _).setCell (by simp) _
set_option maxRecDepth 100000 in
set_option maxHeartbeats 2000000 in
theorem Named_ok_false (s body q r : ByteArray) (dn ok : Bool) (N : Int) (w : World) (a1 : Lib.hasPrefix s.data.toList [45] = dn) (a2 : Lib.trimPrefix s.data.toList [45] = body.data.toList)
    (HQ : ∀ w, Calls Tryd.prog 50 #[.string body] w fun e w' => e = .returned (.tuple #[.string q, .string r]) ∧ Below w.heap.size w w')
    (HN : ∀ w, Calls Tryd.prog 46 #[.string r] w fun e w' => e = .returned (.tuple #[.int .i64 N, .bool ok]) ∧ Below w.heap.size w w')
    (hok : ok = true) (hN : 1 ≤ N) (hN2 : N ≤ 201) (hq : 0 < q.size) (hq6 : q.size ≤ 6) (c : UInt8) (hc : q[0]'hq = c) (H : Int) (hH : H = M.hz c (q.size : Int) (N - 1)) (ht : Tab w) (hpw : Pows w) (T : ByteArray) (Er : Int)
    (hnm : M.NmQ (N - 1) H T Er)
    (hdn : dn = false) (hE : Er = 0) (hT : T = s) :
    Calls Tryd.prog 23 #[.string s] w fun e w' => e = .returned (.tuple #[.agg #[.int .i64 (N - 1), .int .i64 H], .int .i64 0]) ∧ Below w.heap.size w w' := by
  have hbody : (⟨body.data.toList.toArray⟩ : ByteArray) = body := by cases body; simp
  have hem := isE_no hq
  have h3 : ¬ 200 < N - 1 := by omega
  have h4 : ¬ (6 : Int) < q.size := by omega
  have hwb := M.wh_bd (N - 1)
  have hHb : -100000 ≤ H ∧ H ≤ 100000 := by rw [hH]; unfold M.hz; repeat' split <;> omega
  have HS := fun w ht => sized_ok q c (q.size : Int) (N - 1) w ht hq hc rfl (by omega) (by omega) (by omega) H hH
  have HM := fun w ht hpw => Name_any ((N - 1)) (H) T Er w ht hpw hnm
  subst hok
  subst hdn
  clear hH hc hnm hwb
  generalize hSS : N - 1 = S at *
  subst hE
  subst hT
  go_enter Tryd.func23, Tryd.ntmps23
  go_wp2_with (go_at_call 49; refine (Tryd.strings_CutPrefix _ _ _).mono ?_; rintro e w' ⟨rfl, hw⟩; rw [hw, show (ByteArray.mk #[45]).data.toList = [45] from rfl, a1, a2, hbody])
  refine (HQ _).mono ?_
  rintro e w1 ⟨rfl, hb1⟩
  have z1 := hb1.size
  simp at z1
  have hb01 : Below w.heap.size w w1 := Below.trans (by go_grown) (hb1.mono (by simp))
  have p0 : w1.cell? ⟨w.heap.size, 0, none⟩ = some (.int .i64 0) := keepC hb1 (by simp) (by simp [go_sem])
  have p1 : w1.cell? ⟨w.heap.size, 1, none⟩ = some (.int .i64 0) := keepC hb1 (by simp) (by simp [go_sem])
  have f0 : w1.frozen? ⟨w.heap.size, 0, none⟩ = false := keepF hb1 (by simp) (by simp [go_sem])
  have f1 : w1.frozen? ⟨w.heap.size, 1, none⟩ = false := keepF hb1 (by simp) (by simp [go_sem])
  have t1 : w.heap.size < w1.heap.size := by omega
  go_wp2_with fail
  refine (HN _).mono ?_
  rintro e w2 ⟨rfl, hb2⟩
  have z2 := hb2.size
  have hb02 := hb01.trans (hb2.mono hb01.size)
  replace p0 := keepC hb2 (by omega) p0
  replace p1 := keepC hb2 (by omega) p1
  replace f0 := keepF hb2 (by omega) f0
  replace f1 := keepF hb2 (by omega) f1
  have t2 : w.heap.size < w2.heap.size := by omega
  go_wp2_with fail
  first | rw [hSS] | skip
  refine (HS _ (ht.step hb02)).mono ?_
  rintro e w3 ⟨rfl, hb3⟩
  have z3 := hb3.size
  have hb03 := hb02.trans (hb3.mono hb02.size)
  replace p0 := keepC hb3 (by omega) p0
  replace p1 := keepC hb3 (by omega) p1
  replace f0 := keepF hb3 (by omega) f0
  replace f1 := keepF hb3 (by omega) f1
  have t3 : w.heap.size < w3.heap.size := by omega
  clear HS HN HQ
  go_wp2_with fail
  refine (HM _ ((ht.step hb03).step (by go_grown)) ((hpw.step hb03).step (by go_grown))).mono ?_
  rintro e w5 ⟨rfl, hb5⟩
  have z5 := hb5.size
  simp at z5
  have k5 : Below w3.heap.size w3 w5 := Below.trans (by go_grown) (hb5.mono (by simp))
  have hb05 := hb03.trans (k5.mono hb03.size)
  replace p0 := keepC k5 (by omega) p0
  replace p1 := keepC k5 (by omega) p1
  replace f0 := keepF k5 (by omega) f0
  replace f1 := keepF k5 (by omega) f1
  have r0 : w5.cell? ⟨w3.heap.size, 0, none⟩ = some (.int .i64 S) := keepC hb5 (by simp) (by simp [go_sem])
  have r1 : w5.cell? ⟨w3.heap.size, 1, none⟩ = some (.int .i64 H) := keepC hb5 (by simp) (by simp [go_sem])
  have t5 : w3.heap.size < w5.heap.size := by omega
  have t6 : w.heap.size < w5.heap.size := by omega
  go_wp2_with fail
  refine bodyPost_ret (v := .tuple #[.agg #[.int .i64 (S), .int .i64 H], .int .i64 0]) (by simp [results, Tryd.results23, go_sem, p0, p1]) rfl ⟨rfl, ?_⟩
  exact (hb05.setCell (by simp) _).setCell (by simp) _
set_option maxRecDepth 100000 in
set_option maxHeartbeats 2000000 in
theorem Named_e_false (s body q r : ByteArray) (dn ok : Bool) (N : Int) (w : World) (a1 : Lib.hasPrefix s.data.toList [45] = dn) (a2 : Lib.trimPrefix s.data.toList [45] = body.data.toList)
    (HQ : ∀ w, Calls Tryd.prog 50 #[.string body] w fun e w' => e = .returned (.tuple #[.string q, .string r]) ∧ Below w.heap.size w w')
    (HN : ∀ w, Calls Tryd.prog 46 #[.string r] w fun e w' => e = .returned (.tuple #[.int .i64 N, .bool ok]) ∧ Below w.heap.size w w')
    (hok : ok = true) (hN : 1 ≤ N) (hN2 : N ≤ 201) (hq : 0 < q.size) (hq6 : q.size ≤ 6) (c : UInt8) (hc : q[0]'hq = c) (H : Int) (hH : H = M.hz c (q.size : Int) (N - 1)) (ht : Tab w) (hpw : Pows w) (T : ByteArray) (Er : Int)
    (hnm : M.NmQ (N - 1) H T Er)
    (hdn : dn = false) (hE : Er = 3) :
    Calls Tryd.prog 23 #[.string s] w fun e w' => e = .returned (.tuple #[.agg #[.int .i64 0, .int .i64 0], .int .i64 2]) ∧ Below w.heap.size w w' := by
  have hbody : (⟨body.data.toList.toArray⟩ : ByteArray) = body := by cases body; simp
  have hem := isE_no hq
  have h3 : ¬ 200 < N - 1 := by omega
  have h4 : ¬ (6 : Int) < q.size := by omega
  have hwb := M.wh_bd (N - 1)
  have hHb : -100000 ≤ H ∧ H ≤ 100000 := by rw [hH]; unfold M.hz; repeat' split <;> omega
  have HS := fun w ht => sized_ok q c (q.size : Int) (N - 1) w ht hq hc rfl (by omega) (by omega) (by omega) H hH
  have HM := fun w ht hpw => Name_any ((N - 1)) (H) T Er w ht hpw hnm
  subst hok
  subst hdn
  clear hH hc hnm hwb
  generalize hSS : N - 1 = S at *
  subst hE
  go_enter Tryd.func23, Tryd.ntmps23
  go_wp2_with (go_at_call 49; refine (Tryd.strings_CutPrefix _ _ _).mono ?_; rintro e w' ⟨rfl, hw⟩; rw [hw, show (ByteArray.mk #[45]).data.toList = [45] from rfl, a1, a2, hbody])
  refine (HQ _).mono ?_
  rintro e w1 ⟨rfl, hb1⟩
  have z1 := hb1.size
  simp at z1
  have hb01 : Below w.heap.size w w1 := Below.trans (by go_grown) (hb1.mono (by simp))
  have p0 : w1.cell? ⟨w.heap.size, 0, none⟩ = some (.int .i64 0) := keepC hb1 (by simp) (by simp [go_sem])
  have p1 : w1.cell? ⟨w.heap.size, 1, none⟩ = some (.int .i64 0) := keepC hb1 (by simp) (by simp [go_sem])
  have f0 : w1.frozen? ⟨w.heap.size, 0, none⟩ = false := keepF hb1 (by simp) (by simp [go_sem])
  have f1 : w1.frozen? ⟨w.heap.size, 1, none⟩ = false := keepF hb1 (by simp) (by simp [go_sem])
  have t1 : w.heap.size < w1.heap.size := by omega
  go_wp2_with fail
  refine (HN _).mono ?_
  rintro e w2 ⟨rfl, hb2⟩
  have z2 := hb2.size
  have hb02 := hb01.trans (hb2.mono hb01.size)
  replace p0 := keepC hb2 (by omega) p0
  replace p1 := keepC hb2 (by omega) p1
  replace f0 := keepF hb2 (by omega) f0
  replace f1 := keepF hb2 (by omega) f1
  have t2 : w.heap.size < w2.heap.size := by omega
  go_wp2_with fail
  first | rw [hSS] | skip
  refine (HS _ (ht.step hb02)).mono ?_
  rintro e w3 ⟨rfl, hb3⟩
  have z3 := hb3.size
  have hb03 := hb02.trans (hb3.mono hb02.size)
  replace p0 := keepC hb3 (by omega) p0
  replace p1 := keepC hb3 (by omega) p1
  replace f0 := keepF hb3 (by omega) f0
  replace f1 := keepF hb3 (by omega) f1
  have t3 : w.heap.size < w3.heap.size := by omega
  clear HS HN HQ
  go_wp2_with fail
  refine (HM _ ((ht.step hb03).step (by go_grown)) ((hpw.step hb03).step (by go_grown))).mono ?_
  rintro e w5 ⟨rfl, hb5⟩
  have z5 := hb5.size
  simp at z5
  have k5 : Below w3.heap.size w3 w5 := Below.trans (by go_grown) (hb5.mono (by simp))
  have hb05 := hb03.trans (k5.mono hb03.size)
  replace p0 := keepC k5 (by omega) p0
  replace p1 := keepC k5 (by omega) p1
  replace f0 := keepF k5 (by omega) f0
  replace f1 := keepF k5 (by omega) f1
  have r0 : w5.cell? ⟨w3.heap.size, 0, none⟩ = some (.int .i64 S) := keepC hb5 (by simp) (by simp [go_sem])
  have r1 : w5.cell? ⟨w3.heap.size, 1, none⟩ = some (.int .i64 H) := keepC hb5 (by simp) (by simp [go_sem])
  have t5 : w3.heap.size < w5.heap.size := by omega
  have t6 : w.heap.size < w5.heap.size := by omega
  go_wp2_with fail
  refine bodyPost_ret (v := .tuple #[.agg #[.int .i64 0, .int .i64 0], .int .i64 2]) (by simp [results, Tryd.results23, go_sem, p0, p1]) rfl ⟨rfl, ?_⟩
  exact (hb05.setCell (by simp) _).setCell (by simp) _
set_option maxRecDepth 100000 in
set_option maxHeartbeats 2000000 in
theorem Named_t_false (s body q r : ByteArray) (dn ok : Bool) (N : Int) (w : World) (a1 : Lib.hasPrefix s.data.toList [45] = dn) (a2 : Lib.trimPrefix s.data.toList [45] = body.data.toList)
    (HQ : ∀ w, Calls Tryd.prog 50 #[.string body] w fun e w' => e = .returned (.tuple #[.string q, .string r]) ∧ Below w.heap.size w w')
    (HN : ∀ w, Calls Tryd.prog 46 #[.string r] w fun e w' => e = .returned (.tuple #[.int .i64 N, .bool ok]) ∧ Below w.heap.size w w')
    (hok : ok = true) (hN : 1 ≤ N) (hN2 : N ≤ 201) (hq : 0 < q.size) (hq6 : q.size ≤ 6) (c : UInt8) (hc : q[0]'hq = c) (H : Int) (hH : H = M.hz c (q.size : Int) (N - 1)) (ht : Tab w) (hpw : Pows w) (T : ByteArray) (Er : Int)
    (hnm : M.NmQ (N - 1) H T Er)
    (hdn : dn = false) (hE : Er = 0) (hT : T ≠ s) :
    Calls Tryd.prog 23 #[.string s] w fun e w' => e = .returned (.tuple #[.agg #[.int .i64 0, .int .i64 0], .int .i64 2]) ∧ Below w.heap.size w w' := by
  have hbody : (⟨body.data.toList.toArray⟩ : ByteArray) = body := by cases body; simp
  have hem := isE_no hq
  have h3 : ¬ 200 < N - 1 := by omega
  have h4 : ¬ (6 : Int) < q.size := by omega
  have hwb := M.wh_bd (N - 1)
  have hHb : -100000 ≤ H ∧ H ≤ 100000 := by rw [hH]; unfold M.hz; repeat' split <;> omega
  have HS := fun w ht => sized_ok q c (q.size : Int) (N - 1) w ht hq hc rfl (by omega) (by omega) (by omega) H hH
  have HM := fun w ht hpw => Name_any ((N - 1)) (H) T Er w ht hpw hnm
  subst hok
  subst hdn
  clear hH hc hnm hwb
  generalize hSS : N - 1 = S at *
  subst hE
  have c1 : (T.toList == s.toList) = false := beq_false_of_ne (fun e => hT (by rw [ByteArray.toList_eq, ByteArray.toList_eq] at e; cases T; cases s; simp_all))
  have c3 : decide (T = s) = false := decide_eq_false hT
  have c5 : (T.toList != s.toList) = true := by rw [bne, c1]; rfl
  go_enter Tryd.func23, Tryd.ntmps23
  go_wp2_with (go_at_call 49; refine (Tryd.strings_CutPrefix _ _ _).mono ?_; rintro e w' ⟨rfl, hw⟩; rw [hw, show (ByteArray.mk #[45]).data.toList = [45] from rfl, a1, a2, hbody])
  refine (HQ _).mono ?_
  rintro e w1 ⟨rfl, hb1⟩
  have z1 := hb1.size
  simp at z1
  have hb01 : Below w.heap.size w w1 := Below.trans (by go_grown) (hb1.mono (by simp))
  have p0 : w1.cell? ⟨w.heap.size, 0, none⟩ = some (.int .i64 0) := keepC hb1 (by simp) (by simp [go_sem])
  have p1 : w1.cell? ⟨w.heap.size, 1, none⟩ = some (.int .i64 0) := keepC hb1 (by simp) (by simp [go_sem])
  have f0 : w1.frozen? ⟨w.heap.size, 0, none⟩ = false := keepF hb1 (by simp) (by simp [go_sem])
  have f1 : w1.frozen? ⟨w.heap.size, 1, none⟩ = false := keepF hb1 (by simp) (by simp [go_sem])
  have t1 : w.heap.size < w1.heap.size := by omega
  go_wp2_with fail
  refine (HN _).mono ?_
  rintro e w2 ⟨rfl, hb2⟩
  have z2 := hb2.size
  have hb02 := hb01.trans (hb2.mono hb01.size)
  replace p0 := keepC hb2 (by omega) p0
  replace p1 := keepC hb2 (by omega) p1
  replace f0 := keepF hb2 (by omega) f0
  replace f1 := keepF hb2 (by omega) f1
  have t2 : w.heap.size < w2.heap.size := by omega
  go_wp2_with fail
  first | rw [hSS] | skip
  refine (HS _ (ht.step hb02)).mono ?_
  rintro e w3 ⟨rfl, hb3⟩
  have z3 := hb3.size
  have hb03 := hb02.trans (hb3.mono hb02.size)
  replace p0 := keepC hb3 (by omega) p0
  replace p1 := keepC hb3 (by omega) p1
  replace f0 := keepF hb3 (by omega) f0
  replace f1 := keepF hb3 (by omega) f1
  have t3 : w.heap.size < w3.heap.size := by omega
  clear HS HN HQ
  go_wp2_with fail
  refine (HM _ ((ht.step hb03).step (by go_grown)) ((hpw.step hb03).step (by go_grown))).mono ?_
  rintro e w5 ⟨rfl, hb5⟩
  have z5 := hb5.size
  simp at z5
  have k5 : Below w3.heap.size w3 w5 := Below.trans (by go_grown) (hb5.mono (by simp))
  have hb05 := hb03.trans (k5.mono hb03.size)
  replace p0 := keepC k5 (by omega) p0
  replace p1 := keepC k5 (by omega) p1
  replace f0 := keepF k5 (by omega) f0
  replace f1 := keepF k5 (by omega) f1
  have r0 : w5.cell? ⟨w3.heap.size, 0, none⟩ = some (.int .i64 S) := keepC hb5 (by simp) (by simp [go_sem])
  have r1 : w5.cell? ⟨w3.heap.size, 1, none⟩ = some (.int .i64 H) := keepC hb5 (by simp) (by simp [go_sem])
  have t5 : w3.heap.size < w5.heap.size := by omega
  have t6 : w.heap.size < w5.heap.size := by omega
  go_wp2_with fail
  refine bodyPost_ret (v := .tuple #[.agg #[.int .i64 0, .int .i64 0], .int .i64 2]) (by simp [results, Tryd.results23, go_sem, p0, p1]) rfl ⟨rfl, ?_⟩
  exact (hb05.setCell (by simp) _).setCell (by simp) _
set_option maxRecDepth 100000 in
set_option maxHeartbeats 2000000 in
theorem Named_ok_true (s body q r : ByteArray) (dn ok : Bool) (N : Int) (w : World) (a1 : Lib.hasPrefix s.data.toList [45] = dn) (a2 : Lib.trimPrefix s.data.toList [45] = body.data.toList)
    (HQ : ∀ w, Calls Tryd.prog 50 #[.string body] w fun e w' => e = .returned (.tuple #[.string q, .string r]) ∧ Below w.heap.size w w')
    (HN : ∀ w, Calls Tryd.prog 46 #[.string r] w fun e w' => e = .returned (.tuple #[.int .i64 N, .bool ok]) ∧ Below w.heap.size w w')
    (hok : ok = true) (hN : 1 ≤ N) (hN2 : N ≤ 201) (hq : 0 < q.size) (hq6 : q.size ≤ 6) (c : UInt8) (hc : q[0]'hq = c) (H : Int) (hH : H = M.hz c (q.size : Int) (N - 1)) (ht : Tab w) (hpw : Pows w) (T : ByteArray) (Er : Int)
    (hnm : M.NmQ (-(N - 1)) (-H) T Er)
    (hdn : dn = true) (hE : Er = 0) (hT : T = s) :
    Calls Tryd.prog 23 #[.string s] w fun e w' => e = .returned (.tuple #[.agg #[.int .i64 (-(N - 1)), .int .i64 (-H)], .int .i64 0]) ∧ Below w.heap.size w w' := by
  have hbody : (⟨body.data.toList.toArray⟩ : ByteArray) = body := by cases body; simp
  have hem := isE_no hq
  have h3 : ¬ 200 < N - 1 := by omega
  have h4 : ¬ (6 : Int) < q.size := by omega
  have hwb := M.wh_bd (N - 1)
  have hHb : -100000 ≤ H ∧ H ≤ 100000 := by rw [hH]; unfold M.hz; repeat' split <;> omega
  have HS := fun w ht => sized_ok q c (q.size : Int) (N - 1) w ht hq hc rfl (by omega) (by omega) (by omega) H hH
  have HM := fun w ht hpw => Name_any ((-(N - 1))) ((-H)) T Er w ht hpw hnm
  subst hok
  subst hdn
  clear hH hc hnm hwb
  generalize hSS : N - 1 = S at *
  subst hE
  subst hT
  go_enter Tryd.func23, Tryd.ntmps23
  go_wp2_with (go_at_call 49; refine (Tryd.strings_CutPrefix _ _ _).mono ?_; rintro e w' ⟨rfl, hw⟩; rw [hw, show (ByteArray.mk #[45]).data.toList = [45] from rfl, a1, a2, hbody])
  refine (HQ _).mono ?_
  rintro e w1 ⟨rfl, hb1⟩
  have z1 := hb1.size
  simp at z1
  have hb01 : Below w.heap.size w w1 := Below.trans (by go_grown) (hb1.mono (by simp))
  have p0 : w1.cell? ⟨w.heap.size, 0, none⟩ = some (.int .i64 0) := keepC hb1 (by simp) (by simp [go_sem])
  have p1 : w1.cell? ⟨w.heap.size, 1, none⟩ = some (.int .i64 0) := keepC hb1 (by simp) (by simp [go_sem])
  have f0 : w1.frozen? ⟨w.heap.size, 0, none⟩ = false := keepF hb1 (by simp) (by simp [go_sem])
  have f1 : w1.frozen? ⟨w.heap.size, 1, none⟩ = false := keepF hb1 (by simp) (by simp [go_sem])
  have t1 : w.heap.size < w1.heap.size := by omega
  go_wp2_with fail
  refine (HN _).mono ?_
  rintro e w2 ⟨rfl, hb2⟩
  have z2 := hb2.size
  have hb02 := hb01.trans (hb2.mono hb01.size)
  replace p0 := keepC hb2 (by omega) p0
  replace p1 := keepC hb2 (by omega) p1
  replace f0 := keepF hb2 (by omega) f0
  replace f1 := keepF hb2 (by omega) f1
  have t2 : w.heap.size < w2.heap.size := by omega
  go_wp2_with fail
  first | rw [hSS] | skip
  refine (HS _ (ht.step hb02)).mono ?_
  rintro e w3 ⟨rfl, hb3⟩
  have z3 := hb3.size
  have hb03 := hb02.trans (hb3.mono hb02.size)
  replace p0 := keepC hb3 (by omega) p0
  replace p1 := keepC hb3 (by omega) p1
  replace f0 := keepF hb3 (by omega) f0
  replace f1 := keepF hb3 (by omega) f1
  have t3 : w.heap.size < w3.heap.size := by omega
  clear HS HN HQ
  go_wp2_with fail
  refine (turned_any S H _ (by omega) (by omega) (by omega) (by omega)).mono ?_
  rintro e w4 ⟨rfl, hb4⟩
  have z4 := hb4.size
  simp at z4
  have k4 : Below w3.heap.size w3 w4 := Below.trans (by go_grown) (hb4.mono (by simp))
  have hb04 := hb03.trans (k4.mono hb03.size)
  replace p0 := keepC k4 (by omega) p0
  replace p1 := keepC k4 (by omega) p1
  replace f0 := keepF k4 (by omega) f0
  replace f1 := keepF k4 (by omega) f1
  have r0 : w4.cell? ⟨w3.heap.size, 0, none⟩ = some (.int .i64 S) := keepC hb4 (by simp) (by simp [go_sem])
  have r1 : w4.cell? ⟨w3.heap.size, 1, none⟩ = some (.int .i64 H) := keepC hb4 (by simp) (by simp [go_sem])
  have v0 : w4.frozen? ⟨w3.heap.size, 0, none⟩ = false := keepF hb4 (by simp) (by simp [go_sem])
  have v1 : w4.frozen? ⟨w3.heap.size, 1, none⟩ = false := keepF hb4 (by simp) (by simp [go_sem])
  have t4 : w3.heap.size < w4.heap.size := by omega
  have hset : Below w.heap.size w ((w4.setCell ⟨w3.heap.size, 0, none⟩ (.int .i64 (-S))).setCell ⟨w3.heap.size, 1, none⟩ (.int .i64 (-H))) := (hb04.setCell (p := ⟨w3.heap.size, 0, none⟩) hb03.size _).setCell (p := ⟨w3.heap.size, 1, none⟩) hb03.size _
  have kset : Below w3.heap.size w4 ((w4.setCell ⟨w3.heap.size, 0, none⟩ (.int .i64 (-S))).setCell ⟨w3.heap.size, 1, none⟩ (.int .i64 (-H))) := ((Below.refl w3.heap.size w4).setCell (p := ⟨w3.heap.size, 0, none⟩) (Nat.le_refl _) _).setCell (p := ⟨w3.heap.size, 1, none⟩) (Nat.le_refl _) _
  go_wp2_with fail
  refine (HM _ (ht.step hset) (hpw.step hset)).mono ?_
  rintro e w5 ⟨rfl, hb5⟩
  have z5 := hb5.size
  simp [World.setCell] at z5
  have hb05 := hset.trans (hb5.mono hset.size)
  have k5 : Below w3.heap.size w4 w5 := kset.trans (hb5.mono (by simp [World.setCell]; omega))
  replace p0 := keepC k5 (by omega) p0
  replace p1 := keepC k5 (by omega) p1
  replace f0 := keepF k5 (by omega) f0
  replace f1 := keepF k5 (by omega) f1
  have R0 : w5.cell? ⟨w3.heap.size, 0, none⟩ = some (.int .i64 (-S)) := keepC hb5 (by simpa [World.setCell] using t4) (by simp [go_sem, r0])
  have R1 : w5.cell? ⟨w3.heap.size, 1, none⟩ = some (.int .i64 (-H)) := keepC hb5 (by simpa [World.setCell] using t4) (by simp [go_sem, r1])
  clear r0 r1
  have t5 : w3.heap.size < w5.heap.size := by omega
  have t6 : w.heap.size < w5.heap.size := by omega
  go_wp2_with fail
  refine bodyPost_ret (v := .tuple #[.agg #[.int .i64 (-(S)), .int .i64 (-H)], .int .i64 0]) (by simp [results, Tryd.results23, go_sem, p0, p1]) rfl ⟨rfl, ?_⟩
  exact (hb05.setCell (by simp) _).setCell (by simp) _
set_option maxRecDepth 100000 in
set_option maxHeartbeats 2000000 in
theorem Named_e_true (s body q r : ByteArray) (dn ok : Bool) (N : Int) (w : World) (a1 : Lib.hasPrefix s.data.toList [45] = dn) (a2 : Lib.trimPrefix s.data.toList [45] = body.data.toList)
    (HQ : ∀ w, Calls Tryd.prog 50 #[.string body] w fun e w' => e = .returned (.tuple #[.string q, .string r]) ∧ Below w.heap.size w w')
    (HN : ∀ w, Calls Tryd.prog 46 #[.string r] w fun e w' => e = .returned (.tuple #[.int .i64 N, .bool ok]) ∧ Below w.heap.size w w')
    (hok : ok = true) (hN : 1 ≤ N) (hN2 : N ≤ 201) (hq : 0 < q.size) (hq6 : q.size ≤ 6) (c : UInt8) (hc : q[0]'hq = c) (H : Int) (hH : H = M.hz c (q.size : Int) (N - 1)) (ht : Tab w) (hpw : Pows w) (T : ByteArray) (Er : Int)
    (hnm : M.NmQ (-(N - 1)) (-H) T Er)
    (hdn : dn = true) (hE : Er = 3) :
    Calls Tryd.prog 23 #[.string s] w fun e w' => e = .returned (.tuple #[.agg #[.int .i64 0, .int .i64 0], .int .i64 2]) ∧ Below w.heap.size w w' := by
  have hbody : (⟨body.data.toList.toArray⟩ : ByteArray) = body := by cases body; simp
  have hem := isE_no hq
  have h3 : ¬ 200 < N - 1 := by omega
  have h4 : ¬ (6 : Int) < q.size := by omega
  have hwb := M.wh_bd (N - 1)
  have hHb : -100000 ≤ H ∧ H ≤ 100000 := by rw [hH]; unfold M.hz; repeat' split <;> omega
  have HS := fun w ht => sized_ok q c (q.size : Int) (N - 1) w ht hq hc rfl (by omega) (by omega) (by omega) H hH
  have HM := fun w ht hpw => Name_any ((-(N - 1))) ((-H)) T Er w ht hpw hnm
  subst hok
  subst hdn
  clear hH hc hnm hwb
  generalize hSS : N - 1 = S at *
  subst hE
  go_enter Tryd.func23, Tryd.ntmps23
  go_wp2_with (go_at_call 49; refine (Tryd.strings_CutPrefix _ _ _).mono ?_; rintro e w' ⟨rfl, hw⟩; rw [hw, show (ByteArray.mk #[45]).data.toList = [45] from rfl, a1, a2, hbody])
  refine (HQ _).mono ?_
  rintro e w1 ⟨rfl, hb1⟩
  have z1 := hb1.size
  simp at z1
  have hb01 : Below w.heap.size w w1 := Below.trans (by go_grown) (hb1.mono (by simp))
  have p0 : w1.cell? ⟨w.heap.size, 0, none⟩ = some (.int .i64 0) := keepC hb1 (by simp) (by simp [go_sem])
  have p1 : w1.cell? ⟨w.heap.size, 1, none⟩ = some (.int .i64 0) := keepC hb1 (by simp) (by simp [go_sem])
  have f0 : w1.frozen? ⟨w.heap.size, 0, none⟩ = false := keepF hb1 (by simp) (by simp [go_sem])
  have f1 : w1.frozen? ⟨w.heap.size, 1, none⟩ = false := keepF hb1 (by simp) (by simp [go_sem])
  have t1 : w.heap.size < w1.heap.size := by omega
  go_wp2_with fail
  refine (HN _).mono ?_
  rintro e w2 ⟨rfl, hb2⟩
  have z2 := hb2.size
  have hb02 := hb01.trans (hb2.mono hb01.size)
  replace p0 := keepC hb2 (by omega) p0
  replace p1 := keepC hb2 (by omega) p1
  replace f0 := keepF hb2 (by omega) f0
  replace f1 := keepF hb2 (by omega) f1
  have t2 : w.heap.size < w2.heap.size := by omega
  go_wp2_with fail
  first | rw [hSS] | skip
  refine (HS _ (ht.step hb02)).mono ?_
  rintro e w3 ⟨rfl, hb3⟩
  have z3 := hb3.size
  have hb03 := hb02.trans (hb3.mono hb02.size)
  replace p0 := keepC hb3 (by omega) p0
  replace p1 := keepC hb3 (by omega) p1
  replace f0 := keepF hb3 (by omega) f0
  replace f1 := keepF hb3 (by omega) f1
  have t3 : w.heap.size < w3.heap.size := by omega
  clear HS HN HQ
  go_wp2_with fail
  refine (turned_any S H _ (by omega) (by omega) (by omega) (by omega)).mono ?_
  rintro e w4 ⟨rfl, hb4⟩
  have z4 := hb4.size
  simp at z4
  have k4 : Below w3.heap.size w3 w4 := Below.trans (by go_grown) (hb4.mono (by simp))
  have hb04 := hb03.trans (k4.mono hb03.size)
  replace p0 := keepC k4 (by omega) p0
  replace p1 := keepC k4 (by omega) p1
  replace f0 := keepF k4 (by omega) f0
  replace f1 := keepF k4 (by omega) f1
  have r0 : w4.cell? ⟨w3.heap.size, 0, none⟩ = some (.int .i64 S) := keepC hb4 (by simp) (by simp [go_sem])
  have r1 : w4.cell? ⟨w3.heap.size, 1, none⟩ = some (.int .i64 H) := keepC hb4 (by simp) (by simp [go_sem])
  have v0 : w4.frozen? ⟨w3.heap.size, 0, none⟩ = false := keepF hb4 (by simp) (by simp [go_sem])
  have v1 : w4.frozen? ⟨w3.heap.size, 1, none⟩ = false := keepF hb4 (by simp) (by simp [go_sem])
  have t4 : w3.heap.size < w4.heap.size := by omega
  have hset : Below w.heap.size w ((w4.setCell ⟨w3.heap.size, 0, none⟩ (.int .i64 (-S))).setCell ⟨w3.heap.size, 1, none⟩ (.int .i64 (-H))) := (hb04.setCell (p := ⟨w3.heap.size, 0, none⟩) hb03.size _).setCell (p := ⟨w3.heap.size, 1, none⟩) hb03.size _
  have kset : Below w3.heap.size w4 ((w4.setCell ⟨w3.heap.size, 0, none⟩ (.int .i64 (-S))).setCell ⟨w3.heap.size, 1, none⟩ (.int .i64 (-H))) := ((Below.refl w3.heap.size w4).setCell (p := ⟨w3.heap.size, 0, none⟩) (Nat.le_refl _) _).setCell (p := ⟨w3.heap.size, 1, none⟩) (Nat.le_refl _) _
  go_wp2_with fail
  refine (HM _ (ht.step hset) (hpw.step hset)).mono ?_
  rintro e w5 ⟨rfl, hb5⟩
  have z5 := hb5.size
  simp [World.setCell] at z5
  have hb05 := hset.trans (hb5.mono hset.size)
  have k5 : Below w3.heap.size w4 w5 := kset.trans (hb5.mono (by simp [World.setCell]; omega))
  replace p0 := keepC k5 (by omega) p0
  replace p1 := keepC k5 (by omega) p1
  replace f0 := keepF k5 (by omega) f0
  replace f1 := keepF k5 (by omega) f1
  have R0 : w5.cell? ⟨w3.heap.size, 0, none⟩ = some (.int .i64 (-S)) := keepC hb5 (by simpa [World.setCell] using t4) (by simp [go_sem, r0])
  have R1 : w5.cell? ⟨w3.heap.size, 1, none⟩ = some (.int .i64 (-H)) := keepC hb5 (by simpa [World.setCell] using t4) (by simp [go_sem, r1])
  clear r0 r1
  have t5 : w3.heap.size < w5.heap.size := by omega
  have t6 : w.heap.size < w5.heap.size := by omega
  go_wp2_with fail
  refine bodyPost_ret (v := .tuple #[.agg #[.int .i64 0, .int .i64 0], .int .i64 2]) (by simp [results, Tryd.results23, go_sem, p0, p1]) rfl ⟨rfl, ?_⟩
  exact (hb05.setCell (by simp) _).setCell (by simp) _
set_option maxRecDepth 100000 in
set_option maxHeartbeats 2000000 in
theorem Named_t_true (s body q r : ByteArray) (dn ok : Bool) (N : Int) (w : World) (a1 : Lib.hasPrefix s.data.toList [45] = dn) (a2 : Lib.trimPrefix s.data.toList [45] = body.data.toList)
    (HQ : ∀ w, Calls Tryd.prog 50 #[.string body] w fun e w' => e = .returned (.tuple #[.string q, .string r]) ∧ Below w.heap.size w w')
    (HN : ∀ w, Calls Tryd.prog 46 #[.string r] w fun e w' => e = .returned (.tuple #[.int .i64 N, .bool ok]) ∧ Below w.heap.size w w')
    (hok : ok = true) (hN : 1 ≤ N) (hN2 : N ≤ 201) (hq : 0 < q.size) (hq6 : q.size ≤ 6) (c : UInt8) (hc : q[0]'hq = c) (H : Int) (hH : H = M.hz c (q.size : Int) (N - 1)) (ht : Tab w) (hpw : Pows w) (T : ByteArray) (Er : Int)
    (hnm : M.NmQ (-(N - 1)) (-H) T Er)
    (hdn : dn = true) (hE : Er = 0) (hT : T ≠ s) :
    Calls Tryd.prog 23 #[.string s] w fun e w' => e = .returned (.tuple #[.agg #[.int .i64 0, .int .i64 0], .int .i64 2]) ∧ Below w.heap.size w w' := by
  have hbody : (⟨body.data.toList.toArray⟩ : ByteArray) = body := by cases body; simp
  have hem := isE_no hq
  have h3 : ¬ 200 < N - 1 := by omega
  have h4 : ¬ (6 : Int) < q.size := by omega
  have hwb := M.wh_bd (N - 1)
  have hHb : -100000 ≤ H ∧ H ≤ 100000 := by rw [hH]; unfold M.hz; repeat' split <;> omega
  have HS := fun w ht => sized_ok q c (q.size : Int) (N - 1) w ht hq hc rfl (by omega) (by omega) (by omega) H hH
  have HM := fun w ht hpw => Name_any ((-(N - 1))) ((-H)) T Er w ht hpw hnm
  subst hok
  subst hdn
  clear hH hc hnm hwb
  generalize hSS : N - 1 = S at *
  subst hE
  have c1 : (T.toList == s.toList) = false := beq_false_of_ne (fun e => hT (by rw [ByteArray.toList_eq, ByteArray.toList_eq] at e; cases T; cases s; simp_all))
  have c3 : decide (T = s) = false := decide_eq_false hT
  have c5 : (T.toList != s.toList) = true := by rw [bne, c1]; rfl
  go_enter Tryd.func23, Tryd.ntmps23
  go_wp2_with (go_at_call 49; refine (Tryd.strings_CutPrefix _ _ _).mono ?_; rintro e w' ⟨rfl, hw⟩; rw [hw, show (ByteArray.mk #[45]).data.toList = [45] from rfl, a1, a2, hbody])
  refine (HQ _).mono ?_
  rintro e w1 ⟨rfl, hb1⟩
  have z1 := hb1.size
  simp at z1
  have hb01 : Below w.heap.size w w1 := Below.trans (by go_grown) (hb1.mono (by simp))
  have p0 : w1.cell? ⟨w.heap.size, 0, none⟩ = some (.int .i64 0) := keepC hb1 (by simp) (by simp [go_sem])
  have p1 : w1.cell? ⟨w.heap.size, 1, none⟩ = some (.int .i64 0) := keepC hb1 (by simp) (by simp [go_sem])
  have f0 : w1.frozen? ⟨w.heap.size, 0, none⟩ = false := keepF hb1 (by simp) (by simp [go_sem])
  have f1 : w1.frozen? ⟨w.heap.size, 1, none⟩ = false := keepF hb1 (by simp) (by simp [go_sem])
  have t1 : w.heap.size < w1.heap.size := by omega
  go_wp2_with fail
  refine (HN _).mono ?_
  rintro e w2 ⟨rfl, hb2⟩
  have z2 := hb2.size
  have hb02 := hb01.trans (hb2.mono hb01.size)
  replace p0 := keepC hb2 (by omega) p0
  replace p1 := keepC hb2 (by omega) p1
  replace f0 := keepF hb2 (by omega) f0
  replace f1 := keepF hb2 (by omega) f1
  have t2 : w.heap.size < w2.heap.size := by omega
  go_wp2_with fail
  first | rw [hSS] | skip
  refine (HS _ (ht.step hb02)).mono ?_
  rintro e w3 ⟨rfl, hb3⟩
  have z3 := hb3.size
  have hb03 := hb02.trans (hb3.mono hb02.size)
  replace p0 := keepC hb3 (by omega) p0
  replace p1 := keepC hb3 (by omega) p1
  replace f0 := keepF hb3 (by omega) f0
  replace f1 := keepF hb3 (by omega) f1
  have t3 : w.heap.size < w3.heap.size := by omega
  clear HS HN HQ
  go_wp2_with fail
  refine (turned_any S H _ (by omega) (by omega) (by omega) (by omega)).mono ?_
  rintro e w4 ⟨rfl, hb4⟩
  have z4 := hb4.size
  simp at z4
  have k4 : Below w3.heap.size w3 w4 := Below.trans (by go_grown) (hb4.mono (by simp))
  have hb04 := hb03.trans (k4.mono hb03.size)
  replace p0 := keepC k4 (by omega) p0
  replace p1 := keepC k4 (by omega) p1
  replace f0 := keepF k4 (by omega) f0
  replace f1 := keepF k4 (by omega) f1
  have r0 : w4.cell? ⟨w3.heap.size, 0, none⟩ = some (.int .i64 S) := keepC hb4 (by simp) (by simp [go_sem])
  have r1 : w4.cell? ⟨w3.heap.size, 1, none⟩ = some (.int .i64 H) := keepC hb4 (by simp) (by simp [go_sem])
  have v0 : w4.frozen? ⟨w3.heap.size, 0, none⟩ = false := keepF hb4 (by simp) (by simp [go_sem])
  have v1 : w4.frozen? ⟨w3.heap.size, 1, none⟩ = false := keepF hb4 (by simp) (by simp [go_sem])
  have t4 : w3.heap.size < w4.heap.size := by omega
  have hset : Below w.heap.size w ((w4.setCell ⟨w3.heap.size, 0, none⟩ (.int .i64 (-S))).setCell ⟨w3.heap.size, 1, none⟩ (.int .i64 (-H))) := (hb04.setCell (p := ⟨w3.heap.size, 0, none⟩) hb03.size _).setCell (p := ⟨w3.heap.size, 1, none⟩) hb03.size _
  have kset : Below w3.heap.size w4 ((w4.setCell ⟨w3.heap.size, 0, none⟩ (.int .i64 (-S))).setCell ⟨w3.heap.size, 1, none⟩ (.int .i64 (-H))) := ((Below.refl w3.heap.size w4).setCell (p := ⟨w3.heap.size, 0, none⟩) (Nat.le_refl _) _).setCell (p := ⟨w3.heap.size, 1, none⟩) (Nat.le_refl _) _
  go_wp2_with fail
  refine (HM _ (ht.step hset) (hpw.step hset)).mono ?_
  rintro e w5 ⟨rfl, hb5⟩
  have z5 := hb5.size
  simp [World.setCell] at z5
  have hb05 := hset.trans (hb5.mono hset.size)
  have k5 : Below w3.heap.size w4 w5 := kset.trans (hb5.mono (by simp [World.setCell]; omega))
  replace p0 := keepC k5 (by omega) p0
  replace p1 := keepC k5 (by omega) p1
  replace f0 := keepF k5 (by omega) f0
  replace f1 := keepF k5 (by omega) f1
  have R0 : w5.cell? ⟨w3.heap.size, 0, none⟩ = some (.int .i64 (-S)) := keepC hb5 (by simpa [World.setCell] using t4) (by simp [go_sem, r0])
  have R1 : w5.cell? ⟨w3.heap.size, 1, none⟩ = some (.int .i64 (-H)) := keepC hb5 (by simpa [World.setCell] using t4) (by simp [go_sem, r1])
  clear r0 r1
  have t5 : w3.heap.size < w5.heap.size := by omega
  have t6 : w.heap.size < w5.heap.size := by omega
  go_wp2_with fail
  refine bodyPost_ret (v := .tuple #[.agg #[.int .i64 0, .int .i64 0], .int .i64 2]) (by simp [results, Tryd.results23, go_sem, p0, p1]) rfl ⟨rfl, ?_⟩
  exact (hb05.setCell (by simp) _).setCell (by simp) _
end Go.Proofs.YtmccbokjigjpnaaDoor
/- What the program's Named comes to, at every text, in one word. -/
namespace Go.Proofs.YtmccbokjigjpnaaDoor
open Go.RowKit Go.Lib
set_option linter.unusedVariables false
set_option linter.unusedSimpArgs false

theorem M.pow10 (k : Nat) (h : k ≤ 4) : (10 : Int) ^ k ≤ 10000 := by
  rcases (show k = 0 ∨ k = 1 ∨ k = 2 ∨ k = 3 ∨ k = 4 by omega) with rfl | rfl | rfl | rfl | rfl <;> decide
theorem M.valN_bd (s : ByteArray) (h : M.isN s = true) : -10000 ≤ M.valN s ∧ M.valN s ≤ 10000 := by
  rcases Nat.eq_zero_or_pos s.size with h0 | h0
  · rw [M.isN_none s h0] at h; cases h
  · by_cases hm : M.by s 0 = 45
    · obtain ⟨h1, h2⟩ := M.isN_neg s h0 hm
      have hk := h1.1 h
      rw [h2 hk]
      have hv := M.dv_bd (s := s) (i := 1) (k := s.size - 1) (fun j a b => hk.1 j a (by omega))
      have hp := M.pow10 (s.size - 1) (by have := hk.2.1; have := hk.2.2.1; omega)
      omega
    · obtain ⟨h1, h2⟩ := M.isN_pos s h0 hm
      have hk := h1.1 h
      rw [h2 hk]
      have hv := M.dv_bd (s := s) (i := 0) (k := s.size) (fun j a b => hk.1 j a (by omega))
      have hp := M.pow10 s.size (by have := hk.2.1; have := hk.2.2.1; omega)
      omega

theorem Named_any (s : ByteArray) (F E : Nat) (w : World) (hs : s.size ≤ 140737488355328) (hl : M.Lets s F E) (ht : Tab w) (hpw : Pows w) :
    Calls Tryd.prog 23 #[.string s] w fun e w' => NamedR s F E e ∧ Below w.heap.size w w' := by
  have f1 := hl.f1
  have f2 := hl.fe
  have f3 := hl.es
  have a1 := M.lets_pre hl
  have a2 := M.lets_cut hl
  have hbz : (s.extract F s.size).size = s.size - F := by rw [ByteArray.size_extract]; omega
  have hqz : ((s.extract F s.size).extract 0 (E - F)).size = E - F := by rw [ByteArray.size_extract, hbz]; omega
  have HQ := fun w => cutQuality_any (s.extract F s.size) (E - F) w (M.lets_ltr hl) (by omega)
  rw [M.lets_rest hl] at HQ
  have HN := fun w => readNumber_any (s.extract E s.size) w
  have hone := fun S h (s1 : 0 ≤ S) (s2 : S ≤ 200) hn => M.named_one (S := S) (h := h) hl s1 s2 hn
  unfold NamedR
  generalize s.extract F s.size = body at *
  generalize body.extract 0 (E - F) = q at *
  by_cases c1 : E = F ∨ M.isN (s.extract E s.size) = false ∨ M.valN (s.extract E s.size) < 1
  · refine (Named_g1 s body q _ _ _ _ w a1 a2 HQ HN ?_).mono fun e w' h => ⟨.inl ⟨c1, h.1⟩, h.2⟩
    rcases c1 with h | h | h
    · exact .inl (by omega)
    · exact .inr (.inl h)
    · by_cases k : M.isN (s.extract E s.size) = true
      · rw [if_pos k]; exact .inr (.inr h)
      · exact .inr (.inl (by simpa using k))
  · have k : M.isN (s.extract E s.size) = true := by
      cases h : M.isN (s.extract E s.size)
      · exact absurd (.inr (.inl h)) c1
      · rfl
    have hb := M.valN_bd _ k
    simp only [if_pos k] at HN
    have hq0 : 0 < q.size := by omega
    have hN1 : 1 ≤ M.valN (s.extract E s.size) := by omega
    by_cases c2 : 201 < M.valN (s.extract E s.size) ∨ 6 < E - F
    · exact (Named_g2 s body q _ _ _ _ w a1 a2 HQ HN k hN1 (by omega) hq0 (by omega)).mono fun e w' h => ⟨.inr (.inl ⟨c1, c2, h.1⟩), h.2⟩
    · generalize hV : M.valN (s.extract E s.size) = N at *
      obtain ⟨H, hH⟩ : ∃ H, H = M.hz (q[0]'hq0) (q.size : Int) (N - 1) := ⟨_, rfl⟩
      have key : ∀ h, M.NmQ (M.sg' F (N - 1)) (M.sg' F h) s 0 → h = H := fun h hn => by rw [hH]; exact (hone (N - 1) h (by omega) (by omega) hn).2.2 hq0
      rcases (show F = 0 ∨ F = 1 by omega) with rfl | rfl
      · have e1 : ∀ x, M.sg' 0 x = x := fun x => by unfold M.sg'; rw [if_neg (by omega)]
        simp only [e1] at key ⊢
        obtain ⟨T, Er, hnm⟩ := M.nm_some (N - 1) H
        rcases hnm.err with rfl | rfl
        · by_cases hT : T = s
          · refine (Named_ok_false s body q _ _ _ N w a1 a2 HQ HN k hN1 (by omega) hq0 (by omega) _ rfl H hH ht hpw T 0 hnm (by simp) rfl hT).mono fun e w' h => ⟨.inr (.inr ⟨c1, c2, .inl ⟨H, ?_, h.1⟩⟩), h.2⟩
            rw [← hT]; exact hnm
          · refine (Named_t_false s body q _ _ _ N w a1 a2 HQ HN k hN1 (by omega) hq0 (by omega) _ rfl H hH ht hpw T 0 hnm (by simp) rfl hT).mono fun e w' h => ⟨.inr (.inr ⟨c1, c2, .inr ⟨fun x hx => ?_, h.1⟩⟩), h.2⟩
            have := key x hx
            subst this
            exact hT (hnm.one hx).1
        · refine (Named_e_false s body q _ _ _ N w a1 a2 HQ HN k hN1 (by omega) hq0 (by omega) _ rfl H hH ht hpw T 3 hnm (by simp) rfl).mono fun e w' h => ⟨.inr (.inr ⟨c1, c2, .inr ⟨fun x hx => ?_, h.1⟩⟩), h.2⟩
          have := key x hx
          subst this
          have := (hnm.one hx).2
          omega
      · have e1 : ∀ x, M.sg' 1 x = -x := fun x => by unfold M.sg'; rw [if_pos rfl]
        simp only [e1] at key ⊢
        obtain ⟨T, Er, hnm⟩ := M.nm_some (-(N - 1)) (-H)
        rcases hnm.err with rfl | rfl
        · by_cases hT : T = s
          · refine (Named_ok_true s body q _ _ _ N w a1 a2 HQ HN k hN1 (by omega) hq0 (by omega) _ rfl H hH ht hpw T 0 hnm (by simp) rfl hT).mono fun e w' h => ⟨.inr (.inr ⟨c1, c2, .inl ⟨H, ?_, h.1⟩⟩), h.2⟩
            rw [← hT]; exact hnm
          · refine (Named_t_true s body q _ _ _ N w a1 a2 HQ HN k hN1 (by omega) hq0 (by omega) _ rfl H hH ht hpw T 0 hnm (by simp) rfl hT).mono fun e w' h => ⟨.inr (.inr ⟨c1, c2, .inr ⟨fun x hx => ?_, h.1⟩⟩), h.2⟩
            have := key x hx
            subst this
            exact hT (hnm.one hx).1
        · refine (Named_e_true s body q _ _ _ N w a1 a2 HQ HN k hN1 (by omega) hq0 (by omega) _ rfl H hH ht hpw T 3 hnm (by simp) rfl).mono fun e w' h => ⟨.inr (.inr ⟨c1, c2, .inr ⟨fun x hx => ?_, h.1⟩⟩), h.2⟩
          have := key x hx
          subst this
          have := (hnm.one hx).2
          omega
end Go.Proofs.YtmccbokjigjpnaaDoor
