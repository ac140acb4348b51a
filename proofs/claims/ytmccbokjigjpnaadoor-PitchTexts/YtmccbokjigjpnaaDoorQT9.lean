/- What the program's Named comes to at a text that is a name. -/
import Derived.Test.YtmccbokjigjpnaaDoorQT8
namespace Go.Proofs.YtmccbokjigjpnaaDoor
open Go.RowKit Go.Lib Go.Joins
set_option linter.unusedSimpArgs false
set_option linter.unusedVariables false

/-- A text that is a name: of an interval that goes S steps up and H half tones. -/
structure IsName (t body q r d : ByteArray) (neg : Bool) (c : UInt8) (k : Nat) (S H : Int) : Prop where
  pre : Lib.hasPrefix t.data.toList [45] = neg
  cut : Lib.trimPrefix t.data.toList [45] = body.data.toList
  plain : ∀ i (h : i < body.size), (body[i]'h).toNat < 128
  idx : Lib.idxFunc M.nl true body = (k : Int)
  k1 : k ≤ body.size
  short : body.size ≤ 1000
  letters : body.extract 0 k = q
  rest : body.extract k body.size = r
  num : IsNum r d false (S + 1)
  some' : 0 < q.size
  first : q[0]'some' = c
  many : (q.size : Int) = k
  few : k ≤ 6
  s1 : 0 ≤ S
  s2 : S ≤ 200
  h1 : -100000 ≤ H
  h2 : H ≤ 100000
  size : H = if c = 65 then M.wh S + k else if c = 109 then M.wh S - 1 else if c = 100 then (if M.pf S = true then M.wh S - k else M.wh S - k - 1) else M.wh S

set_option maxRecDepth 100000 in
set_option maxHeartbeats 2000000 in
theorem Named_up (t body q r d : ByteArray) (c : UInt8) (k : Nat) (S H : Int) (w : World) (ht : Tab w) (hpw : Pows w) (hx : IsName t body q r d false c k S H)
    (hname : ∀ W, Tab W → Pows W → Calls Tryd.prog 19 #[.agg #[.int .i64 S, .int .i64 H]] W fun e w' => e = .returned (.tuple #[.string t, .int .i64 0]) ∧ Below W.heap.size W w') :
    Calls Tryd.prog 23 #[.string t] w fun e w' => e = .returned (.tuple #[.agg #[.int .i64 S, .int .i64 H], .int .i64 0]) ∧ Below w.heap.size w w' := by
  obtain ⟨a1, a2, a3, a4, a5, a6, a7, a8, a9, b1, b2, b3, b4, b5, b6, b7, b8, b9⟩ := hx
  have hbody : (⟨body.data.toList.toArray⟩ : ByteArray) = body := by cases body; simp
  have hem : q.toList.isEmpty = false := by
    rw [ByteArray.toList_eq]
    cases hc : q.data.toList with
    | nil => exact absurd b1 (by rw [Lib.size_eq, hc]; decide)
    | cons x r => rfl
  have hk6 : (k : Int) ≤ 6 := by omega
  go_enter Tryd.func23, Tryd.ntmps23
  go_wp2_with (go_at_call 49; refine (Tryd.strings_CutPrefix _ _ _).mono ?_; rintro e w' ⟨rfl, hw⟩; rw [hw, show (ByteArray.mk #[45]).data.toList = [45] from rfl, a1, a2, hbody])
  refine (cutQuality_ok body q r k _ a3 a4 a5 a6 a7 a8).mono ?_
  rintro e w1 ⟨rfl, hb1⟩
  have z1 := hb1.size
  simp at z1
  have hb01 : Below w.heap.size w w1 := Below.trans (by go_grown) (hb1.mono (by simp))
  have p0 : w1.cell? ⟨w.heap.size, 0, none⟩ = some (.int .i64 0) := keepC hb1 (by simp) (by simp [go_sem])
  have p1 : w1.cell? ⟨w.heap.size, 1, none⟩ = some (.int .i64 0) := keepC hb1 (by simp) (by simp [go_sem])
  have f0 : w1.frozen? ⟨w.heap.size, 0, none⟩ = false := keepF hb1 (by simp) (by simp [go_sem])
  have f1 : w1.frozen? ⟨w.heap.size, 1, none⟩ = false := keepF hb1 (by simp) (by simp [go_sem])
  have t1 : w.heap.size < w1.heap.size := by omega
  go_wp2_with fail
  refine (readNumber_ok r d false (S + 1) _ a9).mono ?_
  rintro e w2 ⟨rfl, hb2⟩
  have z2 := hb2.size
  have hb02 := hb01.trans (hb2.mono hb01.size)
  replace p0 := keepC hb2 (by omega) p0
  replace p1 := keepC hb2 (by omega) p1
  replace f0 := keepF hb2 (by omega) f0
  replace f1 := keepF hb2 (by omega) f1
  have t2 : w.heap.size < w2.heap.size := by omega
  go_wp2_with fail
  try rw [show S + 1 - 1 = S by omega]
  refine (sized_ok q c k S _ (ht.step hb02) b1 b2 b3 hk6 b5 (by omega) H b9).mono ?_
  rintro e w3 ⟨rfl, hb3⟩
  have z3 := hb3.size
  have hb03 := hb02.trans (hb3.mono hb02.size)
  replace p0 := keepC hb3 (by omega) p0
  replace p1 := keepC hb3 (by omega) p1
  replace f0 := keepF hb3 (by omega) f0
  replace f1 := keepF hb3 (by omega) f1
  have t3 : w.heap.size < w3.heap.size := by omega
  clear b9
  go_wp2_with fail
  refine (hname _ ((ht.step hb03).step (by go_grown)) ((hpw.step hb03).step (by go_grown))).mono ?_
  rintro e w5 ⟨rfl, hb5⟩
  have z5 := hb5.size
  simp at z5
  have k5 : Below w3.heap.size w3 w5 := Below.trans (by go_grown) (hb5.mono (by simp))
  have hb05 := hb03.trans (k5.mono hb03.size)
  replace p0 := keepC k5 (by omega) p0
  replace p1 := keepC k5 (by omega) p1
  replace f0 := keepF k5 (by omega) f0
  replace f1 := keepF k5 (by omega) f1
  have r0 : w5.cell? ⟨w3.heap.size, 0, none⟩ = some (.int .i64 S) := keepC hb5 (by simp) (by simp [go_sem])
  have r1 : w5.cell? ⟨w3.heap.size, 1, none⟩ = some (.int .i64 H) := keepC hb5 (by simp) (by simp [go_sem])
  have t5 : w3.heap.size < w5.heap.size := by omega
  have t6 : w.heap.size < w5.heap.size := by omega
  go_wp2_with fail
  refine bodyPost_ret (v := .tuple #[.agg #[.int .i64 S, .int .i64 H], .int .i64 0]) (by simp [results, Tryd.results23, go_sem, p0, p1]) rfl ⟨rfl, ?_⟩
  exact (hb05.setCell (by simp) _).setCell (by simp) _

set_option maxRecDepth 100000 in
set_option maxHeartbeats 2000000 in
theorem Named_dn (t body q r d : ByteArray) (c : UInt8) (k : Nat) (S H : Int) (w : World) (ht : Tab w) (hpw : Pows w) (hx : IsName t body q r d true c k S H)
    (hname : ∀ W, Tab W → Pows W → Calls Tryd.prog 19 #[.agg #[.int .i64 (-S), .int .i64 (-H)]] W fun e w' => e = .returned (.tuple #[.string t, .int .i64 0]) ∧ Below W.heap.size W w') :
    Calls Tryd.prog 23 #[.string t] w fun e w' => e = .returned (.tuple #[.agg #[.int .i64 (-S), .int .i64 (-H)], .int .i64 0]) ∧ Below w.heap.size w w' := by
  obtain ⟨a1, a2, a3, a4, a5, a6, a7, a8, a9, b1, b2, b3, b4, b5, b6, b7, b8, b9⟩ := hx
  have hbody : (⟨body.data.toList.toArray⟩ : ByteArray) = body := by cases body; simp
  have hem : q.toList.isEmpty = false := by
    rw [ByteArray.toList_eq]
    cases hc : q.data.toList with
    | nil => exact absurd b1 (by rw [Lib.size_eq, hc]; decide)
    | cons x r => rfl
  have hk6 : (k : Int) ≤ 6 := by omega
  go_enter Tryd.func23, Tryd.ntmps23
  go_wp2_with (go_at_call 49; refine (Tryd.strings_CutPrefix _ _ _).mono ?_; rintro e w' ⟨rfl, hw⟩; rw [hw, show (ByteArray.mk #[45]).data.toList = [45] from rfl, a1, a2, hbody])
  refine (cutQuality_ok body q r k _ a3 a4 a5 a6 a7 a8).mono ?_
  rintro e w1 ⟨rfl, hb1⟩
  have z1 := hb1.size
  simp at z1
  have hb01 : Below w.heap.size w w1 := Below.trans (by go_grown) (hb1.mono (by simp))
  have p0 : w1.cell? ⟨w.heap.size, 0, none⟩ = some (.int .i64 0) := keepC hb1 (by simp) (by simp [go_sem])
  have p1 : w1.cell? ⟨w.heap.size, 1, none⟩ = some (.int .i64 0) := keepC hb1 (by simp) (by simp [go_sem])
  have f0 : w1.frozen? ⟨w.heap.size, 0, none⟩ = false := keepF hb1 (by simp) (by simp [go_sem])
  have f1 : w1.frozen? ⟨w.heap.size, 1, none⟩ = false := keepF hb1 (by simp) (by simp [go_sem])
  have t1 : w.heap.size < w1.heap.size := by omega
  go_wp2_with fail
  refine (readNumber_ok r d false (S + 1) _ a9).mono ?_
  rintro e w2 ⟨rfl, hb2⟩
  have z2 := hb2.size
  have hb02 := hb01.trans (hb2.mono hb01.size)
  replace p0 := keepC hb2 (by omega) p0
  replace p1 := keepC hb2 (by omega) p1
  replace f0 := keepF hb2 (by omega) f0
  replace f1 := keepF hb2 (by omega) f1
  have t2 : w.heap.size < w2.heap.size := by omega
  go_wp2_with fail
  try rw [show S + 1 - 1 = S by omega]
  refine (sized_ok q c k S _ (ht.step hb02) b1 b2 b3 hk6 b5 (by omega) H b9).mono ?_
  rintro e w3 ⟨rfl, hb3⟩
  have z3 := hb3.size
  have hb03 := hb02.trans (hb3.mono hb02.size)
  replace p0 := keepC hb3 (by omega) p0
  replace p1 := keepC hb3 (by omega) p1
  replace f0 := keepF hb3 (by omega) f0
  replace f1 := keepF hb3 (by omega) f1
  have t3 : w.heap.size < w3.heap.size := by omega
  clear b9
  go_wp2_with fail
  refine (turned_any S H _ (by omega) (by omega) (by omega) (by omega)).mono ?_
  rintro e w4 ⟨rfl, hb4⟩
  have z4 := hb4.size
  simp at z4
  have k4 : Below w3.heap.size w3 w4 := Below.trans (by go_grown) (hb4.mono (by simp))
  have hb04 := hb03.trans (k4.mono hb03.size)
  replace p0 := keepC k4 (by omega) p0
  replace p1 := keepC k4 (by omega) p1
  replace f0 := keepF k4 (by omega) f0
  replace f1 := keepF k4 (by omega) f1
  have r0 : w4.cell? ⟨w3.heap.size, 0, none⟩ = some (.int .i64 S) := keepC hb4 (by simp) (by simp [go_sem])
  have r1 : w4.cell? ⟨w3.heap.size, 1, none⟩ = some (.int .i64 H) := keepC hb4 (by simp) (by simp [go_sem])
  have v0 : w4.frozen? ⟨w3.heap.size, 0, none⟩ = false := keepF hb4 (by simp) (by simp [go_sem])
  have v1 : w4.frozen? ⟨w3.heap.size, 1, none⟩ = false := keepF hb4 (by simp) (by simp [go_sem])
  have t4 : w3.heap.size < w4.heap.size := by omega
  have hset : Below w.heap.size w ((w4.setCell ⟨w3.heap.size, 0, none⟩ (.int .i64 (-S))).setCell ⟨w3.heap.size, 1, none⟩ (.int .i64 (-H))) := (hb04.setCell (p := ⟨w3.heap.size, 0, none⟩) hb03.size _).setCell (p := ⟨w3.heap.size, 1, none⟩) hb03.size _
  have kset : Below w3.heap.size w4 ((w4.setCell ⟨w3.heap.size, 0, none⟩ (.int .i64 (-S))).setCell ⟨w3.heap.size, 1, none⟩ (.int .i64 (-H))) := ((Below.refl w3.heap.size w4).setCell (p := ⟨w3.heap.size, 0, none⟩) (Nat.le_refl _) _).setCell (p := ⟨w3.heap.size, 1, none⟩) (Nat.le_refl _) _
  go_wp2_with fail
  refine (hname _ (ht.step hset) (hpw.step hset)).mono ?_
  rintro e w5 ⟨rfl, hb5⟩
  have z5 := hb5.size
  simp [World.setCell] at z5
  have hb05 := hset.trans (hb5.mono hset.size)
  have k5 : Below w3.heap.size w4 w5 := kset.trans (hb5.mono (by simp [World.setCell]; omega))
  replace p0 := keepC k5 (by omega) p0
  replace p1 := keepC k5 (by omega) p1
  replace f0 := keepF k5 (by omega) f0
  replace f1 := keepF k5 (by omega) f1
  have R0 : w5.cell? ⟨w3.heap.size, 0, none⟩ = some (.int .i64 (-S)) := keepC hb5 (by simpa [World.setCell] using t4) (by simp [go_sem, r0])
  have R1 : w5.cell? ⟨w3.heap.size, 1, none⟩ = some (.int .i64 (-H)) := keepC hb5 (by simpa [World.setCell] using t4) (by simp [go_sem, r1])
  clear r0 r1
  have t5 : w3.heap.size < w5.heap.size := by omega
  have t6 : w.heap.size < w5.heap.size := by omega
  go_wp2_with fail
  refine bodyPost_ret (v := .tuple #[.agg #[.int .i64 (-S), .int .i64 (-H)], .int .i64 0]) (by simp [results, Tryd.results23, go_sem, p0, p1]) rfl ⟨rfl, ?_⟩
  exact (hb05.setCell (by simp) _).setCell (by simp) _

end Go.Proofs.YtmccbokjigjpnaaDoor
