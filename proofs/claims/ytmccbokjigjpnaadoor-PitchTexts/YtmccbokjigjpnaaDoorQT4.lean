/- What the program's Read comes to at a text that is a pitch. -/
import Derived.Test.YtmccbokjigjpnaaDoorQT3
namespace Go.Proofs.YtmccbokjigjpnaaDoor
open Go.RowKit Go.Lib Go.Joins
set_option linter.unusedSimpArgs false
set_option linter.unusedVariables false

/-- A text that is a pitch: its letter, its signs, its octave, where the octave begins. -/
structure IsPitch (s s1 s2 d : ByteArray) (neg : Bool) (l a o : Int) (k : Nat) : Prop where
  pos : 0 < s.size
  letter : Lib.indexByte [67, 68, 69, 70, 71, 65, 66] (s[0]'pos) = l
  lpos : 0 ≤ l
  rest : s.extract 1 s.size = s1
  small : s1.size ≤ 1000
  signs : M.sg s1 = (a, (k : Int), 0)
  k1 : k + 1 ≤ s.size
  k2 : s.size ≤ 1000
  rest2 : s.extract (1 + k) s.size = s2
  num : IsNum s2 d neg o
  o1 : -12 ≤ o
  o2 : o ≤ 12

set_option maxRecDepth 100000 in
set_option maxHeartbeats 2000000 in
theorem Read_ok (s s1 s2 d : ByteArray) (neg : Bool) (l a o : Int) (k : Nat) (w : World) (h : IsPitch s s1 s2 d neg l a o k) :
    Calls Tryd.prog 21 #[.string s] w fun e w' => e = .returned (.tuple #[.agg #[.int .i64 l, .int .i64 a, .int .i64 o], .agg #[.int .i64 0, .int .i64 0]]) ∧ Below w.heap.size w w' := by
  obtain ⟨h0, h1, h2, h3, h4, h5, h6, h7, h8, h9, h10, h11⟩ := h
  have hem : s.toList.isEmpty = false := by
    rw [ByteArray.toList_eq]
    cases hc : s.data.toList with
    | nil => exact absurd h0 (by rw [Lib.size_eq, hc]; decide)
    | cons x r => rfl
  have hlen : (1 : Int) ≤ s.size := by omega
  have hk : (1 : Int) + k ≤ s.size := by omega
  have hto : ((1 : Int) + k).toNat = 1 + k := by omega
  have hwi : M.wi o 12 = true := by unfold M.wi; simp; omega
  go_enter Tryd.func21, Tryd.ntmps21
  have hix : ((s[0]'h0).toNat : Int).toNat.toUInt8 = s[0]'h0 := by simp
  go_wp2_with (go_at_call 44; refine (Tryd.strings_IndexByte _ _ _).mono ?_; rintro e w' ⟨rfl, hw⟩; rw [hw, hix, show (ByteArray.mk #[67, 68, 69, 70, 71, 65, 66]).data.toList = [67, 68, 69, 70, 71, 65, 66] from rfl, h1])
  refine (readSigns_any s1 _ (by omega)).mono ?_
  rintro e w1 ⟨rfl, hb1⟩
  rw [h5]
  have z1 := hb1.size
  simp at z1
  have hb01 : Below w.heap.size w w1 := Below.trans (by go_grown) (hb1.mono (by simp; omega))
  have p0 : w1.cell? ⟨w.heap.size, 0, none⟩ = some (.int .i64 0) := keepC hb1 (by simp; omega) (by simp [go_sem])
  have p1 : w1.cell? ⟨w.heap.size, 1, none⟩ = some (.int .i64 0) := keepC hb1 (by simp; omega) (by simp [go_sem])
  have p2 : w1.cell? ⟨w.heap.size, 2, none⟩ = some (.int .i64 0) := keepC hb1 (by simp; omega) (by simp [go_sem])
  have q0 : w1.cell? ⟨w.heap.size + 1, 0, none⟩ = some (.int .i64 0) := keepC hb1 (by simp) (by simp [go_sem])
  have q1 : w1.cell? ⟨w.heap.size + 1, 1, none⟩ = some (.int .i64 0) := keepC hb1 (by simp) (by simp [go_sem])
  have f0 : w1.frozen? ⟨w.heap.size, 0, none⟩ = false := keepF hb1 (by simp; omega) (by simp [go_sem])
  have f1 : w1.frozen? ⟨w.heap.size, 1, none⟩ = false := keepF hb1 (by simp; omega) (by simp [go_sem])
  have f2 : w1.frozen? ⟨w.heap.size, 2, none⟩ = false := keepF hb1 (by simp; omega) (by simp [go_sem])
  have g0 : w1.frozen? ⟨w.heap.size + 1, 0, none⟩ = false := keepF hb1 (by simp) (by simp [go_sem])
  have g1 : w1.frozen? ⟨w.heap.size + 1, 1, none⟩ = false := keepF hb1 (by simp) (by simp [go_sem])
  have t1 : w.heap.size + 1 < w1.heap.size := by omega
  go_wp2_with fail
  refine (readNumber_ok s2 d neg o _ h9).mono ?_
  rintro e w2 ⟨rfl, hb2⟩
  have z2 := hb2.size
  replace p0 := keepC hb2 (by omega) p0
  replace p1 := keepC hb2 (by omega) p1
  replace p2 := keepC hb2 (by omega) p2
  replace q0 := keepC hb2 (by omega) q0
  replace q1 := keepC hb2 (by omega) q1
  replace f0 := keepF hb2 (by omega) f0
  replace f1 := keepF hb2 (by omega) f1
  replace f2 := keepF hb2 (by omega) f2
  replace g0 := keepF hb2 (by omega) g0
  replace g1 := keepF hb2 (by omega) g1
  have hb02 := hb01.trans (hb2.mono hb01.size)
  go_wp2_with (go_at_call 27; refine (within_any _ _ _ (by omega) (by omega)).mono ?_; rintro e w' ⟨rfl, hw⟩; rw [hw, hwi])
  refine bodyPost_ret (v := .tuple #[.agg #[.int .i64 l, .int .i64 a, .int .i64 o], .agg #[.int .i64 0, .int .i64 0]]) (by simp [results, Tryd.results21, go_sem, p0, p1, p2, q0, q1]) rfl ⟨rfl, ?_⟩
  exact ((((hb02.setCell (by simp) _).setCell (by simp) _).setCell (by simp) _).setCell (by simp) _).setCell (by simp) _
end Go.Proofs.YtmccbokjigjpnaaDoor
