/- The program's Read at every text. -/
import Derived.Test.YtmccbokjigjpnaaDoorQT12
namespace Go.Proofs.YtmccbokjigjpnaaDoor
open Go.RowKit Go.Lib Go.Joins
set_option linter.unusedSimpArgs false
set_option linter.unusedVariables false

namespace M
theorem scan_bd (s : ByteArray) : ∀ (b pos : Nat) (a : Int), 0 ≤ (scan s b pos a).2.1 ∧ (scan s b pos a).2.1 ≤ s.size
  | 0, pos, a => by simp [scan]
  | b + 1, pos, a => by
    unfold scan
    split
    · split
      · simp; omega
      · split
        · simp; omega
        · exact scan_bd s b _ _
    · simp
theorem sg_bd (s : ByteArray) : 0 ≤ (sg s).2.1 ∧ (sg s).2.1 ≤ s.size := by
  unfold sg
  split
  · rename_i h
    have h3 : 3 ≤ s.size := by
      rw [Lib.size_eq]
      unfold Lib.hasPrefix at h
      have := List.IsPrefix.length_le (List.isPrefixOf_iff_prefix.1 h)
      simpa using this
    simp; omega
  · exact scan_bd s _ _ _
def ix (s : ByteArray) : Int := Lib.indexByte [67, 68, 69, 70, 71, 65, 66] (s.data.toList.headD 0)
def r1 (s : ByteArray) : ByteArray := s.extract 1 s.size
def at' (s : ByteArray) : Int := 1 + (sg (r1 s)).2.1
def r2 (s : ByteArray) : ByteArray := s.extract (at' s).toNat s.size
end M

theorem wrongAt_any (p e' : Int) (w : World) :
    Calls Tryd.prog 43 #[.int .i64 p, .int .i64 e'] w fun e w' => e = .returned (.tuple #[.agg #[.int .i64 0, .int .i64 0, .int .i64 0], .agg #[.int .i64 e', .int .i64 p]]) ∧ Below w.heap.size w w' := by
  go_enter Tryd.func43, Tryd.ntmps43
  go_wp2
  refine bodyPost_ret (v := .tuple #[.agg #[.int .i64 0, .int .i64 0, .int .i64 0], .agg #[.int .i64 e', .int .i64 p]]) (by simp [results, Tryd.results43, go_sem]) rfl ⟨rfl, by go_grown⟩

set_option maxRecDepth 100000 in
set_option maxHeartbeats 2000000 in
theorem Read_none (s : ByteArray) (w : World) (h : s.size = 0) :
    Calls Tryd.prog 21 #[.string s] w fun e w' => e = .returned (.tuple #[.agg #[.int .i64 0, .int .i64 0, .int .i64 0], .agg #[.int .i64 (2), .int .i64 (0)]]) ∧ Below w.heap.size w w' := by
  have hem : s.toList.isEmpty = true := by
    rw [ByteArray.toList_eq]
    have : s.data.toList.length = 0 := by rw [← Lib.size_eq]; exact h
    rw [List.isEmpty_iff]; exact List.length_eq_zero_iff.1 this
  go_enter Tryd.func21, Tryd.ntmps21
  go_wp2_with fail
  refine (wrongAt_any _ _ _).mono ?_
  rintro e w9 ⟨rfl, hb9⟩
  have z9 := hb9.size
  simp at z9
  have hb09 : Below w.heap.size w w9 := Below.trans (by go_grown) (hb9.mono (by simp; omega))
  have p0 : w9.cell? ⟨w.heap.size, 0, none⟩ = some (.int .i64 0) := keepC hb9 (by (first | (simp; done) | (simp; omega))) (by simp [go_sem])
  have p1 : w9.cell? ⟨w.heap.size, 1, none⟩ = some (.int .i64 0) := keepC hb9 (by (first | (simp; done) | (simp; omega))) (by simp [go_sem])
  have p2 : w9.cell? ⟨w.heap.size, 2, none⟩ = some (.int .i64 0) := keepC hb9 (by (first | (simp; done) | (simp; omega))) (by simp [go_sem])
  have q0 : w9.cell? ⟨w.heap.size + 1, 0, none⟩ = some (.int .i64 0) := keepC hb9 (by (first | (simp; done) | (simp; omega))) (by simp [go_sem])
  have q1 : w9.cell? ⟨w.heap.size + 1, 1, none⟩ = some (.int .i64 0) := keepC hb9 (by (first | (simp; done) | (simp; omega))) (by simp [go_sem])
  have f0 : w9.frozen? ⟨w.heap.size, 0, none⟩ = false := keepF hb9 (by (first | (simp; done) | (simp; omega))) (by simp [go_sem])
  have f1 : w9.frozen? ⟨w.heap.size, 1, none⟩ = false := keepF hb9 (by (first | (simp; done) | (simp; omega))) (by simp [go_sem])
  have f2 : w9.frozen? ⟨w.heap.size, 2, none⟩ = false := keepF hb9 (by (first | (simp; done) | (simp; omega))) (by simp [go_sem])
  have g0 : w9.frozen? ⟨w.heap.size + 1, 0, none⟩ = false := keepF hb9 (by (first | (simp; done) | (simp; omega))) (by simp [go_sem])
  have g1 : w9.frozen? ⟨w.heap.size + 1, 1, none⟩ = false := keepF hb9 (by (first | (simp; done) | (simp; omega))) (by simp [go_sem])
  have t9 : w.heap.size + 1 < w9.heap.size := by omega
  go_wp2_with fail
  refine bodyPost_ret (v := .tuple #[.agg #[.int .i64 0, .int .i64 0, .int .i64 0], .agg #[.int .i64 (2), .int .i64 (0)]]) (by simp [results, Tryd.results21, go_sem, p0, p1, p2, q0, q1]) rfl ⟨rfl, ?_⟩
  exact ((((hb09.setCell (by simp) _).setCell (by simp) _).setCell (by simp) _).setCell (by simp) _).setCell (by simp) _

set_option maxRecDepth 100000 in
set_option maxHeartbeats 2000000 in
theorem Read_letter (s : ByteArray) (w : World) (h0 : 0 < s.size) (hl : M.ix s < 0) :
    Calls Tryd.prog 21 #[.string s] w fun e w' => e = .returned (.tuple #[.agg #[.int .i64 0, .int .i64 0, .int .i64 0], .agg #[.int .i64 (2), .int .i64 (0)]]) ∧ Below w.heap.size w w' := by
  have hem : s.toList.isEmpty = false := by
    rw [ByteArray.toList_eq]
    cases hc : s.data.toList with
    | nil => exact absurd h0 (by rw [Lib.size_eq, hc]; decide)
    | cons x r => rfl
  have hlen : (1 : Int) ≤ s.size := by omega
  have hh : s[0]'h0 = s.data.toList.headD 0 := by
    have hl : 0 < s.data.toList.length := by rw [← Lib.size_eq]; exact h0
    exact (show s[0]'h0 = s.data.toList[0]'hl from rfl).trans (head_eq _ hl)
  have hix : ((s[0]'h0).toNat : Int).toNat.toUInt8 = s[0]'h0 := by simp
  have h1 : Lib.indexByte [67, 68, 69, 70, 71, 65, 66] (s[0]'h0) = M.ix s := by rw [hh]; rfl
  clear hh
  have h3 : s.extract 1 s.size = M.r1 s := rfl
  go_enter Tryd.func21, Tryd.ntmps21
  go_wp2_with (go_at_call 44; refine (Tryd.strings_IndexByte _ _ _).mono ?_; rintro e w' ⟨rfl, hw⟩; rw [hw, hix, show (ByteArray.mk #[67, 68, 69, 70, 71, 65, 66]).data.toList = [67, 68, 69, 70, 71, 65, 66] from rfl, h1])
  refine (wrongAt_any _ _ _).mono ?_
  rintro e w9 ⟨rfl, hb9⟩
  have z9 := hb9.size
  simp at z9
  have hb09 : Below w.heap.size w w9 := Below.trans (by go_grown) (hb9.mono (by simp; omega))
  have p0 : w9.cell? ⟨w.heap.size, 0, none⟩ = some (.int .i64 0) := keepC hb9 (by (first | (simp; done) | (simp; omega))) (by simp [go_sem])
  have p1 : w9.cell? ⟨w.heap.size, 1, none⟩ = some (.int .i64 0) := keepC hb9 (by (first | (simp; done) | (simp; omega))) (by simp [go_sem])
  have p2 : w9.cell? ⟨w.heap.size, 2, none⟩ = some (.int .i64 0) := keepC hb9 (by (first | (simp; done) | (simp; omega))) (by simp [go_sem])
  have q0 : w9.cell? ⟨w.heap.size + 1, 0, none⟩ = some (.int .i64 0) := keepC hb9 (by (first | (simp; done) | (simp; omega))) (by simp [go_sem])
  have q1 : w9.cell? ⟨w.heap.size + 1, 1, none⟩ = some (.int .i64 0) := keepC hb9 (by (first | (simp; done) | (simp; omega))) (by simp [go_sem])
  have f0 : w9.frozen? ⟨w.heap.size, 0, none⟩ = false := keepF hb9 (by (first | (simp; done) | (simp; omega))) (by simp [go_sem])
  have f1 : w9.frozen? ⟨w.heap.size, 1, none⟩ = false := keepF hb9 (by (first | (simp; done) | (simp; omega))) (by simp [go_sem])
  have f2 : w9.frozen? ⟨w.heap.size, 2, none⟩ = false := keepF hb9 (by (first | (simp; done) | (simp; omega))) (by simp [go_sem])
  have g0 : w9.frozen? ⟨w.heap.size + 1, 0, none⟩ = false := keepF hb9 (by (first | (simp; done) | (simp; omega))) (by simp [go_sem])
  have g1 : w9.frozen? ⟨w.heap.size + 1, 1, none⟩ = false := keepF hb9 (by (first | (simp; done) | (simp; omega))) (by simp [go_sem])
  have t9 : w.heap.size + 1 < w9.heap.size := by omega
  go_wp2_with fail
  refine bodyPost_ret (v := .tuple #[.agg #[.int .i64 0, .int .i64 0, .int .i64 0], .agg #[.int .i64 (2), .int .i64 (0)]]) (by simp [results, Tryd.results21, go_sem, p0, p1, p2, q0, q1]) rfl ⟨rfl, ?_⟩
  exact ((((hb09.setCell (by simp) _).setCell (by simp) _).setCell (by simp) _).setCell (by simp) _).setCell (by simp) _

end Go.Proofs.YtmccbokjigjpnaaDoor
