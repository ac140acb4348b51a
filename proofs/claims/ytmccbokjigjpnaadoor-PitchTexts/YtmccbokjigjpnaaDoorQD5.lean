/- What the document's Name comes to, downwards. -/
import Derived.Test.YtmccbokjigjpnaaDoorQD4
namespace Go.Proofs.YtmccbokjigjpnaaDoor
open Go.RowKit
attribute [local go_sem ↓] Go.wp_at_zero Go.wp_at_succ
set_option linter.unusedSimpArgs false
set_option linter.unusedVariables false

theorem M.inb_neg {s h : Int} (hi : M.inb s h = true) : M.inb (-s) (-h) = true := by
  have := M.inb_yes hi
  unfold M.inb; simp; omega
theorem M.ndn_is (s h : Int) : M.ndn s h = ⟨#[45]⟩ ++ M.nup (-s) (-h) := by
  unfold M.ndn M.nup
  rw [List.append_assoc, ← ba_app]
theorem M.nup_size (s h : Int) (h1 : -900 ≤ s) (h2 : s ≤ 900) (hq : M.un s h ≤ 6) : (M.nup s h).size ≤ 10 := by
  have hz := itoa_size (s + 1) (by omega) (by omega)
  unfold M.nup M.ut
  rw [← ba_app, ByteArray.size_append]
  have : (⟨(List.replicate (M.un s h).toNat (M.qc (M.pf s) (h - M.wh s))).toArray⟩ : ByteArray).size = (M.un s h).toNat := by
    show (List.replicate _ _).toArray.size = _
    rw [List.size_toArray, List.length_replicate]
  omega

set_option maxHeartbeats 1000000 in
theorem refName_dn (s h : Int) (w : World) (hi : M.inb s h = true) (hdn : s < 0 ∨ (s = 0 ∧ h < 0)) (hq : M.un (-s) (-h) ≤ 6) :
    Calls Tryd.prog 20 #[.agg #[.int .i64 s, .int .i64 h]] w fun e w' => e = .returned (.tuple #[.string (M.ndn s h), .int .i64 0]) ∧ Below w.heap.size w w' := by
  have hb := M.inb_yes hi
  have hin := M.inb_neg hi
  have hN := fun W => refName_up (-s) (-h) W hin (by omega) (by omega) hq
  have hz := M.nup_size (-s) (-h) (by omega) (by omega) hq
  rw [M.ndn_is]
  generalize M.nup (-s) (-h) = SN at *
  have zz : ¬ 9223372036854775807 < 1 + SN.size := by omega
  rcases hdn with hd | ⟨rfl, hd⟩
  · go_enter Tryd.func20, Tryd.ntmps20
    go_wp2_with fail
    refine (Within_any s h _).mono ?_
    rintro e w1 ⟨rfl, hb1⟩
    rw [hi]
    have z1 := hb1.size
    simp at z1
    have h01 : Below w.heap.size w w1 := Below.trans (by go_grown) (hb1.mono (by simp))
    have p0 : w1.cell? ⟨w.heap.size, 0, none⟩ = some (.int .i64 s) := keepC hb1 (by simp) (by simp [go_sem])
    have p1 : w1.cell? ⟨w.heap.size, 1, none⟩ = some (.int .i64 h) := keepC hb1 (by simp) (by simp [go_sem])
    have sp : w.heap.size < w1.heap.size := by omega
    go_wp2_with fail
    refine (hN _).mono ?_
    rintro e w2 ⟨rfl, hb2⟩
    go_wp2_with fail
    go_returns
    exact ⟨rfl, h01.trans (hb2.mono h01.size)⟩
  · have hN0 := hN
    rw [show -(0 : Int) = 0 by omega] at hN0
    go_enter Tryd.func20, Tryd.ntmps20
    go_wp2_with fail
    refine (Within_any 0 h _).mono ?_
    rintro e w1 ⟨rfl, hb1⟩
    rw [hi]
    have z1 := hb1.size
    simp at z1
    have h01 : Below w.heap.size w w1 := Below.trans (by go_grown) (hb1.mono (by simp))
    have p0 : w1.cell? ⟨w.heap.size, 0, none⟩ = some (.int .i64 0) := keepC hb1 (by simp) (by simp [go_sem])
    have p1 : w1.cell? ⟨w.heap.size, 1, none⟩ = some (.int .i64 h) := keepC hb1 (by simp) (by simp [go_sem])
    have sp : w.heap.size < w1.heap.size := by omega
    go_wp2_with fail
    refine (hN0 _).mono ?_
    rintro e w2 ⟨rfl, hb2⟩
    go_wp2_with fail
    go_returns
    exact ⟨rfl, h01.trans (hb2.mono h01.size)⟩
set_option maxHeartbeats 1000000 in
theorem refName_dnx (s h : Int) (w : World) (hi : M.inb s h = true) (hdn : s < 0 ∨ (s = 0 ∧ h < 0)) (hq : 6 < M.un (-s) (-h)) :
    Calls Tryd.prog 20 #[.agg #[.int .i64 s, .int .i64 h]] w fun e w' => e = .returned (.tuple #[.string ⟨#[]⟩, .int .i64 3]) ∧ Below w.heap.size w w' := by
  have hb := M.inb_yes hi
  have hin := M.inb_neg hi
  have hN := fun W => refName_upx (-s) (-h) W hin (by omega) (by omega) hq
  rcases hdn with hd | ⟨rfl, hd⟩
  · go_enter Tryd.func20, Tryd.ntmps20
    go_wp2_with fail
    refine (Within_any s h _).mono ?_
    rintro e w1 ⟨rfl, hb1⟩
    rw [hi]
    have z1 := hb1.size
    simp at z1
    have h01 : Below w.heap.size w w1 := Below.trans (by go_grown) (hb1.mono (by simp))
    have p0 : w1.cell? ⟨w.heap.size, 0, none⟩ = some (.int .i64 s) := keepC hb1 (by simp) (by simp [go_sem])
    have p1 : w1.cell? ⟨w.heap.size, 1, none⟩ = some (.int .i64 h) := keepC hb1 (by simp) (by simp [go_sem])
    have sp : w.heap.size < w1.heap.size := by omega
    go_wp2_with fail
    refine (hN _).mono ?_
    rintro e w2 ⟨rfl, hb2⟩
    go_wp2_with fail
    go_returns
    exact ⟨rfl, h01.trans (hb2.mono h01.size)⟩
  · have hN0 := hN
    rw [show -(0 : Int) = 0 by omega] at hN0
    go_enter Tryd.func20, Tryd.ntmps20
    go_wp2_with fail
    refine (Within_any 0 h _).mono ?_
    rintro e w1 ⟨rfl, hb1⟩
    rw [hi]
    have z1 := hb1.size
    simp at z1
    have h01 : Below w.heap.size w w1 := Below.trans (by go_grown) (hb1.mono (by simp))
    have p0 : w1.cell? ⟨w.heap.size, 0, none⟩ = some (.int .i64 0) := keepC hb1 (by simp) (by simp [go_sem])
    have p1 : w1.cell? ⟨w.heap.size, 1, none⟩ = some (.int .i64 h) := keepC hb1 (by simp) (by simp [go_sem])
    have sp : w.heap.size < w1.heap.size := by omega
    go_wp2_with fail
    refine (hN0 _).mono ?_
    rintro e w2 ⟨rfl, hb2⟩
    go_wp2_with fail
    go_returns
    exact ⟨rfl, h01.trans (hb2.mono h01.size)⟩
end Go.Proofs.YtmccbokjigjpnaaDoor
