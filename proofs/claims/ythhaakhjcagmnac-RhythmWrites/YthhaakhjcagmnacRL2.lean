/- The statement RhythmWrites: the walk of its text. -/
import Derived.Test.YthhaakhjcagmnacR7
namespace Go.Proofs.Ythhaakhjcagmnac.F
open Go.RowKit
set_option linter.unusedVariables false
set_option linter.unusedSimpArgs false

/-- What both Length answer. -/
theorem Length_both (h d : Int) : ∃ U D E : Int, (∀ w, Calls Try.prog 15 #[.agg #[.int .i64 h, .int .i64 d]] w fun e w' => e = .returned (.tuple #[.agg #[.int .i64 U, .int .i64 D], .int .i64 E]) ∧ Below w.heap.size w w') ∧ (∀ w, Calls Try.prog 16 #[.agg #[.int .i64 h, .int .i64 d]] w fun e w' => e = .returned (.tuple #[.agg #[.int .i64 U, .int .i64 D], .int .i64 E]) ∧ Below w.heap.size w w') := by
  by_cases hk : h < 0 ∨ 10 < h ∨ d < 0 ∨ 3 < d
  · exact ⟨0, 0, 3, fun w => Length_no h d w hk, fun w => refLength_no h d w hk⟩
  · obtain ⟨a, rfl⟩ : ∃ a : Nat, h = a := ⟨h.toNat, by omega⟩
    obtain ⟨b, rfl⟩ : ∃ b : Nat, d = b := ⟨d.toNat, by omega⟩
    exact ⟨_, _, _, fun w => Length_yes a b w (by omega) (by omega), fun w => refLength_yes a b w (by omega) (by omega)⟩

/-- What both Write answer: nothing and an errno, or the same row. -/
def WR (v : Value) (w : World) (N : Nat) (R : Nat → Int) (S : Nat → Int) (base : Nat) : Prop := 1 ≤ N ∧ N ≤ 70000 ∧ w.ownsRow base 44 2 v N (rows (fun k => [.int .i64 (R k), .int .i64 (S k)]) N)
theorem Write_both (u d : Int) (h : -9223372036854775808 ≤ u ∧ u ≤ 9223372036854775807) (h' : -9223372036854775808 ≤ d ∧ d ≤ 9223372036854775807) :
    (∃ E : Int, (∀ w, Calls Try.prog 17 #[.agg #[.int .i64 u, .int .i64 d]] w fun e w' => e = .returned (.tuple #[.slice none 0 0, .int .i64 E]) ∧ Below w.heap.size w w') ∧ (∀ w, Calls Try.prog 18 #[.agg #[.int .i64 u, .int .i64 d]] w fun e w' => e = .returned (.tuple #[.slice none 0 0, .int .i64 E]) ∧ Below w.heap.size w w')) ∨
    (∃ (N : Nat) (R S : Nat → Int), (∀ w, Calls Try.prog 17 #[.agg #[.int .i64 u, .int .i64 d]] w fun e w' => ∃ v, e = .returned (.tuple #[v, .int .i64 0]) ∧ Below w.heap.size w w' ∧ WR v w' N R S w.heap.size) ∧ (∀ w, Calls Try.prog 18 #[.agg #[.int .i64 u, .int .i64 d]] w fun e w' => ∃ v, e = .returned (.tuple #[v, .int .i64 0]) ∧ Below w.heap.size w w' ∧ WR v w' N R S w.heap.size)) := by
  cases hk : M.ok u d
  · exact .inl ⟨2, fun w => Write_form u d w h.1 h.2 h'.1 h'.2 hk, fun w => refWrite_form u d w h.1 h.2 h'.1 h'.2 hk⟩
  by_cases h1 : u ≤ 0
  · exact .inl ⟨3, fun w => Write_range u d w hk h1, fun w => refWrite_range u d w hk (.inl h1)⟩
  by_cases h2 : 65536 * d < u
  · exact .inl ⟨3, fun w => Write_much u d w hk h2, fun w => refWrite_range u d w hk (.inr h2)⟩
  by_cases h3 : 1024 % d = 0
  · obtain ⟨T, P, q, r, e1, e2, e3, e4, e5, e6, e7, e8, e9, e10⟩ := parts_of u d hk (by omega) (by omega) h3
    have hN1 : 1 ≤ M.eN q r := by
      have := M.pS_all q r e7
      by_cases e : M.eN q r = 0
      · rw [e] at this; simp [M.pS] at this; omega
      · omega
    have hN2 : M.eN q r ≤ 70000 := by have := M.tl_len r e7; unfold M.eN; omega
    refine .inr ⟨M.eN q r, fun k => (M.eV q r k).1, fun k => (M.eV q r k).2, fun w => ?_, fun w => ?_⟩
    · exact (Write_ok u d T P q r w hk (by omega) (by omega) h3 e1 e2 e3 e4 e5 e6 e7).mono fun e w' ⟨v, a, b, c⟩ => ⟨v, a, b, hN1, hN2, c⟩
    · exact (refWrite_gen u d T P q r w hk (by omega) (by omega) (by simpa using h3) e1 e2 e3 e4 e5 e6 e7).mono fun e w' ⟨v, a, b, c⟩ => ⟨v, a, b, hN1, hN2, c⟩
  · exact .inl ⟨6, fun w => Write_none u d w hk (by omega) (by omega) h3, fun w => refWrite_none u d w hk (by omega) (by omega) h3⟩

set_option maxHeartbeats 2000000 in
theorem writes_walk (a b u d : Int) (w : World) (h : -9223372036854775808 ≤ u ∧ u ≤ 9223372036854775807) (h' : -9223372036854775808 ≤ d ∧ d ≤ 9223372036854775807) :
    Calls Try.prog 5 #[.agg #[.int .i64 a, .int .i64 b], .agg #[.int .i64 u, .int .i64 d]] w fun e w' => e = .returned (.bool true) ∧ Below w.heap.size w w' := by
  obtain ⟨U, D, E, hL, hL'⟩ := Length_both a b
  have hWr := Write_both u d h h'
  go_enter Try.func5, Try.ntmps5
  go_wp2_with fail
  refine (hL _).mono ?_
  rintro e w1 ⟨rfl, hb1⟩
  have A0 : w1.cell? ⟨w.heap.size, 0, none⟩ = some (.int .i64 a) := keepC hb1 (by simp; omega) (by simp [go_sem])
  have A1 : w1.cell? ⟨w.heap.size, 1, none⟩ = some (.int .i64 b) := keepC hb1 (by simp; omega) (by simp [go_sem])
  have B0 : w1.cell? ⟨w.heap.size + 1, 0, none⟩ = some (.int .i64 u) := keepC hb1 (by simp) (by simp [go_sem])
  have B1 : w1.cell? ⟨w.heap.size + 1, 1, none⟩ = some (.int .i64 d) := keepC hb1 (by simp) (by simp [go_sem])
  have h01 : Below w.heap.size w w1 := Below.trans (by go_grown) (hb1.mono (by simp; omega))
  have z1 := hb1.size
  simp at z1
  have s1a : w.heap.size < w1.heap.size := by omega
  have s1b : w.heap.size + 1 < w1.heap.size := by omega
  clear hb1
  go_wp2_with fail
  refine (hL' _).mono ?_
  rintro e w2 ⟨rfl, hb2⟩
  have h12 : Below w1.heap.size w1 w2 := Below.trans (by go_grown) (hb2.mono (by simp))
  have C0 : w2.cell? ⟨w1.heap.size, 0, none⟩ = some (.int .i64 U) := keepC hb2 (by simp) (by simp [go_sem])
  have C1 : w2.cell? ⟨w1.heap.size, 1, none⟩ = some (.int .i64 D) := keepC hb2 (by simp) (by simp [go_sem])
  replace B0 := keepC h12 s1b B0
  replace B1 := keepC h12 s1b B1
  have h02 := h01.trans (h12.mono h01.size)
  have z2 := hb2.size
  simp at z2
  have s2b : w.heap.size + 1 < w2.heap.size := by omega
  have s2c : w1.heap.size < w2.heap.size := by omega
  clear hb2 A0 A1
  rcases hWr with ⟨F, hW, hW'⟩ | ⟨N, R, S, hW, hW'⟩
  · go_wp2_with fail
    refine (hW _).mono ?_
    rintro e w3 ⟨rfl, hb3⟩
    have h23 : Below w2.heap.size w2 w3 := Below.trans (by go_grown) (hb3.mono (by simp))
    replace B0 := keepC h23 s2b B0
    replace B1 := keepC h23 s2b B1
    have z3 := h23.size
    have s3b : w.heap.size + 1 < w3.heap.size := by omega
    have h03 := h02.trans (h23.mono h02.size)
    clear hb3 C0 C1
    go_wp2_with fail
    refine (hW' _).mono ?_
    rintro e w4 ⟨rfl, hb4⟩
    have h04 := h03.trans (hb4.mono h03.size)
    go_wp2_with fail
    refine (SameValues_nil _).mono ?_
    rintro e w5 ⟨rfl, hb5⟩
    go_wp2_with fail
    go_ret
    exact ⟨rfl, h04.trans (hb5.mono h04.size)⟩
  · go_wp2_with fail
    refine (hW _).mono ?_
    rintro e w3 ⟨v, rfl, hb3, hR⟩
    have h23 : Below w2.heap.size w2 w3 := Below.trans (by go_grown) (hb3.mono (by simp))
    replace B0 := keepC h23 s2b B0
    replace B1 := keepC h23 s2b B1
    have z3 := h23.size
    have s3b : w.heap.size + 1 < w3.heap.size := by omega
    have h03 := h02.trans (h23.mono h02.size)
    clear hb3 C0 C1
    go_wp2_with fail
    refine (hW' _).mono ?_
    rintro e w4 ⟨v', rfl, hb4, hR'⟩
    have h04 := h03.trans (hb4.mono h03.size)
    obtain ⟨n1, n2, o1⟩ := hR
    obtain ⟨_, _, o2⟩ := hR'
    have o1' := own_step o1 hb4
    clear o1
    go_wp2_with fail
    refine (SameValues_own v v' N _ _ _ R S _ n1 n2 (fun _ => rfl) o1' o2).mono ?_
    rintro e w5 ⟨rfl, hb5⟩
    go_wp2_with fail
    go_ret
    exact ⟨rfl, h04.trans (hb5.mono h04.size)⟩
end Go.Proofs.Ythhaakhjcagmnac.F
