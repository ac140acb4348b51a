/- A beat among a law's arguments, as the walks ask for it. -/
import Derived.Test.YtgcnmmjgdpdmbadB1
import Derived.OpenShut
import Derived.Deep.Slices
import Derived.Deep.Strs
import Derived.Lib.SmallJoins
import Derived.ProofKit
namespace Go.Proofs.Ytgcnmmjgdpdmbad.F
open Go.ChangeShapes Go.WideShapes Go.ChangeAt Go.RowKit Go.Joins Go.Deep

theorem add_two (a : Addr) (i j : Nat) : (a.add i).add j = a.add (i + j) := by
  unfold Addr.add
  by_cases h : i = 0 <;> by_cases g : j = 0 <;> simp [h, g, Nat.add_assoc]
theorem add_plain (b off n : Nat) : (⟨b, off, none⟩ : Addr).add n = ⟨b, off + n, none⟩ := by
  unfold Addr.add
  by_cases h : n = 0 <;> simp [h]

set_option maxRecDepth 100000 in
theorem beat_cells {H : Type} {enc : TypeId × Value → H} {W : World} (N : Nat) : ∀ (fuel : Nat) (cs : List Value) (x : DataW H × List MemPlace), fuel ≤ N → DataW.trod enc Try.prog W 0 (fun _ => true) true fuel 24 cs = some x →
    ∃ (b : M.Bt) (ao : Option Addr) (cap : Nat), cs = [.int .i64 b.k, .int .i64 b.s, .slice ao b.n cap] ∧ Lies W W.heap.size b (.agg #[.int .i64 b.k, .int .i64 b.s, .slice ao b.n cap]) := by
  have hC : Try.prog.cellsOf 24 = 3 := by kernel_rfl
  have h3 : Try.prog.cellsOf 3 = 1 := by kernel_rfl
  have hS : Try.prog.cellsOf 22 = 1 := by kernel_rfl
  induction N with
  | zero =>
    intro fuel cs x hN h
    obtain rfl : fuel = 0 := by omega
    simp [DataW.trod] at h
  | succ N ih =>
    intro fuel cs x hN h
    obtain ⟨xs, n, hfu, _, hl, hxl, hf⟩ := DataW.trod_struct Try.underlying24 h
    rw [hC] at hl
    match xs, hxl, cs, hl with
    | [y0, y1, y2], _, [c0, c1, c2], _ =>
      have t0 := hf 0 _ rfl
      have t1 := hf 1 _ rfl
      have t2 := hf 2 _ rfl
      simp [h3, hS] at t0 t1 t2
      obtain ⟨k, e0, _⟩ := DataW.trod_int Try.underlying3 t0
      obtain ⟨s, e1, _⟩ := DataW.trod_int Try.underlying3 t1
      obtain rfl : c0 = .int .i64 k := by simpa using e0
      obtain rfl : c1 = .int .i64 s := by simpa using e1
      rcases DataW.trod_slice Try.underlying22 t2 with ⟨h0, _⟩ | ⟨a, len, cap, elems, rest, n2, hn2, h0, _, _, hlc, hm, hlen, hel, _, _⟩
      · obtain rfl : c2 = .slice none 0 0 := by simpa using h0
        exact ⟨.mk k s 0 (fun _ => .nil), none, 0, rfl, none, 0, rfl, by omega, fun h => by omega⟩
      · obtain rfl : c2 = .slice (some a) len cap := by simpa using h0
        rw [hC] at hel
        have each : ∀ i, i < len → ∃ q : M.Bt × Option Addr × Nat, W.cell? (a.add (i * 3)) = some (.int .i64 q.1.k) ∧ W.cell? (a.add (i * 3 + 1)) = some (.int .i64 q.1.s) ∧ W.cell? (a.add (i * 3 + 2)) = some (.slice q.2.1 q.1.n q.2.2) ∧ Lies W W.heap.size q.1 (.agg #[.int .i64 q.1.k, .int .i64 q.1.s, .slice q.2.1 q.1.n q.2.2]) := fun i hi => by
          have key := hel i hi
          rw [List.getElem?_eq_getElem (by omega)] at key
          obtain ⟨cs', g1, g2⟩ := Option.bind_eq_some_iff.1 key
          obtain ⟨b, ao, cp, rfl, hL⟩ := ih n2 cs' _ (by omega) g2
          obtain ⟨_, _, hc⟩ := World.cells?_some g1
          have d0 := hc 0 (by omega)
          have d1 := hc 1 (by omega)
          have d2 := hc 2 (by omega)
          refine ⟨(b, ao, cp), ?_, ?_, ?_, hL⟩
          · rw [add_two, Nat.add_zero] at d0; exact d0
          · rw [add_two] at d1; exact d1
          · rw [add_two] at d2; exact d2
        have inh : Inhabited (M.Bt × Option Addr × Nat) := ⟨(.nil, none, 0)⟩
        obtain ⟨V, hV⟩ := choose_lt (α := M.Bt × Option Addr × Nat) (p := fun i q => W.cell? (a.add (i * 3)) = some (.int .i64 q.1.k) ∧ W.cell? (a.add (i * 3 + 1)) = some (.int .i64 q.1.s) ∧ W.cell? (a.add (i * 3 + 2)) = some (.slice q.2.1 q.1.n q.2.2) ∧ Lies W W.heap.size q.1 (.agg #[.int .i64 q.1.k, .int .i64 q.1.s, .slice q.2.1 q.1.n q.2.2])) each
        refine ⟨.mk k s len (fun i => (V i).1), some a, cap, rfl, some a, cap, rfl, by unfold maxLen at hm; omega, fun hn => ?_⟩
        have hsp := World.cell?_spot (hV 0 hn).1
        have hsp0 : a.spot = none := by simpa [Addr.add] using hsp
        obtain ⟨b, off, sp⟩ := a
        simp only at hsp0
        subst hsp0
        refine ⟨b, off, rfl, ?_, fun j hj => ?_⟩
        · have := (hV 0 hn).1
          rw [add_plain] at this
          exact block_lt_of_cell this
        · obtain ⟨q0, q1, q2, q3⟩ := hV j hj
          rw [add_plain] at q0 q1 q2
          exact ⟨(V j).2.1, (V j).2.2, q0, q1, q2, q3⟩

/-- A beat handed in is a tree that lies in memory. -/
theorem open_beat {H : Type} {enc : TypeId × Value → H} {W : World} {r : Reach} {b0 : Nat} {v : Value} {d : DataW H} {p : List MemPlace}
    (hv : Value.okWide Try.prog W r b0 24 v) (h : DataW.Trod enc Try.prog W 0 (fun _ => true) true 24 v d p) : ∃ b : M.Bt, Lies W W.heap.size b v := by
  have hC : Try.prog.cellsOf 24 = 3 := by kernel_rfl
  obtain ⟨cs, rfl, hsz⟩ := okWide_struct Try.underlying24 hv
  obtain ⟨c0, c1, c2, rfl⟩ := array3 (hsz.trans hC)
  obtain ⟨fuel, hf⟩ := h
  obtain ⟨b, ao, cap, e, hL⟩ := beat_cells fuel fuel _ _ (Nat.le_refl _) hf
  have e' : [c0, c1, c2] = [.int .i64 b.k, .int .i64 b.s, .slice ao b.n cap] := by simpa [Value.cells] using e
  simp only [List.cons.injEq, and_true] at e'
  obtain ⟨rfl, rfl, rfl⟩ := e'
  exact ⟨b, hL⟩
end Go.Proofs.Ytgcnmmjgdpdmbad.F
