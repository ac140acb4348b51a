/- Events among a law's arguments, as the walks ask for them. -/
import Derived.Test.YtaohahahhjkcdahZ1
import Derived.OpenShut
import Derived.Deep.Slices
import Derived.Deep.Strs
import Derived.Lib.SmallJoins
import Derived.ProofKit
namespace Go.Proofs.Ytaohahahhjkcdah.Z
open Go.ChangeShapes Go.WideShapes Go.ChangeAt Go.RowKit Go.Joins Go.Deep

theorem add_two (a : Addr) (i j : Nat) : (a.add i).add j = a.add (i + j) := by
  unfold Addr.add
  by_cases h : i = 0 <;> by_cases g : j = 0 <;> simp [h, g, Nat.add_assoc]
theorem add_plain (b off n : Nat) : (⟨b, off, none⟩ : Addr).add n = ⟨b, off + n, none⟩ := by
  unfold Addr.add
  by_cases h : n = 0 <;> simp [h]
set_option maxRecDepth 100000 in
theorem open_event_cells {H : Type} {enc : TypeId × Value → H} {W : World} {base : Nat} {spare : Nat → Bool} {held : Bool} {n : Nat} {cs : List Value} {x : DataW H × List MemPlace}
    (h : DataW.trod enc Try.prog W base spare held n 61 cs = some x) : ∃ y : M.Ev, cs = [.int .i64 y.t, .int .i64 y.k, .int .i64 y.c, .int .i64 y.a, .int .i64 y.b] ∧ y.t ≤ 9223372036854775807 := by
  have hC : Try.prog.cellsOf 61 = 5 := by kernel_rfl
  have h3 : Try.prog.cellsOf 3 = 1 := by kernel_rfl
  obtain ⟨xs, n2, _, hx2, hl2, hlen2, hff⟩ := DataW.trod_struct Try.underlying61 h
  rw [hC] at hl2
  match xs, hlen2 with
  | [y0, y1, y2, y3, y4], _ =>
    have t0 := hff 0 _ rfl
    have t1 := hff 1 _ rfl
    have t2 := hff 2 _ rfl
    have t3 := hff 3 _ rfl
    have t4 := hff 4 _ rfl
    match cs, hl2 with
    | [c0, c1, c2, c3, c4], _ =>
      obtain ⟨x0, e0, _, wa⟩ := DataW.trod_int Try.underlying3 t0
      obtain ⟨x1, e1, _⟩ := DataW.trod_int Try.underlying3 t1
      obtain ⟨x2, e2, _⟩ := DataW.trod_int Try.underlying3 t2
      obtain ⟨x3, e3, _⟩ := DataW.trod_int Try.underlying3 t3
      obtain ⟨x4, e4, _⟩ := DataW.trod_int Try.underlying3 t4
      have wb := bounds_i64 wa
      refine ⟨⟨x0, x1, x2, x3, x4⟩, ?_, by simp only; omega⟩
      simp [h3] at e0 e1 e2 e3 e4
      rw [e0, e1, e2, e3, e4]
set_option maxRecDepth 100000 in
theorem open_events {H : Type} {enc : TypeId × Value → H} {W : World} {r : Reach} {b0 : Nat} {v : Value} {d : DataW H} {p : List MemPlace}
    (hv : Value.okWide Try.prog W r b0 32 v) (h : DataW.Trod enc Try.prog W 0 (fun _ => true) true 32 v d p) :
    ∃ (ao : Option Addr) (c : Nat) (l : List M.Ev), v = .slice ao l.length c ∧ l.length ≤ c ∧ c ≤ 9223372036854775807 ∧ LE W ao l ∧ ∀ e ∈ l, e.t ≤ 9223372036854775807 := by
  have inh : Inhabited M.Ev := ⟨⟨0, 0, 0, 0, 0⟩⟩
  obtain ⟨a0, len0, cap0, rfl⟩ := okWide_slice Try.underlying32 hv
  obtain ⟨fuel, hf⟩ := h
  rcases open_slice Try.underlying32 hf with ⟨h0, _⟩ | ⟨a, len, cap, m, n, D, Pl, h0, hb, hl, hm, hmm, _, hx⟩
  · have e : Value.slice a0 len0 cap0 = .slice none 0 0 := by simpa [Value.cells] using h0
    cases e
    exact ⟨none, 0, [], rfl, by simp, by omega, ⟨fun h => by simp at h⟩, fun e he => by simp at he⟩
  · have e : Value.slice a0 len0 cap0 = .slice (some a) len cap := by simpa [Value.cells] using h0
    cases e
    simp only [if_true] at hmm
    subst hmm
    have hC : Try.prog.cellsOf 61 = 5 := by kernel_rfl
    rw [hC] at hx
    have each : ∀ i, i < m → ∃ x : M.Ev, W.cell? (a.add (i * 5)) = some (.int .i64 x.t) ∧ W.cell? (a.add (i * 5 + 1)) = some (.int .i64 x.k) ∧ W.cell? (a.add (i * 5 + 2)) = some (.int .i64 x.c) ∧ W.cell? (a.add (i * 5 + 3)) = some (.int .i64 x.a) ∧ W.cell? (a.add (i * 5 + 4)) = some (.int .i64 x.b) ∧ x.t ≤ 9223372036854775807 := fun i hi => by
      obtain ⟨cs', h1, h2⟩ := hx i hi
      obtain ⟨y, rfl, b1⟩ := open_event_cells h2
      obtain ⟨_, _, hc⟩ := World.cells?_some h1
      have c0 := hc 0 (by omega)
      have c1 := hc 1 (by omega)
      have c2 := hc 2 (by omega)
      have c3 := hc 3 (by omega)
      have c4 := hc 4 (by omega)
      refine ⟨y, ?_, ?_, ?_, ?_, ?_, b1⟩
      · rw [add_two, Nat.add_zero] at c0; exact c0
      · rw [add_two] at c1; exact c1
      · rw [add_two] at c2; exact c2
      · rw [add_two] at c3; exact c3
      · rw [add_two] at c4; exact c4
    obtain ⟨V, hV⟩ := choose_lt (α := M.Ev) (p := fun i x => W.cell? (a.add (i * 5)) = some (.int .i64 x.t) ∧ W.cell? (a.add (i * 5 + 1)) = some (.int .i64 x.k) ∧ W.cell? (a.add (i * 5 + 2)) = some (.int .i64 x.c) ∧ W.cell? (a.add (i * 5 + 3)) = some (.int .i64 x.a) ∧ W.cell? (a.add (i * 5 + 4)) = some (.int .i64 x.b) ∧ x.t ≤ 9223372036854775807) each
    have hlen : ((List.range len0).map V).length = len0 := by simp
    refine ⟨some a, m, (List.range len0).map V, by rw [hlen], by rw [hlen]; exact hl, by unfold maxLen at hm; omega, ⟨fun hn => ?_⟩, fun e he => ?_⟩
    · rw [hlen] at hn
      have hsp := World.cell?_spot (hV 0 (by omega)).1
      have hsp0 : a.spot = none := by simpa [Addr.add] using hsp
      obtain ⟨b, off, sp⟩ := a
      simp only at hsp0
      subst hsp0
      refine ⟨b, off, rfl, ?_, fun j e hj => ?_⟩
      · have := (hV 0 (by omega)).1
        rw [add_plain] at this
        exact block_lt_of_cell this
      · obtain ⟨hjl, hje⟩ := List.getElem?_eq_some_iff.1 hj
        rw [hlen] at hjl
        have he : V j = e := by simpa using hje
        obtain ⟨g0, g1, g2, g3, g4, _⟩ := hV j (by omega)
        rw [add_plain, he] at g0 g1 g2 g3 g4
        exact ⟨g0, g1, g2, g3, g4⟩
    · obtain ⟨j, hj, rfl⟩ := List.mem_map.1 he
      exact (hV j (by have := List.mem_range.1 hj; omega)).2.2.2.2.2
end Go.Proofs.Ytaohahahhjkcdah.Z
