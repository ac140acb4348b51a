/- A list of marks among a law's arguments, as the walks ask for it. -/
import Derived.Test.YtmccbokjigjpnaeK1
import Derived.OpenShut
import Derived.Deep.Slices
import Derived.Deep.Strs
import Derived.Lib.SmallJoins
import Derived.ProofKit
namespace Go.Proofs.Ytmccbokjigjpnae.F
open Go.ChangeShapes Go.WideShapes Go.ChangeAt Go.RowKit Go.Joins Go.Deep

theorem add_two (a : Addr) (i j : Nat) : (a.add i).add j = a.add (i + j) := by
  unfold Addr.add
  by_cases h : i = 0 <;> by_cases g : j = 0 <;> simp [h, g, Nat.add_assoc]
theorem add_plain (b off n : Nat) : (⟨b, off, none⟩ : Addr).add n = ⟨b, off + n, none⟩ := by
  unfold Addr.add
  by_cases h : n = 0 <;> simp [h]
set_option maxRecDepth 100000 in
theorem open_mark_cells {H : Type} {enc : TypeId × Value → H} {W : World} {base : Nat} {spare : Nat → Bool} {held : Bool} {n : Nat} {cs : List Value} {x : DataW H × List MemPlace}
    (h : DataW.trod enc Try.prog W base spare held n 35 cs = some x) : ∃ (l a : Int) (o : Bool), cs = [.int .i64 l, .int .i64 a, .bool o] := by
  have hC : Try.prog.cellsOf 35 = 3 := by kernel_rfl
  have h3 : Try.prog.cellsOf 3 = 1 := by kernel_rfl
  have h4 : Try.prog.cellsOf 4 = 1 := by kernel_rfl
  obtain ⟨y0, y1, y2, m, _, hl, t0, t1, t2⟩ := trod_struct3 Try.underlying35 h
  rw [hC] at hl
  match cs, hl with
  | [c0, c1, c2], _ =>
    obtain ⟨l, e0, _⟩ := DataW.trod_int Try.underlying3 t0
    obtain ⟨a, e1, _⟩ := DataW.trod_int Try.underlying3 t1
    obtain ⟨o, e2, _⟩ := DataW.trod_bool Try.underlying4 t2
    refine ⟨l, a, o, ?_⟩
    simp [h3, h4] at e0 e1 e2
    rw [e0, e1, e2]

set_option maxRecDepth 100000 in
theorem open_marks {H : Type} {enc : TypeId × Value → H} {W : World} {r : Reach} {b0 : Nat} {v : Value} {d : DataW H} {p : List MemPlace}
    (hv : Value.okWide Try.prog W r b0 22 v) (h : DataW.Trod enc Try.prog W 0 (fun _ => true) true 22 v d p) :
    ∃ (ao : Option Addr) (n c : Nat) (A P : Nat → Int) (R : Nat → Bool), v = .slice ao n c ∧ n ≤ c ∧ c ≤ 9223372036854775807 ∧ ML W ao n A P R := by
  obtain ⟨a0, len0, cap0, rfl⟩ := okWide_slice Try.underlying22 hv
  obtain ⟨fuel, hf⟩ := h
  rcases open_slice Try.underlying22 hf with ⟨h0, _⟩ | ⟨a, len, cap, m, n, D, Pl, h0, hb, hl, hm, hmm, _, hx⟩
  · have e : Value.slice a0 len0 cap0 = .slice none 0 0 := by simpa [Value.cells] using h0
    cases e
    exact ⟨none, 0, 0, fun _ => 0, fun _ => 0, fun _ => false, rfl, by omega, by omega, ⟨fun h => by omega⟩⟩
  · have e : Value.slice a0 len0 cap0 = .slice (some a) len cap := by simpa [Value.cells] using h0
    cases e
    simp only [if_true] at hmm
    subst hmm
    have hC : Try.prog.cellsOf 35 = 3 := by kernel_rfl
    rw [hC] at hx
    have each : ∀ i, i < m → ∃ x : Int × Int × Bool, W.cell? (a.add (i * 3)) = some (.int .i64 x.1) ∧ W.cell? (a.add (i * 3 + 1)) = some (.int .i64 x.2.1) ∧ W.cell? (a.add (i * 3 + 2)) = some (.bool x.2.2) := fun i hi => by
      obtain ⟨cs', h1, h2⟩ := hx i hi
      obtain ⟨l, a', o, rfl⟩ := open_mark_cells h2
      obtain ⟨_, _, hc⟩ := World.cells?_some h1
      have c0 := hc 0 (by omega)
      have c1 := hc 1 (by omega)
      have c2 := hc 2 (by omega)
      refine ⟨(l, a', o), ?_, ?_, ?_⟩
      · rw [add_two, Nat.add_zero] at c0; exact c0
      · rw [add_two] at c1; exact c1
      · rw [add_two] at c2; exact c2
    obtain ⟨V, hV⟩ := choose_lt (α := Int × Int × Bool) (p := fun i x => W.cell? (a.add (i * 3)) = some (.int .i64 x.1) ∧ W.cell? (a.add (i * 3 + 1)) = some (.int .i64 x.2.1) ∧ W.cell? (a.add (i * 3 + 2)) = some (.bool x.2.2)) each
    refine ⟨some a, _, _, fun i => (V i).1, fun i => (V i).2.1, fun i => (V i).2.2, rfl, hl, by unfold maxLen at hm; omega, ⟨fun hn => ?_⟩⟩
    have hsp := World.cell?_spot (hV 0 (by omega)).1
    have hsp0 : a.spot = none := by simpa [Addr.add] using hsp
    obtain ⟨b, off, sp⟩ := a
    simp only at hsp0
    subst hsp0
    refine ⟨b, off, rfl, ?_, fun j hj => ?_, fun j hj => ?_, fun j hj => ?_⟩
    · have := (hV 0 (by omega)).1
      rw [add_plain] at this
      exact block_lt_of_cell this
    · have := (hV j (by omega)).1; rw [add_plain] at this; exact this
    · have := (hV j (by omega)).2.1; rw [add_plain] at this; exact this
    · have := (hV j (by omega)).2.2; rw [add_plain] at this; exact this

end Go.Proofs.Ytmccbokjigjpnae.F
