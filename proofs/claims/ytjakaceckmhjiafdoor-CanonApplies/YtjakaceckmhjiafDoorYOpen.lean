/- A line among a law's arguments, as the walks ask for it. -/
import Derived.Test.YtjakaceckmhjiafDoorY2
import Derived.OpenShut
import Derived.Deep.Slices
import Derived.Deep.Strs
import Derived.Lib.SmallJoins
import Derived.ProofKit
namespace Go.Proofs.YtjakaceckmhjiafDoor.Y
open Go.ChangeShapes Go.WideShapes Go.ChangeAt Go.RowKit Go.Joins Go.Deep

theorem add_two (a : Addr) (i j : Nat) : (a.add i).add j = a.add (i + j) := by
  unfold Addr.add
  by_cases h : i = 0 <;> by_cases g : j = 0 <;> simp [h, g, Nat.add_assoc]
theorem add_plain (b off n : Nat) : (⟨b, off, none⟩ : Addr).add n = ⟨b, off + n, none⟩ := by
  unfold Addr.add
  by_cases h : n = 0 <;> simp [h]
set_option maxRecDepth 100000 in
theorem open_pitch_cells {H : Type} {enc : TypeId × Value → H} {W : World} {base : Nat} {spare : Nat → Bool} {held : Bool} {n : Nat} {cs : List Value} {x : DataW H × List MemPlace}
    (h : DataW.trod enc Tryd.prog W base spare held n 24 cs = some x) : ∃ l a o : Int, cs = [.int .i64 l, .int .i64 a, .int .i64 o] ∧ -9223372036854775808 ≤ a ∧ a ≤ 9223372036854775807 := by
  have hC : Tryd.prog.cellsOf 24 = 3 := by kernel_rfl
  have h3 : Tryd.prog.cellsOf 3 = 1 := by kernel_rfl
  obtain ⟨y0, y1, y2, m, _, hl, t0, t1, t2⟩ := trod_struct3 Tryd.underlying24 h
  rw [hC] at hl
  match cs, hl with
  | [c0, c1, c2], _ =>
    obtain ⟨l, e0, _⟩ := DataW.trod_int Tryd.underlying3 t0
    obtain ⟨a, e1, _, wa⟩ := DataW.trod_int Tryd.underlying3 t1
    obtain ⟨o, e2, _⟩ := DataW.trod_int Tryd.underlying3 t2
    have wb := bounds_i64 wa
    refine ⟨l, a, o, ?_, by omega, by omega⟩
    simp [h3] at e0 e1 e2
    rw [e0, e1, e2]
set_option maxRecDepth 100000 in
theorem open_tone_cells {H : Type} {enc : TypeId × Value → H} {W : World} {base : Nat} {spare : Nat → Bool} {held : Bool} {n : Nat} {cs : List Value} {x : DataW H × List MemPlace}
    (h : DataW.trod enc Tryd.prog W base spare held n 44 cs = some x) : ∃ y : Tn, cs = [.int .i64 y.t, .int .i64 y.g, .int .i64 y.l, .int .i64 y.a, .int .i64 y.o] ∧ -9223372036854775808 ≤ y.a ∧ y.a ≤ 9223372036854775807 := by
  have hC : Tryd.prog.cellsOf 44 = 5 := by kernel_rfl
  have h3 : Tryd.prog.cellsOf 3 = 1 := by kernel_rfl
  have hP : Tryd.prog.cellsOf 24 = 3 := by kernel_rfl
  obtain ⟨y0, y1, y2, m, _, hl, t0, t1, t2⟩ := trod_struct3 Tryd.underlying44 h
  rw [hC] at hl
  match cs, hl with
  | [c0, c1, c2, c3, c4], _ =>
    obtain ⟨t, e0, _⟩ := DataW.trod_int Tryd.underlying3 t0
    obtain ⟨g, e1, _⟩ := DataW.trod_int Tryd.underlying3 t1
    obtain ⟨l, a, o, e2, b1, b2⟩ := open_pitch_cells t2
    refine ⟨⟨t, g, l, a, o⟩, ?_, b1, b2⟩
    simp [h3] at e0 e1
    simp [hP] at e2
    obtain ⟨e2, e3, e4⟩ := e2
    rw [e0, e1, e2, e3, e4]

set_option maxRecDepth 100000 in
theorem open_tones {H : Type} {enc : TypeId × Value → H} {W : World} {r : Reach} {b0 : Nat} {v : Value} {d : DataW H} {p : List MemPlace}
    (hv : Value.okWide Tryd.prog W r b0 22 v) (h : DataW.Trod enc Tryd.prog W 0 (fun _ => true) true 22 v d p) :
    ∃ (ao : Option Addr) (n c : Nat) (T : Nat → Tn), v = .slice ao n c ∧ n ≤ c ∧ c ≤ 9223372036854775807 ∧ TL W ao n T ∧ ∀ j, j < n → -9223372036854775808 ≤ (T j).a ∧ (T j).a ≤ 9223372036854775807 := by
  have inh : Inhabited Tn := ⟨⟨0, 0, 0, 0, 0⟩⟩
  obtain ⟨a0, len0, cap0, rfl⟩ := okWide_slice Tryd.underlying22 hv
  obtain ⟨fuel, hf⟩ := h
  rcases open_slice Tryd.underlying22 hf with ⟨h0, _⟩ | ⟨a, len, cap, m, n, D, Pl, h0, hb, hl, hm, hmm, _, hx⟩
  · have e : Value.slice a0 len0 cap0 = .slice none 0 0 := by simpa [Value.cells] using h0
    cases e
    exact ⟨none, 0, 0, fun _ => ⟨0, 0, 0, 0, 0⟩, rfl, by omega, by omega, ⟨fun h => by omega⟩, fun j hj => by omega⟩
  · have e : Value.slice a0 len0 cap0 = .slice (some a) len cap := by simpa [Value.cells] using h0
    cases e
    simp only [if_true] at hmm
    subst hmm
    have hC : Tryd.prog.cellsOf 44 = 5 := by kernel_rfl
    rw [hC] at hx
    have each : ∀ i, i < m → ∃ x : Tn, W.cell? (a.add (i * 5)) = some (.int .i64 x.t) ∧ W.cell? (a.add (i * 5 + 1)) = some (.int .i64 x.g) ∧ W.cell? (a.add (i * 5 + 2)) = some (.int .i64 x.l) ∧ W.cell? (a.add (i * 5 + 3)) = some (.int .i64 x.a) ∧ W.cell? (a.add (i * 5 + 4)) = some (.int .i64 x.o) ∧ -9223372036854775808 ≤ x.a ∧ x.a ≤ 9223372036854775807 := fun i hi => by
      obtain ⟨cs', h1, h2⟩ := hx i hi
      obtain ⟨y, rfl, b1, b2⟩ := open_tone_cells h2
      obtain ⟨_, _, hc⟩ := World.cells?_some h1
      have c0 := hc 0 (by omega)
      have c1 := hc 1 (by omega)
      have c2 := hc 2 (by omega)
      have c3 := hc 3 (by omega)
      have c4 := hc 4 (by omega)
      refine ⟨y, ?_, ?_, ?_, ?_, ?_, b1, b2⟩
      · rw [add_two, Nat.add_zero] at c0; exact c0
      · rw [add_two] at c1; exact c1
      · rw [add_two] at c2; exact c2
      · rw [add_two] at c3; exact c3
      · rw [add_two] at c4; exact c4
    obtain ⟨V, hV⟩ := choose_lt (α := Tn) (p := fun i x => W.cell? (a.add (i * 5)) = some (.int .i64 x.t) ∧ W.cell? (a.add (i * 5 + 1)) = some (.int .i64 x.g) ∧ W.cell? (a.add (i * 5 + 2)) = some (.int .i64 x.l) ∧ W.cell? (a.add (i * 5 + 3)) = some (.int .i64 x.a) ∧ W.cell? (a.add (i * 5 + 4)) = some (.int .i64 x.o) ∧ -9223372036854775808 ≤ x.a ∧ x.a ≤ 9223372036854775807) each
    refine ⟨some a, _, _, V, rfl, hl, by unfold maxLen at hm; omega, ⟨fun hn => ?_⟩, fun j hj => (hV j (by omega)).2.2.2.2.2⟩
    have hsp := World.cell?_spot (hV 0 (by omega)).1
    have hsp0 : a.spot = none := by simpa [Addr.add] using hsp
    obtain ⟨b, off, sp⟩ := a
    simp only at hsp0
    subst hsp0
    refine ⟨b, off, rfl, ?_, fun j hj => ?_, fun j hj => ?_, fun j hj => ?_, fun j hj => ?_, fun j hj => ?_⟩
    · have := (hV 0 (by omega)).1
      rw [add_plain] at this
      exact block_lt_of_cell this
    · have := (hV j (by omega)).1; rw [add_plain] at this; exact this
    · have := (hV j (by omega)).2.1; rw [add_plain] at this; exact this
    · have := (hV j (by omega)).2.2.1; rw [add_plain] at this; exact this
    · have := (hV j (by omega)).2.2.2.1; rw [add_plain] at this; exact this
    · have := (hV j (by omega)).2.2.2.2.1; rw [add_plain] at this; exact this
end Go.Proofs.YtjakaceckmhjiafDoor.Y
