/- A row of whole numbers among a law's arguments; how long a list of pitches can be. -/
import Derived.Test.YtgcnmmjgdpdmbacDoorCOpen
import Derived.Test.YtgcnmmjgdpdmbacDoorCM2a
import Derived.SizedLaws
namespace Go.Proofs.YtgcnmmjgdpdmbacDoor
open Go.ChangeShapes Go.WideShapes Go.ChangeAt Go.RowKit Go.Joins Go.Deep

set_option maxRecDepth 100000 in
theorem open_ilist {H : Type} {enc : TypeId × Value → H} {W : World} {r : Reach} {b0 : Nat} {v : Value} {d : DataW H} {p : List MemPlace}
    (hv : Value.okWide Tryd.prog W r b0 27 v) (h : DataW.Trod enc Tryd.prog W 0 (fun _ => true) true 27 v d p) :
    ∃ (ao : Option Addr) (n c : Nat) (U : Nat → Int), v = .slice ao n c ∧ n ≤ c ∧ c ≤ 9223372036854775807 ∧ IL W ao n U := by
  obtain ⟨a0, len0, cap0, rfl⟩ := okWide_slice Tryd.underlying27 hv
  obtain ⟨fuel, hf⟩ := h
  rcases open_slice Tryd.underlying27 hf with ⟨h0, _⟩ | ⟨a, len, cap, m, n, D, Pl, h0, hb, hl, hm, hmm, _, hx⟩
  · have e : Value.slice a0 len0 cap0 = .slice none 0 0 := by simpa [Value.cells] using h0
    cases e
    exact ⟨none, 0, 0, fun _ => 0, rfl, by omega, by omega, ⟨fun h => by omega⟩⟩
  · have e : Value.slice a0 len0 cap0 = .slice (some a) len cap := by simpa [Value.cells] using h0
    cases e
    simp only [if_true] at hmm
    subst hmm
    have hC : Tryd.prog.cellsOf 3 = 1 := by kernel_rfl
    rw [hC] at hx
    have each : ∀ i, i < m → ∃ x : Int, W.cell? (a.add (i * 1)) = some (.int .i64 x) := fun i hi => by
      obtain ⟨cs', h1, h2⟩ := hx i hi
      obtain ⟨l, rfl, _, _⟩ := DataW.trod_int Tryd.underlying3 h2
      obtain ⟨_, _, hc⟩ := World.cells?_some h1
      have c0 := hc 0 (by omega)
      rw [add_two, Nat.add_zero] at c0
      exact ⟨l, c0⟩
    obtain ⟨V, hV⟩ := choose_lt (α := Int) (p := fun i x => W.cell? (a.add (i * 1)) = some (.int .i64 x)) each
    refine ⟨some a, _, _, V, rfl, hl, by unfold maxLen at hm; omega, ⟨fun hn => ?_⟩⟩
    have hsp := World.cell?_spot (hV 0 (by omega))
    have hsp0 : a.spot = none := by simpa [Addr.add] using hsp
    obtain ⟨b, off, sp⟩ := a
    simp only at hsp0
    subst hsp0
    refine ⟨b, off, rfl, ?_, fun j hj => ?_⟩
    · have := hV 0 (by omega)
      rw [add_plain] at this
      exact block_lt_of_cell this
    · have := hV j (by omega); rw [add_plain, Nat.mul_one] at this; exact this

theorem pl_len {H : Type} {enc : TypeId × Value → H} {W : World} {ao : Option Addr} {n c : Nat} {d : DataW H} {p : List MemPlace}
    (h : DataW.Trod enc Tryd.prog W 0 (fun _ => true) true 22 (.slice ao n c) d p) : n = 0 ∨ ∃ es sp, d = .slice es sp ∧ es.length = n := by
  obtain ⟨fuel, hf⟩ := h
  rcases open_slice Tryd.underlying22 hf with ⟨h0, _⟩ | ⟨a, len, cap, m, n', D, Pl, h0, hb, hl, hm, hmm, hd, hx⟩
  · left
    have e : Value.slice ao n c = .slice none 0 0 := by simpa [Value.cells] using h0
    cases e; rfl
  · right
    have e : Value.slice ao n c = .slice (some a) len cap := by simpa [Value.cells] using h0
    cases e
    exact ⟨_, _, congrArg Prod.fst hd, by simp⟩
end Go.Proofs.YtgcnmmjgdpdmbacDoor
