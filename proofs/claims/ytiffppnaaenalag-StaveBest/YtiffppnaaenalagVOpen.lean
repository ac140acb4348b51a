/- Boxes and lists of numbers among a law's arguments, as the walks ask for them. -/
import Derived.Test.YtiffppnaaenalagV1
import Derived.OpenShut
import Derived.Deep.Slices
import Derived.Deep.Strs
import Derived.Lib.SmallJoins
import Derived.ProofKit
namespace Go.Proofs.Ytiffppnaaenalag.V
open Go.ChangeShapes Go.WideShapes Go.ChangeAt Go.RowKit Go.Joins Go.Deep

theorem add_plain (b off n : Nat) : (⟨b, off, none⟩ : Addr).add n = ⟨b, off + n, none⟩ := by
  unfold Addr.add
  by_cases h : n = 0 <;> simp [h]
theorem add_add (a : Addr) (k : Nat) : (a.add k).add 1 = a.add (k + 1) := by
  unfold Addr.add
  by_cases h : k = 0
  · subst h; simp
  · simp [h, Nat.add_assoc]
theorem list2 {α : Type} {cs : List α} (h : cs.length = 2) : ∃ c0 c1, cs = [c0, c1] := by
  match cs, h with
  | [c0, c1], _ => exact ⟨c0, c1, rfl⟩
set_option maxRecDepth 100000 in
theorem open_boxes {H : Type} {enc : TypeId × Value → H} {W : World} {r : Reach} {b0 : Nat} {v : Value} {d : DataW H} {p : List MemPlace}
    (hv : Value.okWide Try.prog W r b0 22 v) (h : DataW.Trod enc Try.prog W 0 (fun _ => true) true 22 v d p) :
    ∃ (ao : Option Addr) (n c : Nat) (X Y : Nat → Int), v = .slice ao n c ∧ n ≤ c ∧ c ≤ 9223372036854775807 ∧ ∀ wd, BL W ao n ⟨wd, X, Y⟩ := by
  obtain ⟨a0, len0, cap0, rfl⟩ := okWide_slice Try.underlying22 hv
  obtain ⟨fuel, hf⟩ := h
  rcases open_slice Try.underlying22 hf with ⟨h0, _⟩ | ⟨a, len, cap, m, n, D, Pl, h0, hb, hl, hm, hmm, _, hx⟩
  · have e : Value.slice a0 len0 cap0 = .slice none 0 0 := by simpa [Value.cells] using h0
    cases e
    exact ⟨none, 0, 0, fun _ => 0, fun _ => 0, rfl, by omega, by omega, fun wd => ⟨fun h => by omega⟩⟩
  · have e : Value.slice a0 len0 cap0 = .slice (some a) len cap := by simpa [Value.cells] using h0
    cases e
    simp only [if_true] at hmm
    subst hmm
    have hC : Try.prog.cellsOf 35 = 2 := by kernel_rfl
    have h3 : Try.prog.cellsOf 3 = 1 := by kernel_rfl
    rw [hC] at hx
    have inh : Inhabited (Int × Int) := ⟨(0, 0)⟩
    have each : ∀ i, i < m → ∃ x : Int × Int, W.cell? (a.add (i * 2)) = some (.int .i64 x.1) ∧ W.cell? (a.add (i * 2 + 1)) = some (.int .i64 x.2) := fun i hi => by
      obtain ⟨cs', h1, h2⟩ := hx i hi
      obtain ⟨_, hsz, hc⟩ := World.cells?_some h1
      obtain ⟨xs, n2, _, hx2, hl2, hlen2, hff⟩ := DataW.trod_struct Try.underlying35 h2
      match xs, hlen2 with
      | [y0, y1], _ =>
        have t0 := hff 0 _ rfl
        have t1 := hff 1 _ rfl
        obtain ⟨q0, q1, hcs⟩ := list2 (by simpa using hsz)
        subst hcs
        simp [h3] at t0 t1
        obtain ⟨a0, e0, _⟩ := DataW.trod_int Try.underlying3 t0
        obtain ⟨a1, e1, _⟩ := DataW.trod_int Try.underlying3 t1
        simp at e0 e1
        subst e0 e1
        have c0 := hc 0 (by omega)
        have c1 := hc 1 (by omega)
        refine ⟨(a0, a1), ?_, ?_⟩
        · simpa [Addr.add] using c0
        · rw [add_add] at c1; simpa using c1
    obtain ⟨V, hV⟩ := choose_lt (α := Int × Int) (p := fun i x => W.cell? (a.add (i * 2)) = some (.int .i64 x.1) ∧ W.cell? (a.add (i * 2 + 1)) = some (.int .i64 x.2)) each
    refine ⟨some a, _, _, fun j => (V j).1, fun j => (V j).2, rfl, hl, by unfold maxLen at hm; omega, fun wd => ⟨fun hn => ?_⟩⟩
    have hsp := World.cell?_spot (hV 0 (by omega)).1
    have hsp0 : a.spot = none := by simpa [Addr.add] using hsp
    obtain ⟨b, off, sp⟩ := a
    simp only at hsp0
    subst hsp0
    refine ⟨b, off, rfl, ?_, fun j hj => ?_, fun j hj => ?_⟩
    · have := (hV 0 (by omega)).1
      rw [add_plain] at this
      exact block_lt_of_cell this
    · have := (hV j (by omega)).1; rw [add_plain] at this; exact this
    · have := (hV j (by omega)).2; rw [add_plain] at this; rw [Nat.add_assoc]; exact this
set_option maxRecDepth 100000 in
theorem open_nums {H : Type} {enc : TypeId × Value → H} {W : World} {r : Reach} {b0 : Nat} {v : Value} {d : DataW H} {p : List MemPlace}
    (hv : Value.okWide Try.prog W r b0 23 v) (h : DataW.Trod enc Try.prog W 0 (fun _ => true) true 23 v d p) :
    ∃ (ao : Option Addr) (n c : Nat) (g : Nat → Int), v = .slice ao n c ∧ n ≤ c ∧ c ≤ 9223372036854775807 ∧ LI W ao n g := by
  obtain ⟨a0, len0, cap0, rfl⟩ := okWide_slice Try.underlying23 hv
  obtain ⟨fuel, hf⟩ := h
  rcases open_slice Try.underlying23 hf with ⟨h0, _⟩ | ⟨a, len, cap, m, n, D, Pl, h0, hb, hl, hm, hmm, _, hx⟩
  · have e : Value.slice a0 len0 cap0 = .slice none 0 0 := by simpa [Value.cells] using h0
    cases e
    exact ⟨none, 0, 0, fun _ => 0, rfl, by omega, by omega, ⟨fun h => by omega⟩⟩
  · have e : Value.slice a0 len0 cap0 = .slice (some a) len cap := by simpa [Value.cells] using h0
    cases e
    simp only [if_true] at hmm
    subst hmm
    have hC : Try.prog.cellsOf 3 = 1 := by kernel_rfl
    rw [hC] at hx
    have each : ∀ i, i < m → ∃ x : Int, W.cell? (a.add i) = some (.int .i64 x) := fun i hi => by
      obtain ⟨cs', h1, h2⟩ := hx i hi
      obtain ⟨x, hx1, _, _⟩ := DataW.trod_int Try.underlying3 h2
      subst hx1
      obtain ⟨_, _, hc⟩ := World.cells?_some h1
      have c0 := hc 0 (by omega)
      refine ⟨x, ?_⟩
      rw [Nat.mul_one] at c0
      simpa [Addr.add] using c0
    obtain ⟨V, hV⟩ := choose_lt (α := Int) (p := fun i x => W.cell? (a.add i) = some (.int .i64 x)) each
    refine ⟨some a, _, _, V, rfl, hl, by unfold maxLen at hm; omega, ⟨fun hn => ?_⟩⟩
    have hsp := World.cell?_spot (hV 0 (by omega))
    have hsp0 : a.spot = none := by simpa [Addr.add] using hsp
    obtain ⟨b, off, sp⟩ := a
    simp only at hsp0
    subst hsp0
    refine ⟨b, off, rfl, ?_, fun j hj => ?_⟩
    · have := hV 0 (by omega)
      rw [add_plain] at this
      exact block_lt_of_cell this
    · have := hV j (by omega); rw [add_plain] at this; exact this
theorem nums_len {H : Type} {enc : TypeId × Value → H} {W : World} {ao : Option Addr} {n c : Nat} {d : DataW H} {p : List MemPlace}
    (h : DataW.Trod enc Try.prog W 0 (fun _ => true) true 23 (.slice ao n c) d p) : n = 0 ∨ ∃ es sp, d = .slice es sp ∧ es.length = n := by
  obtain ⟨fuel, hf⟩ := h
  rcases open_slice Try.underlying23 hf with ⟨h0, _⟩ | ⟨a, len, cap, m, n', D, Pl, h0, hb, hl, hm, hmm, hd, hx⟩
  · left
    have e : Value.slice ao n c = .slice none 0 0 := by simpa [Value.cells] using h0
    cases e; rfl
  · right
    have e : Value.slice ao n c = .slice (some a) len cap := by simpa [Value.cells] using h0
    cases e
    exact ⟨_, _, congrArg Prod.fst hd, by simp⟩

end Go.Proofs.Ytiffppnaaenalag.V
