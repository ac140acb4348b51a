/- Rules and lists of numbers among a law's arguments, as the walks ask for them. -/
import Derived.Test.YtmgkbnlmdhnjnaeU1
import Derived.OpenShut
import Derived.Deep.Slices
import Derived.Deep.Strs
import Derived.Lib.SmallJoins
import Derived.ProofKit
namespace Go.Proofs.Ytmgkbnlmdhnjnae.U
open Go.ChangeShapes Go.WideShapes Go.ChangeAt Go.RowKit Go.Joins Go.Deep

theorem add_plain (b off n : Nat) : (⟨b, off, none⟩ : Addr).add n = ⟨b, off + n, none⟩ := by
  unfold Addr.add
  by_cases h : n = 0 <;> simp [h]
theorem array5 {α : Type} {cs : Array α} (h : cs.size = 5) : ∃ c0 c1 c2 c3 c4, cs = #[c0, c1, c2, c3, c4] := by
  obtain ⟨l⟩ := cs
  match l, h with
  | [c0, c1, c2, c3, c4], _ => exact ⟨c0, c1, c2, c3, c4, rfl⟩
/-- A number that an int can hold. -/
def B64 (n : Int) : Prop := -9223372036854775808 ≤ n ∧ n ≤ 9223372036854775807
theorem b64 {n : Int} (h : (Lit.int .i64 n).wf = true) : B64 n := by
  have := bounds_i64 h; unfold B64; omega
set_option maxRecDepth 100000 in
theorem open_rules {H : Type} {enc : TypeId × Value → H} {W : World} {r : Reach} {b0 : Nat} {v : Value} {d : DataW H} {p : List MemPlace}
    (hv : Value.okWide Try.prog W r b0 38 v) (h : DataW.Trod enc Try.prog W 0 (fun _ => true) true 38 v d p) :
    ∃ q : M.Ru, v = .agg #[.int .i64 q.low, .int .i64 q.high, .bool q.above, .int .i64 q.leap, .int .i64 q.classes] ∧ B64 q.low ∧ B64 q.high ∧ B64 q.leap ∧ B64 q.classes := by
  have hC : Try.prog.cellsOf 38 = 5 := by kernel_rfl
  have h3 : Try.prog.cellsOf 3 = 1 := by kernel_rfl
  have h4 : Try.prog.cellsOf 4 = 1 := by kernel_rfl
  obtain ⟨cs, rfl, hsz⟩ := okWide_struct Try.underlying38 hv
  obtain ⟨c0, c1, c2, c3, c4, rfl⟩ := array5 (hsz.trans hC)
  obtain ⟨fuel, hf⟩ := h
  obtain ⟨xs, n, _, hx, hl, hlen, hff⟩ := DataW.trod_struct Try.underlying38 hf
  match xs, hlen with
  | [y0, y1, y2, y3, y4], _ =>
    have t0 := hff 0 _ rfl
    have t1 := hff 1 _ rfl
    have t2 := hff 2 _ rfl
    have t3 := hff 3 _ rfl
    have t4 := hff 4 _ rfl
    simp [Value.cells, h3, h4] at t0 t1 t2 t3 t4
    obtain ⟨a0, e0, _, w0⟩ := DataW.trod_int Try.underlying3 t0
    obtain ⟨a1, e1, _, w1⟩ := DataW.trod_int Try.underlying3 t1
    obtain ⟨a2, e2, _⟩ := DataW.trod_bool Try.underlying4 t2
    obtain ⟨a3, e3, _, w3⟩ := DataW.trod_int Try.underlying3 t3
    obtain ⟨a4, e4, _, w4⟩ := DataW.trod_int Try.underlying3 t4
    simp at e0 e1 e2 e3 e4
    subst e0 e1 e2 e3 e4
    exact ⟨⟨a0, a1, a2, a3, a4⟩, rfl, b64 w0, b64 w1, b64 w3, b64 w4⟩

set_option maxRecDepth 100000 in
theorem open_nums {H : Type} {enc : TypeId × Value → H} {W : World} {r : Reach} {b0 : Nat} {v : Value} {d : DataW H} {p : List MemPlace}
    (hv : Value.okWide Try.prog W r b0 39 v) (h : DataW.Trod enc Try.prog W 0 (fun _ => true) true 39 v d p) :
    ∃ (ao : Option Addr) (n c : Nat) (g : Nat → Int), v = .slice ao n c ∧ n ≤ c ∧ c ≤ 9223372036854775807 ∧ LI W ao n g := by
  obtain ⟨a0, len0, cap0, rfl⟩ := okWide_slice Try.underlying39 hv
  obtain ⟨fuel, hf⟩ := h
  rcases open_slice Try.underlying39 hf with ⟨h0, _⟩ | ⟨a, len, cap, m, n, D, Pl, h0, hb, hl, hm, hmm, _, hx⟩
  · have e : Value.slice a0 len0 cap0 = .slice none 0 0 := by simpa [Value.cells] using h0
    cases e
    exact ⟨none, 0, 0, fun _ => 0, rfl, by omega, by omega, ⟨fun h => by omega⟩⟩
  · have e : Value.slice a0 len0 cap0 = .slice (some a) len cap := by simpa [Value.cells] using h0
    cases e
    simp only [if_true] at hmm
    subst hmm
    have hC : Try.prog.cellsOf 3 = 1 := by kernel_rfl
    rw [hC] at hx
    have each : ∀ i, i < m → ∃ x : Int, W.cell? (a.add i) = some (.int .i64 x) := fun i hi => by
      obtain ⟨cs', h1, h2⟩ := hx i hi
      obtain ⟨x, hx1, _, _⟩ := DataW.trod_int Try.underlying3 h2
      subst hx1
      obtain ⟨_, _, hc⟩ := World.cells?_some h1
      have c0 := hc 0 (by omega)
      refine ⟨x, ?_⟩
      rw [Nat.mul_one] at c0
      simpa [Addr.add] using c0
    obtain ⟨V, hV⟩ := choose_lt (α := Int) (p := fun i x => W.cell? (a.add i) = some (.int .i64 x)) each
    refine ⟨some a, _, _, V, rfl, hl, by unfold maxLen at hm; omega, ⟨fun hn => ?_⟩⟩
    have hsp := World.cell?_spot (hV 0 (by omega))
    have hsp0 : a.spot = none := by simpa [Addr.add] using hsp
    obtain ⟨b, off, sp⟩ := a
    simp only at hsp0
    subst hsp0
    refine ⟨b, off, rfl, ?_, fun j hj => ?_⟩
    · have := hV 0 (by omega)
      rw [add_plain] at this
      exact block_lt_of_cell this
    · have := hV j (by omega); rw [add_plain] at this; exact this
theorem nums_len {H : Type} {enc : TypeId × Value → H} {W : World} {ao : Option Addr} {n c : Nat} {d : DataW H} {p : List MemPlace}
    (h : DataW.Trod enc Try.prog W 0 (fun _ => true) true 39 (.slice ao n c) d p) : n = 0 ∨ ∃ es sp, d = .slice es sp ∧ es.length = n := by
  obtain ⟨fuel, hf⟩ := h
  rcases open_slice Try.underlying39 hf with ⟨h0, _⟩ | ⟨a, len, cap, m, n', D, Pl, h0, hb, hl, hm, hmm, hd, hx⟩
  · left
    have e : Value.slice ao n c = .slice none 0 0 := by simpa [Value.cells] using h0
    cases e; rfl
  · right
    have e : Value.slice ao n c = .slice (some a) len cap := by simpa [Value.cells] using h0
    cases e
    exact ⟨_, _, congrArg Prod.fst hd, by simp⟩

end Go.Proofs.Ytmgkbnlmdhnjnae.U
