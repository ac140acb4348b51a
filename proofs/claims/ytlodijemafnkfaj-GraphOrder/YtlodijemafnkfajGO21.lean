/- Coefficients, lists of floats and lists of such lists among a law's arguments, as the walks ask for them. -/
import Derived.Test.YtlodijemafnkfajGO13
import Derived.OpenShut
import Derived.Deep.Slices
import Derived.Lib.SmallJoins
import Derived.ProofKit
import Derived.Laws.Cover2
namespace Go.Proofs.Ytlodijemafnkfaj.Fi
open Go.ChangeShapes Go.WideShapes Go.ChangeAt Go.RowKit Go.Joins Go.Deep
set_option linter.unusedVariables false

theorem add_two (a : Addr) (i j : Nat) : (a.add i).add j = a.add (i + j) := by
  unfold Addr.add
  by_cases h : i = 0 <;> by_cases g : j = 0 <;> simp [h, g, Nat.add_assoc]
theorem add_plain (b off n : Nat) : (⟨b, off, none⟩ : Addr).add n = ⟨b, off + n, none⟩ := by
  unfold Addr.add
  by_cases h : n = 0 <;> simp [h]
theorem trod_float {H : Type} {enc : TypeId × Value → H} {P : Program} {w : World} {base : Nat} {spare : Nat → Bool} {held : Bool} {n : Nat} {t : TypeId} {c : Value} {y : DataW H × List MemPlace} {k : FloatKind} (ht : P.underlying t = some (.float k)) (h : DataW.trod enc P w base spare held n t [c] = some y) : ∃ b, c = .float k b ∧ (Lit.float k b).wf = true := by
  cases n with
  | zero => simp [DataW.trod] at h
  | succ n =>
    simp only [DataW.trod, ht] at h
    cases c with
    | float k' b =>
      by_cases hk : k' = k
      · subst hk
        by_cases hw : (Lit.float k' b).wf = true
        · exact ⟨b, rfl, hw⟩
        · simp [hw] at h
      · simp [hk] at h
    | _ => simp at h
/-- A list among a datum's parts, its elements opened by q. -/
theorem open_row {H : Type} {enc : TypeId × Value → H} {W : World} {α : Type} (inh : Inhabited α) {fuel : Nat} {t e : TypeId} {cs : List Value} {x : DataW H × List MemPlace} (k : Nat) (hk : Try.prog.cellsOf e = k) (hk0 : 0 < k) (ht : Try.prog.underlying t = some (.slice e))
    (h : DataW.trod enc Try.prog W 0 (fun _ => true) true fuel t cs = some x) (q : α → List Value → Prop)
    (hq : ∀ n cs' y, n < fuel → DataW.trod enc Try.prog W 0 (fun _ => true) true n e cs' = some y → ∃ a, q a cs') :
    ∃ (ao : Option Addr) (cap : Nat) (L : List α), cs = [.slice ao L.length cap] ∧ L.length ≤ cap ∧ cap ≤ 9223372036854775807 ∧ (ao = none → cap = 0) ∧ (0 < L.length → ∃ b off, ao = some ⟨b, off, none⟩ ∧ b < W.heap.size ∧ ∀ i a, L[i]? = some a → ∃ cs', q a cs' ∧ cs'.length = k ∧ ∀ j, j < k → W.cell? ⟨b, off + (i * k + j), none⟩ = cs'[j]?) := by
  rcases DataW.trod_slice ht h with ⟨h0, _⟩ | ⟨a, len, cap, elems, rest, n2, hn2, h0, hx, _, hlc, hm, hlen, hel, _, _⟩
  · exact ⟨none, 0, [], h0, by simp, by omega, fun _ => rfl, fun h => by simp at h⟩
  · rw [hk] at hel
    have each : ∀ i, i < len → ∃ v : α, ∃ cs', q v cs' ∧ cs'.length = k ∧ ∀ j, j < k → W.cell? (a.add (i * k + j)) = cs'[j]? := fun i hi => by
      have key := hel i hi
      rw [List.getElem?_eq_getElem (by omega)] at key
      obtain ⟨cs', g1, g2⟩ := Option.bind_eq_some_iff.1 key
      obtain ⟨v, hv⟩ := hq n2 cs' _ (by omega) g2
      obtain ⟨_, hl, hc⟩ := World.cells?_some g1
      refine ⟨v, cs', hv, hl, fun j hj => ?_⟩
      have := hc j hj
      rw [add_two] at this
      exact this
    obtain ⟨V, hV⟩ := choose_lt (α := α) (p := fun i v => ∃ cs', q v cs' ∧ cs'.length = k ∧ ∀ j, j < k → W.cell? (a.add (i * k + j)) = cs'[j]?) each
    have hL : ((List.range len).map V).length = len := by simp
    refine ⟨some a, cap, (List.range len).map V, by rw [hL]; exact h0, by rw [hL]; exact hlc, by unfold maxLen at hm; omega, fun q => (by cases q), fun hn => ?_⟩
    rw [hL] at hn
    obtain ⟨cs0, _, hl0, hc0⟩ := hV 0 hn
    have hc00 := hc0 0 hk0
    rw [Nat.zero_mul, Nat.zero_add, List.getElem?_eq_getElem (by omega)] at hc00
    have hsp := World.cell?_spot hc00
    have hsp0 : a.spot = none := by simpa [Addr.add] using hsp
    obtain ⟨b, off, sp⟩ := a
    simp only at hsp0
    subst hsp0
    refine ⟨b, off, rfl, ?_, fun i v hi => ?_⟩
    · rw [add_plain] at hc00
      exact block_lt_of_cell hc00
    · obtain ⟨hil, hie⟩ := List.getElem?_eq_some_iff.1 hi
      rw [hL] at hil
      have he : V i = v := by simpa using hie
      obtain ⟨cs', h1, h2, h3⟩ := hV i hil
      rw [he] at h1
      exact ⟨cs', h1, h2, fun j hj => by have := h3 j hj; rw [add_plain] at this; exact this⟩
theorem fbd {n : Nat} (h : (Lit.float .f64 n).wf = true) : n < 18446744073709551616 := by simpa [Lit.wf] using h
theorem array5 {α : Type} {cs : Array α} (h : cs.size = 5) : ∃ c0 c1 c2 c3 c4, cs = #[c0, c1, c2, c3, c4] := by
  obtain ⟨l⟩ := cs
  match l, h with
  | [c0, c1, c2, c3, c4], _ => exact ⟨c0, c1, c2, c3, c4, rfl⟩
set_option maxRecDepth 100000 in
theorem open_coefs {H : Type} {enc : TypeId × Value → H} {W : World} {r : Reach} {b0 : Nat} {v : Value} {d : DataW H} {p : List MemPlace}
    (hv : Value.okWide Try.prog W r b0 24 v) (h : DataW.Trod enc Try.prog W 0 (fun _ => true) true 24 v d p) :
    ∃ q : Cf, v = cv q ∧ WfC q := by
  have hC : Try.prog.cellsOf 24 = 5 := by kernel_rfl
  have hF : Try.prog.cellsOf 22 = 1 := by kernel_rfl
  obtain ⟨cs, rfl, hsz⟩ := okWide_struct Try.underlying24 hv
  obtain ⟨c0, c1, c2, c3, c4, rfl⟩ := array5 (hsz.trans hC)
  obtain ⟨fuel, hf⟩ := h
  obtain ⟨xs, n, _, hx, hl, hlen, hff⟩ := DataW.trod_struct Try.underlying24 hf
  match xs, hlen with
  | [y0, y1, y2, y3, y4], _ =>
    have t0 := hff 0 _ rfl
    have t1 := hff 1 _ rfl
    have t2 := hff 2 _ rfl
    have t3 := hff 3 _ rfl
    have t4 := hff 4 _ rfl
    simp [Value.cells, hF] at t0 t1 t2 t3 t4
    obtain ⟨a0, e0, w0⟩ := trod_float Try.underlying22 t0
    obtain ⟨a1, e1, w1⟩ := trod_float Try.underlying22 t1
    obtain ⟨a2, e2, w2⟩ := trod_float Try.underlying22 t2
    obtain ⟨a3, e3, w3⟩ := trod_float Try.underlying22 t3
    obtain ⟨a4, e4, w4⟩ := trod_float Try.underlying22 t4
    subst e0 e1 e2 e3 e4
    exact ⟨⟨a0, a1, a2, a3, a4⟩, rfl, ⟨fbd w0, fbd w1, fbd w2, fbd w3, fbd w4⟩⟩
/-- A list of floats, by its cells. -/
theorem floats_of {H : Type} {enc : TypeId × Value → H} {W : World} {fuel : Nat} {cs : List Value} {x : DataW H × List MemPlace} (hf : DataW.trod enc Try.prog W 0 (fun _ => true) true fuel 25 cs = some x) :
    ∃ (ao : Option Addr) (c : Nat) (l : List Nat), cs = [.slice ao l.length c] ∧ l.length ≤ c ∧ c ≤ 9223372036854775807 ∧ (ao = none → c = 0) ∧ IL W (fun k => k < W.heap.size) ao l := by
  have hC : Try.prog.cellsOf 22 = 1 := by kernel_rfl
  obtain ⟨ao, cap, L, h0, h1, h2, h2b, h3⟩ := open_row (⟨0⟩ : Inhabited Nat) 1 hC (by omega) Try.underlying25 hf (fun x cs' => cs' = [.float .f64 x] ∧ x < 18446744073709551616) (fun m cs' y hm hy => by
    match cs' with
    | [] => cases m <;> simp [DataW.trod, Try.underlying22] at hy
    | [c] =>
      obtain ⟨b, e, wf⟩ := trod_float Try.underlying22 hy
      exact ⟨b, by rw [e], fbd wf⟩
    | c :: d :: r => cases m <;> simp [DataW.trod, Try.underlying22] at hy)
  refine ⟨ao, cap, L, h0, h1, h2, h2b, ⟨fun hn => ?_⟩⟩
  obtain ⟨b, off, g1, g2, g3⟩ := h3 hn
  refine ⟨b, off, g1, g2, g2, fun i t hi => ?_⟩
  obtain ⟨cs', ⟨rfl, g5⟩, _, h4⟩ := g3 i t hi
  have := h4 0 (by omega)
  rw [Nat.mul_one, Nat.add_zero] at this
  exact ⟨this, g5⟩
set_option maxRecDepth 100000 in
theorem open_floats {H : Type} {enc : TypeId × Value → H} {W : World} {r : Reach} {b0 : Nat} {v : Value} {d : DataW H} {p : List MemPlace}
    (hv : Value.okWide Try.prog W r b0 25 v) (h : DataW.Trod enc Try.prog W 0 (fun _ => true) true 25 v d p) :
    ∃ (ao : Option Addr) (c n : Nat) (l : List Nat), v = .slice ao n c ∧ l.length = n ∧ n ≤ c ∧ c ≤ 9223372036854775807 ∧ (ao = none → c = 0) ∧ IL W (fun k => k < W.heap.size) ao l := by
  obtain ⟨a0, len0, cap0, rfl⟩ := okWide_slice Try.underlying25 hv
  obtain ⟨fuel, hf⟩ := h
  obtain ⟨ao, cap, L, h0, h1, h2, h2b, h3⟩ := floats_of hf
  have e : Value.slice a0 len0 cap0 = .slice ao L.length cap := by simpa [Value.cells] using h0
  exact ⟨ao, cap, L.length, L, e, rfl, h1, h2, h2b, h3⟩
theorem floats_len {H : Type} {enc : TypeId × Value → H} {W : World} {ao : Option Addr} {n c : Nat} {d : DataW H} {p : List MemPlace}
    (h : DataW.Trod enc Try.prog W 0 (fun _ => true) true 25 (.slice ao n c) d p) : n = 0 ∨ ∃ es sp, d = .slice es sp ∧ es.length = n := by
  obtain ⟨fuel, hf⟩ := h
  rcases open_slice Try.underlying25 hf with ⟨h0, _⟩ | ⟨a, len, cap, m, n', D, Pl, h0, hb, hl, hm, hmm, hd, hx⟩
  · left
    have e : Value.slice ao n c = .slice none 0 0 := by simpa [Value.cells] using h0
    cases e; rfl
  · right
    have e : Value.slice ao n c = .slice (some a) len cap := by simpa [Value.cells] using h0
    cases e
    exact ⟨_, _, congrArg Prod.fst hd, by simp⟩
set_option maxRecDepth 100000 in
theorem open_pieces {H : Type} {enc : TypeId × Value → H} {W : World} {r : Reach} {b0 : Nat} {v : Value} {d : DataW H} {p : List MemPlace}
    (hv : Value.okWide Try.prog W r b0 27 v) (h : DataW.Trod enc Try.prog W 0 (fun _ => true) true 27 v d p) :
    ∃ (ao : Option Addr) (c n : Nat) (ps : List (List Nat)), v = .slice ao n c ∧ ps.length = n ∧ n ≤ c ∧ c ≤ 9223372036854775807 ∧ (ao = none → c = 0) ∧ PL W W.heap.size ao ps := by
  have hC : Try.prog.cellsOf 25 = 1 := by kernel_rfl
  obtain ⟨a0, len0, cap0, rfl⟩ := okWide_slice Try.underlying27 hv
  obtain ⟨fuel, hf⟩ := h
  obtain ⟨ao, cap, L, h0, h1, h2, h2b, h3⟩ := open_row (⟨[]⟩ : Inhabited (List Nat)) 1 hC (by omega) Try.underlying27 hf (fun l cs' => ∃ xa xc, cs' = [.slice xa l.length xc] ∧ l.length ≤ xc ∧ xc ≤ 9223372036854775807 ∧ (xa = none → xc = 0) ∧ IL W (fun k => k < W.heap.size) xa l) (fun m cs' y hm hy => by
    obtain ⟨xa, xc, l, e1, e2, e3, e4, e5⟩ := floats_of hy
    exact ⟨l, xa, xc, e1, e2, e3, e4, e5⟩)
  have e : Value.slice a0 len0 cap0 = .slice ao L.length cap := by simpa [Value.cells] using h0
  refine ⟨ao, cap, L.length, L, e, rfl, h1, h2, h2b, ⟨fun hn => ?_⟩⟩
  obtain ⟨b, off, g1, g2, g3⟩ := h3 hn
  refine ⟨b, off, g1, g2, fun i t hi => ?_⟩
  obtain ⟨cs', ⟨xa, xc, rfl, g5, g6, g7, g8⟩, _, h4⟩ := g3 i t hi
  have := h4 0 (by omega)
  rw [Nat.mul_one, Nat.add_zero] at this
  exact ⟨xa, xc, this, g5, g6, g7, g8⟩
end Go.Proofs.Ytlodijemafnkfaj.Fi
