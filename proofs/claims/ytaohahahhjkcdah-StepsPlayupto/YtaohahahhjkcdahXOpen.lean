/- Sections, turns and numbers among a law's arguments, as the walks ask for them. -/
import Derived.Test.YtaohahahhjkcdahX11
import Derived.Test.YtaohahahhjkcdahZOpen
import Derived.OpenShut
import Derived.Deep.Slices
import Derived.Lib.SmallJoins
import Derived.ProofKit
namespace Go.Proofs.Ytaohahahhjkcdah.X
open Go.ChangeShapes Go.WideShapes Go.ChangeAt Go.RowKit Go.Joins Go.Deep
set_option linter.unusedVariables false

/-- A list among a datum's parts, its elements opened by q. -/
theorem open_row {H : Type} {enc : TypeId × Value → H} {W : World} {α : Type} (inh : Inhabited α) {fuel : Nat} {t e : TypeId} {cs : List Value} {x : DataW H × List MemPlace} (k : Nat) (hk : Try.prog.cellsOf e = k) (hk0 : 0 < k) (ht : Try.prog.underlying t = some (.slice e))
    (h : DataW.trod enc Try.prog W 0 (fun _ => true) true fuel t cs = some x) (q : α → List Value → Prop)
    (hq : ∀ n cs' y, n < fuel → DataW.trod enc Try.prog W 0 (fun _ => true) true n e cs' = some y → ∃ a, q a cs') :
    ∃ (ao : Option Addr) (cap : Nat) (L : List α), cs = [.slice ao L.length cap] ∧ L.length ≤ cap ∧ cap ≤ 9223372036854775807 ∧ (0 < L.length → ∃ b off, ao = some ⟨b, off, none⟩ ∧ b < W.heap.size ∧ ∀ i a, L[i]? = some a → ∃ cs', q a cs' ∧ cs'.length = k ∧ ∀ j, j < k → W.cell? ⟨b, off + (i * k + j), none⟩ = cs'[j]?) := by
  rcases DataW.trod_slice ht h with ⟨h0, _⟩ | ⟨a, len, cap, elems, rest, n2, hn2, h0, hx, _, hlc, hm, hlen, hel, _, _⟩
  · exact ⟨none, 0, [], h0, by simp, by omega, fun h => by simp at h⟩
  · rw [hk] at hel
    have each : ∀ i, i < len → ∃ v : α, ∃ cs', q v cs' ∧ cs'.length = k ∧ ∀ j, j < k → W.cell? (a.add (i * k + j)) = cs'[j]? := fun i hi => by
      have key := hel i hi
      rw [List.getElem?_eq_getElem (by omega)] at key
      obtain ⟨cs', g1, g2⟩ := Option.bind_eq_some_iff.1 key
      obtain ⟨v, hv⟩ := hq n2 cs' _ (by omega) g2
      obtain ⟨_, hl, hc⟩ := World.cells?_some g1
      refine ⟨v, cs', hv, hl, fun j hj => ?_⟩
      have := hc j hj
      rw [Z.add_two] at this
      exact this
    obtain ⟨V, hV⟩ := choose_lt (α := α) (p := fun i v => ∃ cs', q v cs' ∧ cs'.length = k ∧ ∀ j, j < k → W.cell? (a.add (i * k + j)) = cs'[j]?) each
    have hL : ((List.range len).map V).length = len := by simp
    refine ⟨some a, cap, (List.range len).map V, by rw [hL]; exact h0, by rw [hL]; exact hlc, by unfold maxLen at hm; omega, fun hn => ?_⟩
    rw [hL] at hn
    obtain ⟨cs0, _, hl0, hc0⟩ := hV 0 hn
    have hc00 := hc0 0 hk0
    rw [Nat.zero_mul, Nat.zero_add, List.getElem?_eq_getElem (by omega)] at hc00
    have hsp := World.cell?_spot hc00
    have hsp0 : a.spot = none := by simpa [Addr.add] using hsp
    obtain ⟨b, off, sp⟩ := a
    simp only at hsp0
    subst hsp0
    refine ⟨b, off, rfl, ?_, fun i v hi => ?_⟩
    · rw [Z.add_plain] at hc00
      exact block_lt_of_cell hc00
    · obtain ⟨hil, hie⟩ := List.getElem?_eq_some_iff.1 hi
      rw [hL] at hil
      have he : V i = v := by simpa using hie
      obtain ⟨cs', h1, h2, h3⟩ := hV i hil
      rw [he] at h1
      exact ⟨cs', h1, h2, fun j hj => by have := h3 j hj; rw [Z.add_plain] at this; exact this⟩
/-- A section and where its events and kids lie. -/
def SecQ (W : World) (s : M.Sc) (cs : List Value) : Prop := ∃ (ea : Option Addr) (ec : Nat) (ka : Option Addr) (kc : Nat), cs = [.int .i64 s.t, .int .i64 s.l, .slice ea s.ev.length ec, .slice ka s.kids.length kc] ∧ SV W (· < W.heap.size) s ea ec ka kc
theorem ll_row {W : World} {ao : Option Addr} {L : List M.Sc} (h : 0 < L.length → ∃ b off, ao = some ⟨b, off, none⟩ ∧ b < W.heap.size ∧ ∀ i a, L[i]? = some a → ∃ cs', SecQ W a cs' ∧ cs'.length = 4 ∧ ∀ j, j < 4 → W.cell? ⟨b, off + (i * 4 + j), none⟩ = cs'[j]?) : LL W (· < W.heap.size) ao L := ⟨fun hn => by
  obtain ⟨b, off, h1, h2, h3⟩ := h hn
  refine ⟨b, off, h1, h2, fun i s hi => ?_⟩
  obtain ⟨cs', ⟨ea, ec, ka, kc, rfl, hS⟩, _, h4⟩ := h3 i s hi
  refine ⟨ea, ec, ka, kc, ⟨?_, ?_, ?_, ?_⟩, hS⟩
  · exact h4 0 (by omega)
  · rw [Nat.add_assoc]; exact h4 1 (by omega)
  · rw [Nat.add_assoc]; exact h4 2 (by omega)
  · rw [Nat.add_assoc]; exact h4 3 (by omega)⟩
theorem el_row {W : World} {ao : Option Addr} {L : List Z.M.Ev} (h : 0 < L.length → ∃ b off, ao = some ⟨b, off, none⟩ ∧ b < W.heap.size ∧ ∀ i a, L[i]? = some a → ∃ cs' : List Value, (cs' = [.int .i64 a.t, .int .i64 a.k, .int .i64 a.c, .int .i64 a.a, .int .i64 a.b] ∧ a.t ≤ 9223372036854775807) ∧ cs'.length = 5 ∧ ∀ j, j < 5 → W.cell? ⟨b, off + (i * 5 + j), none⟩ = cs'[j]?) : EL W (· < W.heap.size) ao L ∧ ∀ e ∈ L, e.t ≤ 9223372036854775807 := by
  refine ⟨⟨fun hn => ?_⟩, fun e he => ?_⟩
  · obtain ⟨b, off, h1, h2, h3⟩ := h hn
    refine ⟨b, off, h1, h2, fun i s hi => ?_⟩
    obtain ⟨cs', ⟨rfl, _⟩, _, h4⟩ := h3 i s hi
    refine ⟨?_, ?_, ?_, ?_, ?_⟩
    · exact h4 0 (by omega)
    · rw [Nat.add_assoc]; exact h4 1 (by omega)
    · rw [Nat.add_assoc]; exact h4 2 (by omega)
    · rw [Nat.add_assoc]; exact h4 3 (by omega)
    · rw [Nat.add_assoc]; exact h4 4 (by omega)
  · obtain ⟨i, hi, rfl⟩ := List.getElem_of_mem he
    obtain ⟨b, off, h1, h2, h3⟩ := h (by omega)
    obtain ⟨cs', ⟨_, g⟩, _⟩ := h3 i L[i] (List.getElem?_eq_getElem hi)
    exact g
set_option maxRecDepth 100000 in
theorem sec_cells {H : Type} {enc : TypeId × Value → H} {W : World} (N : Nat) : ∀ (fuel : Nat) (cs : List Value) (x : DataW H × List MemPlace), fuel ≤ N → DataW.trod enc Try.prog W 0 (fun _ => true) true fuel 44 cs = some x → ∃ s, SecQ W s cs := by
  have hC : Try.prog.cellsOf 44 = 4 := by kernel_rfl
  have hE : Try.prog.cellsOf 61 = 5 := by kernel_rfl
  have h3 : Try.prog.cellsOf 3 = 1 := by kernel_rfl
  have hSE : Try.prog.cellsOf 32 = 1 := by kernel_rfl
  have hSS : Try.prog.cellsOf 22 = 1 := by kernel_rfl
  induction N with
  | zero =>
    intro fuel cs x hN h
    obtain rfl : fuel = 0 := by omega
    simp [DataW.trod] at h
  | succ N ih =>
    intro fuel cs x hN h
    obtain ⟨xs, n, hfu, hx, hl, hxl, hf⟩ := DataW.trod_struct Try.underlying44 h
    rw [hC] at hl
    match xs, hxl, cs, hl with
    | [y0, y1, y2, y3], _, [c0, c1, c2, c3], _ =>
      have t0 := hf 0 _ rfl
      have t1 := hf 1 _ rfl
      have t2 := hf 2 _ rfl
      have t3 := hf 3 _ rfl
      simp [h3, hSE, hSS] at t0 t1 t2 t3
      obtain ⟨k0, e0, _⟩ := DataW.trod_int Try.underlying3 t0
      obtain ⟨k1, e1, _⟩ := DataW.trod_int Try.underlying3 t1
      simp at e0 e1
      obtain ⟨ea, ec, EV, ep, el1, el2, hev⟩ := open_row (⟨⟨0, 0, 0, 0, 0⟩⟩ : Inhabited Z.M.Ev) 5 hE (by omega) Try.underlying32 t2 (fun y cs' => cs' = [.int .i64 y.t, .int .i64 y.k, .int .i64 y.c, .int .i64 y.a, .int .i64 y.b] ∧ y.t ≤ 9223372036854775807) (fun n cs' y _ hy => Z.open_event_cells hy)
      obtain ⟨ka, kc, KV, ek, kl1, kl2, hkd⟩ := open_row (⟨⟨0, 0, [], []⟩⟩ : Inhabited M.Sc) 4 hC (by omega) Try.underlying22 t3 (SecQ W) (fun m cs' y hm hy => ih m cs' y (by omega) hy)
      simp at ep ek
      subst e0 e1 ep ek
      obtain ⟨q1, q2⟩ := el_row hev
      exact ⟨⟨k0, k1, EV, KV⟩, ea, ec, ka, kc, rfl, ⟨el1, el2, kl1, kl2, q2⟩, q1, LL.ls (ll_row hkd)⟩
set_option maxRecDepth 100000 in
theorem open_sections {H : Type} {enc : TypeId × Value → H} {W : World} {r : Reach} {b0 : Nat} {v : Value} {d : DataW H} {p : List MemPlace}
    (hv : Value.okWide Try.prog W r b0 22 v) (h : DataW.Trod enc Try.prog W 0 (fun _ => true) true 22 v d p) :
    ∃ (ao : Option Addr) (c : Nat) (l : List M.Sc), v = .slice ao l.length c ∧ l.length ≤ c ∧ c ≤ 9223372036854775807 ∧ LL W (· < W.heap.size) ao l := by
  have hC : Try.prog.cellsOf 44 = 4 := by kernel_rfl
  obtain ⟨a0, len0, cap0, rfl⟩ := okWide_slice Try.underlying22 hv
  obtain ⟨fuel, hf⟩ := h
  obtain ⟨ao, cap, L, h0, h1, h2, h3⟩ := open_row (⟨⟨0, 0, [], []⟩⟩ : Inhabited M.Sc) 4 hC (by omega) Try.underlying22 hf (SecQ W) (fun m cs' y hm hy => sec_cells m m cs' y (Nat.le_refl _) hy)
  have e : Value.slice a0 len0 cap0 = .slice ao L.length cap := by simpa [Value.cells] using h0
  exact ⟨ao, cap, L, e, h1, h2, ll_row h3⟩
theorem array4 {c : Array Value} (h : c.size = 4) : ∃ a b d e, c = #[a, b, d, e] := by
  obtain ⟨l⟩ := c
  match l, h with
  | [a, b, d, e], _ => exact ⟨a, b, d, e, rfl⟩
set_option maxRecDepth 100000 in
theorem open_section {H : Type} {enc : TypeId × Value → H} {W : World} {r : Reach} {b0 : Nat} {v : Value} {d : DataW H} {p : List MemPlace}
    (hv : Value.okWide Try.prog W r b0 44 v) (h : DataW.Trod enc Try.prog W 0 (fun _ => true) true 44 v d p) :
    ∃ (s : M.Sc) (ea : Option Addr) (ec : Nat) (ka : Option Addr) (kc : Nat), v = sa s ea ec ka kc ∧ SV W (· < W.heap.size) s ea ec ka kc := by
  have hC : Try.prog.cellsOf 44 = 4 := by kernel_rfl
  obtain ⟨cs, rfl, hsz⟩ := okWide_struct Try.underlying44 hv
  obtain ⟨c0, c1, c2, c3, rfl⟩ := array4 (hsz.trans hC)
  obtain ⟨fuel, hf⟩ := h
  obtain ⟨s, ea, ec, ka, kc, e, hS⟩ := sec_cells fuel fuel _ _ (Nat.le_refl _) hf
  have e' : [c0, c1, c2, c3] = [.int .i64 s.t, .int .i64 s.l, .slice ea s.ev.length ec, .slice ka s.kids.length kc] := by simpa [Value.cells] using e
  simp only [List.cons.injEq, and_true] at e'
  obtain ⟨rfl, rfl, rfl, rfl⟩ := e'
  exact ⟨s, ea, ec, ka, kc, rfl, hS⟩
set_option maxRecDepth 100000 in
theorem turn_cells {H : Type} {enc : TypeId × Value → H} {W : World} {n : Nat} {cs : List Value} {x : DataW H × List MemPlace}
    (h : DataW.trod enc Try.prog W 0 (fun _ => true) true n 31 cs = some x) : ∃ p : Int × Int, cs = [.int .i64 p.1, .int .i64 p.2] ∧ p.2 ≤ 9223372036854775807 := by
  have hC : Try.prog.cellsOf 31 = 2 := by kernel_rfl
  have h3 : Try.prog.cellsOf 3 = 1 := by kernel_rfl
  obtain ⟨xs, n2, _, _, hl, hxl, hf⟩ := DataW.trod_struct Try.underlying31 h
  rw [hC] at hl
  match xs, hxl, cs, hl with
  | [y0, y1], _, [c0, c1], _ =>
    have t0 := hf 0 _ rfl
    have t1 := hf 1 _ rfl
    simp [h3] at t0 t1
    obtain ⟨k0, e0, _⟩ := DataW.trod_int Try.underlying3 t0
    obtain ⟨k1, e1, _, wa⟩ := DataW.trod_int Try.underlying3 t1
    have wb := bounds_i64 wa
    simp at e0 e1
    exact ⟨(k0, k1), by rw [e0, e1], by simp only; omega⟩
set_option maxRecDepth 100000 in
theorem open_turns {H : Type} {enc : TypeId × Value → H} {W : World} {r : Reach} {b0 : Nat} {v : Value} {d : DataW H} {p : List MemPlace}
    (hv : Value.okWide Try.prog W r b0 23 v) (h : DataW.Trod enc Try.prog W 0 (fun _ => true) true 23 v d p) :
    ∃ (ao : Option Addr) (c : Nat) (l : List (Int × Int)), v = .slice ao l.length c ∧ l.length ≤ c ∧ c ≤ 9223372036854775807 ∧ TL W (· < W.heap.size) ao l := by
  have hC : Try.prog.cellsOf 31 = 2 := by kernel_rfl
  obtain ⟨a0, len0, cap0, rfl⟩ := okWide_slice Try.underlying23 hv
  obtain ⟨fuel, hf⟩ := h
  obtain ⟨ao, cap, L, h0, h1, h2, h3⟩ := open_row (⟨(0, 0)⟩ : Inhabited (Int × Int)) 2 hC (by omega) Try.underlying23 hf (fun p cs' => cs' = [.int .i64 p.1, .int .i64 p.2] ∧ p.2 ≤ 9223372036854775807) (fun m cs' y hm hy => turn_cells hy)
  have e : Value.slice a0 len0 cap0 = .slice ao L.length cap := by simpa [Value.cells] using h0
  refine ⟨ao, cap, L, e, h1, h2, ⟨fun hn => ?_⟩⟩
  obtain ⟨b, off, g1, g2, g3⟩ := h3 hn
  refine ⟨b, off, g1, g2, fun i t hi => ?_⟩
  obtain ⟨cs', ⟨rfl, g5⟩, _, h4⟩ := g3 i t hi
  refine ⟨h4 0 (by omega), ?_, g5⟩
  rw [Nat.add_assoc]; exact h4 1 (by omega)
/-- Numbers as they lie. -/
structure NL (w : World) (ao : Option Addr) (l : List Int) : Prop where
  at' : 0 < l.length → ∃ b off, ao = some ⟨b, off, none⟩ ∧ b < w.heap.size ∧ ∀ j x, l[j]? = some x → w.cell? ⟨b, off + j, none⟩ = some (.int .i64 x)
theorem NL.step {w w' : World} {ao : Option Addr} {l : List Int} (h : NL w ao l) (hb : Below w.heap.size w w') : NL w' ao l := ⟨fun hn => by
  obtain ⟨b, off, h1, h2, h3⟩ := h.at' hn
  have := hb.size
  exact ⟨b, off, h1, by omega, fun j x hj => keepC hb h2 (h3 j x hj)⟩⟩
set_option maxRecDepth 100000 in
theorem open_nums {H : Type} {enc : TypeId × Value → H} {W : World} {r : Reach} {b0 : Nat} {v : Value} {d : DataW H} {p : List MemPlace}
    (hv : Value.okWide Try.prog W r b0 39 v) (h : DataW.Trod enc Try.prog W 0 (fun _ => true) true 39 v d p) :
    ∃ (ao : Option Addr) (c : Nat) (l : List Int), v = .slice ao l.length c ∧ l.length ≤ c ∧ c ≤ 9223372036854775807 ∧ NL W ao l := by
  have hC : Try.prog.cellsOf 3 = 1 := by kernel_rfl
  obtain ⟨a0, len0, cap0, rfl⟩ := okWide_slice Try.underlying39 hv
  obtain ⟨fuel, hf⟩ := h
  obtain ⟨ao, cap, L, h0, h1, h2, h3⟩ := open_row (⟨0⟩ : Inhabited Int) 1 hC (by omega) Try.underlying39 hf (fun x cs' => cs' = [.int .i64 x]) (fun m cs' y hm hy => by
    obtain ⟨k0, e0, _⟩ := DataW.trod_int Try.underlying3 hy
    exact ⟨k0, e0⟩)
  have e : Value.slice a0 len0 cap0 = .slice ao L.length cap := by simpa [Value.cells] using h0
  refine ⟨ao, cap, L, e, h1, h2, ⟨fun hn => ?_⟩⟩
  obtain ⟨b, off, g1, g2, g3⟩ := h3 hn
  refine ⟨b, off, g1, g2, fun i t hi => ?_⟩
  obtain ⟨cs', rfl, _, h4⟩ := g3 i t hi
  have := h4 0 (by omega)
  rw [Nat.mul_one, Nat.add_zero] at this
  exact this
end Go.Proofs.Ytaohahahhjkcdah.X
