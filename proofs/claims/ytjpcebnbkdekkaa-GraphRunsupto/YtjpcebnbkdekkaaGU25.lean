/- Coefficients, lists of floats and lists of such lists among a law's arguments, as the walks ask for them. -/
import Derived.Test.YtjpcebnbkdekkaaGU14
import Derived.Test.YtjpcebnbkdekkaaRows
import Derived.OpenShut
import Derived.Deep.Slices
import Derived.Lib.SmallJoins
import Derived.ProofKit
import Derived.Laws.Cover2
namespace Go.Proofs.Ytjpcebnbkdekkaa.Fi
open Go.ChangeShapes Go.WideShapes Go.ChangeAt Go.RowKit Go.Joins Go.Deep
set_option linter.unusedVariables false

theorem add_two (a : Addr) (i j : Nat) : (a.add i).add j = a.add (i + j) := by
  unfold Addr.add
  by_cases h : i = 0 <;> by_cases g : j = 0 <;> simp [h, g, Nat.add_assoc]
theorem add_plain (b off n : Nat) : (⟨b, off, none⟩ : Addr).add n = ⟨b, off + n, none⟩ := by
  unfold Addr.add
  by_cases h : n = 0 <;> simp [h]
theorem trod_float {H : Type} {enc : TypeId × Value → H} {P : Program} {w : World} {base : Nat} {spare : Nat → Bool} {held : Bool} {n : Nat} {t : TypeId} {c : Value} {y : DataW H × List MemPlace} {k : FloatKind} (ht : P.underlying t = some (.float k)) (h : DataW.trod enc P w base spare held n t [c] = some y) : ∃ b, c = .float k b ∧ (Lit.float k b).wf = true := by
  cases n with
  | zero => simp [DataW.trod] at h
  | succ n =>
    simp only [DataW.trod, ht] at h
    cases c with
    | float k' b =>
      by_cases hk : k' = k
      · subst hk
        by_cases hw : (Lit.float k' b).wf = true
        · exact ⟨b, rfl, hw⟩
        · simp [hw] at h
      · simp [hk] at h
    | _ => simp at h
/-- A list among a datum's parts, its elements opened by q. -/
theorem open_row {H : Type} {enc : TypeId × Value → H} {W : World} {α : Type} (inh : Inhabited α) {fuel : Nat} {t e : TypeId} {cs : List Value} {x : DataW H × List MemPlace} (k : Nat) (hk : Try.prog.cellsOf e = k) (hk0 : 0 < k) (ht : Try.prog.underlying t = some (.slice e))
    (h : DataW.trod enc Try.prog W 0 (fun _ => true) true fuel t cs = some x) (q : α → List Value → Prop)
    (hq : ∀ n cs' y, n < fuel → DataW.trod enc Try.prog W 0 (fun _ => true) true n e cs' = some y → ∃ a, q a cs') :
    ∃ (ao : Option Addr) (cap : Nat) (L : List α), cs = [.slice ao L.length cap] ∧ L.length ≤ cap ∧ cap ≤ 9223372036854775807 ∧ (ao = none → cap = 0) ∧ (0 < L.length → ∃ b off, ao = some ⟨b, off, none⟩ ∧ b < W.heap.size ∧ ∀ i a, L[i]? = some a → ∃ cs', q a cs' ∧ cs'.length = k ∧ ∀ j, j < k → W.cell? ⟨b, off + (i * k + j), none⟩ = cs'[j]?) := by
  rcases DataW.trod_slice ht h with ⟨h0, _⟩ | ⟨a, len, cap, elems, rest, n2, hn2, h0, hx, _, hlc, hm, hlen, hel, _, _⟩
  · exact ⟨none, 0, [], h0, by simp, by omega, fun _ => rfl, fun h => by simp at h⟩
  · rw [hk] at hel
    have each : ∀ i, i < len → ∃ v : α, ∃ cs', q v cs' ∧ cs'.length = k ∧ ∀ j, j < k → W.cell? (a.add (i * k + j)) = cs'[j]? := fun i hi => by
      have key := hel i hi
      rw [List.getElem?_eq_getElem (by omega)] at key
      obtain ⟨cs', g1, g2⟩ := Option.bind_eq_some_iff.1 key
      obtain ⟨v, hv⟩ := hq n2 cs' _ (by omega) g2
      obtain ⟨_, hl, hc⟩ := World.cells?_some g1
      refine ⟨v, cs', hv, hl, fun j hj => ?_⟩
      have := hc j hj
      rw [add_two] at this
      exact this
    obtain ⟨V, hV⟩ := choose_lt (α := α) (p := fun i v => ∃ cs', q v cs' ∧ cs'.length = k ∧ ∀ j, j < k → W.cell? (a.add (i * k + j)) = cs'[j]?) each
    have hL : ((List.range len).map V).length = len := by simp
    refine ⟨some a, cap, (List.range len).map V, by rw [hL]; exact h0, by rw [hL]; exact hlc, by unfold maxLen at hm; omega, fun q => (by cases q), fun hn => ?_⟩
    rw [hL] at hn
    obtain ⟨cs0, _, hl0, hc0⟩ := hV 0 hn
    have hc00 := hc0 0 hk0
    rw [Nat.zero_mul, Nat.zero_add, List.getElem?_eq_getElem (by omega)] at hc00
    have hsp := World.cell?_spot hc00
    have hsp0 : a.spot = none := by simpa [Addr.add] using hsp
    obtain ⟨b, off, sp⟩ := a
    simp only at hsp0
    subst hsp0
    refine ⟨b, off, rfl, ?_, fun i v hi => ?_⟩
    · rw [add_plain] at hc00
      exact block_lt_of_cell hc00
    · obtain ⟨hil, hie⟩ := List.getElem?_eq_some_iff.1 hi
      rw [hL] at hil
      have he : V i = v := by simpa using hie
      obtain ⟨cs', h1, h2, h3⟩ := hV i hil
      rw [he] at h1
      exact ⟨cs', h1, h2, fun j hj => by have := h3 j hj; rw [add_plain] at this; exact this⟩
theorem fbd {n : Nat} (h : (Lit.float .f64 n).wf = true) : n < 18446744073709551616 := by simpa [Lit.wf] using h
theorem array5 {α : Type} {cs : Array α} (h : cs.size = 5) : ∃ c0 c1 c2 c3 c4, cs = #[c0, c1, c2, c3, c4] := by
  obtain ⟨l⟩ := cs
  match l, h with
  | [c0, c1, c2, c3, c4], _ => exact ⟨c0, c1, c2, c3, c4, rfl⟩
set_option maxRecDepth 100000 in
theorem open_coefs {H : Type} {enc : TypeId × Value → H} {W : World} {r : Reach} {b0 : Nat} {v : Value} {d : DataW H} {p : List MemPlace}
    (hv : Value.okWide Try.prog W r b0 48 v) (h : DataW.Trod enc Try.prog W 0 (fun _ => true) true 48 v d p) :
    ∃ q : Cf, v = cv q ∧ WfC q := by
  have hC : Try.prog.cellsOf 48 = 5 := by kernel_rfl
  have hF : Try.prog.cellsOf 46 = 1 := by kernel_rfl
  obtain ⟨cs, rfl, hsz⟩ := okWide_struct Try.underlying48 hv
  obtain ⟨c0, c1, c2, c3, c4, rfl⟩ := array5 (hsz.trans hC)
  obtain ⟨fuel, hf⟩ := h
  obtain ⟨xs, n, _, hx, hl, hlen, hff⟩ := DataW.trod_struct Try.underlying48 hf
  match xs, hlen with
  | [y0, y1, y2, y3, y4], _ =>
    have t0 := hff 0 _ rfl
    have t1 := hff 1 _ rfl
    have t2 := hff 2 _ rfl
    have t3 := hff 3 _ rfl
    have t4 := hff 4 _ rfl
    simp [Value.cells, hF] at t0 t1 t2 t3 t4
    obtain ⟨a0, e0, w0⟩ := trod_float Try.underlying46 t0
    obtain ⟨a1, e1, w1⟩ := trod_float Try.underlying46 t1
    obtain ⟨a2, e2, w2⟩ := trod_float Try.underlying46 t2
    obtain ⟨a3, e3, w3⟩ := trod_float Try.underlying46 t3
    obtain ⟨a4, e4, w4⟩ := trod_float Try.underlying46 t4
    subst e0 e1 e2 e3 e4
    exact ⟨⟨a0, a1, a2, a3, a4⟩, rfl, ⟨fbd w0, fbd w1, fbd w2, fbd w3, fbd w4⟩⟩
/-- A list of floats, by its cells. -/
theorem floats_of {H : Type} {enc : TypeId × Value → H} {W : World} {fuel : Nat} {cs : List Value} {x : DataW H × List MemPlace} (hf : DataW.trod enc Try.prog W 0 (fun _ => true) true fuel 38 cs = some x) :
    ∃ (ao : Option Addr) (c : Nat) (l : List Nat), cs = [.slice ao l.length c] ∧ l.length ≤ c ∧ c ≤ 9223372036854775807 ∧ (ao = none → c = 0) ∧ IL W (fun k => k < W.heap.size) ao l := by
  have hC : Try.prog.cellsOf 46 = 1 := by kernel_rfl
  obtain ⟨ao, cap, L, h0, h1, h2, h2b, h3⟩ := open_row (⟨0⟩ : Inhabited Nat) 1 hC (by omega) Try.underlying38 hf (fun x cs' => cs' = [.float .f64 x] ∧ x < 18446744073709551616) (fun m cs' y hm hy => by
    match cs' with
    | [] => cases m <;> simp [DataW.trod, Try.underlying46] at hy
    | [c] =>
      obtain ⟨b, e, wf⟩ := trod_float Try.underlying46 hy
      exact ⟨b, by rw [e], fbd wf⟩
    | c :: d :: r => cases m <;> simp [DataW.trod, Try.underlying46] at hy)
  refine ⟨ao, cap, L, h0, h1, h2, h2b, ⟨fun hn => ?_⟩⟩
  obtain ⟨b, off, g1, g2, g3⟩ := h3 hn
  refine ⟨b, off, g1, g2, g2, fun i t hi => ?_⟩
  obtain ⟨cs', ⟨rfl, g5⟩, _, h4⟩ := g3 i t hi
  have := h4 0 (by omega)
  rw [Nat.mul_one, Nat.add_zero] at this
  exact ⟨this, g5⟩
set_option maxRecDepth 100000 in
theorem open_floats {H : Type} {enc : TypeId × Value → H} {W : World} {r : Reach} {b0 : Nat} {v : Value} {d : DataW H} {p : List MemPlace}
    (hv : Value.okWide Try.prog W r b0 38 v) (h : DataW.Trod enc Try.prog W 0 (fun _ => true) true 38 v d p) :
    ∃ (ao : Option Addr) (c n : Nat) (l : List Nat), v = .slice ao n c ∧ l.length = n ∧ n ≤ c ∧ c ≤ 9223372036854775807 ∧ (ao = none → c = 0) ∧ IL W (fun k => k < W.heap.size) ao l := by
  obtain ⟨a0, len0, cap0, rfl⟩ := okWide_slice Try.underlying38 hv
  obtain ⟨fuel, hf⟩ := h
  obtain ⟨ao, cap, L, h0, h1, h2, h2b, h3⟩ := floats_of hf
  have e : Value.slice a0 len0 cap0 = .slice ao L.length cap := by simpa [Value.cells] using h0
  exact ⟨ao, cap, L.length, L, e, rfl, h1, h2, h2b, h3⟩
theorem floats_len {H : Type} {enc : TypeId × Value → H} {W : World} {ao : Option Addr} {n c : Nat} {d : DataW H} {p : List MemPlace}
    (h : DataW.Trod enc Try.prog W 0 (fun _ => true) true 38 (.slice ao n c) d p) : n = 0 ∨ ∃ es sp, d = .slice es sp ∧ es.length = n := by
  obtain ⟨fuel, hf⟩ := h
  rcases open_slice Try.underlying38 hf with ⟨h0, _⟩ | ⟨a, len, cap, m, n', D, Pl, h0, hb, hl, hm, hmm, hd, hx⟩
  · left
    have e : Value.slice ao n c = .slice none 0 0 := by simpa [Value.cells] using h0
    cases e; rfl
  · right
    have e : Value.slice ao n c = .slice (some a) len cap := by simpa [Value.cells] using h0
    cases e
    exact ⟨_, _, congrArg Prod.fst hd, by simp⟩
set_option maxRecDepth 100000 in
theorem open_pieces {H : Type} {enc : TypeId × Value → H} {W : World} {r : Reach} {b0 : Nat} {v : Value} {d : DataW H} {p : List MemPlace}
    (hv : Value.okWide Try.prog W r b0 32 v) (h : DataW.Trod enc Try.prog W 0 (fun _ => true) true 32 v d p) :
    ∃ (ao : Option Addr) (c n : Nat) (ps : List (List Nat)), v = .slice ao n c ∧ ps.length = n ∧ n ≤ c ∧ c ≤ 9223372036854775807 ∧ (ao = none → c = 0) ∧ PL W W.heap.size ao ps := by
  have hC : Try.prog.cellsOf 38 = 1 := by kernel_rfl
  obtain ⟨a0, len0, cap0, rfl⟩ := okWide_slice Try.underlying32 hv
  obtain ⟨fuel, hf⟩ := h
  obtain ⟨ao, cap, L, h0, h1, h2, h2b, h3⟩ := open_row (⟨[]⟩ : Inhabited (List Nat)) 1 hC (by omega) Try.underlying32 hf (fun l cs' => ∃ xa xc, cs' = [.slice xa l.length xc] ∧ l.length ≤ xc ∧ xc ≤ 9223372036854775807 ∧ (xa = none → xc = 0) ∧ IL W (fun k => k < W.heap.size) xa l) (fun m cs' y hm hy => by
    obtain ⟨xa, xc, l, e1, e2, e3, e4, e5⟩ := floats_of hy
    exact ⟨l, xa, xc, e1, e2, e3, e4, e5⟩)
  have e : Value.slice a0 len0 cap0 = .slice ao L.length cap := by simpa [Value.cells] using h0
  refine ⟨ao, cap, L.length, L, e, rfl, h1, h2, h2b, ⟨fun hn => ?_⟩⟩
  obtain ⟨b, off, g1, g2, g3⟩ := h3 hn
  refine ⟨b, off, g1, g2, fun i t hi => ?_⟩
  obtain ⟨cs', ⟨xa, xc, rfl, g5, g6, g7, g8⟩, _, h4⟩ := g3 i t hi
  have := h4 0 (by omega)
  rw [Nat.mul_one, Nat.add_zero] at this
  exact ⟨xa, xc, this, g5, g6, g7, g8⟩
end Go.Proofs.Ytjpcebnbkdekkaa.Fi

/- Pieces among a law's arguments, and what a bound on the bulk says of how many floats they hold. -/
namespace Go.Proofs.Ytjpcebnbkdekkaa.Fi
open Go.ChangeShapes Go.WideShapes Go.ChangeAt Go.RowKit Go.Joins Go.Deep
set_option linter.unusedVariables false

theorem bulkr_one {H : Type} (d : DataW H) : 1 ≤ Rows.uptoBulk d := by
  cases d with
  | lit x => cases x <;> simp [Rows.uptoBulk]
  | _ => simp [Rows.uptoBulk]
theorem bulkr_many {H : Type} : ∀ l : List (DataW H), l.length ≤ Rows.uptoBulkAll l
  | [] => Nat.zero_le _
  | d :: r => by
    have h := bulkr_many r
    have h1 := bulkr_one d
    simp only [Rows.uptoBulkAll, List.length_cons]
    omega
theorem rowr_bulk {H : Type} {enc : TypeId × Value → H} {W : World} {t e : TypeId} (ht : Try.prog.underlying t = some (.slice e)) {ao : Option Addr} {n c fuel : Nat} {x : DataW H × List MemPlace}
    (hf : DataW.trod enc Try.prog W 0 (fun _ => true) true fuel t [.slice ao n c] = some x) : n ≤ Rows.uptoBulk x.1 := by
  rcases DataW.trod_slice ht hf with ⟨h0, _⟩ | ⟨a, len, cap, elems, rest, n2, hn2, h0, hx, _, hlc, hm, hlen, _⟩
  · have e : Value.slice ao n c = .slice none 0 0 := by simpa using h0
    cases e
    exact Nat.zero_le _
  · have e : Value.slice ao n c = .slice (some a) len cap := by simpa using h0
    cases e
    have hd : x.1 = .slice (elems.map (·.1)) (rest.map (·.1)) := by rw [hx]
    rw [hd]
    have := bulkr_many (elems.map (·.1))
    rw [List.length_map] at this
    simp only [Rows.uptoBulk]
    omega
theorem sum_bulk {H : Type} {α : Type} (f : α → Nat) : ∀ (L : List α) (E : List (DataW H)), E.length = L.length → (∀ (i : Nat) (a : α), L[i]? = some a → ∃ e, E[i]? = some e ∧ f a ≤ Rows.uptoBulk e) → (L.map f).sum ≤ Rows.uptoBulkAll E
  | [], _, _, _ => Nat.zero_le _
  | a :: L, [], h, _ => by simp at h
  | a :: L, e :: E, h, hq => by
    have h1 := sum_bulk f L E (by simpa using h) (fun i a hi => by have := hq (i + 1) a (by simpa using hi); simpa using this)
    obtain ⟨e', h2, h3⟩ := hq 0 a rfl
    simp at h2
    subst h2
    simp only [List.map_cons, List.sum_cons, Rows.uptoBulkAll]
    omega
/-- A list among a datum's parts, its elements opened by q. -/
theorem open_row_b {H : Type} {enc : TypeId × Value → H} {W : World} {α : Type} (inh : Inhabited α) {fuel : Nat} {t e : TypeId} {cs : List Value} {x : DataW H × List MemPlace} (k : Nat) (hk : Try.prog.cellsOf e = k) (hk0 : 0 < k) (ht : Try.prog.underlying t = some (.slice e))
    (h : DataW.trod enc Try.prog W 0 (fun _ => true) true fuel t cs = some x) (q : α → List Value → DataW H → Prop)
    (hq : ∀ n cs' y, n < fuel → DataW.trod enc Try.prog W 0 (fun _ => true) true n e cs' = some y → ∃ a, q a cs' y.1) :
    ∃ (ao : Option Addr) (cap : Nat) (L : List α), cs = [.slice ao L.length cap] ∧ L.length ≤ cap ∧ cap ≤ 9223372036854775807 ∧ (ao = none → cap = 0) ∧ (0 < L.length → ∃ b off, ao = some ⟨b, off, none⟩ ∧ b < W.heap.size ∧ ∃ (E : List (DataW H)), E.length = L.length ∧ Rows.uptoBulkAll E ≤ Rows.uptoBulk x.1 ∧ ∀ i a, L[i]? = some a → ∃ cs' e, q a cs' e ∧ E[i]? = some e ∧ cs'.length = k ∧ ∀ j, j < k → W.cell? ⟨b, off + (i * k + j), none⟩ = cs'[j]?) := by
  rcases DataW.trod_slice ht h with ⟨h0, _⟩ | ⟨a, len, cap, elems, rest, n2, hn2, h0, hx, _, hlc, hm, hlen, hel, _, _⟩
  · exact ⟨none, 0, [], h0, by simp, by omega, fun _ => rfl, fun h => by simp at h⟩
  · rw [hk] at hel
    have each : ∀ i, i < len → ∃ v : α, ∃ cs' e, q v cs' e ∧ (elems.map (·.1))[i]? = some e ∧ cs'.length = k ∧ ∀ j, j < k → W.cell? (a.add (i * k + j)) = cs'[j]? := fun i hi => by
      have key := hel i hi
      rw [List.getElem?_eq_getElem (by omega)] at key
      obtain ⟨cs', g1, g2⟩ := Option.bind_eq_some_iff.1 key
      obtain ⟨v, hv⟩ := hq n2 cs' _ (by omega) g2
      obtain ⟨_, hl, hc⟩ := World.cells?_some g1
      refine ⟨v, cs', _, hv, by rw [List.getElem?_map, List.getElem?_eq_getElem (by omega)]; rfl, hl, fun j hj => ?_⟩
      have := hc j hj
      rw [add_two] at this
      exact this
    obtain ⟨V, hV⟩ := choose_lt (α := α) (p := fun i v => ∃ cs' e, q v cs' e ∧ (elems.map (·.1))[i]? = some e ∧ cs'.length = k ∧ ∀ j, j < k → W.cell? (a.add (i * k + j)) = cs'[j]?) each
    have hL : ((List.range len).map V).length = len := by simp
    refine ⟨some a, cap, (List.range len).map V, by rw [hL]; exact h0, by rw [hL]; exact hlc, by unfold maxLen at hm; omega, fun q => (by cases q), fun hn => ?_⟩
    rw [hL] at hn
    obtain ⟨cs0, e0, _, _, hl0, hc0⟩ := hV 0 hn
    have hc00 := hc0 0 hk0
    rw [Nat.zero_mul, Nat.zero_add, List.getElem?_eq_getElem (by omega)] at hc00
    have hsp := World.cell?_spot hc00
    have hsp0 : a.spot = none := by simpa [Addr.add] using hsp
    obtain ⟨b, off, sp⟩ := a
    simp only at hsp0
    subst hsp0
    refine ⟨b, off, rfl, ?_, elems.map (·.1), by rw [hL, List.length_map]; omega, by rw [hx]; simp only [Rows.uptoBulk]; omega, fun i v hi => ?_⟩
    · rw [add_plain] at hc00
      exact block_lt_of_cell hc00
    · obtain ⟨hil, hie⟩ := List.getElem?_eq_some_iff.1 hi
      rw [hL] at hil
      have he : V i = v := by simpa using hie
      obtain ⟨cs', e, h1, h1b, h2, h3⟩ := hV i hil
      rw [he] at h1
      exact ⟨cs', e, h1, h1b, h2, fun j hj => by have := h3 j hj; rw [add_plain] at this; exact this⟩
set_option maxRecDepth 100000 in
theorem open_piecesr {H : Type} {enc : TypeId × Value → H} {W : World} {r : Reach} {b0 : Nat} {v : Value} {d : DataW H} {p : List MemPlace}
    (hv : Value.okWide Try.prog W r b0 32 v) (h : DataW.Trod enc Try.prog W 0 (fun _ => true) true 32 v d p) :
    ∃ (ao : Option Addr) (c n : Nat) (ps : List (List Nat)), v = .slice ao n c ∧ ps.length = n ∧ n ≤ c ∧ c ≤ 9223372036854775807 ∧ (ao = none → c = 0) ∧ (PL W W.heap.size ao ps ∧ n ≤ Rows.uptoBulk d ∧ (ps.map List.length).sum ≤ Rows.uptoBulk d) := by
  have hC : Try.prog.cellsOf 38 = 1 := by kernel_rfl
  obtain ⟨a0, len0, cap0, rfl⟩ := okWide_slice Try.underlying32 hv
  obtain ⟨fuel, hf⟩ := h
  obtain ⟨ao, cap, L, h0, h1, h2, h2b, h3⟩ := open_row_b (⟨[]⟩ : Inhabited (List Nat)) 1 hC (by omega) Try.underlying32 hf (fun l cs' y => ∃ xa xc, cs' = [.slice xa l.length xc] ∧ l.length ≤ xc ∧ xc ≤ 9223372036854775807 ∧ (xa = none → xc = 0) ∧ IL W (fun k => k < W.heap.size) xa l ∧ l.length ≤ Rows.uptoBulk y) (fun m cs' y hm hy => by
    obtain ⟨xa, xc, l, e1, e2, e3, e4, e5⟩ := floats_of hy
    subst e1
    exact ⟨l, xa, xc, rfl, e2, e3, e4, e5, rowr_bulk Try.underlying38 hy⟩)
  have e : Value.slice a0 len0 cap0 = .slice ao L.length cap := by simpa [Value.cells] using h0
  have hb := rowr_bulk (x := (d, p)) Try.underlying32 (by rw [← h0]; exact hf)
  refine ⟨ao, cap, L.length, L, e, rfl, h1, h2, h2b, ⟨fun hn => ?_⟩, hb, ?_⟩
  · obtain ⟨b, off, g1, g2, E, _, _, g3⟩ := h3 hn
    refine ⟨b, off, g1, g2, fun i t hi => ?_⟩
    obtain ⟨cs', e', ⟨xa, xc, rfl, g5, g6, g7, g8, _⟩, _, _, h4⟩ := g3 i t hi
    have := h4 0 (by omega)
    rw [Nat.mul_one, Nat.add_zero] at this
    exact ⟨xa, xc, this, g5, g6, g7, g8⟩
  · by_cases hn : 0 < L.length
    · obtain ⟨b, off, g1, g2, E, g3, g4, g5⟩ := h3 hn
      refine Nat.le_trans (sum_bulk List.length L E g3 (fun i a hi => ?_)) g4
      obtain ⟨cs', e', ⟨xa, xc, _, _, _, _, _, q⟩, q2, _⟩ := g5 i a hi
      exact ⟨e', q2, q⟩
    · have : L = [] := List.eq_nil_of_length_eq_zero (by omega)
      subst this
      exact Nat.zero_le _
theorem three_bulkr {H : Type} {d0 d1 d2 : DataW H} (hk : Rows.uptoSmall H ([d0, d1, d2] ++ []) = true) : Rows.uptoBulk d1 ≤ 1048576 := by
  have h : Rows.uptoBulkAll ([d0, d1, d2] ++ []) ≤ 1048576 := of_decide_eq_true hk
  simp only [List.append_nil, Rows.uptoBulkAll] at h
  omega
end Go.Proofs.Ytjpcebnbkdekkaa.Fi
