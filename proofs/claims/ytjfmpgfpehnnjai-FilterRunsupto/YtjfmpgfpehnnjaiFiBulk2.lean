/- Pieces among a law's arguments, and what a bound on the bulk says of how many floats they hold. -/
import Derived.Test.YtjfmpgfpehnnjaiFiOpen
import Derived.Test.YtjfmpgfpehnnjaiRows
namespace Go.Proofs.Ytjfmpgfpehnnjai.Fi
open Go.ChangeShapes Go.WideShapes Go.ChangeAt Go.RowKit Go.Joins Go.Deep
set_option linter.unusedVariables false

theorem bulkr_one {H : Type} (d : DataW H) : 1 ≤ Rows.uptoBulk d := by
  cases d with
  | lit x => cases x <;> simp [Rows.uptoBulk]
  | _ => simp [Rows.uptoBulk]
theorem bulkr_many {H : Type} : ∀ l : List (DataW H), l.length ≤ Rows.uptoBulkAll l
  | [] => Nat.zero_le _
  | d :: r => by
    have h := bulkr_many r
    have h1 := bulkr_one d
    simp only [Rows.uptoBulkAll, List.length_cons]
    omega
theorem rowr_bulk {H : Type} {enc : TypeId × Value → H} {W : World} {t e : TypeId} (ht : Try.prog.underlying t = some (.slice e)) {ao : Option Addr} {n c fuel : Nat} {x : DataW H × List MemPlace}
    (hf : DataW.trod enc Try.prog W 0 (fun _ => true) true fuel t [.slice ao n c] = some x) : n ≤ Rows.uptoBulk x.1 := by
  rcases DataW.trod_slice ht hf with ⟨h0, _⟩ | ⟨a, len, cap, elems, rest, n2, hn2, h0, hx, _, hlc, hm, hlen, _⟩
  · have e : Value.slice ao n c = .slice none 0 0 := by simpa using h0
    cases e
    exact Nat.zero_le _
  · have e : Value.slice ao n c = .slice (some a) len cap := by simpa using h0
    cases e
    have hd : x.1 = .slice (elems.map (·.1)) (rest.map (·.1)) := by rw [hx]
    rw [hd]
    have := bulkr_many (elems.map (·.1))
    rw [List.length_map] at this
    simp only [Rows.uptoBulk]
    omega
theorem sum_bulk {H : Type} {α : Type} (f : α → Nat) : ∀ (L : List α) (E : List (DataW H)), E.length = L.length → (∀ (i : Nat) (a : α), L[i]? = some a → ∃ e, E[i]? = some e ∧ f a ≤ Rows.uptoBulk e) → (L.map f).sum ≤ Rows.uptoBulkAll E
  | [], _, _, _ => Nat.zero_le _
  | a :: L, [], h, _ => by simp at h
  | a :: L, e :: E, h, hq => by
    have h1 := sum_bulk f L E (by simpa using h) (fun i a hi => by have := hq (i + 1) a (by simpa using hi); simpa using this)
    obtain ⟨e', h2, h3⟩ := hq 0 a rfl
    simp at h2
    subst h2
    simp only [List.map_cons, List.sum_cons, Rows.uptoBulkAll]
    omega
/-- A list among a datum's parts, its elements opened by q. -/
theorem open_row_b {H : Type} {enc : TypeId × Value → H} {W : World} {α : Type} (inh : Inhabited α) {fuel : Nat} {t e : TypeId} {cs : List Value} {x : DataW H × List MemPlace} (k : Nat) (hk : Try.prog.cellsOf e = k) (hk0 : 0 < k) (ht : Try.prog.underlying t = some (.slice e))
    (h : DataW.trod enc Try.prog W 0 (fun _ => true) true fuel t cs = some x) (q : α → List Value → DataW H → Prop)
    (hq : ∀ n cs' y, n < fuel → DataW.trod enc Try.prog W 0 (fun _ => true) true n e cs' = some y → ∃ a, q a cs' y.1) :
    ∃ (ao : Option Addr) (cap : Nat) (L : List α), cs = [.slice ao L.length cap] ∧ L.length ≤ cap ∧ cap ≤ 9223372036854775807 ∧ (ao = none → cap = 0) ∧ (0 < L.length → ∃ b off, ao = some ⟨b, off, none⟩ ∧ b < W.heap.size ∧ ∃ (E : List (DataW H)), E.length = L.length ∧ Rows.uptoBulkAll E ≤ Rows.uptoBulk x.1 ∧ ∀ i a, L[i]? = some a → ∃ cs' e, q a cs' e ∧ E[i]? = some e ∧ cs'.length = k ∧ ∀ j, j < k → W.cell? ⟨b, off + (i * k + j), none⟩ = cs'[j]?) := by
  rcases DataW.trod_slice ht h with ⟨h0, _⟩ | ⟨a, len, cap, elems, rest, n2, hn2, h0, hx, _, hlc, hm, hlen, hel, _, _⟩
  · exact ⟨none, 0, [], h0, by simp, by omega, fun _ => rfl, fun h => by simp at h⟩
  · rw [hk] at hel
    have each : ∀ i, i < len → ∃ v : α, ∃ cs' e, q v cs' e ∧ (elems.map (·.1))[i]? = some e ∧ cs'.length = k ∧ ∀ j, j < k → W.cell? (a.add (i * k + j)) = cs'[j]? := fun i hi => by
      have key := hel i hi
      rw [List.getElem?_eq_getElem (by omega)] at key
      obtain ⟨cs', g1, g2⟩ := Option.bind_eq_some_iff.1 key
      obtain ⟨v, hv⟩ := hq n2 cs' _ (by omega) g2
      obtain ⟨_, hl, hc⟩ := World.cells?_some g1
      refine ⟨v, cs', _, hv, by rw [List.getElem?_map, List.getElem?_eq_getElem (by omega)]; rfl, hl, fun j hj => ?_⟩
      have := hc j hj
      rw [add_two] at this
      exact this
    obtain ⟨V, hV⟩ := choose_lt (α := α) (p := fun i v => ∃ cs' e, q v cs' e ∧ (elems.map (·.1))[i]? = some e ∧ cs'.length = k ∧ ∀ j, j < k → W.cell? (a.add (i * k + j)) = cs'[j]?) each
    have hL : ((List.range len).map V).length = len := by simp
    refine ⟨some a, cap, (List.range len).map V, by rw [hL]; exact h0, by rw [hL]; exact hlc, by unfold maxLen at hm; omega, fun q => (by cases q), fun hn => ?_⟩
    rw [hL] at hn
    obtain ⟨cs0, e0, _, _, hl0, hc0⟩ := hV 0 hn
    have hc00 := hc0 0 hk0
    rw [Nat.zero_mul, Nat.zero_add, List.getElem?_eq_getElem (by omega)] at hc00
    have hsp := World.cell?_spot hc00
    have hsp0 : a.spot = none := by simpa [Addr.add] using hsp
    obtain ⟨b, off, sp⟩ := a
    simp only at hsp0
    subst hsp0
    refine ⟨b, off, rfl, ?_, elems.map (·.1), by rw [hL, List.length_map]; omega, by rw [hx]; simp only [Rows.uptoBulk]; omega, fun i v hi => ?_⟩
    · rw [add_plain] at hc00
      exact block_lt_of_cell hc00
    · obtain ⟨hil, hie⟩ := List.getElem?_eq_some_iff.1 hi
      rw [hL] at hil
      have he : V i = v := by simpa using hie
      obtain ⟨cs', e, h1, h1b, h2, h3⟩ := hV i hil
      rw [he] at h1
      exact ⟨cs', e, h1, h1b, h2, fun j hj => by have := h3 j hj; rw [add_plain] at this; exact this⟩
set_option maxRecDepth 100000 in
theorem open_piecesr {H : Type} {enc : TypeId × Value → H} {W : World} {r : Reach} {b0 : Nat} {v : Value} {d : DataW H} {p : List MemPlace}
    (hv : Value.okWide Try.prog W r b0 29 v) (h : DataW.Trod enc Try.prog W 0 (fun _ => true) true 29 v d p) :
    ∃ (ao : Option Addr) (c n : Nat) (ps : List (List Nat)), v = .slice ao n c ∧ ps.length = n ∧ n ≤ c ∧ c ≤ 9223372036854775807 ∧ (ao = none → c = 0) ∧ (PL W W.heap.size ao ps ∧ n ≤ Rows.uptoBulk d ∧ (ps.map List.length).sum ≤ Rows.uptoBulk d) := by
  have hC : Try.prog.cellsOf 34 = 1 := by kernel_rfl
  obtain ⟨a0, len0, cap0, rfl⟩ := okWide_slice Try.underlying29 hv
  obtain ⟨fuel, hf⟩ := h
  obtain ⟨ao, cap, L, h0, h1, h2, h2b, h3⟩ := open_row_b (⟨[]⟩ : Inhabited (List Nat)) 1 hC (by omega) Try.underlying29 hf (fun l cs' y => ∃ xa xc, cs' = [.slice xa l.length xc] ∧ l.length ≤ xc ∧ xc ≤ 9223372036854775807 ∧ (xa = none → xc = 0) ∧ IL W (fun k => k < W.heap.size) xa l ∧ l.length ≤ Rows.uptoBulk y) (fun m cs' y hm hy => by
    obtain ⟨xa, xc, l, e1, e2, e3, e4, e5⟩ := floats_of hy
    subst e1
    exact ⟨l, xa, xc, rfl, e2, e3, e4, e5, rowr_bulk Try.underlying34 hy⟩)
  have e : Value.slice a0 len0 cap0 = .slice ao L.length cap := by simpa [Value.cells] using h0
  have hb := rowr_bulk (x := (d, p)) Try.underlying29 (by rw [← h0]; exact hf)
  refine ⟨ao, cap, L.length, L, e, rfl, h1, h2, h2b, ⟨fun hn => ?_⟩, hb, ?_⟩
  · obtain ⟨b, off, g1, g2, E, _, _, g3⟩ := h3 hn
    refine ⟨b, off, g1, g2, fun i t hi => ?_⟩
    obtain ⟨cs', e', ⟨xa, xc, rfl, g5, g6, g7, g8, _⟩, _, _, h4⟩ := g3 i t hi
    have := h4 0 (by omega)
    rw [Nat.mul_one, Nat.add_zero] at this
    exact ⟨xa, xc, this, g5, g6, g7, g8⟩
  · by_cases hn : 0 < L.length
    · obtain ⟨b, off, g1, g2, E, g3, g4, g5⟩ := h3 hn
      refine Nat.le_trans (sum_bulk List.length L E g3 (fun i a hi => ?_)) g4
      obtain ⟨cs', e', ⟨xa, xc, _, _, _, _, _, q⟩, q2, _⟩ := g5 i a hi
      exact ⟨e', q2, q⟩
    · have : L = [] := List.eq_nil_of_length_eq_zero (by omega)
      subst this
      exact Nat.zero_le _
theorem three_bulkr {H : Type} {d0 d1 d2 : DataW H} (hk : Rows.uptoSmall H ([d0, d1, d2] ++ []) = true) : Rows.uptoBulk d1 ≤ 1048576 := by
  have h : Rows.uptoBulkAll ([d0, d1, d2] ++ []) ≤ 1048576 := of_decide_eq_true hk
  simp only [List.append_nil, Rows.uptoBulkAll] at h
  omega
end Go.Proofs.Ytjfmpgfpehnnjai.Fi
