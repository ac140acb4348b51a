/- Lists of whole numbers and lists of such lists among a law's arguments, with what their reach or their bulk pays. -/
import Derived.Test.YtpacfppnmenndaaRows
import Derived.Test.YtpacfppnmenndaaRgRow
import Derived.OpenShut
import Derived.SizedLaws
import Derived.Deep.Slices
import Derived.Lib.SmallJoins
import Derived.ProofKit
import Derived.Laws.Cover2
namespace Go.Proofs.Ytpacfppnmenndaa.Rg
open Go.ChangeShapes Go.WideShapes Go.ChangeAt Go.RowKit Go.Joins Go.Deep
set_option linter.unusedVariables false

theorem add_two (a : Addr) (i j : Nat) : (a.add i).add j = a.add (i + j) := by
  unfold Addr.add
  by_cases h : i = 0 <;> by_cases g : j = 0 <;> simp [h, g, Nat.add_assoc]
theorem add_plain (b off n : Nat) : (⟨b, off, none⟩ : Addr).add n = ⟨b, off + n, none⟩ := by
  unfold Addr.add
  by_cases h : n = 0 <;> simp [h]
theorem bulkr_one {H : Type} (d : DataW H) : 1 ≤ Rows.uptoBulk d := by
  cases d with
  | lit x => cases x <;> simp [Rows.uptoBulk]
  | _ => simp [Rows.uptoBulk]
theorem bulkr_many {H : Type} : ∀ l : List (DataW H), l.length ≤ Rows.uptoBulkAll l
  | [] => Nat.zero_le _
  | d :: r => by
    have h := bulkr_many r
    have h1 := bulkr_one d
    simp only [Rows.uptoBulkAll, List.length_cons]
    omega
theorem rowr_bulk {H : Type} {enc : TypeId × Value → H} {W : World} {t e : TypeId} (ht : Try.prog.underlying t = some (.slice e)) {ao : Option Addr} {n c fuel : Nat} {x : DataW H × List MemPlace}
    (hf : DataW.trod enc Try.prog W 0 (fun _ => true) true fuel t [.slice ao n c] = some x) : n ≤ Rows.uptoBulk x.1 := by
  rcases DataW.trod_slice ht hf with ⟨h0, _⟩ | ⟨a, len, cap, elems, rest, n2, hn2, h0, hx, _, hlc, hm, hlen, _⟩
  · have e : Value.slice ao n c = .slice none 0 0 := by simpa using h0
    cases e
    exact Nat.zero_le _
  · have e : Value.slice ao n c = .slice (some a) len cap := by simpa using h0
    cases e
    have hd : x.1 = .slice (elems.map (·.1)) (rest.map (·.1)) := by rw [hx]
    rw [hd]
    have := bulkr_many (elems.map (·.1))
    rw [List.length_map] at this
    simp only [Rows.uptoBulk]
    omega
/-- A list among a datum's parts, its elements opened by q. -/
theorem open_row_b {H : Type} {enc : TypeId × Value → H} {W : World} {α : Type} (inh : Inhabited α) {fuel : Nat} {t e : TypeId} {cs : List Value} {x : DataW H × List MemPlace} (k : Nat) (hk : Try.prog.cellsOf e = k) (hk0 : 0 < k) (ht : Try.prog.underlying t = some (.slice e))
    (h : DataW.trod enc Try.prog W 0 (fun _ => true) true fuel t cs = some x) (q : α → List Value → DataW H → Prop)
    (hq : ∀ n cs' y, n < fuel → DataW.trod enc Try.prog W 0 (fun _ => true) true n e cs' = some y → ∃ a, q a cs' y.1) :
    ∃ (ao : Option Addr) (cap : Nat) (L : List α), cs = [.slice ao L.length cap] ∧ L.length ≤ cap ∧ cap ≤ 9223372036854775807 ∧ (ao = none → cap = 0) ∧ (0 < L.length → ∃ b off, ao = some ⟨b, off, none⟩ ∧ b < W.heap.size ∧ ∃ (E : List (DataW H)), E.length = L.length ∧ Rows.uptoBulkAll E ≤ Rows.uptoBulk x.1 ∧ ∀ i a, L[i]? = some a → ∃ cs' e, q a cs' e ∧ E[i]? = some e ∧ cs'.length = k ∧ ∀ j, j < k → W.cell? ⟨b, off + (i * k + j), none⟩ = cs'[j]?) := by
  rcases DataW.trod_slice ht h with ⟨h0, _⟩ | ⟨a, len, cap, elems, rest, n2, hn2, h0, hx, _, hlc, hm, hlen, hel, _, _⟩
  · exact ⟨none, 0, [], h0, by simp, by omega, fun _ => rfl, fun h => by simp at h⟩
  · rw [hk] at hel
    have each : ∀ i, i < len → ∃ v : α, ∃ cs' e, q v cs' e ∧ (elems.map (·.1))[i]? = some e ∧ cs'.length = k ∧ ∀ j, j < k → W.cell? (a.add (i * k + j)) = cs'[j]? := fun i hi => by
      have key := hel i hi
      rw [List.getElem?_eq_getElem (by omega)] at key
      obtain ⟨cs', g1, g2⟩ := Option.bind_eq_some_iff.1 key
      obtain ⟨v, hv⟩ := hq n2 cs' _ (by omega) g2
      obtain ⟨_, hl, hc⟩ := World.cells?_some g1
      refine ⟨v, cs', _, hv, by rw [List.getElem?_map, List.getElem?_eq_getElem (by omega)]; rfl, hl, fun j hj => ?_⟩
      have := hc j hj
      rw [add_two] at this
      exact this
    obtain ⟨V, hV⟩ := choose_lt (α := α) (p := fun i v => ∃ cs' e, q v cs' e ∧ (elems.map (·.1))[i]? = some e ∧ cs'.length = k ∧ ∀ j, j < k → W.cell? (a.add (i * k + j)) = cs'[j]?) each
    have hL : ((List.range len).map V).length = len := by simp
    refine ⟨some a, cap, (List.range len).map V, by rw [hL]; exact h0, by rw [hL]; exact hlc, by unfold maxLen at hm; omega, fun q => (by cases q), fun hn => ?_⟩
    rw [hL] at hn
    obtain ⟨cs0, e0, _, _, hl0, hc0⟩ := hV 0 hn
    have hc00 := hc0 0 hk0
    rw [Nat.zero_mul, Nat.zero_add, List.getElem?_eq_getElem (by omega)] at hc00
    have hsp := World.cell?_spot hc00
    have hsp0 : a.spot = none := by simpa [Addr.add] using hsp
    obtain ⟨b, off, sp⟩ := a
    simp only at hsp0
    subst hsp0
    refine ⟨b, off, rfl, ?_, elems.map (·.1), by rw [hL, List.length_map]; omega, by rw [hx]; simp only [Rows.uptoBulk]; omega, fun i v hi => ?_⟩
    · rw [add_plain] at hc00
      exact block_lt_of_cell hc00
    · obtain ⟨hil, hie⟩ := List.getElem?_eq_some_iff.1 hi
      rw [hL] at hil
      have he : V i = v := by simpa using hie
      obtain ⟨cs', e, h1, h1b, h2, h3⟩ := hV i hil
      rw [he] at h1
      exact ⟨cs', e, h1, h1b, h2, fun j hj => by have := h3 j hj; rw [add_plain] at this; exact this⟩

theorem nums_of_b {H : Type} {enc : TypeId × Value → H} {W : World} {fuel : Nat} {cs : List Value} {x : DataW H × List MemPlace} (hf : DataW.trod enc Try.prog W 0 (fun _ => true) true fuel 103 cs = some x) :
    ∃ (ao : Option Addr) (c : Nat) (l : List Int), cs = [.slice ao l.length c] ∧ l.length ≤ c ∧ c ≤ 9223372036854775807 ∧ (ao = none → c = 0) ∧ l.length ≤ Rows.uptoBulk x.1 ∧ IL W (fun b => b < W.heap.size) ao l := by
  have hC : Try.prog.cellsOf 3 = 1 := by kernel_rfl
  obtain ⟨ao, cap, L, h0, h1, h2, h2b, h3⟩ := open_row_b (⟨0⟩ : Inhabited Int) 1 hC (by omega) Try.underlying103 hf (fun x cs' _ => cs' = [.int .i64 x]) (fun m cs' y hm hy => by
    obtain ⟨k0, e0, _, wf⟩ := DataW.trod_int Try.underlying3 hy
    exact ⟨k0, e0⟩)
  have hb := rowr_bulk Try.underlying103 (x := x) (ao := ao) (n := L.length) (c := cap) (fuel := fuel) (by rw [← h0]; exact hf)
  refine ⟨ao, cap, L, h0, h1, h2, h2b, hb, ⟨fun hn => ?_⟩⟩
  obtain ⟨b, off, g1, g2, E, _, _, g3⟩ := h3 hn
  refine ⟨b, off, g1, g2, g2, fun i t hi => ?_⟩
  obtain ⟨cs', _, rfl, _, _, h4⟩ := g3 i t hi
  have := h4 0 (by omega)
  rw [Nat.mul_one, Nat.add_zero] at this
  exact this
set_option maxRecDepth 100000 in
theorem open_nums_b {H : Type} {enc : TypeId × Value → H} {W : World} {r : Reach} {b0 : Nat} {v : Value} {d : DataW H} {p : List MemPlace}
    (hv : Value.okWide Try.prog W r b0 103 v) (h : DataW.Trod enc Try.prog W 0 (fun _ => true) true 103 v d p) :
    ∃ (ao : Option Addr) (c n : Nat) (l : List Int), v = .slice ao n c ∧ l.length = n ∧ n ≤ c ∧ c ≤ 9223372036854775807 ∧ (ao = none → c = 0) ∧ n ≤ Rows.uptoBulk d ∧ IL W (fun b => b < W.heap.size) ao l := by
  obtain ⟨a0, len0, cap0, rfl⟩ := okWide_slice Try.underlying103 hv
  obtain ⟨fuel, hf⟩ := h
  obtain ⟨ao, cap, L, h0, h1, h2, h2b, h3, h4⟩ := nums_of_b hf
  have e : Value.slice a0 len0 cap0 = .slice ao L.length cap := by simpa [Value.cells] using h0
  exact ⟨ao, cap, L.length, L, e, rfl, h1, h2, h2b, h3, h4⟩
theorem two_bulk {H : Type} {d0 d1 : DataW H} (hk : Rows.uptoSmall H ([d0, d1] ++ []) = true) : Rows.uptoBulk d1 ≤ 1048576 := by
  have h : Rows.uptoBulkAll ([d0, d1] ++ []) ≤ 1048576 := of_decide_eq_true hk
  simp only [List.append_nil, Rows.uptoBulkAll] at h
  omega
end Go.Proofs.Ytpacfppnmenndaa.Rg
