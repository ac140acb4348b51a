/- What a bound on the bulk of the arguments says of how many floats and numbers there are. -/
import Derived.Test.YtjfmpgfpehnnjaiFiOpen
import Derived.Test.YtjfmpgfpehnnjaiFiL3
import Derived.Test.YtjfmpgfpehnnjaiRows
namespace Go.Proofs.Ytjfmpgfpehnnjai.Fi
open Go.ChangeShapes Go.WideShapes Go.ChangeAt Go.RowKit Go.Joins Go.Deep
set_option linter.unusedVariables false

set_option maxRecDepth 100000 in
theorem open_nums {H : Type} {enc : TypeId × Value → H} {W : World} {r : Reach} {b0 : Nat} {v : Value} {d : DataW H} {p : List MemPlace}
    (hv : Value.okWide Try.prog W r b0 26 v) (h : DataW.Trod enc Try.prog W 0 (fun _ => true) true 26 v d p) :
    ∃ (ao : Option Addr) (c n : Nat) (l : List Int), v = .slice ao n c ∧ l.length = n ∧ n ≤ c ∧ c ≤ 9223372036854775807 ∧ (ao = none → c = 0) ∧ NL W ao l := by
  have hC : Try.prog.cellsOf 3 = 1 := by kernel_rfl
  obtain ⟨a0, len0, cap0, rfl⟩ := okWide_slice Try.underlying26 hv
  obtain ⟨fuel, hf⟩ := h
  obtain ⟨ao, cap, L, h0, h1, h2, h2b, h3⟩ := open_row (⟨0⟩ : Inhabited Int) 1 hC (by omega) Try.underlying26 hf (fun x cs' => cs' = [.int .i64 x] ∧ -9223372036854775808 ≤ x ∧ x ≤ 9223372036854775807) (fun m cs' y hm hy => by
    obtain ⟨k0, e0, _, wf⟩ := DataW.trod_int Try.underlying3 hy
    have := bounds_i64 wf
    exact ⟨k0, e0, by omega, by omega⟩)
  have e : Value.slice a0 len0 cap0 = .slice ao L.length cap := by simpa [Value.cells] using h0
  refine ⟨ao, cap, L.length, L, e, rfl, h1, h2, h2b, ⟨fun hn => ?_⟩⟩
  obtain ⟨b, off, g1, g2, g3⟩ := h3 hn
  refine ⟨b, off, g1, g2, fun i t hi => ?_⟩
  obtain ⟨cs', ⟨rfl, g5⟩, _, h4⟩ := g3 i t hi
  have := h4 0 (by omega)
  rw [Nat.mul_one, Nat.add_zero] at this
  exact ⟨this, g5⟩
theorem bulk_one {H : Type} (d : DataW H) : 1 ≤ Rows.uptoBulk d := by
  cases d with
  | lit x => cases x <;> simp [Rows.uptoBulk]
  | _ => simp [Rows.uptoBulk]
theorem bulk_many {H : Type} : ∀ l : List (DataW H), l.length ≤ Rows.uptoBulkAll l
  | [] => Nat.zero_le _
  | d :: r => by
    have h := bulk_many r
    have h1 := bulk_one d
    simp only [Rows.uptoBulkAll, List.length_cons]
    omega
theorem row_bulk {H : Type} {enc : TypeId × Value → H} {W : World} {t e : TypeId} (ht : Try.prog.underlying t = some (.slice e)) {ao : Option Addr} {n c fuel : Nat} {x : DataW H × List MemPlace}
    (hf : DataW.trod enc Try.prog W 0 (fun _ => true) true fuel t [.slice ao n c] = some x) : n ≤ Rows.uptoBulk x.1 := by
  rcases DataW.trod_slice ht hf with ⟨h0, _⟩ | ⟨a, len, cap, elems, rest, n2, hn2, h0, hx, _, hlc, hm, hlen, _⟩
  · have e : Value.slice ao n c = .slice none 0 0 := by simpa using h0
    cases e
    exact Nat.zero_le _
  · have e : Value.slice ao n c = .slice (some a) len cap := by simpa using h0
    cases e
    have hd : x.1 = .slice (elems.map (·.1)) (rest.map (·.1)) := by rw [hx]
    rw [hd]
    have := bulk_many (elems.map (·.1))
    rw [List.length_map] at this
    simp only [Rows.uptoBulk]
    omega
theorem floats_bulk {H : Type} {enc : TypeId × Value → H} {W : World} {ao : Option Addr} {n c : Nat} {d : DataW H} {p : List MemPlace}
    (h : DataW.Trod enc Try.prog W 0 (fun _ => true) true 34 (.slice ao n c) d p) : n ≤ Rows.uptoBulk d := by
  obtain ⟨fuel, hf⟩ := h
  exact row_bulk Try.underlying34 (x := (d, p)) hf
theorem nums_bulk {H : Type} {enc : TypeId × Value → H} {W : World} {ao : Option Addr} {n c : Nat} {d : DataW H} {p : List MemPlace}
    (h : DataW.Trod enc Try.prog W 0 (fun _ => true) true 26 (.slice ao n c) d p) : n ≤ Rows.uptoBulk d := by
  obtain ⟨fuel, hf⟩ := h
  exact row_bulk Try.underlying26 (x := (d, p)) hf
theorem three_bulk {H : Type} {d0 d1 d2 : DataW H} (hk : Rows.uptoSmall H ([d0, d1, d2] ++ []) = true) : Rows.uptoBulk d1 ≤ 1048576 ∧ Rows.uptoBulk d2 ≤ 1048576 := by
  have h : Rows.uptoBulkAll ([d0, d1, d2] ++ []) ≤ 1048576 := of_decide_eq_true hk
  simp only [List.append_nil, Rows.uptoBulkAll] at h
  omega
end Go.Proofs.Ytjfmpgfpehnnjai.Fi
