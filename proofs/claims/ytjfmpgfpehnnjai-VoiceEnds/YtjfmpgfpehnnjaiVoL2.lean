/- VoiceSings: the law's text, walked. -/
import Derived.Test.YtjfmpgfpehnnjaiVo14
namespace Go.Proofs.Ytjfmpgfpehnnjai.Vo
open Go.RowKit Go.Maps Go.Sort
set_option linter.unusedSimpArgs false
set_option linter.unusedVariables false

/-- What lies at place j of both rows. -/
theorem SO.at' {w : World} {base : Nat} {v u : Value} {R : List Rw} (h : SO w base v u R) {j : Nat} {r : Rw} (hj : R[j]? = some r) : ∃ g c g' c' xa xc, v = .slice (some ⟨g, 0, none⟩) R.length c ∧ u = .slice (some ⟨g', 0, none⟩) R.length c' ∧ R.length ≤ c ∧ c ≤ 9223372036854775807 ∧ R.length ≤ c' ∧ c' ≤ 9223372036854775807 ∧ g < w.heap.size ∧ g' < w.heap.size ∧ w.cell? ⟨g, j, none⟩ = some (.slice xa r.m xc) ∧ w.cell? ⟨g', j, none⟩ = some (.int .i64 r.e) ∧ FSl w (Sc base w v u) (.slice xa r.m xc) r.m r.f := by
  have hjl : j < R.length := (List.getElem?_eq_some_iff.1 hj).1
  obtain ⟨Vs, h1, h2, h3⟩ := h.ex
  obtain ⟨x, x1, x2⟩ := h3 j r hj
  obtain ⟨xa, xc, x3, _⟩ := x2.ex
  have her := h.er
  rcases h1.2 with ⟨e1, e2⟩ | ⟨g, cap, cur, e1, e2, e3, e4, hm, rest⟩
  · omega
  rcases her.2 with ⟨f1, f2⟩ | ⟨g', cap', cur', f1, f2, f3, f4, hm', rest'⟩
  · omega
  have c1 := World.ownsRow.cellAt (e1 ▸ h1) j (by omega)
  have c2 := World.ownsRow.cellAt (f1 ▸ her) j (by omega)
  refine ⟨g, cap, g', cap', xa, xc, e1, f1, e4, by unfold maxLen at hm; omega, f4, by unfold maxLen at hm'; omega, (Array.getElem?_eq_some_iff.1 e3).1, (Array.getElem?_eq_some_iff.1 f3).1, ?_, ?_, ?_⟩
  · rw [← x3]; exact c1.trans x1
  · rw [c2, List.getElem?_map, hj]; rfl
  · rw [← x3]; exact x2
theorem row1_m (p : Pt) (T : Nat) (o : Option Nat) (n : Int) : (row1 p T o n).m ≤ 65536 := by
  unfold row1
  generalize pl n = q
  by_cases c : q < 0 ∨ 65536 < q
  · rw [if_pos c]; exact Nat.zero_le _
  · rw [if_neg c]; show q.toNat ≤ 65536; omega
theorem rws_m (p : Pt) (l : List Int) (k j : Nat) (r : Rw) (h : (rws p l k)[j]? = some r) : r.m ≤ 65536 := by
  have hj : j < k := by have := (List.getElem?_eq_some_iff.1 h).1; rw [rws_len] at this; exact this
  rw [rws_get p l k j hj] at h
  cases h
  exact row1_m _ _ _ _
end Go.Proofs.Ytjfmpgfpehnnjai.Vo
