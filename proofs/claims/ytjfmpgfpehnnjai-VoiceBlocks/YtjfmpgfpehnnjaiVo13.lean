/- What the document's Sing comes to. -/
import Derived.Test.YtjfmpgfpehnnjaiVo12
namespace Go.Proofs.Ytjfmpgfpehnnjai.Vo
open Go.RowKit Go.Maps Go.Sort
set_option linter.unusedSimpArgs false
set_option linter.unusedVariables false

/-- A patch in a block. -/
structure PB (w : World) (b : Nat) (p : Pt) : Prop where
  c0 : w.cell? ⟨b, 0, none⟩ = some (.int .i64 p.shape)
  c1 : w.cell? ⟨b, 1, none⟩ = some (.int .u32 p.step)
  c2 : w.cell? ⟨b, 2, none⟩ = some (.float .f64 p.gain)
  c3 : w.cell? ⟨b, 3, none⟩ = some (.int .i64 p.atk)
  c4 : w.cell? ⟨b, 4, none⟩ = some (.int .i64 p.dec)
  c5 : w.cell? ⟨b, 5, none⟩ = some (.int .i64 p.rel)
  c6 : w.cell? ⟨b, 6, none⟩ = some (.int .i64 p.sus)
  lt : b < w.heap.size
theorem PB.bel {w w' : World} {b B : Nat} {p : Pt} (h : PB w b p) (hb : Below B w w') (hB : b < B) (hz : w.heap.size ≤ w'.heap.size) : PB w' b p :=
  ⟨keepC hb hB h.c0, keepC hb hB h.c1, keepC hb hB h.c2, keepC hb hB h.c3, keepC hb hB h.c4, keepC hb hB h.c5, keepC hb hB h.c6, by have := h.lt; omega⟩
theorem own_FS {w : World} {base : Nat} {v : Value} {m : Nat} {xs : List Value} {f : Nat → Nat} (h : w.ownsRow base 23 1 v m xs) (hx : ∀ i, i < m → xs[i]? = some (.float .f64 (f i))) : FSl w (fun b => base ≤ b ∧ b < w.heap.size) v m f := by
  rcases h.2 with ⟨rfl, rfl⟩ | ⟨g, cap, cur, e1, e2, e3, e4, hm, rest⟩
  · exact FSl.nil _ _ _
  · refine ⟨⟨some ⟨g, 0, none⟩, cap, e1, e4, by unfold maxLen at hm; omega, fun hn => ⟨g, 0, rfl, ⟨e2, (Array.getElem?_eq_some_iff.1 e3).1⟩, fun i hi => ?_⟩⟩, fun n c e => by rw [e1] at e; cases e⟩
    subst e1
    rw [Nat.zero_add]
    exact (World.ownsRow.cellAt h i (by omega)).trans (hx i hi)
/-- The first samples of a piece, as cells. -/
def fls (p : Pt) (o : Option Nat) (T : Nat) : Nat → List Value
  | 0 => []
  | k + 1 => fls p o T k ++ [.float .f64 (S p o (T + k))]
theorem fls_len (p : Pt) (o : Option Nat) (T k : Nat) : (fls p o T k).length = k := by
  induction k with
  | zero => rfl
  | succ k ih => show (fls p o T k ++ _).length = _; simp [ih]
theorem fls_get (p : Pt) (o : Option Nat) (T k i : Nat) (h : i < k) : (fls p o T k)[i]? = some (.float .f64 (S p o (T + i))) := by
  induction k with
  | zero => omega
  | succ k ih =>
    show (fls p o T k ++ _)[i]? = _
    by_cases c : i < k
    · rw [List.getElem?_append_left (by rw [fls_len]; exact c)]; exact ih c
    · obtain rfl : i = k := by omega
      rw [List.getElem?_append_right (by rw [fls_len]; omega), fls_len]; simp
theorem stO_off (l : List Int) (k : Nat) : Off (stT l k) (stO l k) := by
  induction k with
  | zero => intro j hj; cases hj
  | succ k ih =>
    show Off (pT (stT l k) (l.getD k 0)) (po (stT l k) (stO l k) (l.getD k 0))
    have h1 : stT l k ≤ pT (stT l k) (l.getD k 0) := by
      unfold pT
      generalize pl (l.getD k 0) = q
      by_cases c : q < 0 ∨ 65536 < q
      · rw [if_pos c]; exact Nat.le_refl _
      · rw [if_neg c]; omega
    refine Off.mono ?_ h1
    unfold po
    by_cases c : l.getD k 0 < 0
    · rw [if_pos c]; exact off1_ok ih
    · rw [if_neg c]; exact ih
end Go.Proofs.Ytjfmpgfpehnnjai.Vo
