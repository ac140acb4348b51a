/- Rows of one's own: their cells, and what carries them over a call. -/
import Derived.Test.YtaohahahhjkcdaeGreatDoorSG6
import Derived.OwnWalk
import Derived.Laws.OwnMore
import Derived.Laws.Rows
import Derived.Deep.OwnRows
namespace Go.Proofs.YtaohahahhjkcdaeGreatDoor.F
open Go.RowKit
set_option linter.unusedSimpArgs false
set_option linter.unusedVariables false

/-- A row's cells, element by element. -/
def rows (F : Nat → List Value) : Nat → List Value
  | 0 => []
  | k + 1 => rows F k ++ F k
theorem rows_len {F : Nat → List Value} {s : Nat} (h : ∀ j, (F j).length = s) (k : Nat) : (rows F k).length = k * s := by
  induction k with
  | zero => simp [rows]
  | succ k ih => simp [rows, ih, h, Nat.succ_mul]
theorem rows_get {F : Nat → List Value} {s : Nat} (h : ∀ j, (F j).length = s) (k j i : Nat) (hj : j < k) (hi : i < s) : (rows F k)[j * s + i]? = (F j)[i]? := by
  induction k with
  | zero => omega
  | succ k ih =>
    simp only [rows]
    by_cases e : j = k
    · subst e
      rw [List.getElem?_append_right (by rw [rows_len h]; omega), rows_len h]
      congr 1; omega
    · have hjk : j < k := by omega
      rw [List.getElem?_append_left (by rw [rows_len h]; have : (j + 1) * s ≤ k * s := Nat.mul_le_mul_right s hjk; rw [Nat.succ_mul] at this; omega)]
      exact ih hjk
theorem own_step {w w' : World} {base : Nat} {e : TypeId} {size : Nat} {v : Value} {n : Nat} {xs : List Value} (h : w.ownsRow base e size v n xs) (hb : Below w.heap.size w w') : w'.ownsRow base e size v n xs := by
  refine ⟨h.1, ?_⟩
  rcases h.2 with hn | ⟨g, cap, cur, rfl, h1, h2, rest⟩
  · exact .inl hn
  · refine .inr ⟨g, cap, cur, rfl, h1, ?_, rest⟩
    rw [hb.block g (by exact (Array.getElem?_eq_some_iff.1 h2).1)]; exact h2
theorem own_block {w : World} {base : Nat} {e : TypeId} {size : Nat} {v : Value} {n : Nat} {xs : List Value} (h : w.ownsRow base e size v n xs) : ∀ k, v.ownBlock = some k → base ≤ k := by
  intro k hk
  rcases h.2 with ⟨rfl, _⟩ | ⟨g, cap, cur, rfl, h1, h2, rest⟩
  · simp [Value.ownBlock] at hk
  · simp [Value.ownBlock] at hk; omega
/-- An owned row that is not empty lies in a block of its own. -/
theorem own_cells {w : World} {base : Nat} {e : TypeId} {size : Nat} {v : Value} {n : Nat} {xs : List Value} (h : w.ownsRow base e size v n xs) (hn : 0 < n) :
    ∃ g cap, v = .slice (some ⟨g, 0, none⟩) n cap ∧ base ≤ g ∧ g < w.heap.size ∧ n ≤ cap ∧ ∀ j, j < n * size → w.cell? ⟨g, j, none⟩ = xs[j]? := by
  rcases h.2 with ⟨_, h0⟩ | ⟨g, cap, cur, rfl, h1, h2, h3, rest⟩
  · omega
  · exact ⟨g, cap, rfl, h1, (Array.getElem?_eq_some_iff.1 h2).1, h3, fun j hj => h.cellAt j hj⟩

theorem own_base {w : World} {base b : Nat} {e : TypeId} {size : Nat} {v : Value} {n : Nat} {xs : List Value} (h : w.ownsRow base e size v n xs) (hb : b ≤ base) : w.ownsRow b e size v n xs := by
  refine ⟨h.1, ?_⟩
  rcases h.2 with hn | ⟨g, cap, cur, rfl, h1, rest⟩
  · exact .inl hn
  · exact .inr ⟨g, cap, cur, rfl, by omega, rest⟩
end Go.Proofs.YtaohahahhjkcdaeGreatDoor.F
