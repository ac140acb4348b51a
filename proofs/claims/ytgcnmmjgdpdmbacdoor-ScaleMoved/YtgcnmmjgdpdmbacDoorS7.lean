/- What the document's Scale and SameClasses come to. -/
import Derived.Test.YtgcnmmjgdpdmbacDoorS6
import Derived.OwnWalk
import Derived.Laws.OwnMore
namespace Go.Proofs.YtgcnmmjgdpdmbacDoor
open Go.RowKit
set_option linter.unusedSimpArgs false

/-- A row's cells, element by element. -/
def rows (F : Nat → List Value) : Nat → List Value
  | 0 => []
  | k + 1 => rows F k ++ F k
theorem rows_len {F : Nat → List Value} {s : Nat} (h : ∀ j, (F j).length = s) (k : Nat) : (rows F k).length = k * s := by
  induction k with
  | zero => simp [rows]
  | succ k ih => simp [rows, ih, h, Nat.succ_mul]
theorem rows_get {F : Nat → List Value} {s : Nat} (h : ∀ j, (F j).length = s) (k j i : Nat) (hj : j < k) (hi : i < s) : (rows F k)[j * s + i]? = (F j)[i]? := by
  induction k with
  | zero => omega
  | succ k ih =>
    simp only [rows]
    by_cases e : j = k
    · subst e
      rw [List.getElem?_append_right (by rw [rows_len h]; omega), rows_len h]
      congr 1; omega
    · have hjk : j < k := by omega
      rw [List.getElem?_append_left (by rw [rows_len h]; have : (j + 1) * s ≤ k * s := Nat.mul_le_mul_right s hjk; rw [Nat.succ_mul] at this; omega)]
      exact ih hjk
theorem own_step {w w' : World} {base : Nat} {e : TypeId} {size : Nat} {v : Value} {n : Nat} {xs : List Value} (h : w.ownsRow base e size v n xs) (hb : Below w.heap.size w w') : w'.ownsRow base e size v n xs := by
  refine ⟨h.1, ?_⟩
  rcases h.2 with hn | ⟨g, cap, cur, rfl, h1, h2, rest⟩
  · exact .inl hn
  · refine .inr ⟨g, cap, cur, rfl, h1, ?_, rest⟩
    rw [hb.block g (by exact (Array.getElem?_eq_some_iff.1 h2).1)]; exact h2
theorem own_block {w : World} {base : Nat} {e : TypeId} {size : Nat} {v : Value} {n : Nat} {xs : List Value} (h : w.ownsRow base e size v n xs) : ∀ k, v.ownBlock = some k → base ≤ k := by
  intro k hk
  rcases h.2 with ⟨rfl, _⟩ | ⟨g, cap, cur, rfl, h1, h2, rest⟩
  · simp [Value.ownBlock] at hk
  · simp [Value.ownBlock] at hk; omega
/-- An owned row that is not empty lies in a block of its own. -/
theorem own_cells {w : World} {base : Nat} {e : TypeId} {size : Nat} {v : Value} {n : Nat} {xs : List Value} (h : w.ownsRow base e size v n xs) (hn : 0 < n) :
    ∃ g cap, v = .slice (some ⟨g, 0, none⟩) n cap ∧ base ≤ g ∧ g < w.heap.size ∧ n ≤ cap ∧ ∀ j, j < n * size → w.cell? ⟨g, j, none⟩ = xs[j]? := by
  rcases h.2 with ⟨_, h0⟩ | ⟨g, cap, cur, rfl, h1, h2, h3, rest⟩
  · omega
  · exact ⟨g, cap, rfl, h1, (Array.getElem?_eq_some_iff.1 h2).1, h3, fun j hj => h.cellAt j hj⟩

theorem info47 : (Tryd.prog.info? 30).map (fun i => (i.zero, i.size, i.bytes)) = some (some (.agg #[.int .i64 0, .int .i64 0]), 2, 16) := by kernel_rfl

/-- A row of classes as it is read: seven steps of a key. -/
structure Sev (w : World) (b : Nat) (s l : Int) : Prop where
  lt : b < w.heap.size
  c0 : ∀ j : Nat, j < 7 → w.cell? ⟨b, j * 2, none⟩ = some (.int .i64 ((l + j) % 7))
  c1 : ∀ j : Nat, j < 7 → w.cell? ⟨b, j * 2 + 1, none⟩ = some (.int .i64 (M.al s ((l + j) % 7)))
theorem Sev.step {w w' : World} {B b : Nat} {s l : Int} (h : Sev w b s l) (hb : Below B w w') (hB : b < B) (hs : B ≤ w.heap.size) : Sev w' b s l := by
  have hz := hb.size
  exact ⟨by omega, fun j hj => keepC hb hB (h.c0 j hj), fun j hj => keepC hb hB (h.c1 j hj)⟩
theorem Row7.sev {w : World} {b : Nat} {s l : Int} (h : Row7 w b s l 7) : Sev w b s l := ⟨h.lt, fun j hj => (h.don j hj).1, fun j hj => (h.don j hj).2⟩

def clsF (S x : Int) (j : Nat) : List Value := [.int .i64 ((x + j) % 7), .int .i64 (M.al S ((x + j) % 7))]

end Go.Proofs.YtgcnmmjgdpdmbacDoor
