/- The classes that the document's What knows, one behind the other. -/
import Derived.Test.YtdjdnjaijpafgabDoorC6
namespace Go.Proofs.YtdjdnjaijpafgabDoor
open Go.RowKit

/-- The distinct classes of the first i pitches, in order. -/
def M.dd (L A : Nat → Int) : Nat → List (Int × Int)
  | 0 => []
  | i + 1 => if (L i, A i) ∈ M.dd L A i then M.dd L A i else M.dd L A i ++ [(L i, A i)]
def M.g1 (l : List (Int × Int)) (j : Nat) : Int := (l.getD j (0, 0)).1
def M.g2 (l : List (Int × Int)) (j : Nat) : Int := (l.getD j (0, 0)).2
theorem M.dd_mem {L A : Nat → Int} {i : Nat} {x : Int × Int} : x ∈ M.dd L A i ↔ ∃ j, j < i ∧ (L j, A j) = x := by
  induction i with
  | zero => simp [M.dd]
  | succ i ih =>
    simp only [M.dd]
    split
    · rename_i h
      rw [ih]
      constructor
      · rintro ⟨j, h1, h2⟩; exact ⟨j, by omega, h2⟩
      · rintro ⟨j, h1, h2⟩
        by_cases e : j = i
        · subst e; obtain ⟨j', h3, h4⟩ := ih.1 (h2 ▸ h); exact ⟨j', h3, h4⟩
        · exact ⟨j, by omega, h2⟩
    · rw [List.mem_append, ih, List.mem_singleton]
      constructor
      · rintro (⟨j, h1, h2⟩ | h2)
        · exact ⟨j, by omega, h2⟩
        · exact ⟨i, by omega, h2.symm⟩
      · rintro ⟨j, h1, h2⟩
        by_cases e : j = i
        · subst e; exact .inr h2.symm
        · exact .inl ⟨j, by omega, h2⟩
theorem M.dd_len (L A : Nat → Int) (i : Nat) : (M.dd L A i).length ≤ i := by
  induction i with
  | zero => simp [M.dd]
  | succ i ih =>
    simp only [M.dd]
    split
    · omega
    · rw [List.length_append]; simp; omega
theorem M.dd_nodup (L A : Nat → Int) (i : Nat) : (M.dd L A i).Nodup := by
  induction i with
  | zero => simp [M.dd]
  | succ i ih =>
    simp only [M.dd]
    split
    · exact ih
    · rename_i h
      rw [List.nodup_append]
      refine ⟨ih, by simp, fun a ha b hb => ?_⟩
      rw [List.mem_singleton] at hb
      intro e
      exact h (by rw [← hb, ← e]; exact ha)
theorem M.g_mem {l : List (Int × Int)} {x y : Int} : (∃ j, j < l.length ∧ M.g1 l j = x ∧ M.g2 l j = y) ↔ (x, y) ∈ l := by
  rw [List.mem_iff_getElem]
  constructor
  · rintro ⟨j, hj, e1, e2⟩
    refine ⟨j, hj, ?_⟩
    unfold M.g1 at e1
    unfold M.g2 at e2
    rw [List.getD_eq_getElem?_getD, List.getElem?_eq_getElem hj] at e1 e2
    simp at e1 e2
    exact Prod.ext e1 e2
  · rintro ⟨j, hj, e⟩
    refine ⟨j, hj, ?_, ?_⟩
    · unfold M.g1; rw [List.getD_eq_getElem?_getD, List.getElem?_eq_getElem hj, e]; rfl
    · unfold M.g2; rw [List.getD_eq_getElem?_getD, List.getElem?_eq_getElem hj, e]; rfl
theorem M.g_ne {l : List (Int × Int)} (h : l.Nodup) : ∀ i j, i < j → j < l.length → (M.g1 l i, M.g2 l i) ≠ (M.g1 l j, M.g2 l j) := by
  intro i j hij hj e
  have ei : (M.g1 l i, M.g2 l i) = l[i]'(by omega) := by
    unfold M.g1 M.g2; rw [List.getD_eq_getElem?_getD, List.getElem?_eq_getElem (show i < l.length by omega)]; rfl
  have ej : (M.g1 l j, M.g2 l j) = l[j]'hj := by
    unfold M.g1 M.g2; rw [List.getD_eq_getElem?_getD, List.getElem?_eq_getElem hj]; rfl
  rw [ei, ej] at e
  exact (List.pairwise_iff_getElem.1 h) i j (by omega) hj hij e
/-- A list of classes as cells. -/
def clsRow (l : List (Int × Int)) : List Value := l.flatMap fun x => [.int .i64 x.1, .int .i64 x.2]
theorem clsRow_add (l : List (Int × Int)) (x : Int × Int) : clsRow l ++ [.int .i64 x.1, .int .i64 x.2] = clsRow (l ++ [x]) := by
  unfold clsRow; simp
theorem clsRow_get (l : List (Int × Int)) (j : Nat) (hj : j < l.length) : (clsRow l)[j * 2]? = some (.int .i64 (M.g1 l j)) ∧ (clsRow l)[j * 2 + 1]? = some (.int .i64 (M.g2 l j)) := by
  induction l generalizing j with
  | nil => simp at hj
  | cons x l ih =>
    cases j with
    | zero => exact ⟨rfl, rfl⟩
    | succ j =>
      have := ih j (by simpa using hj)
      refine ⟨?_, ?_⟩
      · rw [show (j + 1) * 2 = j * 2 + 2 by omega]; exact this.1
      · rw [show (j + 1) * 2 + 1 = j * 2 + 1 + 2 by omega]; exact this.2

/-- A row of classes that the call owns, as it is read. -/
theorem own_KL {w : World} {base : Nat} {t : TypeId} {v : Value} {l : List (Int × Int)} (h : w.ownsRow base t 2 v l.length (clsRow l)) : ∃ ao cap, v = .slice ao l.length cap ∧ KL w ao l.length (M.g1 l) (M.g2 l) := by
  cases hl : l.length with
  | zero =>
    rw [hl] at h
    rcases h.2 with ⟨rfl, _⟩ | ⟨g, cap, cur, rfl, _⟩
    · exact ⟨none, 0, rfl, ⟨fun h => by omega⟩⟩
    · exact ⟨some ⟨g, 0, none⟩, cap, rfl, ⟨fun h => by omega⟩⟩
  | succ n =>
    obtain ⟨g, cap, rfl, h1, h2, h3, h4⟩ := own_cells h (by omega)
    refine ⟨some ⟨g, 0, none⟩, cap, by rw [hl], ⟨fun _ => ⟨g, rfl, h2, fun j hj => ?_, fun j hj => ?_⟩⟩⟩
    · rw [h4 _ (by omega)]; exact (clsRow_get l j (by omega)).1
    · rw [h4 _ (by omega)]; exact (clsRow_get l j (by omega)).2
theorem M.hasC_dd {l : List (Int × Int)} {x y : Int} : M.hasC (M.g1 l) (M.g2 l) x y l.length = decide ((x, y) ∈ l) := by
  rw [Bool.eq_iff_iff, M.hasC_iff, decide_eq_true_iff, M.g_mem]

end Go.Proofs.YtdjdnjaijpafgabDoor
