/- Putting a tone into a line that is in order; rows of one's own; append of a line, at a step of a drawn region. -/
import Derived.Test.YtpacfppnmenndaaY2
import Derived.OwnWalk
import Derived.Laws.OwnMore
import Derived.Laws.Rows
import Derived.Deep.OwnRows
import Derived.Maps.AppendAt
import Derived.Deep.RegionLaw
namespace Go.Proofs.Ytpacfppnmenndaa.Y
open Go.RowKit Go.Sort
set_option linter.unusedVariables false
set_option linter.unusedSimpArgs false

/-- A line with one tone more, at place k. -/
def ins (Z : Nat → Tn) (k : Nat) (x : Tn) (j : Nat) : Tn := if j < k then Z j else if j = k then x else Z (j - 1)
theorem ins_lo {Z : Nat → Tn} {k j : Nat} {x : Tn} (h : j < k) : ins Z k x j = Z j := by unfold ins; rw [if_pos h]
theorem ins_at (Z : Nat → Tn) (k : Nat) (x : Tn) : ins Z k x k = x := by unfold ins; rw [if_neg (by omega), if_pos rfl]
theorem ins_hi {Z : Nat → Tn} {k j : Nat} {x : Tn} (h : k < j) : ins Z k x j = Z (j - 1) := by unfold ins; rw [if_neg (by omega), if_neg (by omega)]
theorem tab_succ (T : Nat → Tn) (n : Nat) : tab T (n + 1) = tab T n ++ [T n] := by unfold tab; rw [List.range_succ, List.map_append]; rfl
theorem tab_add (T : Nat → Tn) (a b : Nat) : tab T (a + b) = tab T a ++ tab (fun j => T (a + j)) b := by
  induction b with
  | zero => simp [tab]
  | succ b ih => rw [← Nat.add_assoc, tab_succ, ih, tab_succ, List.append_assoc]
theorem ins_tab (Z : Nat → Tn) (k q : Nat) (x : Tn) (hk : k ≤ q) : tab (ins Z k x) (q + 1) = tab Z k ++ x :: tab (fun j => Z (k + j)) (q - k) := by
  have e1 : q + 1 = k + (1 + (q - k)) := by omega
  rw [e1, tab_add, tab_add]
  have a1 : tab (ins Z k x) k = tab Z k := tab_ext fun j hj => ins_lo hj
  have a2 : tab (fun j => ins Z k x (k + j)) 1 = [x] := by
    show [ins Z k x (k + 0)] = [x]
    rw [Nat.add_zero, ins_at]
  have a3 : tab (fun j => ins Z k x (k + (1 + j))) (q - k) = tab (fun j => Z (k + j)) (q - k) := tab_ext fun j hj => by
    show ins Z k x (k + (1 + j)) = _
    rw [ins_hi (by omega)]; congr 1; omega
  rw [a1, a2, a3]; rfl
theorem ins_perm {Z Y : Nat → Tn} {k q : Nat} (hk : k ≤ q) (h : (tab Z q).Perm (tab Y q)) : (tab (ins Z k (Y q)) (q + 1)).Perm (tab Y (q + 1)) := by
  rw [ins_tab Z k q _ hk, tab_succ]
  refine List.perm_middle.trans ?_
  have e : tab Z k ++ tab (fun j => Z (k + j)) (q - k) = tab Z q := by rw [← tab_add]; congr 1; omega
  rw [e]
  exact (h.cons _).trans (List.perm_append_singleton _ _).symm
theorem ins_ord {Z : Nat → Tn} {k q : Nat} {x : Tn} (hk : k ≤ q) (ho : ∀ i j, i < j → j < q → lt (Z j) (Z i) = false) (hb : ∀ j, j < k → lt x (Z j) = false) (ha : k < q → lt x (Z k) = true) : ∀ i j, i < j → j < q + 1 → lt (ins Z k x j) (ins Z k x i) = false := by
  have hup : ∀ j, k ≤ j → j < q → lt (Z j) x = false := fun j h1 h2 => by
    cases hq : lt (Z j) x with
    | false => rfl
    | true =>
      have h3 := lt_trans _ _ _ hq (ha (by omega))
      by_cases e : j = k
      · subst e; rw [lt_irrefl] at h3; cases h3
      · rw [ho k j (by omega) h2] at h3; cases h3
  intro i j hij hj
  by_cases j1 : j < k
  · rw [ins_lo j1, ins_lo (by omega)]; exact ho i j hij (by omega)
  · by_cases j2 : j = k
    · subst j2; rw [ins_at, ins_lo hij]; exact hb i hij
    · rw [ins_hi (by omega)]
      by_cases i1 : i < k
      · rw [ins_lo i1]; exact ho i (j - 1) (by omega) (by omega)
      · by_cases i2 : i = k
        · subst i2; rw [ins_at]; exact hup (j - 1) (by omega) (by omega)
        · rw [ins_hi (by omega)]; exact ho (i - 1) (j - 1) (by omega) (by omega)

/-- A row's cells, element by element. -/
def rows (F : Nat → List Value) : Nat → List Value
  | 0 => []
  | k + 1 => rows F k ++ F k
def tc (T : Nat → Tn) (j : Nat) : List Value := [.int .i64 (T j).t, .int .i64 (T j).g, .int .i64 (T j).l, .int .i64 (T j).a, .int .i64 (T j).o]
theorem rows_len (T : Nat → Tn) (k : Nat) : (rows (tc T) k).length = k * 5 := by
  induction k with
  | zero => simp [rows]
  | succ k ih => simp [rows, ih, tc]; omega
theorem rows_get (T : Nat → Tn) (k j i : Nat) (hj : j < k) (hi : i < 5) : (rows (tc T) k)[j * 5 + i]? = (tc T j)[i]? := by
  induction k with
  | zero => omega
  | succ k ih =>
    simp only [rows]
    by_cases e : j = k
    · subst e
      rw [List.getElem?_append_right (by rw [rows_len]; omega), rows_len]
      congr 1; omega
    · rw [List.getElem?_append_left (by rw [rows_len]; omega)]
      exact ih (by omega)
theorem rows_ext {T U : Nat → Tn} {k : Nat} (h : ∀ j, j < k → T j = U j) : rows (tc T) k = rows (tc U) k := by
  induction k with
  | zero => rfl
  | succ k ih => simp only [rows]; rw [ih fun j hj => h j (by omega)]; unfold tc; rw [h k (by omega)]
theorem rows_add (T : Nat → Tn) (a b : Nat) : rows (tc T) (a + b) = rows (tc T) a ++ rows (tc fun j => T (a + j)) b := by
  induction b with
  | zero => simp [rows]
  | succ b ih => rw [← Nat.add_assoc]; simp only [rows]; rw [ih, List.append_assoc]; rfl
theorem ins_rows (Z : Nat → Tn) (k q : Nat) (x : Tn) (hk : k ≤ q) : rows (tc (ins Z k x)) (q + 1) = (rows (tc Z) k ++ [.int .i64 x.t, .int .i64 x.g, .int .i64 x.l, .int .i64 x.a, .int .i64 x.o]) ++ rows (tc fun j => Z (k + j)) (q - k) := by
  have e1 : q + 1 = k + 1 + (q - k) := by omega
  rw [e1, rows_add]
  have a1 : rows (tc (ins Z k x)) (k + 1) = rows (tc Z) k ++ [.int .i64 x.t, .int .i64 x.g, .int .i64 x.l, .int .i64 x.a, .int .i64 x.o] := by
    simp only [rows]
    rw [rows_ext (U := Z) fun j hj => ins_lo hj]
    unfold tc
    rw [ins_at]
  have a2 : rows (tc fun j => ins Z k x (k + 1 + j)) (q - k) = rows (tc fun j => Z (k + j)) (q - k) := rows_ext fun j hj => by
    show ins Z k x (k + 1 + j) = Z (k + j)
    rw [ins_hi (by omega)]; congr 1; omega
  rw [a1, a2]
theorem rows_one (T : Nat → Tn) (k : Nat) : ∀ u ∈ rows (tc T) k, u.oneCell' = true := by
  induction k with
  | zero => intro u hu; simp [rows] at hu
  | succ k ih =>
    intro u hu
    simp only [rows, List.mem_append] at hu
    rcases hu with h | h
    · exact ih u h
    · simp [tc] at h; rcases h with rfl | rfl | rfl | rfl | rfl <;> rfl
/-- The cells of a line, one behind the other. -/
theorem line_news {W : World} {b off n : Nat} {T : Nat → Tn} (h0 : ∀ j, j < n → W.cell? ⟨b, off + j * 5, none⟩ = some (.int .i64 (T j).t)) (h1 : ∀ j, j < n → W.cell? ⟨b, off + j * 5 + 1, none⟩ = some (.int .i64 (T j).g)) (h2 : ∀ j, j < n → W.cell? ⟨b, off + j * 5 + 2, none⟩ = some (.int .i64 (T j).l)) (h3 : ∀ j, j < n → W.cell? ⟨b, off + j * 5 + 3, none⟩ = some (.int .i64 (T j).a)) (h4 : ∀ j, j < n → W.cell? ⟨b, off + j * 5 + 4, none⟩ = some (.int .i64 (T j).o)) :
    ∀ q u, (rows (tc T) n)[q]? = some u → W.cell? ((⟨b, off, none⟩ : Addr).add q) = some u := by
  intro q u hq
  have hl := (List.getElem?_eq_some_iff.1 hq).1
  rw [rows_len] at hl
  have e2 : (⟨b, off, none⟩ : Addr).add q = ⟨b, off + q, none⟩ := by unfold Addr.add; by_cases h : q = 0 <;> simp [h]
  obtain ⟨j, i, rfl, hi⟩ : ∃ j i, q = j * 5 + i ∧ i < 5 := ⟨q / 5, q % 5, by omega, by omega⟩
  have hj : j < n := by omega
  rw [rows_get T n j i hj hi] at hq
  rw [e2, ← Nat.add_assoc]
  unfold tc at hq
  match i, hi, hq with
  | 0, _, hq => simp at hq; subst hq; exact h0 j hj
  | 1, _, hq => simp at hq; subst hq; exact h1 j hj
  | 2, _, hq => simp at hq; subst hq; exact h2 j hj
  | 3, _, hq => simp at hq; subst hq; exact h3 j hj
  | 4, _, hq => simp at hq; subst hq; exact h4 j hj
theorem own_keep {w w' : World} {base : Nat} {e : TypeId} {size : Nat} {v : Value} {n : Nat} {xs : List Value} (h : w.ownsRow base e size v n xs) (hb : Go.RowKit.Below w.heap.size w w') : w'.ownsRow base e size v n xs := by
  refine ⟨h.1, ?_⟩
  rcases h.2 with hn | ⟨g, cap, cur, rfl, h1, h2, rest⟩
  · exact .inl hn
  · refine .inr ⟨g, cap, cur, rfl, h1, ?_, rest⟩
    rw [hb.block g (by exact (Array.getElem?_eq_some_iff.1 h2).1)]; exact h2
/-- A row of tones that is one's own is a line. -/
theorem own_TL {w : World} {base : Nat} {v : Value} {n : Nat} {T : Nat → Tn} (h : w.ownsRow base 38 5 v n (rows (tc T) n)) : ∃ ao cap, v = .slice ao n cap ∧ n ≤ cap ∧ cap ≤ 9223372036854775807 ∧ TL w ao n T ∧ ((ao = none ∧ n = 0 ∧ cap = 0) ∨ ∃ g, ao = some ⟨g, 0, none⟩ ∧ base ≤ g ∧ g < w.heap.size) := by
  rcases h.2 with ⟨rfl, h0⟩ | ⟨g, cap, cur, rfl, h1, h2, h3, hm, rest⟩
  · subst h0
    exact ⟨none, 0, rfl, by omega, by omega, ⟨fun h => by omega⟩, .inl ⟨rfl, rfl, rfl⟩⟩
  · refine ⟨some ⟨g, 0, none⟩, cap, rfl, h3, by unfold maxLen at hm; omega, ⟨fun hn => ⟨g, 0, rfl, (Array.getElem?_eq_some_iff.1 h2).1, fun j hj => ?_, fun j hj => ?_, fun j hj => ?_, fun j hj => ?_, fun j hj => ?_⟩⟩, .inr ⟨g, rfl, h1, (Array.getElem?_eq_some_iff.1 h2).1⟩⟩
    · rw [Nat.zero_add, h.cellAt _ (by omega)]; have := rows_get T n j 0 hj (by omega); rw [Nat.add_zero] at this; exact this
    · rw [Nat.zero_add, h.cellAt _ (by omega)]; exact rows_get T n j 1 hj (by omega)
    · rw [Nat.zero_add, h.cellAt _ (by omega)]; exact rows_get T n j 2 hj (by omega)
    · rw [Nat.zero_add, h.cellAt _ (by omega)]; exact rows_get T n j 3 hj (by omega)
    · rw [Nat.zero_add, h.cellAt _ (by omega)]; exact rows_get T n j 4 hj (by omega)

/-- append(own, line...), the line nil or not, at a step of a region that draws. -/
theorem step_append_line {P : Program} {w : World} {ops : Array Oper} {o : Oper} {a : Act} {K : Act → World → Prop} {Q : Exit → Act → World → Prop} {E : Prop} (hgd : o.guard = none) (s y : Operand) (t : TypeId)
    (ho : o.op = .call { callee := .builtin .append, args := #[s, y], argTypes := #[t, t] })
    (base : Nat) (e : TypeId) (i : TypeInfo) (z : Value) (ht : P.underlying t = some (.slice e)) (hi : P.info? e = some i) (hz : i.zero = some z)
    (hsize : i.size = 5) (hby : i.bytes = 40) (hzs : z.cells.size = 5)
    (v : Value) (n : Nat) (xs : List Value) (hs : a.eval s = v) (hown : w.ownsRow base e 5 v n xs)
    (bo : Option Addr) (m c : Nat) (T : Nat → Tn) (hx : a.eval y = .slice bo m c) (hli : (bo = none ∧ m = 0 ∧ c = 0) ∨ ∃ b off, bo = some ⟨b, off, none⟩ ∧ ∀ q u, (rows (tc T) m)[q]? = some u → w.cell? ((⟨b, off, none⟩ : Addr).add q) = some u)
    (h63 : n + m ≤ 1000000) (hbase : base ≤ w.heap.size)
    (h : ∀ v' w', w'.ownsRow base e 5 v' (n + m) (xs ++ rows (tc T) m) → w.grownBy w' v.ownBlock → (v'.ownBlock = v.ownBlock ∨ v'.ownBlock = some w.heap.size) → K (a.put o.dst v') w') :
    if Region.wanted o (yielded ops a.tmps) = true then Oper.wp P o a w K Q else E := by
  have hw : Region.wanted o (yielded ops a.tmps) = true := by simp [Region.wanted, hgd]
  rw [if_pos hw]
  rcases hli with ⟨rfl, rfl, rfl⟩ | ⟨b, off, rfl, hnews⟩
  · have hrun := run_append_owned_none (P := P) (w := w) base t o.type e i 5 ht hi v n xs hown
    have hK := h v w (by simpa [rows] using hown) ⟨rfl, rfl, rfl, Nat.le_refl _, fun _ _ _ => rfl⟩ (Or.inl rfl)
    unfold Oper.wp
    simp [execOp, ho, resolve, invoke, builtin, hs, hx, hrun, Result.andThen]
    exact hK
  · obtain ⟨v', w', hr, h2, h3, _, h5⟩ := run_append_own_at (P := P) w base t o.type e i z 5 40 ht hi hz hsize hby hzs (by omega) v n xs hown ⟨b, off, none⟩ m c (rows (tc T) m) (rows_len T m) hnews (rows_one T m) (by unfold maxLen; omega) (by omega) hbase
    have hK := h v' w' h2 h3 h5
    unfold Oper.wp execOp
    simp only [ho, resolve, invoke, builtin, Sem.run_bind, Sem.run_pure, Result.andThen_ok, List.map_toArray, List.map_cons, List.map_nil, hs, hx, hr]
    exact hK
end Go.Proofs.Ytpacfppnmenndaa.Y
