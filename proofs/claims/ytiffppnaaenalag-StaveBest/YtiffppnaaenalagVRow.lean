/- Rows of one's own: their cells, what carries them over a call, and append. -/
import Derived.Test.YtiffppnaaenalagV1
import Derived.Maps.AppendAt
import Derived.OneCell
import Derived.Laws.AppendOwnNone
import Derived.OwnWalk
import Derived.Laws.OwnMore
import Derived.Laws.Rows
import Derived.Deep.OwnRows
namespace Go.Proofs.Ytiffppnaaenalag.V
open Go.RowKit Go.Maps
set_option linter.unusedSimpArgs false
set_option linter.unusedVariables false

/-- A row's cells, element by element. -/
def rows (F : Nat → List Value) : Nat → List Value
  | 0 => []
  | k + 1 => rows F k ++ F k
theorem rows_len {F : Nat → List Value} {s : Nat} (h : ∀ j, (F j).length = s) (k : Nat) : (rows F k).length = k * s := by
  induction k with
  | zero => simp [rows]
  | succ k ih => simp [rows, ih, h, Nat.succ_mul]
theorem rows_get {F : Nat → List Value} {s : Nat} (h : ∀ j, (F j).length = s) (k j i : Nat) (hj : j < k) (hi : i < s) : (rows F k)[j * s + i]? = (F j)[i]? := by
  induction k with
  | zero => omega
  | succ k ih =>
    simp only [rows]
    by_cases e : j = k
    · subst e
      rw [List.getElem?_append_right (by rw [rows_len h]; omega), rows_len h]
      congr 1; omega
    · have hjk : j < k := by omega
      rw [List.getElem?_append_left (by rw [rows_len h]; have : (j + 1) * s ≤ k * s := Nat.mul_le_mul_right s hjk; rw [Nat.succ_mul] at this; omega)]
      exact ih hjk
theorem own_step {w w' : World} {base : Nat} {e : TypeId} {size : Nat} {v : Value} {n : Nat} {xs : List Value} (h : w.ownsRow base e size v n xs) (hb : Below w.heap.size w w') : w'.ownsRow base e size v n xs := by
  refine ⟨h.1, ?_⟩
  rcases h.2 with hn | ⟨g, cap, cur, rfl, h1, h2, rest⟩
  · exact .inl hn
  · refine .inr ⟨g, cap, cur, rfl, h1, ?_, rest⟩
    rw [hb.block g (by exact (Array.getElem?_eq_some_iff.1 h2).1)]; exact h2
theorem own_block {w : World} {base : Nat} {e : TypeId} {size : Nat} {v : Value} {n : Nat} {xs : List Value} (h : w.ownsRow base e size v n xs) : ∀ k, v.ownBlock = some k → base ≤ k := by
  intro k hk
  rcases h.2 with ⟨rfl, _⟩ | ⟨g, cap, cur, rfl, h1, h2, rest⟩
  · simp [Value.ownBlock] at hk
  · simp [Value.ownBlock] at hk; omega
/-- An owned row that is not empty lies in a block of its own. -/
theorem own_cells {w : World} {base : Nat} {e : TypeId} {size : Nat} {v : Value} {n : Nat} {xs : List Value} (h : w.ownsRow base e size v n xs) (hn : 0 < n) :
    ∃ g cap, v = .slice (some ⟨g, 0, none⟩) n cap ∧ base ≤ g ∧ g < w.heap.size ∧ n ≤ cap ∧ ∀ j, j < n * size → w.cell? ⟨g, j, none⟩ = xs[j]? := by
  rcases h.2 with ⟨_, h0⟩ | ⟨g, cap, cur, rfl, h1, h2, h3, rest⟩
  · omega
  · exact ⟨g, cap, rfl, h1, (Array.getElem?_eq_some_iff.1 h2).1, h3, fun j hj => h.cellAt j hj⟩

theorem own_base {w : World} {base b : Nat} {e : TypeId} {size : Nat} {v : Value} {n : Nat} {xs : List Value} (h : w.ownsRow base e size v n xs) (hb : b ≤ base) : w.ownsRow b e size v n xs := by
  refine ⟨h.1, ?_⟩
  rcases h.2 with hn | ⟨g, cap, cur, rfl, h1, rest⟩
  · exact .inl hn
  · exact .inr ⟨g, cap, cur, rfl, by omega, rest⟩
theorem info3 : (Try.prog.info? 3).map (fun i => (i.zero, i.size, i.bytes)) = some (some (.int .i64 0), 1, 8) := by kernel_rfl
/-- A number as cells. -/
def ic (x : Nat → Int) (j : Nat) : List Value := [.int .i64 (x j)]
theorem own_LI {w : World} {base : Nat} {t : TypeId} {v : Value} {n : Nat} {x : Nat → Int} (hn : w.ownsRow base t 1 v n (rows (ic x) n)) :
    ∃ ao c, v = .slice ao n c ∧ n ≤ c ∧ c ≤ 9223372036854775807 ∧ LI w ao n x := by
  by_cases hz : n = 0
  · subst hz
    rcases hn.2 with ⟨rfl, _⟩ | ⟨g, cap, cur, rfl, _, _, _, hm, _⟩
    · exact ⟨none, 0, rfl, by omega, by omega, ⟨fun h => by omega⟩⟩
    · exact ⟨some ⟨g, 0, none⟩, cap, rfl, by omega, by unfold maxLen at hm; omega, ⟨fun h => by omega⟩⟩
  · obtain ⟨g, cap, rfl, h1, h2, h3, h4⟩ := own_cells hn (by omega)
    have hcap : cap ≤ 9223372036854775807 := by
      rcases hn.2 with ⟨h, _⟩ | ⟨g', cap', cur, h, _, _, _, hm, _⟩
      · simp at h
      · simp at h; unfold maxLen at hm; omega
    have hr := fun j i (hj : j < n) (hi : i < 1) => rows_get (F := ic x) (s := 1) (fun j => rfl) n j i hj hi
    refine ⟨some ⟨g, 0, none⟩, cap, rfl, h3, hcap, ⟨fun _ => ⟨g, 0, rfl, h2, fun j hj => ?_⟩⟩⟩
    rw [Nat.zero_add, h4 _ (by omega)]; have := hr j 0 hj (by omega); rw [Nat.mul_one, Nat.add_zero] at this; exact this
theorem rows_ext {x y : Nat → Int} {i : Nat} (h : ∀ j, j < i → x j = y j) : rows (ic x) i = rows (ic y) i := by
  induction i with
  | zero => rfl
  | succ i ih => simp only [rows]; rw [ih (fun j hj => h j (by omega))]; unfold ic; rw [h i (by omega)]

/-- Numbers with one more. -/
def ex (x : Nat → Int) (i : Nat) (K : Int) (j : Nat) : Int := if j = i then K else x j
theorem ex_same {x : Nat → Int} {i : Nat} {K : Int} : ex x i K i = K := if_pos rfl
theorem ex_less {x : Nat → Int} {i j : Nat} {K : Int} (h : j < i) : ex x i K j = x j := if_neg (by omega)
theorem gcell {w w' : World} {row : Option Nat} (hg : w.grownBy w' row) {b o : Nat} {v : Value} (hlt : b < w.heap.size) (hne : some b ≠ row) (h : w.cell? ⟨b, o, none⟩ = some v) : w'.cell? ⟨b, o, none⟩ = some v :=
  (World.cell?_of_block (w := w) (w' := w') (a := ⟨b, o, none⟩) (hg.block b hlt hne)).trans h
theorem gfroz {w w' : World} {row : Option Nat} (hg : w.grownBy w' row) {b o : Nat} {v : Bool} (hlt : b < w.heap.size) (hne : some b ≠ row) (h : w.frozen? ⟨b, o, none⟩ = v) : w'.frozen? ⟨b, o, none⟩ = v :=
  (World.frozen?_of_block (w := w) (w' := w') (a := ⟨b, o, none⟩) (hg.block b hlt hne)).trans h
/-- append(s, l...) where s is one's own and l is any line of numbers: nil, or not. -/
theorem wpList_append_li {P : Program} {w : World} {ops : Array Oper} {rest : List Oper} {o : Oper} {a : Act} {Q : Exit → Act → World → Prop} (hgd : o.guard = none) (s y : Operand) (t : TypeId)
    (ho : o.op = .call { callee := .builtin .append, args := #[s, y], argTypes := #[t, t] })
    (base : Nat) (e : TypeId) (i : TypeInfo) (z : Value) (ht : P.underlying t = some (.slice e)) (hi : P.info? e = some i) (hz : i.zero = some z)
    (hsize : i.size = 1) (hby : i.bytes = 8) (hzs : z.cells.size = 1)
    (v : Value) (n : Nat) (xs : List Value) (hs : a.eval s = v) (hown : w.ownsRow base e 1 v n xs)
    (bo : Option Addr) (m c : Nat) (x : Nat → Int) (hx : a.eval y = .slice bo m c) (hli : LI w bo m x) (hnil : m = 0 → bo = none ∧ c = 0)
    (h63 : n + m ≤ 1000000) (hbase : base ≤ w.heap.size)
    (h : ∀ v' w', w'.ownsRow base e 1 v' (n + m) (xs ++ rows (ic x) m) → w.grownBy w' v.ownBlock → (v'.ownBlock = v.ownBlock ∨ v'.ownBlock = some w.heap.size) → wpList P ops Q rest (a.put o.dst v') w') :
    wpList P ops Q (o :: rest) a w := by
  by_cases hm : m = 0
  · obtain ⟨rfl, rfl⟩ := hnil hm
    subst hm
    refine wpList_append_own_none hgd s y t ho base e i 1 ht hi v n xs hs hown hx (h v w (by simpa [rows] using hown) ⟨rfl, rfl, rfl, Nat.le_refl _, fun _ _ _ => rfl⟩ (Or.inl rfl))
  · obtain ⟨b, off, rfl, h2, h3⟩ := hli.at' (by omega)
    refine wpList_append_own_at w hgd s y t ho base e i z 1 8 ht hi hz hsize hby hzs (by omega) v n xs hs hown ⟨b, off, none⟩ m c (rows (ic x) m) hx (by rw [rows_len (F := ic x) (s := 1) (fun _ => rfl) m]) ?_ ?_ (by unfold maxLen; omega) (by omega) hbase (fun v' w' k1 k2 _ k4 => h v' w' k1 k2 k4)
    · intro j u hj
      have hl : (rows (ic x) m).length = m * 1 := rows_len (F := ic x) (s := 1) (fun _ => rfl) m
      have hjm : j < m := by have := (List.getElem?_eq_some_iff.1 hj).1; omega
      have := rows_get (F := ic x) (s := 1) (fun _ => rfl) m j 0 hjm (by omega)
      rw [Nat.mul_one, Nat.add_zero, hj] at this
      have e : u = .int .i64 (x j) := by simpa [ic] using this
      rw [e]
      have e2 : (⟨b, off, none⟩ : Addr).add j = ⟨b, off + j, none⟩ := by simp [Addr.add]
      rw [e2]
      exact h3 j hjm
    · intro u hu
      have : ∀ k, ∀ u ∈ rows (ic x) k, u.oneCell' = true := fun k => by
        induction k with
        | zero => intro u hu; simp [rows] at hu
        | succ k ih =>
          intro u hu
          simp only [rows, List.mem_append] at hu
          rcases hu with hu | hu
          · exact ih u hu
          · simp [ic] at hu; subst hu; rfl
      exact this m u hu
end Go.Proofs.Ytiffppnaaenalag.V
