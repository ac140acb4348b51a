/- A turn by turn run of a ring, as plain words; a row of turns of one's own. -/
import Derived.Test.YtggbbekgmjkplaaRg3
namespace Go.Proofs.Ytggbbekgmjkplaa.Rg
open Go.RowKit Go.Maps Go.Sort
set_option linter.unusedVariables false
set_option linter.unusedSimpArgs false

/-- One turn's answer. -/
structure Tu where
  k : Int
  ok : Bool
  len : Nat
/-- What is in behind a step. -/
def nq (n : Nat) (q : List Int) (x : Int) : List Int := if 0 ≤ x then (if q.length < n then q ++ [x] else q) else q.tail
/-- What a step answers. -/
def tu (n : Nat) (q : List Int) (x : Int) : Tu := ⟨if 0 ≤ x then 0 else q.headD 0, if 0 ≤ x then decide (q.length < n) else decide (0 < q.length), (nq n q x).length⟩
def qs (n : Nat) (q l : List Int) : List Int := l.foldl (nq n) q
def tus (n : Nat) : List Int → List Int → List Tu
  | _, [] => []
  | q, x :: l => tu n q x :: tus n (nq n q x) l
theorem qs_app (n : Nat) (q l : List Int) (x : Int) : qs n q (l ++ [x]) = nq n (qs n q l) x := by simp [qs]
theorem tus_app (n : Nat) (q l : List Int) (x : Int) : tus n q (l ++ [x]) = tus n q l ++ [tu n (qs n q l) x] := by
  induction l generalizing q with
  | nil => rfl
  | cons y l ih => simp only [List.cons_append, tus]; rw [ih]; rfl
theorem tus_len (n : Nat) (q l : List Int) : (tus n q l).length = l.length := by
  induction l generalizing q with
  | nil => rfl
  | cons y l ih => simp [tus, ih]
theorem take_one {α : Type} {l : List α} {k : Nat} {x : α} (h : l[k]? = some x) : l.take (k + 1) = l.take k ++ [x] := by
  rw [List.take_add_one, h]; rfl
theorem nq_le {n : Nat} {q : List Int} (h : q.length ≤ n) (x : Int) : (nq n q x).length ≤ n := by
  unfold nq
  split
  · split
    · simp; omega
    · exact h
  · simp; omega
theorem qs_le {n : Nat} {q : List Int} (h : q.length ≤ n) (l : List Int) : (qs n q l).length ≤ n := by
  induction l generalizing q with
  | nil => exact h
  | cons y l ih => exact ih (nq_le h y)
theorem tus_get {n k : Nat} {q l : List Int} {x : Int} (h : l[k]? = some x) : (tus n q l)[k]? = some (tu n (qs n q (l.take k)) x) := by
  induction l generalizing q k with
  | nil => simp at h
  | cons y l ih =>
    match k with
    | 0 => simp at h; subst h; rfl
    | k + 1 => exact ih (q := nq n q y) (k := k) (by simpa using h)
/-- A row's cells. -/
def tcs : List Tu → List Value
  | [] => []
  | t :: R => .int .i64 t.k :: .bool t.ok :: .int .i64 t.len :: tcs R
theorem tcs_app (R : List Tu) (t : Tu) : tcs (R ++ [t]) = tcs R ++ [.int .i64 t.k, .bool t.ok, .int .i64 t.len] := by
  induction R with
  | nil => rfl
  | cons s R ih => simp only [List.cons_append, tcs, ih]
theorem tcs_len (R : List Tu) : (tcs R).length = R.length * 3 := by
  induction R with
  | nil => rfl
  | cons s R ih => simp only [tcs, List.length_cons, ih]; omega
theorem tcs_get {R : List Tu} {j : Nat} {t : Tu} (h : R[j]? = some t) : (tcs R)[j * 3]? = some (.int .i64 t.k) ∧ (tcs R)[j * 3 + 1]? = some (.bool t.ok) ∧ (tcs R)[j * 3 + 2]? = some (.int .i64 t.len) := by
  induction R generalizing j with
  | nil => simp at h
  | cons s R ih =>
    match j with
    | 0 => simp at h; subst h; exact ⟨rfl, rfl, rfl⟩
    | j + 1 =>
      have := ih (j := j) (by simpa using h)
      rw [show (j + 1) * 3 = j * 3 + 3 by omega]
      exact this
/-- A row of turns of one's own, not below block base. -/
def OT (w : World) (base : Nat) (v : Value) (R : List Tu) : Prop := w.ownsRow base 31 3 v R.length (tcs R)
theorem infoTu : (Try.prog.info? 31).map (fun i => (i.zero, i.size, i.bytes)) = some (some (.agg #[.int .i64 0, .bool false, .int .i64 0]), 3, 24) := by kernel_rfl
/-- append(s, x) where s is one's own row of turns. -/
theorem wpList_append_tu {w : World} {ops : Array Oper} {rest : List Oper} {o : Oper} {a : Act} {Q : Exit → Act → World → Prop} (hgd : o.guard = none) (s y : Operand)
    (ho : o.op = .call { callee := .builtin .append, args := #[s, y], argTypes := #[23, 23] })
    (base : Nat) (v : Value) (R : List Tu) (hs : a.eval s = v) (hown : OT w base v R)
    (g : Nat) (t : Tu) (hx : a.eval y = .slice (some ⟨g, 0, none⟩) 1 1) (h0 : w.cell? ⟨g, 0, none⟩ = some (.int .i64 t.k)) (h1 : w.cell? ⟨g, 1, none⟩ = some (.bool t.ok)) (h2 : w.cell? ⟨g, 2, none⟩ = some (.int .i64 t.len))
    (h63 : R.length ≤ 1048577) (hbase : base ≤ w.heap.size)
    (h : ∀ v' w', OT w' base v' (R ++ [t]) → Gw w w' v v' → wpList Try.prog ops Q rest (a.put o.dst v') w') :
    wpList Try.prog ops Q (o :: rest) a w := by
  obtain ⟨i, hi, hz, hz1, hz2⟩ := info_parts infoTu
  refine wpList_append_own_at w hgd s y 23 ho base 31 i _ 3 24 Try.underlying23 hi hz hz1 hz2 rfl (by omega) v R.length (tcs R) hs hown ⟨g, 0, none⟩ 1 1 [.int .i64 t.k, .bool t.ok, .int .i64 t.len] hx rfl ?_ ?_ (by unfold maxLen; omega) (by omega) hbase (fun v' w' k1 k2 _ k4 => h v' w' ?_ ⟨k2, k4.imp id (fun e => ⟨_, e, Nat.le_refl _⟩)⟩)
  · intro j u hj
    match j, hj with
    | 0, hj => simp at hj; subst hj; simpa [Addr.add] using h0
    | 1, hj => simp at hj; subst hj; simpa [Addr.add] using h1
    | 2, hj => simp at hj; subst hj; simpa [Addr.add] using h2
  · intro u hu
    simp at hu
    rcases hu with rfl | rfl | rfl <;> rfl
  · show w'.ownsRow _ _ _ _ _ _
    rw [tcs_app, show (R ++ [t]).length = R.length + 1 by simp]
    exact k1
end Go.Proofs.Ytggbbekgmjkplaa.Rg
