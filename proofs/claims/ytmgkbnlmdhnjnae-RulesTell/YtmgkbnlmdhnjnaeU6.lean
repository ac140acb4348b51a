/- Maps keyed by states: what a key reads as, and a map as a plain function. -/
import Derived.Test.YtmgkbnlmdhnjnaeU5
import Derived.Maps.RangeWalk
import Derived.Maps.Ext
import Derived.DeepKeys5
namespace Go.Proofs.Ytmgkbnlmdhnjnae.U
open Go.RowKit Go.Maps
set_option linter.unusedVariables false
set_option linter.unusedSimpArgs false

theorem laidOut : laidOutB Try.prog = true := by kernel_rfl
theorem stRow : (55 : TypeId) < Try.prog.types.size := of_decide_eq_true (by kernel_rfl)
theorem stCells : Try.prog.cellsOf 55 = 2 := by kernel_rfl
theorem stCells3 : Try.prog.cellsOf 3 = 1 := by kernel_rfl
theorem stCells4 : Try.prog.cellsOf 4 = 1 := by kernel_rfl
theorem stKey : Try.prog.keyType 55 = true := by kernel_rfl
theorem stWide : (match Try.prog.underlying 55 with | some (.array _ _) | some (.struct _) => true | _ => false) = true := by rw [Try.underlying55]
theorem stLaw : Keyed Try.prog 55 := Keyed.of_law (deep_law_gate laidOut (of_decide_eq_true (by kernel_rfl)) stRow stKey stWide)
/-- What a state reads as, as a key. -/
def kl (k : Int) (a : Bool) : Lit := .string (keyBytes [.int .i64 k, .bool a])

theorem lits3 (d : Nat) (k : Int) (h : (Lit.int .i64 k).wf = true) : Try.prog.keyLits (d + 1) 3 [.int .i64 k] = some [.int .i64 k] := by
  unfold Program.keyLits; rw [Try.underlying3]; simp [h]
theorem lits4 (d : Nat) (a : Bool) : Try.prog.keyLits (d + 1) 4 [.bool a] = some [.bool a] := by
  unfold Program.keyLits; rw [Try.underlying4]
theorem lits3_inv (d : Nat) (v : Value) (ls : List Lit) (h : Try.prog.keyLits (d + 1) 3 [v] = some ls) : ∃ k, v = .int .i64 k ∧ ls = [.int .i64 k] ∧ (Lit.int .i64 k).wf = true := by
  unfold Program.keyLits at h; rw [Try.underlying3] at h
  cases v <;> simp at h
  obtain ⟨⟨rfl, h2⟩, rfl⟩ := h
  exact ⟨_, rfl, rfl, h2⟩
theorem lits4_inv (d : Nat) (v : Value) (ls : List Lit) (h : Try.prog.keyLits (d + 1) 4 [v] = some ls) : ∃ a, v = .bool a ∧ ls = [.bool a] := by
  unfold Program.keyLits at h; rw [Try.underlying4] at h
  cases v <;> simp at h
  exact ⟨_, rfl, h.symm⟩

theorem lits_st (d : Nat) (k : Int) (a : Bool) (h : (Lit.int .i64 k).wf = true) : Try.prog.keyLits (d + 1 + 1) 55 [.int .i64 k, .bool a] = some [.int .i64 k, .bool a] := by
  unfold Program.keyLits; rw [Try.underlying55]
  simp [stCells, stCells3, stCells4, lits3 _ k h, lits4]
theorem lits_st_inv (d : Nat) (c0 c1 : Value) (ls : List Lit) (h : Try.prog.keyLits (d + 1 + 1) 55 [c0, c1] = some ls) : ∃ k a, c0 = .int .i64 k ∧ c1 = .bool a ∧ ls = [.int .i64 k, .bool a] ∧ (Lit.int .i64 k).wf = true := by
  unfold Program.keyLits at h; rw [Try.underlying55] at h
  simp only [stCells, List.length_cons, List.length_nil, Nat.zero_add, Nat.reduceAdd, true_and] at h
  rw [if_pos (by simp)] at h
  simp only [List.mapM_cons, List.mapM_nil, stCells3, stCells4, List.drop_zero, List.drop_succ_cons, List.take_succ_cons, List.take_zero, Option.bind_eq_bind, Option.map_eq_some_iff, Option.bind_eq_some_iff, Option.pure_def, Option.some.injEq] at h
  obtain ⟨x, ⟨l0, h0, y, ⟨l1, h1, z, rfl, rfl⟩, rfl⟩, rfl⟩ := h
  obtain ⟨k, rfl, rfl, hw⟩ := lits3_inv _ _ _ h0
  obtain ⟨a, rfl, rfl⟩ := lits4_inv _ _ _ h1
  exact ⟨k, a, rfl, rfl, rfl, hw⟩
theorem keyOf_st (k : Int) (a : Bool) (h : (Lit.int .i64 k).wf = true) : keyOf Try.prog 55 (.agg #[.int .i64 k, .bool a]) = some (kl k a) := by
  have h1 : ∀ d, 2 ≤ d → Try.prog.keyLits d 55 [.int .i64 k, .bool a] = some [.int .i64 k, .bool a] := fun d hd => by
    obtain ⟨e, rfl⟩ : ∃ e, d = e + 1 + 1 := ⟨d - 2, by omega⟩
    exact lits_st e k a h
  unfold keyOf
  rw [Try.underlying55]
  simp [stKey, Value.formed, Try.underlying55, stCells, Value.cells, h1, kl]
theorem keyOf_st_inv {v : Value} {l : Lit} (h : keyOf Try.prog 55 v = some l) : ∃ k a, v = .agg #[.int .i64 k, .bool a] ∧ l = kl k a ∧ (Lit.int .i64 k).wf = true := by
  have h2 : ∀ d, 2 ≤ d → ∀ c0 c1 ls, Try.prog.keyLits d 55 [c0, c1] = some ls → ∃ k a, c0 = .int .i64 k ∧ c1 = .bool a ∧ ls = [.int .i64 k, .bool a] ∧ (Lit.int .i64 k).wf = true := fun d hd => by
    obtain ⟨e, rfl⟩ : ∃ e, d = e + 1 + 1 := ⟨d - 2, by omega⟩
    exact lits_st_inv e
  unfold keyOf at h
  rw [Try.underlying55] at h
  cases v <;> simp [stKey, Value.formed, Try.underlying55, stCells, Value.cells] at h
  rename_i cs
  obtain ⟨hs, ls, h1, rfl⟩ := h
  obtain ⟨c0, c1, rfl⟩ : ∃ c0 c1, cs = #[c0, c1] := by
    obtain ⟨l⟩ := cs
    match l, hs with
    | [a, b], _ => exact ⟨a, b, rfl⟩
  obtain ⟨k, a, rfl, rfl, rfl, hw⟩ := h2 _ (by omega) c0 c1 ls h1
  exact ⟨k, a, rfl, rfl, hw⟩
theorem kl_inj {k k' : Int} {a a' : Bool} (h : (Lit.int .i64 k).wf = true) (h' : (Lit.int .i64 k').wf = true) (e : kl k a = kl k' a') : k = k' ∧ a = a' := by
  have := stLaw.inj (keyOf_st k a h) (e ▸ keyOf_st k' a' h')
  simp at this
  exact this
theorem wfk {k : Int} (h1 : -9223372036854775808 ≤ k) (h2 : k ≤ 9223372036854775807) : (Lit.int .i64 k).wf = true := WalkArith.wf_i64 (by omega)
/-- Block b is a map from states to numbers: V k a is the number at (k, a), if there is one. -/
def MapAt (w : World) (b m : Nat) (V : Int → Bool → Option Int) : Prop :=
  ∃ D : DataW Unit, w.ownsMap Try.prog 55 (plainElem Try.prog 3) b m D ∧
    ∀ k a, (Lit.int .i64 k).wf = true → Maps.has D (kl k a) = (V k a).isSome ∧ ∀ c zd, V k a = some c → D.atKey (kl k a) zd = .lit (.int .i64 c)

theorem MapAt.lt {w : World} {b m : Nat} {V : Int → Bool → Option Int} (h : MapAt w b m V) : b < w.heap.size := by
  obtain ⟨D, h1, _⟩ := h; exact h1.lt
theorem MapAt.kept {w w' : World} {b m : Nat} {V : Int → Bool → Option Int} {row : Option Nat} (h : MapAt w b m V) (hg : w.grownBy w' row) (hne : some b ≠ row) : MapAt w' b m V := by
  obtain ⟨D, h1, h2⟩ := h; exact ⟨D, h1.kept hg hne, h2⟩
theorem MapAt.step {w w' : World} {b m : Nat} {V : Int → Bool → Option Int} (h : MapAt w b m V) (hb : Below w.heap.size w w') : MapAt w' b m V := by
  obtain ⟨D, ⟨es, clock, h0, F, hs, hD⟩, h2⟩ := h
  have hlt : b < w.heap.size := (Array.getElem?_eq_some_iff.1 h0).1
  exact ⟨D, ⟨es, clock, (hb.block b hlt).trans h0, F, hs, hD⟩, h2⟩
theorem MapAt.mono {w : World} {b m m' : Nat} {V : Int → Bool → Option Int} (h : MapAt w b m V) (hm : m ≤ m') : MapAt w b m' V := by
  obtain ⟨D, h1, h2⟩ := h; exact ⟨D, h1.mono hm, h2⟩
theorem MapAt.made (w : World) : MapAt (w.alloc (.map #[] 0)) w.heap.size 0 (fun _ _ => none) :=
  ⟨_, World.ownsMap_made _ _ _ _, fun k a hw => ⟨rfl, fun c zd h => by cases h⟩⟩
def upd (V : Int → Bool → Option Int) (k : Int) (a : Bool) (c : Int) : Int → Bool → Option Int := fun k' a' => if k' = k ∧ a' = a then some c else V k' a'
theorem MapAt.put {D : DataW Unit} {V : Int → Bool → Option Int} (hm : IsMap D) (h : ∀ k a, (Lit.int .i64 k).wf = true → Maps.has D (kl k a) = (V k a).isSome ∧ ∀ c zd, V k a = some c → D.atKey (kl k a) zd = .lit (.int .i64 c))
    {k : Int} {a : Bool} {c : Int} (hw : (Lit.int .i64 k).wf = true) :
    ∀ k' a', (Lit.int .i64 k').wf = true → Maps.has (D.put (kl k a) (.lit (.int .i64 c))) (kl k' a') = (upd V k a c k' a').isSome ∧ ∀ c' zd, upd V k a c k' a' = some c' → (D.put (kl k a) (.lit (.int .i64 c))).atKey (kl k' a') zd = .lit (.int .i64 c') := by
  intro k' a' hw'
  have hkey : WideAt.IsKeyLit (kl k a) := stLaw.key (keyOf_st k a hw)
  by_cases e : k' = k ∧ a' = a
  · obtain ⟨rfl, rfl⟩ := e
    have hu : upd V k' a' c k' a' = some c := by unfold upd; rw [if_pos ⟨rfl, rfl⟩]
    rw [hu]
    refine ⟨by rw [has_put_same hm hkey]; rfl, fun c' zd h => ?_⟩
    cases h
    exact atKey_put_same hm hkey _ _
  · have hne : kl k' a' ≠ kl k a := fun h => e (kl_inj hw' hw h)
    have hu : upd V k a c k' a' = V k' a' := by unfold upd; rw [if_neg e]
    rw [hu, has_put_other hne]
    refine ⟨(h k' a' hw').1, fun c' zd hc => ?_⟩
    rw [atKey_put_other hne]
    exact (h k' a' hw').2 c' zd hc

/-- A state. -/
structure Sx where
  k : Int
  a : Bool

section
variable {H : Type} (w : World) {ops : Array Oper} {rest : List Oper} {o : Oper} {a : Act} {Q : Exit → Act → World → Prop}
/-- The step of a range over a map from states to numbers. -/
theorem next_st (hg : o.guard = none) (it : Operand) (hop : o.op = Op.next it false)
    (b r n : Nat) (D : DataW H) (left : Lit → Bool) (cnt : Nat) (hit : a.eval it = .pointer (some ⟨r, 0, none⟩)) (h : w.ranges Try.prog 55 (plainElem Try.prog 3) b r n D left cnt)
    (hDone : cnt = 0 → (∀ kl, left kl = false) → wpList Try.prog ops Q rest (a.put o.dst (.tuple #[.bool false])) w)
    (hMore : ∀ (x : Sx) (c : Int) (w' : World) (cnt' : Nat), (Lit.int .i64 x.k).wf = true → (Lit.int .i64 c).wf = true → left (kl x.k x.a) = true → (∀ zd, D.atKey (kl x.k x.a) zd = .lit (.int .i64 c)) → w'.ranges Try.prog 55 (plainElem Try.prog 3) b r n D (fun z => left z && !z.sameKey (kl x.k x.a)) cnt' → cnt' < cnt →
      w.grownBy w' (some r) → w'.heap.size = w.heap.size → (Instr.entry (.pointer (some ⟨r, 0, none⟩))).run Try.prog w' = .ok (.tuple #[.agg #[.int .i64 x.k, .bool x.a], .int .i64 c]) w' → wpList Try.prog ops Q rest (a.put o.dst (.tuple #[.bool true, .agg #[.int .i64 x.k, .bool x.a], .int .i64 c])) w') :
    wpList Try.prog ops Q (o :: rest) a w :=
  wpList_next_ranges w hg it hop 55 stLaw (plainElem Try.prog 3) (fun x : Sx => .agg #[.int .i64 x.k, .bool x.a]) (Value.int .i64) (fun key kl hkey => by obtain ⟨k, a, rfl, _⟩ := keyOf_st_inv hkey; exact ⟨⟨k, a⟩, rfl⟩) (fun v y hv => by obtain ⟨c, rfl, _⟩ := plainElem_int_inv Try.underlying3 hv; exact ⟨c, rfl⟩)
    b r n D left cnt hit h hDone (fun x c l y w' cnt' hkey hlk hv hat hrg hlt hgr hsz hen => by
      obtain ⟨k', a', ex, rfl, hwx⟩ := keyOf_st_inv hkey
      obtain ⟨k, x⟩ := x
      simp at ex
      obtain ⟨rfl, rfl⟩ := ex
      obtain ⟨c', ec, rfl, hwc⟩ := plainElem_int_inv Try.underlying3 hv
      cases ec
      exact hMore ⟨k, x⟩ c w' cnt' hwx hwc hlk hat hrg hlt hgr hsz hen)
end
end Go.Proofs.Ytmgkbnlmdhnjnae.U
