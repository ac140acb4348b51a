/- Events in a row of one's own, and what is kept while the program unpacks. -/
import Derived.Test.YthfjbjcdhgajfagZ10
namespace Go.Proofs.Ythfjbjcdhgajfag.Z
open Go.RowKit Go.Maps
set_option linter.unusedVariables false
set_option linter.unusedSimpArgs false

/-- An event's cells, as a list. -/
def ec (e : M.Ev) : List Value := [.int .i64 e.t, .int .i64 e.k, .int .i64 e.c, .int .i64 e.a, .int .i64 e.b]
theorem ec_len (l : List M.Ev) : (l.flatMap ec).length = l.length * 5 := by
  induction l with
  | nil => rfl
  | cons e t ih => rw [List.flatMap_cons, List.length_append, ih, List.length_cons]; show 5 + _ = _; omega
theorem ec_get {l : List M.Ev} {j : Nat} {e : M.Ev} (h : l[j]? = some e) (i : Nat) (hi : i < 5) : (l.flatMap ec)[j * 5 + i]? = (ec e)[i]? := by
  induction l generalizing j with
  | nil => simp at h
  | cons x t ih =>
    rw [List.flatMap_cons]
    cases j with
    | zero =>
      simp at h
      subst h
      rw [List.getElem?_append_left (by show _ < 5; omega)]
      congr 1; omega
    | succ j =>
      rw [List.getElem?_append_right (by show 5 ≤ _; omega)]
      rw [← ih (by simpa using h)]
      congr 1
      show (j + 1) * 5 + i - 5 = _
      omega
/-- v is a row of one's own that holds these events. -/
def OE (w : World) (base : Nat) (v : Value) (l : List M.Ev) : Prop := w.ownsRow base 62 5 v l.length (l.flatMap ec)
theorem OE.keep {w w' : World} {base : Nat} {v : Value} {l : List M.Ev} (h : OE w base v l) (hb : ∀ k, v.ownBlock = some k → w'.heap[k]? = w.heap[k]?) : OE w' base v l := own_step h hb
theorem OE.bel {w w' : World} {base : Nat} {v : Value} {l : List M.Ev} (h : OE w base v l) (hb : Below w.heap.size w w') : OE w' base v l :=
  h.keep (fun k hk => hb.block k (own_lt h k hk))
theorem OE.nil (w : World) (base : Nat) : OE w base (.slice none 0 0) [] := World.ownsRow_nil _ _ _ _
theorem OE.le {w : World} {base : Nat} {v : Value} {l : List M.Ev} (h : OE w base v l) : ∃ ao c, v = .slice ao l.length c ∧ l.length ≤ c ∧ c ≤ 9223372036854775807 ∧ LE w ao l := by
  unfold OE at h
  rcases h.2 with ⟨h1, h2⟩ | ⟨g, cap, cur, h1, h2, h3, h4, hm, rest⟩
  · have hl : l = [] := List.length_eq_zero_iff.1 h2
    subst hl
    exact ⟨none, 0, h1, by simp, by omega, ⟨fun h => by simp at h⟩⟩
  · refine ⟨some ⟨g, 0, none⟩, cap, h1, h4, by unfold maxLen at hm; omega, ⟨fun hn => ⟨g, 0, rfl, (Array.getElem?_eq_some_iff.1 h3).1, fun j e hj => ?_⟩⟩⟩
    subst h1
    have hjl : j < l.length := (List.getElem?_eq_some_iff.1 hj).1
    have hc := fun i (hi : i < 5) => (World.ownsRow.cellAt h (j * 5 + i) (by omega)).trans (ec_get hj i hi)
    rw [Nat.zero_add]
    exact ⟨hc 0 (by omega), hc 1 (by omega), hc 2 (by omega), hc 3 (by omega), hc 4 (by omega)⟩
theorem infoE : (Try.prog.info? 62).map (fun i => (i.zero, i.size, i.bytes)) = some (some (ea M.z0), 5, 40) := by kernel_rfl
/-- append(s, e) where s is one's own row of events. -/
theorem wpList_append_ev {w : World} {ops : Array Oper} {rest : List Oper} {o : Oper} {a : Act} {Q : Exit → Act → World → Prop} (hgd : o.guard = none) (s y : Operand)
    (ho : o.op = .call { callee := .builtin .append, args := #[s, y], argTypes := #[37, 37] })
    (base : Nat) (v : Value) (l : List M.Ev) (hs : a.eval s = v) (hown : OE w base v l)
    (g : Nat) (x : M.Ev) (hx : a.eval y = .slice (some ⟨g, 0, none⟩) 1 1) (hc : E5 w g 0 x)
    (h63 : l.length ≤ 1000000) (hbase : base ≤ w.heap.size)
    (h : ∀ v' w', OE w' base v' (l ++ [x]) → Gw w w' v v' → wpList Try.prog ops Q rest (a.put o.dst v') w') :
    wpList Try.prog ops Q (o :: rest) a w := by
  obtain ⟨i, hi, hz, hz1, hz2⟩ := info_parts infoE
  refine wpList_append_own_at w hgd s y 37 ho base 62 i (ea M.z0) 5 40 Try.underlying37 hi hz hz1 hz2 rfl (by omega) v l.length (l.flatMap ec) hs hown ⟨g, 0, none⟩ 1 1 (ec x) hx rfl ?_ ?_ (by unfold maxLen; omega) (by omega) hbase (fun v' w' k1 k2 _ k4 => h v' w' ?_ ?_)
  · obtain ⟨c0, c1, c2, c3, c4⟩ := hc
    rw [Nat.zero_add] at c1 c2 c3 c4
    intro j u hj
    match j, hj with
    | 0, hj => simp [ec] at hj; subst hj; simpa [Addr.add] using c0
    | 1, hj => simp [ec] at hj; subst hj; simpa [Addr.add] using c1
    | 2, hj => simp [ec] at hj; subst hj; simpa [Addr.add] using c2
    | 3, hj => simp [ec] at hj; subst hj; simpa [Addr.add] using c3
    | 4, hj => simp [ec] at hj; subst hj; simpa [Addr.add] using c4
    | j + 5, hj => simp [ec] at hj
  · intro u hu; simp [ec] at hu; rcases hu with rfl | rfl | rfl | rfl | rfl <;> rfl
  · unfold OE; simpa using k1
  · exact ⟨k2, k4.imp id (fun e => ⟨_, e, Nat.le_refl _⟩)⟩
/-- The answer's fault, still none. -/
def FB (w : World) (F : Nat) : Prop := w.heap[F]? = some (.cells #[.int .i64 0, .int .i64 0] 42)
theorem FB.c {w : World} {F : Nat} (h : FB w F) : w.cell? ⟨F, 0, none⟩ = some (.int .i64 0) ∧ w.cell? ⟨F, 1, none⟩ = some (.int .i64 0) ∧ w.frozen? ⟨F, 0, none⟩ = false ∧ w.frozen? ⟨F, 1, none⟩ = false ∧ F < w.heap.size := by
  have c := fun j => cell_of_row w F j _ _ (0, 0) h
  have f := fun j => frozen_of_row w F j _ _ h
  exact ⟨by rw [c]; rfl, by rw [c]; rfl, f 0, f 1, (Array.getElem?_eq_some_iff.1 h).1⟩
theorem Rt.gw {w w' : World} {v v' : Value} {p k : Nat} {s : ByteArray} (h : Rt w p s k) (hg : Gw w w' v v') (hne : some p ≠ v.ownBlock) : Rt w' p s k :=
  ⟨Nat.lt_of_lt_of_le h.lt hg.gr.size, hg.cell h.lt hne h.c0, hg.cell h.lt hne h.c1, hg.froz h.lt hne h.f1⟩
/-- What an unpacking holds: the fault in w0's first new block, the reader in the next one, the event ahead behind it. -/
structure Up (z : Nat) (wr : World) (s : ByteArray) (k : Nat) (AH : M.Ev) : Prop where
  fb : FB wr z
  rt : Rt wr (z + 1) s k
  v5 : V5 wr (z + 1 + 1) AH
theorem Up.keep {z : Nat} {w w' : World} {s : ByteArray} {k : Nat} {AH : M.Ev} (h : Up z w s k AH) (hb : Below w.heap.size w w') : Up z w' s k AH :=
  ⟨(hb.block z h.fb.c.2.2.2.2).trans h.fb, h.rt.step hb, h.v5.keep h.v5.lt hb⟩
theorem Up.gw {z : Nat} {w w' : World} {s : ByteArray} {k : Nat} {AH : M.Ev} {v v' : Value} (h : Up z w s k AH) (hg : Gw w w' v v') (hne : ∀ b, v.ownBlock = some b → z + 1 + 1 < b) : Up z w' s k AH :=
  ⟨(hg.gr.block z h.fb.c.2.2.2.2 (fun q => by have := hne _ q.symm; omega)).trans h.fb, h.rt.gw hg (fun q => by have := hne _ q.symm; omega), h.v5.gw hg (fun q => by have := hne _ q.symm; omega)⟩
theorem Up.put {z : Nat} {w : World} {s : ByteArray} {k : Nat} {AH : M.Ev} (h : Up z w s k AH) (y : M.Ev) :
    Up z (((((w.setCell ⟨z + 1 + 1, 0, none⟩ (.int .i64 y.t)).setCell ⟨z + 1 + 1, 1, none⟩ (.int .i64 y.k)).setCell ⟨z + 1 + 1, 2, none⟩ (.int .i64 y.c)).setCell ⟨z + 1 + 1, 3, none⟩ (.int .i64 y.a)).setCell ⟨z + 1 + 1, 4, none⟩ (.int .i64 y.b)) s k y := by
  have K : ∀ (w : World) o v, FB w z → FB (w.setCell ⟨z + 1 + 1, o, none⟩ v) z := fun w o v h => (heap_setCell_other _ _ _ _ (by show z ≠ z + 1 + 1; omega)).trans h
  exact ⟨K _ _ _ (K _ _ _ (K _ _ _ (K _ _ _ (K _ _ _ h.fb)))), ((((h.rt.other (by omega) _).other (by omega) _).other (by omega) _).other (by omega) _).other (by omega) _, h.v5.put y⟩
theorem M.pre_ok {es : List M.Ev} : M.pre es ([], 0, []) = (es, 0, []) := by simp [M.pre]
theorem M.pre_bad {es : List M.Ev} {E : Int} {r : List Nat} (h : E ≠ 0) : M.pre es ([], E, r) = ([], E, r) := by simp [M.pre, h]
end Go.Proofs.Ythfjbjcdhgajfag.Z
