/- The law StepsWindows: its walk. -/
import Derived.Test.YtaohahahhjkcdahX12
import Derived.Test.YtaohahahhjkcdahXMath4
import Derived.Test.YtaohahahhjkcdahXOpen
import Derived.Lib.QuietBelow
import Derived.Laws.OwnMore
namespace Go.Proofs.Ytaohahahhjkcdah.X
open Go.RowKit Go.Maps Go.Sort
set_option linter.unusedVariables false
set_option linter.unusedSimpArgs false

theorem run_append_none (w : World) (base : Nat) (t ty e : TypeId) (i : TypeInfo) (size c : Nat) (ht : Try.prog.underlying t = some (.slice e)) (hi : Try.prog.info? e = some i)
    (v : Value) (n : Nat) (xs : List Value) (hown : w.ownsRow base e size v n xs) :
    (Builtin.append_ #[t, t] ty #[v, .slice none 0 c]).run Try.prog w = .ok v w := by
  rcases hown.2 with ⟨rfl, rfl⟩ | ⟨g, cap, cur, rfl, _, _, hnc, _⟩
  · simp [Builtin.append_, run_underlying ht, sizeOf, typeInfo, hi, Builtin.lenOf, Builtin.firstCells]
  · simp [Builtin.append_, run_underlying ht, sizeOf, typeInfo, hi, Builtin.lenOf, Builtin.firstCells, hnc, storeCells]
/-- append(s, xs...) where s is one's own row of events and xs lies as events. -/
theorem wpList_append_evs {w : World} {ops : Array Oper} {rest : List Oper} {o : Oper} {a : Act} {Q : Exit → Act → World → Prop} (hgd : o.guard = none) (s y : Operand)
    (ho : o.op = .call { callee := .builtin .append, args := #[s, y], argTypes := #[32, 32] })
    (base : Nat) (v : Value) (l : List Z.M.Ev) (hs : a.eval s = v) (hown : Z.OE w base v l)
    (x : Value) (L : List Z.M.Ev) (hx : a.eval y = x) (hev : EVs w (· < w.heap.size) x L)
    (h63 : l.length + L.length ≤ 1000000) (hbase : base ≤ w.heap.size)
    (h : ∀ v' w', Z.OE w' base v' (l ++ L) → Z.Gw w w' v v' → wpList Try.prog ops Q rest (a.put o.dst v') w') :
    wpList Try.prog ops Q (o :: rest) a w := by
  obtain ⟨i, hi, hz, hz1, hz2⟩ := info_parts Z.infoE
  obtain ⟨ao, c, rfl, h1, h2, h3⟩ := hev
  have h5 := Z.ec_len L
  cases ao with
  | none =>
    have hL : L = [] := by
      by_cases c0 : 0 < L.length
      · obtain ⟨b, off, q, _⟩ := h3.at' c0; cases q
      · exact List.length_eq_zero_iff.1 (by omega)
    subst hL
    have hrun := run_append_none w base 32 o.type 61 i 5 c Try.underlying32 hi v l.length (l.flatMap Z.ec) hown
    have hx' : a.eval y = .slice none 0 c := hx
    refine wpList_plain hgd fun K hK => ?_
    unfold Oper.wp
    simp [execOp, ho, resolve, invoke, builtin, hs, hx', hrun, Result.andThen]
    exact hK _ _ (h v w (by rw [List.append_nil]; exact hown) ⟨⟨rfl, rfl, rfl, Nat.le_refl _, fun _ _ _ => rfl⟩, Or.inl rfl⟩)
  | some ad =>
    refine wpList_append_own_at w hgd s y 32 ho base 61 i (Z.ea Z.M.z0) 5 40 Try.underlying32 hi hz hz1 hz2 rfl (by omega) v l.length (l.flatMap Z.ec) hs hown ad L.length c (L.flatMap Z.ec) hx h5 ?_ ?_ (by unfold maxLen; omega) (by omega) hbase (fun v' w' k1 k2 _ k4 => h v' w' ?_ ⟨k2, k4.imp id (fun e => ⟨_, e, Nat.le_refl _⟩)⟩)
    · intro j u hj
      have hjl : j < L.length * 5 := by rw [← h5]; exact (List.getElem?_eq_some_iff.1 hj).1
      obtain ⟨b, off, q, _, g⟩ := h3.at' (by omega)
      cases q
      have hq : j = j / 5 * 5 + j % 5 := by omega
      obtain ⟨e, he⟩ : ∃ e, L[j / 5]? = some e := ⟨_, List.getElem?_eq_getElem (by omega)⟩
      have g5 := g (j / 5) e he
      have hadd : (⟨b, off, none⟩ : Addr).add j = ⟨b, off + j, none⟩ := by
        unfold Addr.add
        by_cases hj0 : j = 0 <;> simp [hj0]
      rw [hadd]
      rw [hq, Z.ec_get he (j % 5) (by omega)] at hj
      have hm : j % 5 = 0 ∨ j % 5 = 1 ∨ j % 5 = 2 ∨ j % 5 = 3 ∨ j % 5 = 4 := by omega
      rcases hm with e5 | e5 | e5 | e5 | e5
      all_goals rw [e5] at hj
      · rw [show off + j = off + j / 5 * 5 by omega]; exact g5.c0.trans hj
      · rw [show off + j = off + j / 5 * 5 + 1 by omega]; exact g5.c1.trans hj
      · rw [show off + j = off + j / 5 * 5 + 2 by omega]; exact g5.c2.trans hj
      · rw [show off + j = off + j / 5 * 5 + 3 by omega]; exact g5.c3.trans hj
      · rw [show off + j = off + j / 5 * 5 + 4 by omega]; exact g5.c4.trans hj
    · intro u hu
      obtain ⟨e, _, hv⟩ := List.mem_flatMap.1 hu
      simp [Z.ec] at hv
      rcases hv with rfl | rfl | rfl | rfl | rfl <;> rfl
    · unfold Z.OE
      rw [List.length_append, List.flatMap_append]; exact k1
theorem infoT : (Try.prog.info? 31).map (fun i => (i.zero, i.size, i.bytes)) = some (some (.agg #[.int .i64 0, .int .i64 0]), 2, 16) := by kernel_rfl
theorem wpList_append_turn {w : World} {ops : Array Oper} {rest : List Oper} {o : Oper} {a : Act} {Q : Exit → Act → World → Prop} (hgd : o.guard = none) (s y : Operand)
    (ho : o.op = .call { callee := .builtin .append, args := #[s, y], argTypes := #[23, 23] })
    (base : Nat) (v : Value) (n : Nat) (xs : List Value) (hs : a.eval s = v) (hown : w.ownsRow base 31 2 v n xs)
    (g : Nat) (c0 c1 : Value) (hx : a.eval y = .slice (some ⟨g, 0, none⟩) 1 1) (h0 : w.cell? ⟨g, 0, none⟩ = some c0) (h1 : w.cell? ⟨g, 1, none⟩ = some c1)
    (hone : c0.oneCell' = true ∧ c1.oneCell' = true) (h63 : n ≤ 1000) (hbase : base ≤ w.heap.size)
    (h : ∀ v' w', w'.ownsRow base 31 2 v' (n + 1) (xs ++ [c0, c1]) → Z.Gw w w' v v' → wpList Try.prog ops Q rest (a.put o.dst v') w') :
    wpList Try.prog ops Q (o :: rest) a w := by
  obtain ⟨i, hi, hz, hz1, hz2⟩ := info_parts infoT
  refine wpList_append_own_at w hgd s y 23 ho base 31 i _ 2 16 Try.underlying23 hi hz hz1 hz2 rfl (by omega) v n xs hs hown ⟨g, 0, none⟩ 1 1 [c0, c1] hx rfl ?_ ?_ (by unfold maxLen; omega) (by omega) hbase (fun v' w' k1 k2 _ k4 => h v' w' k1 ⟨k2, k4.imp id (fun e => ⟨_, e, Nat.le_refl _⟩)⟩)
  · intro j u hj
    match j, hj with
    | 0, hj => simp at hj; subst hj; simpa [Addr.add] using h0
    | 1, hj => simp at hj; subst hj; simpa [Addr.add] using h1
    | j + 2, hj => simp at hj
  · intro u hu
    simp at hu
    rcases hu with rfl | rfl
    · exact hone.1
    · exact hone.2
/-- The cells of turns that cut time. -/
def ctc (l : List Int) (j : Nat) : List Value := [.int .i64 (-1), .int .i64 (l[j]?.getD 0)]
theorem row_tl {w : World} {base : Nat} {v : Value} {l : List Int} (h : w.ownsRow base 31 2 v l.length (rows (ctc l) l.length)) (hb : ∀ c ∈ l, c ≤ 1099511627776) :
    ∃ ao c, v = .slice ao (M.cut l).length c ∧ (M.cut l).length ≤ c ∧ c ≤ 9223372036854775807 ∧ TL w (· < w.heap.size) ao (M.cut l) := by
  have hl : (M.cut l).length = l.length := by unfold M.cut; simp
  rw [hl]
  rcases h.2 with ⟨e1, e2⟩ | ⟨g, cap, cur, e1, e2, e3, e4, hm, rest⟩
  · rw [e2, e1]
    exact ⟨none, 0, rfl, by omega, by omega, ⟨fun h => by omega⟩⟩
  · refine ⟨some ⟨g, 0, none⟩, cap, e1, e4, by unfold maxLen at hm; omega, ⟨fun hn => ⟨g, 0, rfl, (Array.getElem?_eq_some_iff.1 e3).1, fun j p hj => ?_⟩⟩⟩
    subst e1
    have hjl : j < l.length := by have := (List.getElem?_eq_some_iff.1 hj).1; omega
    have hx : l[j]? = some l[j] := List.getElem?_eq_getElem hjl
    have hp : p = (-1, l[j]) := by
      unfold M.cut at hj
      rw [List.getElem?_map, hx] at hj
      simpa using hj.symm
    subst hp
    have hc := fun i (hi : i < 2) => (World.ownsRow.cellAt h (j * 2 + i) (by omega)).trans (rows_get (F := ctc l) (s := 2) (fun _ => rfl) l.length j i hjl hi)
    have c0 := hc 0 (by omega)
    have c1 := hc 1 (by omega)
    unfold ctc at c0 c1
    rw [hx] at c1
    rw [Nat.zero_add]
    exact ⟨c0, c1, by have := hb l[j] (List.getElem_mem hjl); simp only; omega⟩
theorem M.sm_append (x y : List Int) : M.sm (x ++ y) = M.sm x + M.sm y := by
  induction x with
  | nil => show M.sm y = 0 + M.sm y; omega
  | cons a r ih => show a + M.sm (r ++ y) = a + M.sm r + M.sm y; rw [ih]; omega
theorem M.sm_take {l : List Int} {k : Nat} {x : Int} (h : l[k]? = some x) : M.sm (l.take (k + 1)) = M.sm (l.take k) + x := by
  rw [M.take_one h, M.sm_append]; show _ + (x + 0) = _; omega
theorem M.sm_le {l : List Int} (h : ∀ c ∈ l, 0 ≤ c ∧ c ≤ 1099511627776) : 0 ≤ M.sm l ∧ M.sm l ≤ 1099511627776 * (l.length : Int) := by
  induction l with
  | nil => exact ⟨Int.le_refl _, by simp [M.sm]⟩
  | cons a r ih =>
    have h1 := ih (fun c hc => h c (by simp [hc]))
    have h2 := h a (by simp)
    show 0 ≤ a + M.sm r ∧ a + M.sm r ≤ _
    rw [List.length_cons]
    push_cast
    omega
end Go.Proofs.Ytaohahahhjkcdah.X
