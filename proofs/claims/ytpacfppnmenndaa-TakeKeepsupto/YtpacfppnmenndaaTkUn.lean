/- Scripts in rows of one's own; unpoked. -/
import Derived.Test.YtpacfppnmenndaaTk23
namespace Go.Proofs.Ytpacfppnmenndaa.Tk
open Go.RowKit Go.Maps Go.Sort Go.Proofs.Ytpacfppnmenndaa.Rg
open Go.Proofs.Ytpacfppnmenndaa.Y (Tn lt okT wr fst cod bfr OkL TL tab tc rows)
set_option linter.unusedVariables false
set_option linter.unusedSimpArgs false

/-- The cells of a step. -/
def sc (x : Sp) (i : Nat) : Value := [Value.bool x.op, .int .i64 x.e.k, .int .i64 x.e.n, .int .i64 x.e.t.t, .int .i64 x.e.t.g, .int .i64 x.e.t.l, .int .i64 x.e.t.a, .int .i64 x.e.t.o, .int .i64 x.pw, .int .i64 x.pk, .int .i64 x.wd].getD i (.bool false)
/-- Steps in a row of one's own. -/
structure OS (w : World) (base : Nat) (v : Value) (l : List Sp) : Prop where
  ex : ∃ Vs : List Value, w.ownsRow base 44 11 v l.length Vs ∧ ∀ (j : Nat) x, l[j]? = some x → ∀ i, i < 11 → Vs[j * 11 + i]? = some (sc x i)
theorem OS.nil (w : World) (base : Nat) : OS w base (.slice none 0 0) [] := ⟨⟨[], World.ownsRow_nil _ _ _ _, fun j r h => by simp at h⟩⟩
theorem OS.keep {w w' : World} {base : Nat} {v : Value} {l : List Sp} (h : OS w base v l) (ho : ∀ k, v.ownBlock = some k → w'.heap[k]? = w.heap[k]?) : OS w' base v l := by
  obtain ⟨Vs, h1, h2⟩ := h.ex
  exact ⟨⟨Vs, own_step h1 ho, h2⟩⟩
theorem OS.lt {w : World} {base : Nat} {v : Value} {l : List Sp} (h : OS w base v l) : ∀ k, v.ownBlock = some k → base ≤ k ∧ k < w.heap.size := fun k hk => by
  obtain ⟨Vs, h1, _⟩ := h.ex
  exact ⟨own_block h1 k hk, own_lt h1 k hk⟩
theorem OS.bel {w w' : World} {base : Nat} {v : Value} {l : List Sp} (h : OS w base v l) (hb : Below w.heap.size w w') : OS w' base v l := h.keep (fun k hk => hb.block k (h.lt k hk).2)
theorem OS.form {w : World} {base : Nat} {v : Value} {l : List Sp} (h : OS w base v l) : ∃ ao c, v = .slice ao l.length c ∧ l.length ≤ c ∧ c ≤ 9223372036854775807 ∧ (ao = none → c = 0) ∧ SCL w ao l := by
  obtain ⟨Vs, h1, h2⟩ := h.ex
  rcases id h1.2 with ⟨rfl, e⟩ | ⟨g, cap, cur, rfl, e2, e3, e4, hm, rest⟩
  · have : l = [] := List.eq_nil_of_length_eq_zero e
    subst this
    exact ⟨none, 0, rfl, Nat.le_refl _, by omega, (fun _ => rfl), ⟨fun j x hj => by simp at hj⟩⟩
  · refine ⟨_, cap, rfl, e4, by unfold maxLen at hm; omega, (fun h => by cases h), ⟨fun j x hj => ?_⟩⟩
    have hjl : j < l.length := (List.getElem?_eq_some_iff.1 hj).1
    have hc : ∀ i, i < 11 → w.cell? ⟨g, j * 11 + i, none⟩ = some (sc x i) := fun i hi => by
      rw [World.ownsRow.cellAt h1 (j * 11 + i) (by omega)]
      exact h2 j x hj i hi
    refine ⟨g, 0, rfl, (Array.getElem?_eq_some_iff.1 e3).1, ?_⟩
    rw [Nat.zero_add]
    exact ⟨hc 0 (by omega), hc 1 (by omega), hc 2 (by omega), hc 3 (by omega), hc 4 (by omega), hc 5 (by omega), hc 6 (by omega), hc 7 (by omega), hc 8 (by omega), hc 9 (by omega), hc 10 (by omega)⟩
theorem infoSt : (Try.prog.info? 44).map (fun i => (i.zero, i.size, i.bytes)) = some (some (.agg #[.bool false, .int .i64 0, .int .i64 0, .int .i64 0, .int .i64 0, .int .i64 0, .int .i64 0, .int .i64 0, .int .i64 0, .int .i64 0, .int .i64 0]), 11, 88) := by kernel_rfl
/-- append(s, x) where s is one's own row of steps. -/
theorem wpList_append_st {w : World} {ops : Array Oper} {rest : List Oper} {o : Oper} {a : Act} {Q : Exit → Act → World → Prop} (hgd : o.guard = none) (s y : Operand)
    (ho : o.op = .call { callee := .builtin .append, args := #[s, y], argTypes := #[23, 23] })
    (base : Nat) (v : Value) (l : List Sp) (hs : a.eval s = v) (hown : OS w base v l)
    (g : Nat) (t : Sp) (hx : a.eval y = .slice (some ⟨g, 0, none⟩) 1 1) (h0 : ∀ i, i < 11 → w.cell? ⟨g, i, none⟩ = some (sc t i))
    (h63 : l.length ≤ 1048577) (hbase : base ≤ w.heap.size)
    (h : ∀ v' w', OS w' base v' (l ++ [t]) → Gw w w' v v' → wpList Try.prog ops Q rest (a.put o.dst v') w') :
    wpList Try.prog ops Q (o :: rest) a w := by
  obtain ⟨i, hi, hz, hz1, hz2⟩ := info_parts infoSt
  obtain ⟨Vs, hV1, hV2⟩ := hown.ex
  have hlen : ((List.range 11).map (sc t)).length = 11 := rfl
  have hget : ∀ i, i < 11 → ((List.range 11).map (sc t))[i]? = some (sc t i) := fun i hi => by
    rw [List.getElem?_map, List.getElem?_range hi]; rfl
  refine wpList_append_own_at w hgd s y 23 ho base 44 i _ 11 88 Try.underlying23 hi hz hz1 hz2 rfl (by omega) v l.length Vs hs hV1 ⟨g, 0, none⟩ 1 1 ((List.range 11).map (sc t)) hx rfl ?_ ?_ (by unfold maxLen; omega) (by omega) hbase (fun v' w' k1 k2 _ k4 => ?_)
  · intro j u hj
    have hj11 : j < 11 := by have := (List.getElem?_eq_some_iff.1 hj).1; rw [hlen] at this; exact this
    rw [hget j hj11] at hj
    cases hj
    have e6 : (⟨g, 0, none⟩ : Addr).add j = ⟨g, j, none⟩ := by unfold Addr.add; by_cases h : j = 0 <;> simp [h]
    rw [e6]; exact h0 j hj11
  · intro u hu
    obtain ⟨i, hi, rfl⟩ := List.mem_map.1 hu
    have hi11 : i < 11 := List.mem_range.1 hi
    match i, hi11 with
    | 0, _ | 1, _ | 2, _ | 3, _ | 4, _ | 5, _ | 6, _ | 7, _ | 8, _ | 9, _ | 10, _ => rfl
  · have hG : Gw w w' v v' := ⟨k2, k4.imp id (fun e => ⟨_, e, Nat.le_refl _⟩)⟩
    refine h v' w' ⟨⟨_, by rw [show (l ++ [t]).length = l.length + 1 by simp]; exact k1, fun j r hj i hi => ?_⟩⟩ hG
    have hvl : Vs.length = l.length * 11 := hV1.1
    by_cases cj : j < l.length
    · rw [List.getElem?_append_left cj] at hj
      rw [List.getElem?_append_left (by omega)]; exact hV2 j r hj i hi
    · have hj2 : j = l.length := by
        have := (List.getElem?_eq_some_iff.1 hj).1
        simp at this; omega
      subst hj2
      rw [List.getElem?_append_right (Nat.le_refl _), Nat.sub_self] at hj
      simp at hj
      subst hj
      rw [List.getElem?_append_right (by omega), show l.length * 11 + i - Vs.length = i by omega]
      exact hget i hi
end Go.Proofs.Ytpacfppnmenndaa.Tk
