/- MixOrder: two rows that grow side by side. -/
import Derived.Test.YtdlcnbfiklbiiaaMx12
import Derived.Test.YtdlcnbfiklbiiaaMx13
namespace Go.Proofs.Ytdlcnbfiklbiiaa.Mx
open Go.RowKit Go.Maps Go.Sort
set_option linter.unusedVariables false
set_option linter.unusedSimpArgs false

/-- append(s, x) at a step of a drawn region: lists of whole numbers. -/
theorem step_append_s {w : World} {ops : Array Oper} {o : Oper} {a : Act} {K : Act → World → Prop} {Q : Exit → Act → World → Prop} {E : Prop} (hgd : o.guard = none) (s y : Operand)
    (ho : o.op = .call { callee := .builtin .append, args := #[s, y], argTypes := #[22, 22] })
    (base : Nat) (v : Value) (n : Nat) (xs : List Value) (hs : a.eval s = v) (hown : w.ownsRow base 23 1 v n xs)
    (g : Nat) (xa : Option Addr) (xl xc : Nat) (hx : a.eval y = .slice (some ⟨g, 0, none⟩) 1 1) (hc : w.cell? ⟨g, 0, none⟩ = some (.slice xa xl xc))
    (h63 : n < 5864062014805) (hbase : base ≤ w.heap.size)
    (h : ∀ v' w', w'.ownsRow base 23 1 v' (n + 1) (xs ++ [.slice xa xl xc]) → Gw w w' v v' → K (a.put o.dst v') w') :
    if Region.wanted o (yielded ops a.tmps) = true then Oper.wp Try.prog o a w K Q else E := by
  have hw : Region.wanted o (yielded ops a.tmps) = true := by simp [Region.wanted, hgd]
  rw [if_pos hw]
  obtain ⟨i, hi, hz, hz1, hz2⟩ := info_parts infoIs
  obtain ⟨v', w', hr, h2, h3, _, h5⟩ := run_append_own_at (P := Try.prog) w base 22 o.type 23 i (.slice none 0 0) 1 24 Try.underlying22 hi hz hz1 hz2 rfl (by omega) v n xs hown ⟨g, 0, none⟩ 1 1 [.slice xa xl xc] rfl (fun j u hj => by
    match j, hj with
    | 0, hj => simp at hj; subst hj; simpa [Addr.add] using hc) (fun u hu => by simp at hu; subst hu; rfl) (by unfold maxLen; omega) (by omega) hbase
  have hK := h v' w' h2 ⟨h3, h5.imp id (fun e => ⟨_, e, Nat.le_refl _⟩)⟩
  unfold Oper.wp execOp
  simp only [ho, resolve, invoke, builtin, Sem.run_bind, Sem.run_pure, Result.andThen_ok, List.map_toArray, List.map_cons, List.map_nil, hs, hx, hr]
  exact hK
theorem step_append_i {w : World} {ops : Array Oper} {o : Oper} {a : Act} {K : Act → World → Prop} {Q : Exit → Act → World → Prop} {E : Prop} (hgd : o.guard = none) (s y : Operand)
    (ho : o.op = .call { callee := .builtin .append, args := #[s, y], argTypes := #[23, 23] })
    (base : Nat) (v : Value) (n : Nat) (xs : List Value) (hs : a.eval s = v) (hown : w.ownsRow base 3 1 v n xs)
    (g : Nat) (x : Int) (hx : a.eval y = .slice (some ⟨g, 0, none⟩) 1 1) (hc : w.cell? ⟨g, 0, none⟩ = some (.int .i64 x))
    (h63 : n < 17592186044416) (hbase : base ≤ w.heap.size)
    (h : ∀ v' w', w'.ownsRow base 3 1 v' (n + 1) (xs ++ [.int .i64 x]) → Gw w w' v v' → K (a.put o.dst v') w') :
    if Region.wanted o (yielded ops a.tmps) = true then Oper.wp Try.prog o a w K Q else E := by
  have hw : Region.wanted o (yielded ops a.tmps) = true := by simp [Region.wanted, hgd]
  rw [if_pos hw]
  obtain ⟨i, hi, hz, hz1, hz2⟩ := info_parts infoI
  obtain ⟨v', w', hr, h2, h3, _, h5⟩ := run_append_own_at (P := Try.prog) w base 23 o.type 3 i (.int .i64 0) 1 8 Try.underlying23 hi hz hz1 hz2 rfl (by omega) v n xs hown ⟨g, 0, none⟩ 1 1 [.int .i64 x] rfl (fun j u hj => by
    match j, hj with
    | 0, hj => simp at hj; subst hj; simpa [Addr.add] using hc) (fun u hu => by simp at hu; subst hu; rfl) (by unfold maxLen; omega) (by omega) hbase
  have hK := h v' w' h2 ⟨h3, h5.imp id (fun e => ⟨_, e, Nat.le_refl _⟩)⟩
  unfold Oper.wp execOp
  simp only [ho, resolve, invoke, builtin, Sem.run_bind, Sem.run_pure, Result.andThen_ok, List.map_toArray, List.map_cons, List.map_nil, hs, hx, hr]
  exact hK

/-- The tracks and gains in the order so far; which have been seen. -/
structure OS (w : World) (sb base N n : Nat) (P : List (List Int)) (G : List Int) (vl vg : Value) (os : List Nat) : Prop where
  lt : ∀ i ∈ os, i < n
  nd : os.Nodup
  vo : VO w base N vl (os.map fun i => P.getD i [])
  gs : w.ownsRow base 3 1 vg os.length (ints (os.map fun i => G.getD i 0))
  ap : ∀ q, vl.ownBlock = some q → vg.ownBlock ≠ some q
  sn : w.rowIs sb 4 n (fun i => .bool (decide (i ∈ os)))
/-- Behind the first append. -/
structure O1 (w : World) (base N : Nat) (vl vg : Value) (ls : List (List Int)) (gs : List Int) : Prop where
  vo : VO w base N vl ls
  gs : w.ownsRow base 3 1 vg gs.length (ints gs)
  ap : ∀ q, vl.ownBlock = some q → vg.ownBlock ≠ some q
theorem O1.one {w w1 w2 : World} {base N : Nat} {vl vl' vg : Value} {ls : List (List Int)} {gs : List Int} {a : Option Addr} {c : Nat} {p : List Int} (h : O1 w base N vl vg ls gs) (hN : N ≤ base) (hbz : base ≤ w.heap.size) (hb1 : Below w.heap.size w w1) (g1 : Gw w1 w2 vl vl')
    (Vs : List Value) (hV : Vs.length = ls.length) (h3 : ∀ (j : Nat) p, ls[j]? = some p → ∃ a c, Vs[j]? = some (.slice a p.length c) ∧ p.length ≤ c ∧ c ≤ 9223372036854775807 ∧ (a = none → c = 0) ∧ IL w (fun k => k < N) a p) (o1 : w2.ownsRow base 23 1 vl' (ls.length + 1) (Vs ++ [.slice a p.length c])) (hv : ∀ k, vl.ownBlock = some k → base ≤ k)
    (q1 : p.length ≤ c) (q2 : c ≤ 9223372036854775807) (q3 : a = none → c = 0) (q4 : IL w (fun k => k < N) a p) : O1 w2 base N vl' vg (ls ++ [p]) gs := by
  have z1 := hb1.size
  have hg := own_lt h.gs
  refine ⟨VO.put Vs hV h3 hN hbz hb1 g1 hv o1 q1 q2 q3 q4, own_step h.gs (fun q hq => ?_), fun q hq hq2 => ?_⟩
  · have := hg q hq
    rw [g1.gr.block q (by omega) (fun e => h.ap q e.symm hq), hb1.block q this]
  · have := hg q hq2
    rcases g1.ob with e | ⟨k, e, hk⟩
    · rw [e] at hq; exact h.ap q hq hq2
    · rw [e] at hq; simp at hq; omega
theorem VO.step {w w' : World} {base N : Nat} {v : Value} {ps : List (List Int)} (h : VO w base N v ps) (hk : ∀ j, v.ownBlock = some j → w'.heap[j]? = w.heap[j]?) (hN : ∀ j, j < N → j < w.heap.size → w'.heap[j]? = w.heap[j]?) (hz : w.heap.size ≤ w'.heap.size) : VO w' base N v ps := by
  obtain ⟨Vs, h1, h2, h3⟩ := h.ex
  refine ⟨⟨Vs, own_step h1 hk, h2, fun j p hj => ?_⟩⟩
  obtain ⟨a, c, g1, g2, g3, g4, g5⟩ := h3 j p hj
  exact ⟨a, c, g1, g2, g3, g4, g5.keep (fun b hb hl => hN b hb hl) hz (fun _ h _ => h)⟩
theorem VO.lt {w : World} {base N : Nat} {v : Value} {ps : List (List Int)} (h : VO w base N v ps) : ∀ k, v.ownBlock = some k → k < w.heap.size := by
  obtain ⟨Vs, h1, _⟩ := h.ex; exact own_lt h1
theorem VO.ge {w : World} {base N : Nat} {v : Value} {ps : List (List Int)} (h : VO w base N v ps) : ∀ k, v.ownBlock = some k → base ≤ k := by
  obtain ⟨Vs, h1, _⟩ := h.ex; exact own_block h1
theorem O1.two {w w1 w2 : World} {base N : Nat} {vl vg vg' : Value} {ls : List (List Int)} {gs : List Int} {g : Int} (h : O1 w base N vl vg ls gs) (hN : N ≤ base) (hb1 : Below w.heap.size w w1) (g1 : Gw w1 w2 vg vg')
    (o1 : w2.ownsRow base 3 1 vg' (gs.length + 1) (ints gs ++ [.int .i64 g])) : O1 w2 base N vl vg' ls (gs ++ [g]) := by
  have z1 := hb1.size
  have z2 := g1.gr.size
  have hvl := h.vo.lt
  have hvg := own_block h.gs
  refine ⟨h.vo.step (fun q hq => ?_) (fun q hq hl => ?_) (by omega), ?_, fun q hq hq2 => ?_⟩
  · have := hvl q hq
    rw [g1.gr.block q (by omega) (fun e => h.ap q hq e.symm), hb1.block q this]
  · rw [g1.gr.block q (by omega) (fun e => by have := hvg q e.symm; omega), hb1.block q hl]
  · have e : (gs ++ [g]).length = gs.length + 1 := by simp
    rw [e, show ints (gs ++ [g]) = ints gs ++ [Value.int .i64 g] by unfold ints; rw [List.map_append]; rfl]
    exact o1
  · have := hvl q hq
    rcases g1.ob with e | ⟨k, e, hk⟩
    · rw [e] at hq2; exact h.ap q hq hq2
    · rw [e] at hq2; simp at hq2; omega
theorem getD_at {α : Type} {l : List α} {i : Nat} {x d : α} (h : l[i]? = some x) : l.getD i d = x := by rw [List.getD_eq_getElem?_getD, h]; rfl
/-- The tracks and gains in the order, side by side. -/
theorem zip_ord (P : List (List Int)) (G : List Int) (os : List Nat) (h : G.length = P.length) (hl : ∀ i ∈ os, i < P.length) : (os.map fun i => P.getD i []).zip (os.map fun i => G.getD i 0) = inOrd (P.zip G) os := by
  unfold inOrd
  rw [List.zip_map']
  refine List.map_congr_left (fun i hi => ?_)
  have h1 := hl i hi
  obtain ⟨p, hp⟩ : ∃ p, P[i]? = some p := ⟨_, List.getElem?_eq_getElem h1⟩
  obtain ⟨g, hg⟩ : ∃ g, G[i]? = some g := ⟨_, List.getElem?_eq_getElem (by omega)⟩
  rw [getD_at hp, getD_at hg, getD_at (zip_get hp hg)]
end Go.Proofs.Ytdlcnbfiklbiiaa.Mx
