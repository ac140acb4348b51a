/- Rows for plain.Take: the words, the script, what came of it. -/
import Derived.Test.YtpacfppnmenndaaTk19
namespace Go.Proofs.Ytpacfppnmenndaa.Tk
open Go.RowKit Go.Maps Go.Sort Go.Proofs.Ytpacfppnmenndaa.Rg
open Go.Proofs.Ytpacfppnmenndaa.Y (Tn lt okT wr fst cod bfr OkL TL tab tc rows)
set_option linter.unusedVariables false
set_option linter.unusedSimpArgs false

theorem infoW : (Try.prog.info? 2).map (fun i => (i.zero, i.size, i.bytes)) = some (some (.int .i64 0), 1, 8) := by kernel_rfl
/-- append(own, words...) -/
theorem wpList_append_w {w : World} {ops : Array Oper} {rest : List Oper} {o : Oper} {a : Act} {Q : Exit → Act → World → Prop} (hgd : o.guard = none) (s y : Operand)
    (ho : o.op = .call { callee := .builtin .append, args := #[s, y], argTypes := #[22, 22] })
    (base : Nat) (v : Value) (n : Nat) (xs : List Value) (hs : a.eval s = v) (hown : w.ownsRow base 2 1 v n xs)
    (S' : Nat → Prop) (r : List Int) (rm : Nat) (hrm : r.length = rm) (xa : Option Addr) (xc : Nat) (hx : a.eval y = .slice xa rm xc) (hc1 : rm ≤ xc) (hcn : xa = none → xc = 0) (hf : IL w S' xa r)
    (h63 : n + rm ≤ 17592186044416) (hbase : base ≤ w.heap.size)
    (h : ∀ v' w', w'.ownsRow base 2 1 v' (n + rm) (xs ++ ints r) → Gw w w' v v' → wpList Try.prog ops Q rest (a.put o.dst v') w') :
    wpList Try.prog ops Q (o :: rest) a w := by
  obtain ⟨i, hi, hz, hz1, hz2⟩ := info_parts infoW
  have fl : (ints r).length = rm := by unfold ints; rw [List.length_map, hrm]
  cases xa with
  | none =>
    have hc := hcn rfl
    have hm : rm = 0 := by omega
    have hx2 : a.eval y = .slice none 0 0 := by rw [hx, hm, hc]
    have hnil : ints r = [] := List.eq_nil_of_length_eq_zero (by rw [fl, hm])
    refine wpList_append_own_none hgd s y 22 ho base 2 i 1 Try.underlying22 hi v n xs hs hown hx2 (h v w ?_ ⟨⟨rfl, rfl, rfl, Nat.le_refl _, fun _ _ _ => rfl⟩, Or.inl rfl⟩)
    rw [hm, hnil, List.append_nil]; exact hown
  | some ad =>
    refine wpList_append_own_at w hgd s y 22 ho base 2 i (.int .i64 0) 1 8 Try.underlying22 hi hz hz1 hz2 rfl (by omega) v n xs hs hown ad rm xc (ints r) hx (by rw [fl]; omega) ?_ ?_ (by unfold maxLen; omega) (by omega) hbase (fun v' w' k1 k2 _ k4 => h v' w' k1 ⟨k2, k4.imp id (fun e => ⟨_, e, Nat.le_refl _⟩)⟩)
    · intro j u hj
      have hjm : j < r.length := by have := (List.getElem?_eq_some_iff.1 hj).1; rw [fl] at this; omega
      obtain ⟨nb, of, k1, _, _, k3⟩ := hf.at' (by omega)
      cases k1
      have hr : r[j]? = some (r[j]'hjm) := List.getElem?_eq_getElem hjm
      unfold ints at hj
      rw [List.getElem?_map, hr] at hj
      cases hj
      have e6 : (⟨nb, of, none⟩ : Addr).add j = ⟨nb, of + j, none⟩ := by unfold Addr.add; by_cases h : j = 0 <;> simp [h]
      rw [e6]; exact k3 j _ hr
    · intro u hu
      unfold ints at hu
      obtain ⟨x, _, rfl⟩ := List.mem_map.1 hu
      rfl
/-- A disk's block over a row of one's own. -/
theorem DB.own {w : World} {base db n : Nat} {v : Value} {ws : List Int} {lf : Int} (h : w.ownsRow base 2 1 v n (ints ws)) (hl : ws.length = n) (hd : db < w.heap.size) (hne : ∀ j, v.ownBlock = some j → j ≠ db) (c0 : w.cell? ⟨db, 0, none⟩ = some v) (c1 : w.cell? ⟨db, 1, none⟩ = some (.int .i64 lf)) (c2 : w.cell? ⟨db, 2, none⟩ = some (.bool false)) (fd : ∀ i, w.frozen? ⟨db, i, none⟩ = false) (z : Nat) (hz : base ≤ z ∧ z < w.heap.size ∧ z ≠ db) :
    ∃ wb wo cap, DB w db wb wo cap ws lf ∧ base ≤ wb ∧ wb < w.heap.size ∧ wb ≠ db := by
  rcases h.2 with ⟨e1, e2⟩ | ⟨q, cap, cur, e1, e2, e3, e4, hm, rest⟩
  · refine ⟨z, none, 0, ?_, hz.1, hz.2.1, hz.2.2⟩
    have e0 : ws = [] := List.eq_nil_of_length_eq_zero (by omega)
    subst e0
    refine ⟨hd, fun h => absurd h (by simp), by rw [c0, e1]; rfl, c1, c2, fd, fun i x hi => by simp at hi, fun i hi => by simp at hi, Nat.le_refl _, by omega⟩
  · have hq : q ≠ db := hne q (by rw [e1]; rfl)
    refine ⟨q, some ⟨q, 0, none⟩, cap, ⟨hd, fun _ => ⟨rfl, (Array.getElem?_eq_some_iff.1 e3).1, hq⟩, by rw [c0, e1, hl], c1, c2, fd, fun i x hi => ?_, fun i hi => ?_, by omega, by unfold maxLen at hm; omega⟩, e2, (Array.getElem?_eq_some_iff.1 e3).1, hq⟩
    · subst e1
      have hil : i < ws.length := (List.getElem?_eq_some_iff.1 hi).1
      rw [World.ownsRow.cellAt h i (by omega)]
      unfold ints; rw [List.getElem?_map, hi]; rfl
    · simp [World.frozen?, e3]
/-- The script among arguments. -/
structure SCL (w : World) (ao : Option Addr) (l : List Sp) : Prop where
  at' : ∀ (j : Nat) x, l[j]? = some x → ∃ b off, ao = some ⟨b, off, none⟩ ∧ b < w.heap.size ∧ w.cell? ⟨b, off + j * 11, none⟩ = some (.bool x.op) ∧ w.cell? ⟨b, off + j * 11 + 1, none⟩ = some (.int .i64 x.e.k) ∧ w.cell? ⟨b, off + j * 11 + 2, none⟩ = some (.int .i64 x.e.n) ∧ w.cell? ⟨b, off + j * 11 + 3, none⟩ = some (.int .i64 x.e.t.t) ∧ w.cell? ⟨b, off + j * 11 + 4, none⟩ = some (.int .i64 x.e.t.g) ∧ w.cell? ⟨b, off + j * 11 + 5, none⟩ = some (.int .i64 x.e.t.l) ∧ w.cell? ⟨b, off + j * 11 + 6, none⟩ = some (.int .i64 x.e.t.a) ∧ w.cell? ⟨b, off + j * 11 + 7, none⟩ = some (.int .i64 x.e.t.o) ∧ w.cell? ⟨b, off + j * 11 + 8, none⟩ = some (.int .i64 x.pw) ∧ w.cell? ⟨b, off + j * 11 + 9, none⟩ = some (.int .i64 x.pk) ∧ w.cell? ⟨b, off + j * 11 + 10, none⟩ = some (.int .i64 x.wd)
theorem SCL.bel {w w' : World} {ao : Option Addr} {l : List Sp} (h : SCL w ao l) (hb : Below w.heap.size w w') : SCL w' ao l := ⟨fun j x hj => by
  obtain ⟨b, off, e, k, c0, c1, c2, c3, c4, c5, c6, c7, c8, c9, c10⟩ := h.at' j x hj
  exact ⟨b, off, e, Nat.lt_of_lt_of_le k hb.size, keepC hb k c0, keepC hb k c1, keepC hb k c2, keepC hb k c3, keepC hb k c4, keepC hb k c5, keepC hb k c6, keepC hb k c7, keepC hb k c8, keepC hb k c9, keepC hb k c10⟩⟩
/-- What came of steps, in a row of one's own; the lines lie in blocks of S. -/
structure OR (w : World) (S : Nat → Prop) (base : Nat) (v : Value) (R : List Tk) : Prop where
  ex : ∃ Vs : List Value, w.ownsRow base 32 3 v R.length Vs ∧ ∀ (j : Nat) r, R[j]? = some r → ∃ ao c, Vs[j * 3]? = some (.int .i64 r.er) ∧ Vs[j * 3 + 1]? = some (.int .i64 r.te) ∧ Vs[j * 3 + 2]? = some (.slice ao r.l.length c) ∧ r.l.length ≤ c ∧ c ≤ 9223372036854775807 ∧ (ao = none → c = 0) ∧ LN w S ao r.l
theorem OR.nil (w : World) (S : Nat → Prop) (base : Nat) : OR w S base (.slice none 0 0) [] := ⟨⟨[], World.ownsRow_nil _ _ _ _, fun j r h => by simp at h⟩⟩
theorem OR.keep {w w' : World} {S S' : Nat → Prop} {base : Nat} {v : Value} {R : List Tk} (h : OR w S base v R) (ho : ∀ k, v.ownBlock = some k → w'.heap[k]? = w.heap[k]?) (hk : ∀ b, S b → b < w.heap.size → w'.heap[b]? = w.heap[b]?) (hz : w.heap.size ≤ w'.heap.size) (hs : ∀ b, S b → b < w.heap.size → S' b) : OR w' S' base v R := by
  obtain ⟨Vs, h1, h2⟩ := h.ex
  refine ⟨⟨Vs, own_step h1 ho, fun j r hj => ?_⟩⟩
  obtain ⟨ao, c, k1, k2, k3, k4, k5, k6, k7⟩ := h2 j r hj
  exact ⟨ao, c, k1, k2, k3, k4, k5, k6, k7.keep hk hz hs⟩
theorem OR.lt {w : World} {S : Nat → Prop} {base : Nat} {v : Value} {R : List Tk} (h : OR w S base v R) : ∀ k, v.ownBlock = some k → base ≤ k ∧ k < w.heap.size := fun k hk => by
  obtain ⟨Vs, h1, _⟩ := h.ex
  exact ⟨own_block h1 k hk, own_lt h1 k hk⟩
theorem infoTk : (Try.prog.info? 32).map (fun i => (i.zero, i.size, i.bytes)) = some (some (.agg #[.int .i64 0, .int .i64 0, .slice none 0 0]), 3, 40) := by kernel_rfl
/-- append(s, x) where s is one's own row of what came of steps. -/
theorem wpList_append_tk {w : World} {ops : Array Oper} {rest : List Oper} {o : Oper} {a : Act} {Q : Exit → Act → World → Prop} (hgd : o.guard = none) (s y : Operand)
    (ho : o.op = .call { callee := .builtin .append, args := #[s, y], argTypes := #[24, 24] })
    (S : Nat → Prop) (base : Nat) (v : Value) (R : List Tk) (hs : a.eval s = v) (hown : OR w S base v R) (hSv : ∀ b, S b → some b ≠ v.ownBlock)
    (g : Nat) (t : Tk) (ao : Option Addr) (c : Nat) (hx : a.eval y = .slice (some ⟨g, 0, none⟩) 1 1) (h0 : w.cell? ⟨g, 0, none⟩ = some (.int .i64 t.er)) (h1 : w.cell? ⟨g, 1, none⟩ = some (.int .i64 t.te)) (h2 : w.cell? ⟨g, 2, none⟩ = some (.slice ao t.l.length c))
    (hc1 : t.l.length ≤ c) (hc2 : c ≤ 9223372036854775807) (hc3 : ao = none → c = 0) (hL : LN w S ao t.l)
    (h63 : R.length ≤ 1048577) (hbase : base ≤ w.heap.size)
    (h : ∀ v' w', OR w' (fun b => S b ∧ b < w.heap.size) base v' (R ++ [t]) → Gw w w' v v' → wpList Try.prog ops Q rest (a.put o.dst v') w') :
    wpList Try.prog ops Q (o :: rest) a w := by
  obtain ⟨i, hi, hz, hz1, hz2⟩ := info_parts infoTk
  obtain ⟨Vs, hV1, hV2⟩ := hown.ex
  refine wpList_append_own_at w hgd s y 24 ho base 32 i _ 3 40 Try.underlying24 hi hz hz1 hz2 rfl (by omega) v R.length Vs hs hV1 ⟨g, 0, none⟩ 1 1 [.int .i64 t.er, .int .i64 t.te, .slice ao t.l.length c] hx rfl ?_ ?_ (by unfold maxLen; omega) (by omega) hbase (fun v' w' k1 k2 _ k4 => ?_)
  · intro j u hj
    match j, hj with
    | 0, hj => simp at hj; subst hj; simpa [Addr.add] using h0
    | 1, hj => simp at hj; subst hj; simpa [Addr.add] using h1
    | 2, hj => simp at hj; subst hj; simpa [Addr.add] using h2
  · intro u hu
    simp at hu
    rcases hu with rfl | rfl | rfl <;> rfl
  · have hG : Gw w w' v v' := ⟨k2, k4.imp id (fun e => ⟨_, e, Nat.le_refl _⟩)⟩
    refine h v' w' ⟨⟨_, by rw [show (R ++ [t]).length = R.length + 1 by simp]; exact k1, fun j r hj => ?_⟩⟩ hG
    have hvl : Vs.length = R.length * 3 := hV1.1
    have kb : ∀ b, S b → b < w.heap.size → w'.heap[b]? = w.heap[b]? := fun b hb hl => hG.gr.block b hl (hSv b hb)
    by_cases cj : j < R.length
    · rw [List.getElem?_append_left cj] at hj
      obtain ⟨ao', c', q1, q2, q3, q4, q5, q6, q7⟩ := hV2 j r hj
      refine ⟨ao', c', ?_, ?_, ?_, q4, q5, q6, q7.keep kb hG.gr.size (fun b hb hl => ⟨hb, hl⟩)⟩
      · rw [List.getElem?_append_left (by omega)]; exact q1
      · rw [List.getElem?_append_left (by omega)]; exact q2
      · rw [List.getElem?_append_left (by omega)]; exact q3
    · have hj2 : j = R.length := by
        have := (List.getElem?_eq_some_iff.1 hj).1
        simp at this; omega
      subst hj2
      rw [List.getElem?_append_right (Nat.le_refl _), Nat.sub_self] at hj
      simp at hj
      subst hj
      refine ⟨ao, c, ?_, ?_, ?_, hc1, hc2, hc3, hL.keep kb hG.gr.size (fun b hb hl => ⟨hb, hl⟩)⟩
      · rw [List.getElem?_append_right (by omega), show R.length * 3 - Vs.length = 0 by omega]; rfl
      · rw [List.getElem?_append_right (by omega), show R.length * 3 + 1 - Vs.length = 1 by omega]; rfl
      · rw [List.getElem?_append_right (by omega), show R.length * 3 + 2 - Vs.length = 2 by omega]; rfl
end Go.Proofs.Ytpacfppnmenndaa.Tk
