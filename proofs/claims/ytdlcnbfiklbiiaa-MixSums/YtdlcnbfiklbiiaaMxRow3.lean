/- What came of pieces, in a row of one's own. -/
import Derived.Test.YtdlcnbfiklbiiaaMxRow2
namespace Go.Proofs.Ytdlcnbfiklbiiaa.Mx
open Go.RowKit Go.Maps Go.Sort
set_option linter.unusedSimpArgs false
set_option linter.unusedVariables false

/-- One piece's cells in a row: from place j on. -/
structure DrC (w : World) (S : Nat → Prop) (Vs : List Value) (j : Nat) (r : Pr) : Prop where
  ex : ∃ ao c, Vs[j * 4]? = some (.slice ao r.l.length c) ∧ r.l.length ≤ c ∧ c ≤ 9223372036854775807 ∧ (ao = none → c = 0) ∧ IL w S ao r.l
  e : Vs[j * 4 + 1]? = some (.int .i64 r.e)
  l : Vs[j * 4 + 2]? = some (.int .i64 r.loud)
  c : Vs[j * 4 + 3]? = some (.int .i64 r.clip)
structure DR (w : World) (base : Nat) (v : Value) (R : List Pr) : Prop where
  ex : ∃ Vs : List Value, w.ownsRow base 39 4 v R.length Vs ∧ Vs.length = R.length * 4 ∧ ∀ (j : Nat) r, R[j]? = some r → DrC w (Sc base w v) Vs j r
theorem DR.nil (w : World) (base : Nat) : DR w base (.slice none 0 0) [] := ⟨⟨[], World.ownsRow_nil _ _ _ _, rfl, fun j r h => by simp at h⟩⟩
theorem DrC.keep {w w' : World} {S S' : Nat → Prop} {Vs Vs' : List Value} {j : Nat} {r : Pr} (h : DrC w S Vs j r) (hv : ∀ i, i < Vs.length → Vs'[i]? = Vs[i]?) (hk : ∀ b, S b → b < w.heap.size → w'.heap[b]? = w.heap[b]?) (hz : w.heap.size ≤ w'.heap.size) (hs : ∀ b, S b → b < w.heap.size → S' b) : DrC w' S' Vs' j r := by
  obtain ⟨ao, c, h1, h2, h3, h4, h5⟩ := h.ex
  have g : ∀ {i : Nat} {x : Value}, Vs[i]? = some x → Vs'[i]? = some x := fun {i x} hx => by rw [hv i (List.getElem?_eq_some_iff.1 hx).1]; exact hx
  exact ⟨⟨ao, c, g h1, h2, h3, h4, h5.keep hk hz hs⟩, g h.e, g h.l, g h.c⟩
theorem DR.step {w w' : World} {base : Nat} {v : Value} {R : List Pr} (h : DR w base v R) (hk : ∀ j, base ≤ j → j < w.heap.size → w'.heap[j]? = w.heap[j]?) (hz : w.heap.size ≤ w'.heap.size) : DR w' base v R := by
  obtain ⟨Vs, h1, h2, h3⟩ := h.ex
  exact ⟨⟨Vs, own_step h1 (fun k hk' => hk k (own_block h1 k hk') (own_lt h1 k hk')), h2, fun j r hj => (h3 j r hj).keep (fun _ _ => rfl) (fun b hb hl => hk b hb.1 hl) hz (fun b hb hl => ⟨hb.1, by omega, hb.2.2⟩)⟩⟩
/-- One piece more: w1 is w with blocks more. -/
theorem DR.put {w w1 w2 : World} {base : Nat} {v v' : Value} {R : List Pr} {r : Pr} {ao : Option Addr} {c : Nat} (hbz : base ≤ w.heap.size) (Vs : List Value) (hV : Vs.length = R.length * 4) (h3 : ∀ (j : Nat) r, R[j]? = some r → DrC w (Sc base w v) Vs j r)
    (hb1 : Below w.heap.size w w1) (g1 : Gw w1 w2 v v') (o1 : w2.ownsRow base 39 4 v' (R.length + 1) (Vs ++ [.slice ao r.l.length c, .int .i64 r.e, .int .i64 r.loud, .int .i64 r.clip])) (hx : IL w1 (Sc base w1 v) ao r.l) (hc : r.l.length ≤ c) (hcm : c ≤ 9223372036854775807) (hcn : ao = none → c = 0) : DR w2 base v' (R ++ [r]) := by
  have z1 := hb1.size; have z2 := g1.gr.size
  have hS1 : ∀ b, Sc base w1 v b → b < w1.heap.size → Sc base w2 v' b := fun b hb l => by
    refine ⟨hb.1, by omega, ?_⟩
    rcases g1.ob with q | ⟨k, q, hk⟩
    · rw [q]; exact hb.2.2
    · rw [q]; intro q2; simp at q2; omega
  have hS : ∀ b, Sc base w v b → b < w.heap.size → Sc base w2 v' b := fun b hb l => hS1 b ⟨hb.1, by omega, hb.2.2⟩ (by omega)
  have hkeep : ∀ b, Sc base w v b → b < w.heap.size → w2.heap[b]? = w.heap[b]? := fun b hb l => by
    rw [g1.gr.block b (by omega) hb.2.2, hb1.block b l]
  refine ⟨⟨Vs ++ [.slice ao r.l.length c, .int .i64 r.e, .int .i64 r.loud, .int .i64 r.clip], ?_, by simp [hV]; omega, fun j q hj => ?_⟩⟩
  · have e : (R ++ [r]).length = R.length + 1 := by simp
    rw [e]; exact o1
  · by_cases cc : j < R.length
    · rw [List.getElem?_append_left cc] at hj
      exact (h3 j q hj).keep (fun i hi => List.getElem?_append_left hi) hkeep (by omega) hS
    · have hjl : j < (R ++ [r]).length := (List.getElem?_eq_some_iff.1 hj).1
      simp at hjl
      obtain rfl : j = R.length := by omega
      rw [List.getElem?_append_right (Nat.le_refl _)] at hj
      simp at hj
      subst hj
      refine ⟨⟨ao, c, ?_, hc, hcm, hcn, hx.keep (fun b hb l => g1.gr.block b l hb.2.2) z2 hS1⟩, ?_, ?_, ?_⟩
      · rw [List.getElem?_append_right (by omega), show R.length * 4 - Vs.length = 0 by omega]; rfl
      · rw [List.getElem?_append_right (by omega), show R.length * 4 + 1 - Vs.length = 1 by omega]; rfl
      · rw [List.getElem?_append_right (by omega), show R.length * 4 + 2 - Vs.length = 2 by omega]; rfl
      · rw [List.getElem?_append_right (by omega), show R.length * 4 + 3 - Vs.length = 3 by omega]; rfl
/-- The whole row as it is read. -/
structure DRd (w : World) (S : Nat → Prop) (ao : Option Addr) (R : List Pr) : Prop where
  at' : 0 < R.length → ∃ b, ao = some ⟨b, 0, none⟩ ∧ b < w.heap.size ∧ S b ∧ ∀ (j : Nat) r, R[j]? = some r → (∃ xa xc, w.cell? ⟨b, j * 4, none⟩ = some (.slice xa r.l.length xc) ∧ r.l.length ≤ xc ∧ xc ≤ 9223372036854775807 ∧ (xa = none → xc = 0) ∧ IL w S xa r.l) ∧ w.cell? ⟨b, j * 4 + 1, none⟩ = some (.int .i64 r.e) ∧ w.cell? ⟨b, j * 4 + 2, none⟩ = some (.int .i64 r.loud) ∧ w.cell? ⟨b, j * 4 + 3, none⟩ = some (.int .i64 r.clip)
theorem DRd.keep {w w' : World} {S S' : Nat → Prop} {ao : Option Addr} {R : List Pr} (h : DRd w S ao R) (hk : ∀ b, S b → b < w.heap.size → w'.heap[b]? = w.heap[b]?) (hz : w.heap.size ≤ w'.heap.size) (hs : ∀ b, S b → b < w.heap.size → S' b) : DRd w' S' ao R := ⟨fun hn => by
  obtain ⟨b, h1, h2, h3, h4⟩ := h.at' hn
  have g : ∀ {i : Nat} {x : Value}, w.cell? ⟨b, i, none⟩ = some x → w'.cell? ⟨b, i, none⟩ = some x := fun {i x} hx => (World.cell?_of_block (w := w) (w' := w') (a := ⟨b, i, none⟩) (hk b h3 h2)).trans hx
  refine ⟨b, h1, by omega, hs b h3 h2, fun j r hj => ?_⟩
  obtain ⟨⟨xa, xc, q1, q2, q3, q4, q5⟩, q6, q7, q8⟩ := h4 j r hj
  exact ⟨⟨xa, xc, g q1, q2, q3, q4, q5.keep hk hz hs⟩, g q6, g q7, g q8⟩⟩
theorem DR.rd {w : World} {base : Nat} {v : Value} {R : List Pr} (h : DR w base v R) : ∃ ao c, v = .slice ao R.length c ∧ R.length ≤ c ∧ c ≤ 9223372036854775807 ∧ (ao = none → c = 0) ∧ DRd w (fun b => base ≤ b) ao R := by
  obtain ⟨Vs, h1, h2, h3⟩ := h.ex
  rcases h1.2 with ⟨e1, e2⟩ | ⟨q, cap, cur, e1, e2, e3, e4, hm, rest⟩
  · exact ⟨none, 0, by rw [e1, e2], by omega, by omega, fun _ => rfl, ⟨fun hn => by omega⟩⟩
  · refine ⟨some ⟨q, 0, none⟩, cap, e1, e4, by unfold maxLen at hm; omega, (fun q => by cases q), ⟨fun hn => ⟨q, rfl, (Array.getElem?_eq_some_iff.1 e3).1, e2, fun j r hj => ?_⟩⟩⟩
    have hjl : j < R.length := (List.getElem?_eq_some_iff.1 hj).1
    have hc := h3 j r hj
    subst e1
    obtain ⟨xa, xc, q1, q2, q3, q4, q5⟩ := hc.ex
    refine ⟨⟨xa, xc, ?_, q2, q3, q4, q5.keep (fun _ _ _ => rfl) (Nat.le_refl _) (fun b hb _ => hb.1)⟩, ?_, ?_, ?_⟩
    · rw [World.ownsRow.cellAt h1 (j * 4) (by omega)]; exact q1
    · rw [World.ownsRow.cellAt h1 (j * 4 + 1) (by omega)]; exact hc.e
    · rw [World.ownsRow.cellAt h1 (j * 4 + 2) (by omega)]; exact hc.l
    · rw [World.ownsRow.cellAt h1 (j * 4 + 3) (by omega)]; exact hc.c
theorem infoDd : (Try.prog.info? 39).map (fun i => (i.zero, i.size, i.bytes)) = some (some (.agg #[.slice none 0 0, .int .i64 0, .int .i64 0, .int .i64 0]), 4, 48) := by kernel_rfl
/-- append(s, x) where s is one's own row of what came of pieces. -/
theorem wpList_append_dd {w : World} {ops : Array Oper} {rest : List Oper} {o : Oper} {a : Act} {Q : Exit → Act → World → Prop} (hgd : o.guard = none) (s y : Operand)
    (ho : o.op = .call { callee := .builtin .append, args := #[s, y], argTypes := #[32, 32] })
    (base : Nat) (v : Value) (n : Nat) (xs : List Value) (hs : a.eval s = v) (hown : w.ownsRow base 39 4 v n xs)
    (g : Nat) (io : Option Addr) (il ic : Nat) (e1 e2 e3 : Int) (hx : a.eval y = .slice (some ⟨g, 0, none⟩) 1 1) (h0 : w.cell? ⟨g, 0, none⟩ = some (.slice io il ic)) (h1 : w.cell? ⟨g, 1, none⟩ = some (.int .i64 e1)) (h2 : w.cell? ⟨g, 2, none⟩ = some (.int .i64 e2)) (h3 : w.cell? ⟨g, 3, none⟩ = some (.int .i64 e3))
    (h63 : n ≤ 1048577) (hbase : base ≤ w.heap.size)
    (h : ∀ v' w', w'.ownsRow base 39 4 v' (n + 1) (xs ++ [.slice io il ic, .int .i64 e1, .int .i64 e2, .int .i64 e3]) → Gw w w' v v' → wpList Try.prog ops Q rest (a.put o.dst v') w') :
    wpList Try.prog ops Q (o :: rest) a w := by
  obtain ⟨i, hi, hz, hz1, hz2⟩ := info_parts infoDd
  refine wpList_append_own_at w hgd s y 32 ho base 39 i _ 4 48 Try.underlying32 hi hz hz1 hz2 rfl (by omega) v n xs hs hown ⟨g, 0, none⟩ 1 1 [.slice io il ic, .int .i64 e1, .int .i64 e2, .int .i64 e3] hx rfl ?_ ?_ (by unfold maxLen; omega) (by omega) hbase (fun v' w' k1 k2 _ k4 => h v' w' k1 ⟨k2, k4.imp id (fun e => ⟨_, e, Nat.le_refl _⟩)⟩)
  · intro j u hj
    match j, hj with
    | 0, hj => simp at hj; subst hj; simpa [Addr.add] using h0
    | 1, hj => simp at hj; subst hj; simpa [Addr.add] using h1
    | 2, hj => simp at hj; subst hj; simpa [Addr.add] using h2
    | 3, hj => simp at hj; subst hj; simpa [Addr.add] using h3
  · intro u hu
    simp at hu
    rcases hu with rfl | rfl | rfl | rfl <;> rfl
end Go.Proofs.Ytdlcnbfiklbiiaa.Mx
