/- Rows of one's own: what an append keeps; answers and errors in two rows. -/
import Derived.Test.YtjfmpgfpehnnjahVo11
import Derived.OneCell
import Derived.Laws.AppendOwnNone
namespace Go.Proofs.Ytjfmpgfpehnnjah.Vo
open Go.RowKit Go.Maps
set_option linter.unusedVariables false
set_option linter.unusedSimpArgs false

theorem own_block {w : World} {base : Nat} {e : TypeId} {size : Nat} {v : Value} {n : Nat} {xs : List Value} (h : w.ownsRow base e size v n xs) : ∀ k, v.ownBlock = some k → base ≤ k := by
  intro k hk
  rcases h.2 with ⟨rfl, _⟩ | ⟨g, cap, cur, rfl, h1, h2, rest⟩
  · simp [Value.ownBlock] at hk
  · simp [Value.ownBlock] at hk; omega
theorem own_lt {w : World} {base : Nat} {e : TypeId} {size : Nat} {v : Value} {n : Nat} {xs : List Value} (h : w.ownsRow base e size v n xs) : ∀ k, v.ownBlock = some k → k < w.heap.size := by
  intro k hk
  rcases h.2 with ⟨rfl, _⟩ | ⟨g, cap, cur, rfl, h1, h2, rest⟩
  · simp [Value.ownBlock] at hk
  · simp [Value.ownBlock] at hk; subst hk; exact (Array.getElem?_eq_some_iff.1 h2).1
theorem own_step {w w' : World} {base : Nat} {e : TypeId} {size : Nat} {v : Value} {n : Nat} {xs : List Value} (h : w.ownsRow base e size v n xs) (hb : ∀ k, v.ownBlock = some k → w'.heap[k]? = w.heap[k]?) : w'.ownsRow base e size v n xs := by
  refine ⟨h.1, ?_⟩
  rcases h.2 with hn | ⟨g, cap, cur, rfl, h1, h2, rest⟩
  · exact .inl hn
  · refine .inr ⟨g, cap, cur, rfl, h1, ?_, rest⟩
    rw [hb g rfl]; exact h2
/-- What an append keeps: all but the row's own block. -/
structure Gw (w w' : World) (v v' : Value) : Prop where
  gr : w.grownBy w' v.ownBlock
  ob : v'.ownBlock = v.ownBlock ∨ ∃ k, v'.ownBlock = some k ∧ w.heap.size ≤ k
theorem Gw.trans {w w1 w2 : World} {v v1 v2 : Value} (h : Gw w w1 v v1) (h2 : Gw w1 w2 v1 v2) : Gw w w2 v v2 := by
  have z := h.gr.size
  refine ⟨⟨h2.gr.os.trans h.gr.os, h2.gr.tape.trans h.gr.tape, h2.gr.output.trans h.gr.output, Nat.le_trans z h2.gr.size, fun k hk hne => ?_⟩, ?_⟩
  · refine (h2.gr.block k (by omega) ?_).trans (h.gr.block k hk hne)
    rcases h.ob with e | ⟨j, e, hj⟩
    · rw [e]; exact hne
    · rw [e]; intro q; cases q; omega
  · rcases h2.ob with e | ⟨j, e, hj⟩
    · rw [e]; exact h.ob
    · exact Or.inr ⟨j, e, by omega⟩
theorem Gw.below {w w' : World} (v : Value) (hb : Below w.heap.size w w') : Gw w w' v v :=
  ⟨⟨hb.os, hb.tape, hb.output, hb.size, fun k hk _ => hb.block k hk⟩, Or.inl rfl⟩
theorem Gw.bel {w w' : World} {v v' : Value} {B : Nat} (h : Gw w w' v v') (hB : B ≤ w.heap.size) (hr : ∀ k, v.ownBlock = some k → B ≤ k) : Below B w w' :=
  (Below.refl B w).grown h.gr hB hr
theorem Gw.cell {w w' : World} {v v' : Value} (h : Gw w w' v v') {b o : Nat} {u : Value} (hlt : b < w.heap.size) (hne : some b ≠ v.ownBlock) (hc : w.cell? ⟨b, o, none⟩ = some u) : w'.cell? ⟨b, o, none⟩ = some u :=
  (World.cell?_of_block (w := w) (w' := w') (a := ⟨b, o, none⟩) (h.gr.block b hlt hne)).trans hc
theorem Gw.froz {w w' : World} {v v' : Value} (h : Gw w w' v v') {b o : Nat} {u : Bool} (hlt : b < w.heap.size) (hne : some b ≠ v.ownBlock) (hc : w.frozen? ⟨b, o, none⟩ = u) : w'.frozen? ⟨b, o, none⟩ = u :=
  (World.frozen?_of_block (w := w) (w' := w') (a := ⟨b, o, none⟩) (h.gr.block b hlt hne)).trans hc
theorem own_form {w : World} {base : Nat} {e : TypeId} {size : Nat} {v : Value} {n : Nat} {xs : List Value} (h : w.ownsRow base e size v n xs) : ∃ ao c, v = .slice ao n c ∧ n ≤ c ∧ c ≤ 9223372036854775807 := by
  rcases h.2 with ⟨h1, h2⟩ | ⟨g, cap, cur, h1, h2, h3, h4, hm, rest⟩
  · subst h2; exact ⟨none, 0, h1, by omega, by omega⟩
  · exact ⟨_, cap, h1, h4, by unfold maxLen at hm; omega⟩
/-- append(s, x) where s is one's own row of elements of one cell. -/
theorem wpList_append_1 (t e : TypeId) (z : Value) (by' : Nat) (hu : Try.prog.underlying t = some (.slice e)) (hinf : (Try.prog.info? e).map (fun i => (i.zero, i.size, i.bytes)) = some (some z, 1, by')) (hzc : z.cells.size = 1) (hby : by' ≤ 24)
    {w : World} {ops : Array Oper} {rest : List Oper} {o : Oper} {a : Act} {Q : Exit → Act → World → Prop} (hgd : o.guard = none) (s y : Operand)
    (ho : o.op = .call { callee := .builtin .append, args := #[s, y], argTypes := #[t, t] })
    (base : Nat) (v : Value) (n : Nat) (xs : List Value) (hs : a.eval s = v) (hown : w.ownsRow base e 1 v n xs)
    (g : Nat) (x : Value) (hx : a.eval y = .slice (some ⟨g, 0, none⟩) 1 1) (hc : w.cell? ⟨g, 0, none⟩ = some x) (hx1 : x.oneCell' = true)
    (h63 : n ≤ 4194304) (hbase : base ≤ w.heap.size)
    (h : ∀ v' w', w'.ownsRow base e 1 v' (n + 1) (xs ++ [x]) → Gw w w' v v' → wpList Try.prog ops Q rest (a.put o.dst v') w') :
    wpList Try.prog ops Q (o :: rest) a w := by
  obtain ⟨i, hi, hz, hz1, hz2⟩ := info_parts hinf
  have hbb : (n + 1) * by' ≤ 140737488355328 := Nat.le_trans (Nat.mul_le_mul_left _ hby) (by omega)
  refine wpList_append_own_at w hgd s y t ho base e i z 1 by' hu hi hz hz1 hz2 hzc (by omega) v n xs hs hown ⟨g, 0, none⟩ 1 1 [x] hx rfl ?_ ?_ (by unfold maxLen; omega) hbb hbase (fun v' w' k1 k2 _ k4 => h v' w' k1 ⟨k2, k4.imp id (fun e => ⟨_, e, Nat.le_refl _⟩)⟩)
  · intro j u hj
    match j, hj with
    | 0, hj => simp at hj; subst hj; simpa [Addr.add] using hc
  · intro u hu; simp at hu; subst hu; exact hx1
theorem infoFs : (Try.prog.info? 55).map (fun i => (i.zero, i.size, i.bytes)) = some (some (.slice none 0 0), 1, 24) := by kernel_rfl
theorem infoEr : (Try.prog.info? 24).map (fun i => (i.zero, i.size, i.bytes)) = some (some (.int .i64 0), 1, 8) := by kernel_rfl
/-- A slice of floats that lies in blocks of S. -/
structure FSl (w : World) (S : Nat → Prop) (v : Value) (m : Nat) (f : Nat → Nat) : Prop where
  ex : ∃ ao c, v = .slice ao m c ∧ m ≤ c ∧ c ≤ 9223372036854775807 ∧ (0 < m → ∃ nb of, ao = some ⟨nb, of, none⟩ ∧ S nb ∧ ∀ i, i < m → w.cell? ⟨nb, of + i, none⟩ = some (.float .f64 (f i)))
  nl : ∀ n c, v = .slice none n c → c = 0
theorem FSl.keep {w w' : World} {S S' : Nat → Prop} {v : Value} {m : Nat} {f : Nat → Nat} (h : FSl w S v m f) (hk : ∀ b, S b → w'.heap[b]? = w.heap[b]?) (hs : ∀ b, S b → S' b) : FSl w' S' v m f := by
  obtain ⟨ao, c, h1, h2, h3, h4⟩ := h.ex
  refine ⟨⟨ao, c, h1, h2, h3, fun hm => ?_⟩, h.nl⟩
  obtain ⟨nb, of, g1, g2, g3⟩ := h4 hm
  exact ⟨nb, of, g1, hs nb g2, fun i hi => (World.cell?_of_block (w := w) (w' := w') (a := ⟨nb, of + i, none⟩) (hk nb g2)).trans (g3 i hi)⟩
theorem FSl.nil (w : World) (S : Nat → Prop) (f : Nat → Nat) : FSl w S (.slice none 0 0) 0 f := ⟨⟨none, 0, rfl, Nat.le_refl _, by omega, fun h => absurd h (by omega)⟩, fun n c e => by cases e; rfl⟩
/-- What came of a piece: so many samples, what is wrong, the samples. -/
structure Rw where
  m : Nat
  e : Int
  f : Nat → Nat
/-- Blocks from base on that are no row's own. -/
def Sc (base : Nat) (w : World) (v u : Value) (b : Nat) : Prop := base ≤ b ∧ b < w.heap.size ∧ some b ≠ v.ownBlock ∧ some b ≠ u.ownBlock
/-- All that came of pieces: the samples in one row, what is wrong in another one. -/
structure SO (w : World) (base : Nat) (v u : Value) (R : List Rw) : Prop where
  ex : ∃ Vs : List Value, w.ownsRow base 55 1 v R.length Vs ∧ Vs.length = R.length ∧ ∀ (j : Nat) (r : Rw), R[j]? = some r → ∃ x, Vs[j]? = some x ∧ FSl w (Sc base w v u) x r.m r.f
  er : w.ownsRow base 24 1 u R.length (R.map fun r => .int .i64 r.e)
  ap : ∀ k, v.ownBlock = some k → u.ownBlock ≠ some k
theorem SO.nil (w : World) (base : Nat) : SO w base (.slice none 0 0) (.slice none 0 0) [] :=
  ⟨⟨[], World.ownsRow_nil _ _ _ _, rfl, fun j r h => by simp at h⟩, World.ownsRow_nil _ _ _ _, fun k hk => by simp [Value.ownBlock] at hk⟩
theorem SO.form {w : World} {base : Nat} {v u : Value} {R : List Rw} (h : SO w base v u R) : ∃ ao c bo d, v = .slice ao R.length c ∧ R.length ≤ c ∧ c ≤ 9223372036854775807 ∧ u = .slice bo R.length d ∧ R.length ≤ d ∧ d ≤ 9223372036854775807 := by
  obtain ⟨Vs, h1, _⟩ := h.ex
  obtain ⟨ao, c, a1, a2, a3⟩ := own_form h1
  obtain ⟨bo, d, b1, b2, b3⟩ := own_form h.er
  exact ⟨ao, c, bo, d, a1, a2, a3, b1, b2, b3⟩
/-- It stays as it is where blocks from base on do. -/
theorem SO.step {w w' : World} {base : Nat} {v u : Value} {R : List Rw} (h : SO w base v u R) (hk : ∀ j, base ≤ j → j < w.heap.size → w'.heap[j]? = w.heap[j]?) (hz : w.heap.size ≤ w'.heap.size) : SO w' base v u R := by
  obtain ⟨Vs, h1, h2, h3⟩ := h.ex
  refine ⟨⟨Vs, own_step h1 (fun k hk' => hk k (own_block h1 k hk') (own_lt h1 k hk')), h2, fun j r hj => ?_⟩, own_step h.er (fun k hk' => hk k (own_block h.er k hk') (own_lt h.er k hk')), h.ap⟩
  obtain ⟨x, g1, g2⟩ := h3 j r hj
  exact ⟨x, g1, g2.keep (fun b hb => hk b hb.1 hb.2.1) (fun b hb => ⟨hb.1, by have := hb.2.1; omega, hb.2.2⟩)⟩
/-- One more piece: appended to the one row, then to the other one. -/
theorem SO.put {w w1 w2 w3 w4 : World} {base : Nat} {v v' u u' x : Value} {R : List Rw} {r : Rw} (Vs : List Value) (hV : Vs.length = R.length) (h3 : ∀ (j : Nat) (r : Rw), R[j]? = some r → ∃ x, Vs[j]? = some x ∧ FSl w (Sc base w v u) x r.m r.f) (hap : ∀ k, v.ownBlock = some k → u.ownBlock ≠ some k)
    (hvl : ∀ k, v.ownBlock = some k → k < w.heap.size) (hul : ∀ k, u.ownBlock = some k → k < w.heap.size)
    (hb1 : Below w.heap.size w w1) (g1 : Gw w1 w2 v v') (o1 : w2.ownsRow base 55 1 v' (R.length + 1) (Vs ++ [x])) (hb2 : Below w2.heap.size w2 w3) (g2 : Gw w3 w4 u u') (o2 : w4.ownsRow base 24 1 u' (R.length + 1) ((R.map fun r => Value.int .i64 r.e) ++ [.int .i64 r.e]))
    (hx : FSl w (Sc base w v u) x r.m r.f) : SO w4 base v' u' (R ++ [r]) := by
  have z1 := hb1.size; have z2 := g1.gr.size; have z3 := hb2.size; have z4 := g2.gr.size
  have hl := own_lt o1
  have hkeep : ∀ b, Sc base w v u b → w4.heap[b]? = w.heap[b]? := fun b hb => by
    have l := hb.2.1
    rw [g2.gr.block b (by omega) hb.2.2.2, hb2.block b (by omega), g1.gr.block b (by omega) hb.2.2.1, hb1.block b l]
  have hS : ∀ b, Sc base w v u b → Sc base w4 v' u' b := fun b hb => by
    have l := hb.2.1
    refine ⟨hb.1, by omega, ?_, ?_⟩
    · rcases g1.ob with q | ⟨k, q, hk⟩
      · rw [q]; exact hb.2.2.1
      · rw [q]; intro q2; simp at q2; omega
    · rcases g2.ob with q | ⟨k, q, hk⟩
      · rw [q]; exact hb.2.2.2
      · rw [q]; intro q2; simp at q2; omega
  have hv'u : ∀ k, v'.ownBlock = some k → u.ownBlock ≠ some k := fun k hk q => by
    rcases g1.ob with e | ⟨k', e, hk'⟩
    · rw [e] at hk; exact hap k hk q
    · rw [e] at hk; have := hul k q; simp at hk; omega
  refine ⟨⟨Vs ++ [x], ?_, by simp [hV], fun j q hj => ?_⟩, by simpa using o2, fun k hk q => ?_⟩
  · have e : (R ++ [r]).length = R.length + 1 := by simp
    rw [e]
    refine own_step o1 (fun k hk => ?_)
    have l := hl k hk
    rw [g2.gr.block k (by omega) (fun q => hv'u k hk q.symm), hb2.block k l]
  · by_cases c : j < R.length
    · rw [List.getElem?_append_left c] at hj
      obtain ⟨y, y1, y2⟩ := h3 j q hj
      exact ⟨y, by rw [List.getElem?_append_left (by omega)]; exact y1, y2.keep hkeep hS⟩
    · have hjl : j < (R ++ [r]).length := (List.getElem?_eq_some_iff.1 hj).1
      simp at hjl
      obtain rfl : j = R.length := by omega
      rw [List.getElem?_append_right (Nat.le_refl _)] at hj
      simp at hj
      subst hj
      exact ⟨x, by rw [← hV]; simp, hx.keep hkeep hS⟩
  · rcases g2.ob with e | ⟨k', e, hk'⟩
    · rw [e] at q; exact hv'u k hk q
    · rw [e] at q; have := hl k hk; simp at q; omega
end Go.Proofs.Ytjfmpgfpehnnjah.Vo
