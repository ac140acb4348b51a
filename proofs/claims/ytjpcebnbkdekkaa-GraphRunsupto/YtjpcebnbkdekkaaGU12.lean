/- Rows of one's own: what an append keeps; what came of pieces, in a row. -/
import Derived.Test.YtjpcebnbkdekkaaGU10
import Derived.OneCell
import Derived.Laws.AppendOwnNone
namespace Go.Proofs.Ytjpcebnbkdekkaa.Fi
open Go.RowKit Go.Maps Fl
set_option linter.unusedVariables false
set_option linter.unusedSimpArgs false

theorem own_block {w : World} {base : Nat} {e : TypeId} {size : Nat} {v : Value} {n : Nat} {xs : List Value} (h : w.ownsRow base e size v n xs) : ∀ k, v.ownBlock = some k → base ≤ k := by
  intro k hk
  rcases h.2 with ⟨rfl, _⟩ | ⟨g, cap, cur, rfl, h1, h2, rest⟩
  · simp [Value.ownBlock] at hk
  · simp [Value.ownBlock] at hk; omega
theorem own_lt {w : World} {base : Nat} {e : TypeId} {size : Nat} {v : Value} {n : Nat} {xs : List Value} (h : w.ownsRow base e size v n xs) : ∀ k, v.ownBlock = some k → k < w.heap.size := by
  intro k hk
  rcases h.2 with ⟨rfl, _⟩ | ⟨g, cap, cur, rfl, h1, h2, rest⟩
  · simp [Value.ownBlock] at hk
  · simp [Value.ownBlock] at hk; subst hk; exact (Array.getElem?_eq_some_iff.1 h2).1
theorem own_step {w w' : World} {base : Nat} {e : TypeId} {size : Nat} {v : Value} {n : Nat} {xs : List Value} (h : w.ownsRow base e size v n xs) (hb : ∀ k, v.ownBlock = some k → w'.heap[k]? = w.heap[k]?) : w'.ownsRow base e size v n xs := by
  refine ⟨h.1, ?_⟩
  rcases h.2 with hn | ⟨g, cap, cur, rfl, h1, h2, rest⟩
  · exact .inl hn
  · refine .inr ⟨g, cap, cur, rfl, h1, ?_, rest⟩
    rw [hb g rfl]; exact h2
/-- What an append keeps: all but the row's own block. -/
structure Gw (w w' : World) (v v' : Value) : Prop where
  gr : w.grownBy w' v.ownBlock
  ob : v'.ownBlock = v.ownBlock ∨ ∃ k, v'.ownBlock = some k ∧ w.heap.size ≤ k
theorem Gw.trans {w w1 w2 : World} {v v1 v2 : Value} (h : Gw w w1 v v1) (h2 : Gw w1 w2 v1 v2) : Gw w w2 v v2 := by
  have z := h.gr.size
  refine ⟨⟨h2.gr.os.trans h.gr.os, h2.gr.tape.trans h.gr.tape, h2.gr.output.trans h.gr.output, Nat.le_trans z h2.gr.size, fun k hk hne => ?_⟩, ?_⟩
  · refine (h2.gr.block k (by omega) ?_).trans (h.gr.block k hk hne)
    rcases h.ob with e | ⟨j, e, hj⟩
    · rw [e]; exact hne
    · rw [e]; intro q; cases q; omega
  · rcases h2.ob with e | ⟨j, e, hj⟩
    · rw [e]; exact h.ob
    · exact Or.inr ⟨j, e, by omega⟩
theorem Gw.below {w w' : World} (v : Value) (hb : Below w.heap.size w w') : Gw w w' v v :=
  ⟨⟨hb.os, hb.tape, hb.output, hb.size, fun k hk _ => hb.block k hk⟩, Or.inl rfl⟩
theorem Gw.bel {w w' : World} {v v' : Value} {B : Nat} (h : Gw w w' v v') (hB : B ≤ w.heap.size) (hr : ∀ k, v.ownBlock = some k → B ≤ k) : Below B w w' :=
  (Below.refl B w).grown h.gr hB hr
theorem Gw.cell {w w' : World} {v v' : Value} (h : Gw w w' v v') {b o : Nat} {u : Value} (hlt : b < w.heap.size) (hne : some b ≠ v.ownBlock) (hc : w.cell? ⟨b, o, none⟩ = some u) : w'.cell? ⟨b, o, none⟩ = some u :=
  (World.cell?_of_block (w := w) (w' := w') (a := ⟨b, o, none⟩) (h.gr.block b hlt hne)).trans hc
theorem Gw.froz {w w' : World} {v v' : Value} (h : Gw w w' v v') {b o : Nat} {u : Bool} (hlt : b < w.heap.size) (hne : some b ≠ v.ownBlock) (hc : w.frozen? ⟨b, o, none⟩ = u) : w'.frozen? ⟨b, o, none⟩ = u :=
  (World.frozen?_of_block (w := w) (w' := w') (a := ⟨b, o, none⟩) (h.gr.block b hlt hne)).trans hc
theorem own_form {w : World} {base : Nat} {e : TypeId} {size : Nat} {v : Value} {n : Nat} {xs : List Value} (h : w.ownsRow base e size v n xs) : ∃ ao c, v = .slice ao n c ∧ n ≤ c ∧ c ≤ 9223372036854775807 := by
  rcases h.2 with ⟨h1, h2⟩ | ⟨g, cap, cur, h1, h2, h3, h4, hm, rest⟩
  · subst h2; exact ⟨none, 0, h1, by omega, by omega⟩
  · exact ⟨_, cap, h1, h4, by unfold maxLen at hm; omega⟩
/-- append(s, x) where s is one's own row of elements of one cell. -/
theorem wpList_append_1 (t e : TypeId) (z : Value) (by' : Nat) (hu : Try.prog.underlying t = some (.slice e)) (hinf : (Try.prog.info? e).map (fun i => (i.zero, i.size, i.bytes)) = some (some z, 1, by')) (hzc : z.cells.size = 1) (hby : by' ≤ 24)
    {w : World} {ops : Array Oper} {rest : List Oper} {o : Oper} {a : Act} {Q : Exit → Act → World → Prop} (hgd : o.guard = none) (s y : Operand)
    (ho : o.op = .call { callee := .builtin .append, args := #[s, y], argTypes := #[t, t] })
    (base : Nat) (v : Value) (n : Nat) (xs : List Value) (hs : a.eval s = v) (hown : w.ownsRow base e 1 v n xs)
    (g : Nat) (x : Value) (hx : a.eval y = .slice (some ⟨g, 0, none⟩) 1 1) (hc : w.cell? ⟨g, 0, none⟩ = some x) (hx1 : x.oneCell' = true)
    (h63 : n ≤ 4194304) (hbase : base ≤ w.heap.size)
    (h : ∀ v' w', w'.ownsRow base e 1 v' (n + 1) (xs ++ [x]) → Gw w w' v v' → wpList Try.prog ops Q rest (a.put o.dst v') w') :
    wpList Try.prog ops Q (o :: rest) a w := by
  obtain ⟨i, hi, hz, hz1, hz2⟩ := info_parts hinf
  have hbb : (n + 1) * by' ≤ 140737488355328 := Nat.le_trans (Nat.mul_le_mul_left _ hby) (by omega)
  refine wpList_append_own_at w hgd s y t ho base e i z 1 by' hu hi hz hz1 hz2 hzc (by omega) v n xs hs hown ⟨g, 0, none⟩ 1 1 [x] hx rfl ?_ ?_ (by unfold maxLen; omega) hbb hbase (fun v' w' k1 k2 _ k4 => h v' w' k1 ⟨k2, k4.imp id (fun e => ⟨_, e, Nat.le_refl _⟩)⟩)
  · intro j u hj
    match j, hj with
    | 0, hj => simp at hj; subst hj; simpa [Addr.add] using hc
  · intro u hu; simp at hu; subst hu; exact hx1
theorem infoFs : (Try.prog.info? 38).map (fun i => (i.zero, i.size, i.bytes)) = some (some (.slice none 0 0), 1, 24) := by kernel_rfl
/-- Blocks from base on that are not the row's own. -/
def Sc (base : Nat) (w : World) (v : Value) (b : Nat) : Prop := base ≤ b ∧ b < w.heap.size ∧ some b ≠ v.ownBlock
/-- One slice of floats: of its words this can be told. -/
structure Sl (w : World) (S : Nat → Prop) (x : Value) (r : List (Option Nat)) : Prop where
  ex : ∃ (g : List Nat) (ao : Option Addr) (c : Nat), x = .slice ao g.length c ∧ g.length ≤ c ∧ c ≤ 9223372036854775807 ∧ (ao = none → c = 0) ∧ abs g = r ∧ IL w S ao g
theorem Sl.keep {w w' : World} {S S' : Nat → Prop} {x : Value} {r : List (Option Nat)} (h : Sl w S x r) (hk : ∀ b, S b → b < w.heap.size → w'.heap[b]? = w.heap[b]?) (hz : w.heap.size ≤ w'.heap.size) (hs : ∀ b, S b → b < w.heap.size → S' b) : Sl w' S' x r := by
  obtain ⟨g, ao, c, h1, h2, h3, h4, h5, h6⟩ := h.ex
  exact ⟨⟨g, ao, c, h1, h2, h3, h4, h5, h6.keep hk hz hs⟩⟩
/-- All that came of pieces. -/
structure TO (w : World) (base : Nat) (v : Value) (R : List (List (Option Nat))) : Prop where
  ex : ∃ Vs : List Value, w.ownsRow base 38 1 v R.length Vs ∧ Vs.length = R.length ∧ ∀ (j : Nat) r, R[j]? = some r → ∃ x, Vs[j]? = some x ∧ Sl w (Sc base w v) x r
theorem TO.nil (w : World) (base : Nat) : TO w base (.slice none 0 0) [] := ⟨⟨[], World.ownsRow_nil _ _ _ _, rfl, fun j r h => by simp at h⟩⟩
theorem TO.form {w : World} {base : Nat} {v : Value} {R : List (List (Option Nat))} (h : TO w base v R) : ∃ ao c, v = .slice ao R.length c ∧ R.length ≤ c ∧ c ≤ 9223372036854775807 := by
  obtain ⟨Vs, h1, _⟩ := h.ex
  exact own_form h1
theorem TO.step {w w' : World} {base : Nat} {v : Value} {R : List (List (Option Nat))} (h : TO w base v R) (hk : ∀ j, base ≤ j → j < w.heap.size → w'.heap[j]? = w.heap[j]?) (hz : w.heap.size ≤ w'.heap.size) : TO w' base v R := by
  obtain ⟨Vs, h1, h2, h3⟩ := h.ex
  refine ⟨⟨Vs, own_step h1 (fun k hk' => hk k (own_block h1 k hk') (own_lt h1 k hk')), h2, fun j r hj => ?_⟩⟩
  obtain ⟨x, g1, g2⟩ := h3 j r hj
  exact ⟨x, g1, g2.keep (fun b hb hl => hk b hb.1 hl) hz (fun b hb hl => ⟨hb.1, by omega, hb.2.2⟩)⟩
/-- One more piece is appended: w1 is w with blocks more. -/
theorem TO.put {w w1 w2 : World} {base : Nat} {v v' x : Value} {R : List (List (Option Nat))} {r : List (Option Nat)} (Vs : List Value) (hV : Vs.length = R.length) (h3 : ∀ (j : Nat) r, R[j]? = some r → ∃ x, Vs[j]? = some x ∧ Sl w (Sc base w v) x r)
    (hb1 : Below w.heap.size w w1) (g1 : Gw w1 w2 v v') (o1 : w2.ownsRow base 38 1 v' (R.length + 1) (Vs ++ [x])) (hx : Sl w (Sc base w v) x r) : TO w2 base v' (R ++ [r]) := by
  have z1 := hb1.size; have z2 := g1.gr.size
  have hkeep : ∀ b, Sc base w v b → b < w.heap.size → w2.heap[b]? = w.heap[b]? := fun b hb l => by
    rw [g1.gr.block b (by omega) hb.2.2, hb1.block b l]
  have hS : ∀ b, Sc base w v b → b < w.heap.size → Sc base w2 v' b := fun b hb l => by
    refine ⟨hb.1, by omega, ?_⟩
    rcases g1.ob with q | ⟨k, q, hk⟩
    · rw [q]; exact hb.2.2
    · rw [q]; intro q2; simp at q2; omega
  refine ⟨⟨Vs ++ [x], ?_, by simp [hV], fun j q hj => ?_⟩⟩
  · have e : (R ++ [r]).length = R.length + 1 := by simp
    rw [e]; exact o1
  · by_cases c : j < R.length
    · rw [List.getElem?_append_left c] at hj
      obtain ⟨y, y1, y2⟩ := h3 j q hj
      exact ⟨y, by rw [List.getElem?_append_left (by omega)]; exact y1, y2.keep hkeep (by omega) hS⟩
    · have hjl : j < (R ++ [r]).length := (List.getElem?_eq_some_iff.1 hj).1
      simp at hjl
      obtain rfl : j = R.length := by omega
      rw [List.getElem?_append_right (Nat.le_refl _)] at hj
      simp at hj
      subst hj
      exact ⟨x, by rw [← hV]; simp, hx.keep hkeep (by omega) hS⟩
/-- Pieces in memory, below block N. -/
structure PL (w : World) (N : Nat) (ao : Option Addr) (ps : List (List Nat)) : Prop where
  at' : 0 < ps.length → ∃ b off, ao = some ⟨b, off, none⟩ ∧ b < N ∧ ∀ (j : Nat) p, ps[j]? = some p → ∃ a c, w.cell? ⟨b, off + j, none⟩ = some (.slice a p.length c) ∧ p.length ≤ c ∧ c ≤ 9223372036854775807 ∧ (a = none → c = 0) ∧ IL w (fun k => k < N) a p
theorem PL.keep {w w' : World} {N : Nat} {ao : Option Addr} {ps : List (List Nat)} (h : PL w N ao ps) (hN : N ≤ w.heap.size) (hk : ∀ b, b < N → w'.heap[b]? = w.heap[b]?) (hz : w.heap.size ≤ w'.heap.size) : PL w' N ao ps := ⟨fun hn => by
  obtain ⟨b, off, h1, h2, h3⟩ := h.at' hn
  refine ⟨b, off, h1, h2, fun j p hj => ?_⟩
  obtain ⟨a, c, g1, g2, g3, g4, g5⟩ := h3 j p hj
  exact ⟨a, c, (World.cell?_of_block (w := w) (w' := w') (a := ⟨b, off + j, none⟩) (hk b h2)).trans g1, g2, g3, g4, g5.keep (fun b hb _ => hk b hb) hz (fun _ h _ => h)⟩⟩
end Go.Proofs.Ytjpcebnbkdekkaa.Fi

/- What Strain comes to. -/
namespace Go.Proofs.Ytjpcebnbkdekkaa.Fi
open Go.RowKit Go.Maps Go.Sort Fl
set_option linter.unusedSimpArgs false
set_option linter.unusedVariables false

/-- What Strain answers. -/
structure SnQ (w : World) (c : Cf) (ps : List (List Nat)) (r : Int) (e : Ending) (w' : World) : Prop where
  b : Below w.heap.size w w'
  bad : inC c = false → e = .returned (.tuple #[.slice none 0 0, .int .i64 3])
  ok : inC c = true → ∃ v base, e = .returned (.tuple #[v, .int .i64 0]) ∧ w.heap.size ≤ base ∧ TO w' base v (strn c r 0 rest0 ps)
/-- Run, as Strain asks it. -/
theorem Run_of (c : Cf) (s : St) (b N base : Nat) (v : Value) (l : List Nat) (ao : Option Addr) (cp : Nat) (w : World) (hF : FL w b c s) (hL : IL w (fun k => k < N) ao l) (hN : N ≤ b) (hb : b < base) (hbz : base ≤ w.heap.size) (hv : ∀ k, v.ownBlock = some k → k < w.heap.size) (hc : l.length ≤ cp) (hcm : cp ≤ 9223372036854775807) (hl : l.length ≤ 17592186044416) :
    Calls Try.prog 98 #[.pointer (some ⟨b, 0, none⟩), .slice ao l.length cp] w fun e w' => e = .returned (.slice (some ⟨w.heap.size, 0, none⟩) l.length l.length) ∧ Hid (Sl w' (Sc base w' v) (.slice (some ⟨w.heap.size, 0, none⟩) l.length l.length) (outs c s (abs l))) ∧ Hid (FL w' b c (sts c s (abs l))) ∧ Kn w b w.heap.size w' ∧ w.heap.size < w'.heap.size := by
  refine (Run_any c s b (fun k => k < N) l ao cp w hF hL (fun k hk => by omega) hc hcm hl).mono ?_
  intro e w' h
  obtain ⟨g, g1, g2, g3, g4⟩ := h.fr
  refine ⟨h.ex, ⟨⟨g, some ⟨w.heap.size, 0, none⟩, l.length, by rw [g1], by omega, by omega, fun q => (by cases q), g2, ⟨fun hn => ⟨w.heap.size, 0, rfl, h.z, ⟨by omega, h.z, fun q => ?_⟩, fun j x hj => ?_⟩⟩⟩⟩, h.v, h.k, h.z⟩
  · have := hv _ q.symm; omega
  · have hjl : j < g.length := (List.getElem?_eq_some_iff.1 hj).1
    refine ⟨?_, g3 x (List.mem_of_getElem? hj)⟩
    rw [Nat.zero_add, World.rowIs.cell g4 (by omega)]
    show some (Value.float .f64 (g.getD j 0)) = _
    rw [List.getD_eq_getElem?_getD, hj]; rfl
end Go.Proofs.Ytjpcebnbkdekkaa.Fi
