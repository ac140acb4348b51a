/- MixOrder, for its cut: a row of lists whose numbers lie in blocks of S. -/
import Derived.Test.YtdlcnbfiklbiiaaMx18
import Derived.Test.YtdlcnbfiklbiiaaRFloatC
namespace Go.Proofs.Ytdlcnbfiklbiiaa.Mx
open Go.RowKit Go.Maps Go.Sort
set_option linter.unusedVariables false
set_option linter.unusedSimpArgs false

/-- Lists in a row of one's own, their numbers in blocks of S. -/
structure VS (w : World) (base : Nat) (S : Nat → Prop) (v : Value) (ps : List (List Int)) (Vs : List Value) : Prop where
  own : w.ownsRow base 23 1 v ps.length Vs
  len : Vs.length = ps.length
  el : ∀ (j : Nat) p, ps[j]? = some p → ∃ a c, Vs[j]? = some (.slice a p.length c) ∧ p.length ≤ c ∧ c ≤ 9223372036854775807 ∧ (a = none → c = 0) ∧ IL w S a p
theorem VS.keep {w w' : World} {base : Nat} {S S' : Nat → Prop} {v : Value} {ps : List (List Int)} {Vs : List Value} (h : VS w base S v ps Vs) (hk : ∀ j, v.ownBlock = some j → w'.heap[j]? = w.heap[j]?) (hS : ∀ b, S b → b < w.heap.size → w'.heap[b]? = w.heap[b]?) (hz : w.heap.size ≤ w'.heap.size) (hs : ∀ b, S b → b < w.heap.size → S' b) : VS w' base S' v ps Vs :=
  ⟨own_step h.own hk, h.len, fun j p hj => by
    obtain ⟨a, c, y1, y2, y3, y4, y5⟩ := h.el j p hj
    exact ⟨a, c, y1, y2, y3, y4, y5.keep hS hz hs⟩⟩
theorem VS.put {w w1 w2 : World} {base : Nat} {S : Nat → Prop} {v v' : Value} {ps : List (List Int)} {Vs : List Value} (h : VS w base S v ps Vs) (hb1 : Below w.heap.size w w1) (g1 : Gw w1 w2 v v') (hS : ∀ b, S b → b < w.heap.size → some b ≠ v.ownBlock)
    {a : Option Addr} {c : Nat} {p : List Int} (o1 : w2.ownsRow base 23 1 v' (ps.length + 1) (Vs ++ [.slice a p.length c])) (q1 : p.length ≤ c) (q2 : c ≤ 9223372036854775807) (q3 : a = none → c = 0) (q4 : IL w S a p) : VS w2 base S v' (ps ++ [p]) (Vs ++ [.slice a p.length c]) := by
  have z1 := hb1.size
  have z2 := g1.gr.size
  have hkeep : ∀ b, S b → b < w.heap.size → w2.heap[b]? = w.heap[b]? := fun b hb l => by
    rw [g1.gr.block b (by omega) (hS b hb l), hb1.block b l]
  refine ⟨?_, by simp [h.len], fun j q hj => ?_⟩
  · have e : (ps ++ [p]).length = ps.length + 1 := by simp
    rw [e]; exact o1
  · have hl := h.len
    by_cases cc : j < ps.length
    · rw [List.getElem?_append_left cc] at hj
      obtain ⟨a', c', y1, y2, y3, y4, y5⟩ := h.el j q hj
      exact ⟨a', c', by rw [List.getElem?_append_left (by omega)]; exact y1, y2, y3, y4, y5.keep hkeep (by omega) (fun _ h _ => h)⟩
    · have hjl : j < (ps ++ [p]).length := (List.getElem?_eq_some_iff.1 hj).1
      simp at hjl
      obtain rfl : j = ps.length := by omega
      rw [List.getElem?_append_right (Nat.le_refl _)] at hj
      simp at hj
      subst hj
      exact ⟨a, c, by rw [← hl]; simp, q1, q2, q3, q4.keep hkeep (by omega) (fun _ h _ => h)⟩
theorem VS.vo {w : World} {base : Nat} {S : Nat → Prop} {v : Value} {ps : List (List Int)} {Vs : List Value} (h : VS w base S v ps Vs) : VO w base w.heap.size v ps := by
  refine ⟨⟨Vs, h.own, h.len, fun j p hj => ?_⟩⟩
  obtain ⟨a, c, y1, y2, y3, y4, y5⟩ := h.el j p hj
  exact ⟨a, c, y1, y2, y3, y4, y5.keep (fun _ _ _ => rfl) (Nat.le_refl _) (fun b _ hl => hl)⟩
theorem VS.set0 {w : World} {base : Nat} {S : Nat → Prop} {g n cap : Nat} {ps : List (List Int)} {Vs : List Value} (h : VS w base S (.slice (some ⟨g, 0, none⟩) n cap) ps Vs) (hn : ps.length = n) (j : Nat) (hj : j < n) {a : Option Addr} {c m : Nat} {p : List Int} (hm : p.length = m) (q1 : m ≤ c) (q2 : c ≤ 9223372036854775807) (q3 : a = none → c = 0) (q4 : IL w S a p) (hS : ∀ b, S b → b < w.heap.size → b ≠ g) :
    VS (w.setCell ⟨g, j, none⟩ (.slice a m c)) base S (.slice (some ⟨g, 0, none⟩) n cap) (ps.set j p) (Vs.set j (.slice a m c)) := by
  subst hm
  have h1 := h.own
  rw [hn] at h1
  have hl := h.len
  have hk : ∀ b, S b → b < w.heap.size → (w.setCell ⟨g, j, none⟩ (.slice a p.length c)).heap[b]? = w.heap[b]? := fun b hb hl => Below.heap_setCell _ _ _ _ (by show b ≠ g; exact hS b hb hl)
  have hz : w.heap.size ≤ (w.setCell ⟨g, j, none⟩ (.slice a p.length c)).heap.size := by simp [World.setCell]
  refine ⟨by rw [List.length_set, hn]; exact (World.ownsRow.stored h1 j _).1, by simp [hl], fun i q hi => ?_⟩
  by_cases e : j = i
  · subst e
    rw [List.getElem?_set_self (by omega)] at hi
    cases hi
    exact ⟨a, c, by rw [List.getElem?_set_self (by omega)], q1, q2, q3, q4.keep hk hz (fun _ h _ => h)⟩
  · rw [List.getElem?_set_ne e] at hi
    obtain ⟨a', c', y1, y2, y3, y4, y5⟩ := h.el i q hi
    exact ⟨a', c', by rw [List.getElem?_set_ne e]; exact y1, y2, y3, y4, y5.keep hk hz (fun _ h _ => h)⟩
/-- A row of one's own that isn't empty begins at its block's head. -/
theorem own_head {w : World} {base : Nat} {e : TypeId} {size : Nat} {b o n c : Nat} {xs : List Value} (h : w.ownsRow base e size (.slice (some ⟨b, o, none⟩) n c) n xs) : o = 0 ∧ base ≤ b := by
  rcases h.2 with ⟨q1, q2⟩ | ⟨g, cap, cur, q1, q2, _⟩
  · cases q1
  · cases q1; exact ⟨rfl, q2⟩
/-- A law of one operation, at a step of a drawn region. -/
theorem step_of_list {w : World} {ops : Array Oper} {o : Oper} {a : Act} {K : Act → World → Prop} {Q : Exit → Act → World → Prop} {E : Prop} (hg : o.guard = none)
    (h : ∀ K' : Exit → Act → World → Prop, (∀ a' w', K a' w' → K' .normal a' w') → wpList Try.prog ops K' [o] a w) : if Region.wanted o (yielded ops a.tmps) = true then Oper.wp Try.prog o a w K Q else E := by
  have h := h (fun ex a' w' => ex = .normal ∧ K a' w') (fun _ _ hk => ⟨rfl, hk⟩)
  have hw : Region.wanted o (yielded ops a.tmps) = true := by unfold Region.wanted; rw [hg]
  unfold wpList at h
  rw [if_pos hw] at h ⊢
  rcases h with h | ⟨_, _, _, q, _⟩
  · exact RF.wp_turn rfl rfl (fun _ _ _ hk => hk) (RF.wp_no (fun ex a w hq => hq.1) (Oper.wp_mono (fun a' w' hk => hk.2) h))
  · cases q
theorem step_copy_fr {w : World} {ops : Array Oper} {o : Oper} {a : Act} {K : Act → World → Prop} {Q : Exit → Act → World → Prop} {E : Prop} (hgd : o.guard = none) (d s : Operand)
    (ho : o.op = .call { callee := .builtin .copy, args := #[d, s], argTypes := #[23, 23] })
    (dp sp : Option Addr) (dLen dCap sLen sCap : Nat) (hd : a.eval d = .slice dp dLen dCap) (hs : a.eval s = .slice sp sLen sCap)
    (g off M : Nat) (f : Nat → Int) (hF : FR w g M f) (cs : List Int) (hn : cs.length = Nat.min sLen dLen)
    (hpos : 0 < cs.length → dp = some ⟨g, off, none⟩ ∧ ∃ b o2, sp = some ⟨b, o2, none⟩ ∧ ∀ (j : Nat) x, cs[j]? = some x → w.cell? ⟨b, o2 + j, none⟩ = some (.int .i64 x)) (hfit : off + cs.length ≤ M)
    (h : ∀ w', Hid (FR w' g M (lay f off cs)) → Below g w w' → (∀ j, j ≠ g → w'.heap[j]? = w.heap[j]? ∨ w.heap.size ≤ j) → w'.heap.size = w.heap.size → K (a.put o.dst (goInt cs.length)) w') :
    if Region.wanted o (yielded ops a.tmps) = true then Oper.wp Try.prog o a w K Q else E :=
  step_of_list hgd (fun K' hK' => wpList_copy_fr hgd d s ho dp sp dLen dCap sLen sCap hd hs g off M f hF cs hn hpos hfit (fun w' h1 h2 h3 h4 => hK' _ _ (h w' h1 h2 h3 h4)))
end Go.Proofs.Ytdlcnbfiklbiiaa.Mx
