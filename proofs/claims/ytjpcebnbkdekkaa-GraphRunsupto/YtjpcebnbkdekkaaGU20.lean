/- At rest it is as new: the plain part. -/
import Derived.Test.YtjpcebnbkdekkaaGU19
import Derived.Test.YtjpcebnbkdekkaaGU14
import Derived.Test.YtjpcebnbkdekkaaGU8
namespace Go.Proofs.Ytjpcebnbkdekkaa.Gh
open Go.RowKit Go.Maps Go.Sort Fl
set_option linter.unusedVariables false
set_option linter.unusedSimpArgs false

/-- The three pieces. -/
def p3 (P : List (List Nat)) (nn mm m : Nat) : List Pc := [⟨P, nn, false⟩, ⟨List.replicate m (List.replicate mm 0), mm, false⟩, ⟨P, nn, true⟩]
/-- What comes in. -/
def i3 (g : Gr) (P : List (List Nat)) (nn : Nat) : Hist := fun q t => if er g P nn = 0 ∧ t < nn then ab ((P.getD q []).getD t 0) else some 0
theorem ab_zero : ab 0 = some 0 := by decide
theorem i3_in {g : Gr} {P : List (List Nat)} {nn q i : Nat} {l : List Nat} (he : er g P nn = 0) (hl : P[q]? = some l) (hi : i < nn) : i3 g P nn q i = ab (l.getD i 0) := by
  unfold i3
  rw [if_pos ⟨he, hi⟩]
  rw [show P.getD q [] = l by rw [List.getD_eq_getElem?_getD, hl]; rfl]
theorem rep_get {m mm q i : Nat} {l : List Nat} (hl : (List.replicate m (List.replicate mm 0))[q]? = some l) : l.getD i 0 = 0 := by
  rw [List.getElem?_replicate] at hl
  split at hl
  · cases hl
    rw [List.getD_eq_getElem?_getD, List.getElem?_replicate]
    split <;> rfl
  · cases hl
theorem p3_J (g : Gr) (P : List (List Nat)) (nn mm m : Nat) : ∀ k p, (p3 P nn mm m)[k]? = some p → er g p.ins p.n = 0 → ∀ (q : Nat) l, p.ins[q]? = some l → ∀ i, i < p.n.toNat → i3 g P nn q (t0 (tst g 0 ((p3 P nn mm m).take k)) p + i) = ab (l.getD i 0) := by
  intro k p hp he q l hl i hi
  match k, hp with
  | 0, hp =>
    cases hp
    have e : t0 (tst g 0 ((p3 P nn mm m).take 0)) ⟨P, nn, false⟩ + i = i := by show 0 + i = i; omega
    rw [e]
    exact i3_in he hl (by simpa using hi)
  | 1, hp =>
    cases hp
    rw [rep_get hl, ab_zero]
    unfold i3
    rw [if_neg]
    rintro ⟨e1, e2⟩
    have e3 : t0 (tst g 0 ((p3 P nn mm m).take 1)) ⟨List.replicate m (List.replicate mm 0), mm, false⟩ = nn := by
      show tnx g 0 ⟨P, nn, false⟩ = nn
      unfold tnx
      rw [if_pos e1]
      show 0 + (nn : Int).toNat = nn
      omega
    rw [e3] at e2
    omega
  | 2, hp =>
    cases hp
    have e : t0 (tst g 0 ((p3 P nn mm m).take 2)) ⟨P, nn, true⟩ + i = i := by show 0 + i = i; omega
    rw [e]
    exact i3_in he hl (by simpa using hi)
  | k + 3, hp => cases hp
/-- What is heard first, and last. -/
def h3 (g : Gr) (P : List (List Nat)) (nn : Nat) : List (List (Option Nat)) := if er g P nn = 0 then outR g (vl g (i3 g P nn)) 0 nn else []
theorem p3_r (g : Gr) (P : List (List Nat)) (nn mm m : Nat) : ∃ x, rsl g (fun _ => i3 g P nn) 0 0 (p3 P nn mm m) = [(h3 g P nn, er g P nn), x, (h3 g P nn, er g P nn)] := by
  refine ⟨(hrs g (vl g (i3 g P nn)) (tnx g 0 ⟨P, nn, false⟩) ⟨List.replicate m (List.replicate mm 0), mm, false⟩, er g (List.replicate m (List.replicate mm 0)) mm), ?_⟩
  rfl
theorem h3_len (g : Gr) (P : List (List Nat)) (nn : Nat) : ∀ (k : Nat) r, (h3 g P nn)[k]? = some r → r.length = nn := by
  intro k r hr
  unfold h3 at hr
  split at hr
  · unfold outR at hr
    rw [List.getElem?_map] at hr
    cases h : g.outs[k]? with
    | none => rw [h] at hr; cases hr
    | some o => rw [h] at hr; cases hr; simp
  · cases hr
end Go.Proofs.Ytjpcebnbkdekkaa.Gh

/- The sound is the same for any block size: the plain part. -/
namespace Go.Proofs.Ytjpcebnbkdekkaa.Gh
open Go.RowKit Go.Maps Go.Sort Fl
set_option linter.unusedVariables false
set_option linter.unusedSimpArgs false

/-- What comes in, cut. -/
def cut (P : List (List Nat)) (a c : Nat) : List (List Nat) := P.map (fun l => (l.drop a).take c)
/-- The pieces from a on. -/
def cps (P : List (List Nat)) : Nat → List Nat → List Pc
  | _, [] => []
  | a, c :: r => ⟨cut P a c, c, false⟩ :: cps P (a + c) r
theorem cut_fit {P : List (List Nat)} {n a c : Nat} (ins : Int) (hP : ∀ l ∈ P, l.length = n) (h : a + c ≤ n) : fitB ins (cut P a c) c = fitB ins P n := by
  unfold fitB cut
  rw [List.length_map, List.all_map]
  congr 1
  rw [show P.all (fun l => decide ((l.length : Int) = (n : Int))) = true from List.all_eq_true.2 (fun l hl => decide_eq_true (by rw [hP l hl]))]
  refine List.all_eq_true.2 (fun l hl => ?_)
  have := hP l hl
  show decide ((((l.drop a).take c).length : Int) = (c : Int)) = true
  rw [List.length_take, List.length_drop]
  exact decide_eq_true (by omega)
theorem cut_er {P : List (List Nat)} {n a c : Nat} (g : Gr) (hP : ∀ l ∈ P, l.length = n) (h : a + c ≤ n) (hn : n ≤ 65536) : er g (cut P a c) c = er g P n := by
  unfold er
  rw [if_neg (show ¬ ((c : Int) < 0 ∨ 65536 < (c : Int)) by omega), if_neg (show ¬ ((n : Int) < 0 ∨ 65536 < (n : Int)) by omega), cut_fit g.ins hP h]
/-- What comes in at each time. -/
def iB (P : List (List Nat)) : Hist := fun q t => ab ((P.getD q []).getD t 0)
theorem cut_get {P : List (List Nat)} {a c q i : Nat} {l : List Nat} (hl : (cut P a c)[q]? = some l) (hi : i < c) : iB P q (a + i) = ab (l.getD i 0) := by
  unfold cut at hl
  rw [List.getElem?_map] at hl
  cases h : P[q]? with
  | none => rw [h] at hl; cases hl
  | some l0 =>
    rw [h] at hl
    cases hl
    unfold iB
    rw [show P.getD q [] = l0 by rw [List.getD_eq_getElem?_getD, h]; rfl]
    rw [List.getD_eq_getElem?_getD, List.getD_eq_getElem?_getD, List.getElem?_take, if_pos hi, List.getElem?_drop]
theorem cps_len (P : List (List Nat)) : ∀ (a : Nat) (cs : List Nat), (cps P a cs).length = cs.length
  | a, [] => rfl
  | a, c :: r => by show (cps P (a + c) r).length + 1 = r.length + 1; rw [cps_len P (a + c) r]
theorem cps_at (P : List (List Nat)) : ∀ (a : Nat) (cs : List Nat) (k : Nat) p, (cps P a cs)[k]? = some p → ∃ c, cs[k]? = some c ∧ p = ⟨cut P (a + (cs.take k).sum) c, c, false⟩
  | a, [], k, p, h => by cases h
  | a, c :: r, 0, p, h => ⟨c, rfl, by cases h; simp⟩
  | a, c :: r, k + 1, p, h => by
    obtain ⟨c', h1, h2⟩ := cps_at P (a + c) r k p h
    refine ⟨c', h1, ?_⟩
    rw [h2]
    simp [Nat.add_assoc]
/-- The time ahead of piece k, where all fits. -/
theorem cps_tst {P : List (List Nat)} {n : Nat} (g : Gr) (hP : ∀ l ∈ P, l.length = n) (hn : n ≤ 65536) (he : er g P n = 0) : ∀ (cs : List Nat) (a k : Nat), a + cs.sum ≤ n → tst g a ((cps P a cs).take k) = a + (cs.take k).sum
  | [], a, k, h => by simp [cps, tst]
  | c :: r, a, 0, h => by simp [tst]
  | c :: r, a, k + 1, h => by
    rw [List.sum_cons] at h
    have e1 : tnx g a ⟨cut P a c, c, false⟩ = a + c := by
      unfold tnx
      rw [if_pos (by rw [cut_er g hP (by omega) hn]; exact he)]
      show a + (c : Int).toNat = a + c
      omega
    show tst g (tnx g a ⟨cut P a c, c, false⟩) ((cps P (a + c) r).take k) = _
    rw [e1, cps_tst g hP hn he r (a + c) k (by omega)]
    simp [Nat.add_assoc]
theorem cps_J {P : List (List Nat)} {n : Nat} (g : Gr) (hP : ∀ l ∈ P, l.length = n) (hn : n ≤ 65536) (cs : List Nat) (hs : cs.sum ≤ n) : ∀ k p, (cps P 0 cs)[k]? = some p → er g p.ins p.n = 0 → ∀ (q : Nat) l, p.ins[q]? = some l → ∀ i, i < p.n.toNat → iB P q (t0 (tst g 0 ((cps P 0 cs).take k)) p + i) = ab (l.getD i 0) := by
  intro k p hp he q l hl i hi
  obtain ⟨c, hc, rfl⟩ := cps_at P 0 cs k p hp
  have hk := (List.getElem?_eq_some_iff.1 hc).1
  have hsum : (cs.take k).sum + c ≤ cs.sum := by
    have e := List.take_append_drop k cs
    have e2 : cs.sum = (cs.take k).sum + (cs.drop k).sum := by rw [← List.sum_append, e]
    rw [List.drop_eq_getElem_cons hk, List.sum_cons] at e2
    have e3 : cs[k] = c := (List.getElem?_eq_some_iff.1 hc).2
    omega
  rw [Nat.zero_add] at hl he ⊢
  have he' : er g P n = 0 := by rw [← cut_er g hP (a := (cs.take k).sum) (c := c) (by omega) hn]; exact he
  have e : t0 (tst g 0 ((cps P 0 cs).take k)) ⟨cut P (cs.take k).sum c, c, false⟩ = (cs.take k).sum := by
    show tst g 0 ((cps P 0 cs).take k) = _
    rw [cps_tst g hP hn he' cs 0 k (by omega), Nat.zero_add]
  rw [e]
  exact cut_get hl (by simpa using hi)
/-- What is heard of all pieces, where all fits. -/
theorem cps_r {P : List (List Nat)} {n : Nat} (g : Gr) (hP : ∀ l ∈ P, l.length = n) (hn : n ≤ 65536) (he : er g P n = 0) (V : Hist) (J : Nat → Hist) (hV : ∀ k, vl g (J k) = V) : ∀ (cs : List Nat) (a k : Nat), a + cs.sum ≤ n → ∀ (j : Nat) r, (rsl g J k a (cps P a cs))[j]? = some r → ∃ c, cs[j]? = some c ∧ r = (outR g V (a + (cs.take j).sum) c, 0)
  | [], a, k, h, j, r, hj => by cases hj
  | c :: q, a, k, h, j, r, hj => by
    rw [List.sum_cons] at h
    have e0 : er g (cut P a c) c = 0 := by rw [cut_er g hP (by omega) hn]; exact he
    have e1 : tnx g a ⟨cut P a c, c, false⟩ = a + c := by
      unfold tnx
      rw [if_pos e0]
      show a + (c : Int).toNat = a + c
      omega
    have e2 : rsl g J k a (cps P a (c :: q)) = (outR g V a c, 0) :: rsl g J (k + 1) (a + c) (cps P (a + c) q) := by
      show (hrs g (vl g (J k)) a ⟨cut P a c, c, false⟩, er g (cut P a c) c) :: rsl g J (k + 1) (tnx g a ⟨cut P a c, c, false⟩) (cps P (a + c) q) = _
      rw [e1, e0, hV]
      unfold hrs
      rw [if_pos e0]
      rfl
    rw [e2] at hj
    cases j with
    | zero => cases hj; exact ⟨c, rfl, by simp⟩
    | succ j =>
      obtain ⟨c', h1, h2⟩ := cps_r g hP hn he V J hV q (a + c) (k + 1) (by omega) j r hj
      exact ⟨c', h1, by rw [h2]; simp [Nat.add_assoc]⟩
/-- Joined, it is the whole. -/
theorem outs_join (g : Gr) (V : Hist) (a c : Nat) (o : Int) : (List.range (a + c)).map (fun j => V o.toNat j) = (List.range a).map (fun j => V o.toNat j) ++ (List.range c).map (fun j => V o.toNat (a + j)) := by
  rw [List.range_add, List.map_append, List.map_map]
  rfl
end Go.Proofs.Ytjpcebnbkdekkaa.Gh

/- GraphBlocks: how the pieces lie while they are made. -/
namespace Go.Proofs.Ytjpcebnbkdekkaa.Gh
open Go.RowKit Go.Maps Go.Sort Fl
set_option linter.unusedVariables false
set_option linter.unusedSimpArgs false

/-- Lists of floats: their heads in a block of S, their floats below block N. -/
structure PQ (w : World) (S : Nat → Prop) (N : Nat) (ao : Option Addr) (ps : List (List Nat)) : Prop where
  at' : 0 < ps.length → ∃ b off, ao = some ⟨b, off, none⟩ ∧ S b ∧ b < w.heap.size ∧ ∀ (j : Nat) p, ps[j]? = some p → ∃ a c, w.cell? ⟨b, off + j, none⟩ = some (.slice a p.length c) ∧ p.length ≤ c ∧ c ≤ 9223372036854775807 ∧ (a = none → c = 0) ∧ Fi.IL w (fun k => k < N) a p
theorem PQ.keep {w w' : World} {S S' : Nat → Prop} {N : Nat} {ao : Option Addr} {ps : List (List Nat)} (h : PQ w S N ao ps) (hS : ∀ b, S b → b < w.heap.size → w'.heap[b]? = w.heap[b]?) (hN : ∀ b, b < N → b < w.heap.size → w'.heap[b]? = w.heap[b]?) (hz : w.heap.size ≤ w'.heap.size) (hs : ∀ b, S b → b < w.heap.size → S' b) : PQ w' S' N ao ps := ⟨fun hn => by
  obtain ⟨b, off, h1, h2, h3, h4⟩ := h.at' hn
  refine ⟨b, off, h1, hs b h2 h3, by omega, fun j p hj => ?_⟩
  obtain ⟨a, c, g1, g2, g3, g4, g5⟩ := h4 j p hj
  exact ⟨a, c, (World.cell?_of_block (w := w) (w' := w') (a := ⟨b, off + j, none⟩) (hS b h2 h3)).trans g1, g2, g3, g4, g5.keep hN hz (fun _ h _ => h)⟩⟩
theorem PQ.pl {w : World} {S : Nat → Prop} {N : Nat} {ao : Option Addr} {ps : List (List Nat)} (h : PQ w S N ao ps) (hN : N ≤ w.heap.size) : Fi.PL w w.heap.size ao ps := ⟨fun hn => by
  obtain ⟨b, off, h1, h2, h3, h4⟩ := h.at' hn
  refine ⟨b, off, h1, h3, fun j p hj => ?_⟩
  obtain ⟨a, c, g1, g2, g3, g4, g5⟩ := h4 j p hj
  exact ⟨a, c, g1, g2, g3, g4, g5.keep (fun _ _ _ => rfl) (Nat.le_refl _) (fun b hb _ => by omega)⟩⟩
theorem PQ.of {w : World} {base N : Nat} {v : Value} {ps : List (List Nat)} (h : Fi.VO w base N v ps) : ∃ ao c, v = .slice ao ps.length c ∧ ps.length ≤ c ∧ c ≤ 9223372036854775807 ∧ PQ w (fun b => base ≤ b) N ao ps := by
  obtain ⟨Vs, h1, h2, h3⟩ := h.ex
  rcases h1.2 with ⟨e1, e2⟩ | ⟨q, cap, cur, e1, e2, e3, e4, hm, rest⟩
  · exact ⟨none, 0, by rw [e1, e2], by omega, by omega, ⟨fun hn => by omega⟩⟩
  · refine ⟨some ⟨q, 0, none⟩, cap, e1, e4, by unfold maxLen at hm; omega, ⟨fun hn => ⟨q, 0, rfl, e2, (Array.getElem?_eq_some_iff.1 e3).1, fun j p hj => ?_⟩⟩⟩
    obtain ⟨a, c, y1, y2, y3, y4, y5⟩ := h3 j p hj
    subst e1
    have hjl : j < ps.length := (List.getElem?_eq_some_iff.1 hj).1
    exact ⟨a, c, by rw [Nat.zero_add, World.ownsRow.cellAt h1 j (by omega)]; exact y1, y2, y3, y4, y5⟩
/-- Pieces in a row of one's own. -/
structure PcO (w : World) (base N : Nat) (v : Value) (pcs : List Pc) : Prop where
  ex : ∃ Vs : List Value, w.ownsRow base 34 3 v pcs.length Vs ∧ Vs.length = pcs.length * 3 ∧ ∀ (j : Nat) p, pcs[j]? = some p → ∃ io ic, Vs[j * 3]? = some (.slice io p.ins.length ic) ∧ Vs[j * 3 + 1]? = some (.int .i64 p.n) ∧ Vs[j * 3 + 2]? = some (.bool p.rest) ∧ p.ins.length ≤ ic ∧ ic ≤ 9223372036854775807 ∧ PQ w (Fi.Sc base w v) N io p.ins
theorem PcO.nil (w : World) (base N : Nat) : PcO w base N (.slice none 0 0) [] := ⟨⟨[], World.ownsRow_nil _ _ _ _, rfl, fun j r h => by simp at h⟩⟩
theorem PcO.keep {w w' : World} {base N : Nat} {v : Value} {pcs : List Pc} (h : PcO w base N v pcs) (hN : N ≤ base) (hk : ∀ j, (base ≤ j ∨ j < N) → j < w.heap.size → w'.heap[j]? = w.heap[j]?) (hz : w.heap.size ≤ w'.heap.size) : PcO w' base N v pcs := by
  obtain ⟨Vs, h1, h2, h3⟩ := h.ex
  refine ⟨⟨Vs, Fi.own_step h1 (fun k hk' => hk k (.inl (Fi.own_block h1 k hk')) (Fi.own_lt h1 k hk')), h2, fun j p hj => ?_⟩⟩
  obtain ⟨io, ic, g1, g2, g3, g4, g5, g6⟩ := h3 j p hj
  exact ⟨io, ic, g1, g2, g3, g4, g5, g6.keep (fun b hb hl => hk b (.inl hb.1) hl) (fun b hb hl => hk b (.inr hb) hl) hz (fun b hb hl => ⟨hb.1, by omega, hb.2.2⟩)⟩
/-- One piece more: w1 is w with blocks more. -/
theorem PcO.put {w w1 w2 : World} {base N : Nat} {v v' : Value} {pcs : List Pc} {p : Pc} {io : Option Addr} {ic : Nat} (hNb : N ≤ base) (hbz : base ≤ w.heap.size) (Vs : List Value) (hV : Vs.length = pcs.length * 3) (hv : ∀ k, v.ownBlock = some k → base ≤ k) (h3 : ∀ (j : Nat) p, pcs[j]? = some p → ∃ io ic, Vs[j * 3]? = some (.slice io p.ins.length ic) ∧ Vs[j * 3 + 1]? = some (.int .i64 p.n) ∧ Vs[j * 3 + 2]? = some (.bool p.rest) ∧ p.ins.length ≤ ic ∧ ic ≤ 9223372036854775807 ∧ PQ w (Fi.Sc base w v) N io p.ins)
    (hb1 : Below w.heap.size w w1) (g1 : Fi.Gw w1 w2 v v') (o1 : w2.ownsRow base 34 3 v' (pcs.length + 1) (Vs ++ [.slice io p.ins.length ic, .int .i64 p.n, .bool p.rest])) (hx : PQ w1 (Fi.Sc base w1 v) N io p.ins) (hic : p.ins.length ≤ ic) (hicm : ic ≤ 9223372036854775807) : PcO w2 base N v' (pcs ++ [p]) := by
  have z1 := hb1.size; have z2 := g1.gr.size
  have hkN1 : ∀ b, b < N → b < w1.heap.size → w2.heap[b]? = w1.heap[b]? := fun b hb l => g1.gr.block b l (fun q => by have := hv b q.symm; omega)
  have hkN : ∀ b, b < N → b < w.heap.size → w2.heap[b]? = w.heap[b]? := fun b hb l => (hkN1 b hb (by omega)).trans (hb1.block b l)
  have hkeep : ∀ b, Fi.Sc base w v b → b < w.heap.size → w2.heap[b]? = w.heap[b]? := fun b hb l => by
    rw [g1.gr.block b (by omega) hb.2.2, hb1.block b l]
  have hS1 : ∀ b, Fi.Sc base w1 v b → b < w1.heap.size → Fi.Sc base w2 v' b := fun b hb l => by
    refine ⟨hb.1, by omega, ?_⟩
    rcases g1.ob with q | ⟨k, q, hk⟩
    · rw [q]; exact hb.2.2
    · rw [q]; intro q2; simp at q2; omega
  have hS : ∀ b, Fi.Sc base w v b → b < w.heap.size → Fi.Sc base w2 v' b := fun b hb l => hS1 b ⟨hb.1, by omega, hb.2.2⟩ (by omega)
  refine ⟨⟨Vs ++ [.slice io p.ins.length ic, .int .i64 p.n, .bool p.rest], ?_, by simp [hV]; omega, fun j q hj => ?_⟩⟩
  · have e : (pcs ++ [p]).length = pcs.length + 1 := by simp
    rw [e]; exact o1
  · by_cases c : j < pcs.length
    · rw [List.getElem?_append_left c] at hj
      obtain ⟨io', ic', y1, y2, y3, y4, y5, y6⟩ := h3 j q hj
      exact ⟨io', ic', by rw [List.getElem?_append_left (by omega)]; exact y1, by rw [List.getElem?_append_left (by omega)]; exact y2, by rw [List.getElem?_append_left (by omega)]; exact y3, y4, y5, y6.keep hkeep hkN (by omega) hS⟩
    · have hjl : j < (pcs ++ [p]).length := (List.getElem?_eq_some_iff.1 hj).1
      simp at hjl
      obtain rfl : j = pcs.length := by omega
      rw [List.getElem?_append_right (Nat.le_refl _)] at hj
      simp at hj
      subst hj
      refine ⟨io, ic, ?_, ?_, ?_, hic, hicm, hx.keep (fun b hb l => g1.gr.block b l hb.2.2) hkN1 z2 hS1⟩
      · rw [← hV]; simp
      · rw [List.getElem?_append_right (by omega), show pcs.length * 3 + 1 - Vs.length = 1 by omega]; rfl
      · rw [List.getElem?_append_right (by omega), show pcs.length * 3 + 2 - Vs.length = 2 by omega]; rfl
/-- The whole row, as pieces that are handed in. -/
theorem PcO.pcl {w : World} {base N : Nat} {v : Value} {pcs : List Pc} (h : PcO w base N v pcs) (hN : N ≤ w.heap.size) : ∃ po pc, v = .slice po pcs.length pc ∧ pcs.length ≤ pc ∧ pc ≤ 9223372036854775807 ∧ PcL w w.heap.size po pcs := by
  obtain ⟨Vs, h1, h2, h3⟩ := h.ex
  obtain ⟨ao, c, e1, e2, e3⟩ := Fi.own_form h1
  refine ⟨ao, c, e1, e2, e3, ⟨fun i p hp => ?_⟩⟩
  obtain ⟨io, ic, y1, y2, y3, y4, y5, y6⟩ := h3 i p hp
  have hi := (List.getElem?_eq_some_iff.1 hp).1
  rcases h1.2 with ⟨q1, q2⟩ | ⟨q, cap, cur, q1, q2, q3, q4, hm, rest⟩
  · omega
  · have e4 := e1
    rw [q1] at e4
    cases e4
    have hown := h1
    subst q1
    refine ⟨q, 0, io, ic, rfl, (Array.getElem?_eq_some_iff.1 q3).1, ?_, ?_, ?_, y4, y5, y6.pl hN⟩
    · rw [Nat.zero_add, World.ownsRow.cellAt hown (i * 3) (by omega)]; exact y1
    · rw [Nat.zero_add, World.ownsRow.cellAt hown (i * 3 + 1) (by omega)]; exact y2
    · rw [Nat.zero_add, World.ownsRow.cellAt hown (i * 3 + 2) (by omega)]; exact y3
theorem infoSd : (Try.prog.info? 34).map (fun i => (i.zero, i.size, i.bytes)) = some (some (.agg #[.slice none 0 0, .int .i64 0, .bool false]), 3, 40) := by kernel_rfl
/-- append(s, x) where s is one's own row of pieces. -/
theorem wpList_append_sd {w : World} {ops : Array Oper} {rest : List Oper} {o : Oper} {a : Act} {Q : Exit → Act → World → Prop} (hgd : o.guard = none) (s y : Operand)
    (ho : o.op = .call { callee := .builtin .append, args := #[s, y], argTypes := #[26, 26] })
    (base : Nat) (v : Value) (n : Nat) (xs : List Value) (hs : a.eval s = v) (hown : w.ownsRow base 34 3 v n xs)
    (g : Nat) (io : Option Addr) (il ic : Nat) (pn : Int) (pr : Bool) (hx : a.eval y = .slice (some ⟨g, 0, none⟩) 1 1) (h0 : w.cell? ⟨g, 0, none⟩ = some (.slice io il ic)) (h1 : w.cell? ⟨g, 1, none⟩ = some (.int .i64 pn)) (h2 : w.cell? ⟨g, 2, none⟩ = some (.bool pr))
    (h63 : n ≤ 4194304) (hbase : base ≤ w.heap.size)
    (h : ∀ v' w', w'.ownsRow base 34 3 v' (n + 1) (xs ++ [.slice io il ic, .int .i64 pn, .bool pr]) → Fi.Gw w w' v v' → wpList Try.prog ops Q rest (a.put o.dst v') w') :
    wpList Try.prog ops Q (o :: rest) a w := by
  obtain ⟨i, hi, hz, hz1, hz2⟩ := info_parts infoSd
  refine wpList_append_own_at w hgd s y 26 ho base 34 i _ 3 40 Try.underlying26 hi hz hz1 hz2 rfl (by omega) v n xs hs hown ⟨g, 0, none⟩ 1 1 [.slice io il ic, .int .i64 pn, .bool pr] hx rfl ?_ ?_ (by unfold maxLen; omega) (by omega) hbase (fun v' w' k1 k2 _ k4 => h v' w' k1 ⟨k2, k4.imp id (fun e => ⟨_, e, Nat.le_refl _⟩)⟩)
  · intro j u hj
    match j, hj with
    | 0, hj => simp at hj; subst hj; simpa [Addr.add] using h0
    | 1, hj => simp at hj; subst hj; simpa [Addr.add] using h1
    | 2, hj => simp at hj; subst hj; simpa [Addr.add] using h2
  · intro u hu
    simp at hu
    rcases hu with rfl | rfl | rfl <;> rfl
/-- append(s, x) at a step of a drawn region: lists of floats. -/
theorem step_append_s {w : World} {ops : Array Oper} {o : Oper} {a : Act} {K : Act → World → Prop} {Q : Exit → Act → World → Prop} {E : Prop} (hgd : o.guard = none) (s y : Operand)
    (ho : o.op = .call { callee := .builtin .append, args := #[s, y], argTypes := #[32, 32] })
    (base : Nat) (v : Value) (n : Nat) (xs : List Value) (hs : a.eval s = v) (hown : w.ownsRow base 38 1 v n xs)
    (g : Nat) (xa : Option Addr) (xl xc : Nat) (hx : a.eval y = .slice (some ⟨g, 0, none⟩) 1 1) (hc : w.cell? ⟨g, 0, none⟩ = some (.slice xa xl xc))
    (h63 : n < 5864062014805) (hbase : base ≤ w.heap.size)
    (h : ∀ v' w', w'.ownsRow base 38 1 v' (n + 1) (xs ++ [.slice xa xl xc]) → Fi.Gw w w' v v' → K (a.put o.dst v') w') :
    if Region.wanted o (yielded ops a.tmps) = true then Oper.wp Try.prog o a w K Q else E := by
  have hw : Region.wanted o (yielded ops a.tmps) = true := by simp [Region.wanted, hgd]
  rw [if_pos hw]
  obtain ⟨i, hi, hz, hz1, hz2⟩ := info_parts Fi.infoFs
  obtain ⟨v', w', hr, h2, h3, _, h5⟩ := run_append_own_at (P := Try.prog) w base 32 o.type 38 i (.slice none 0 0) 1 24 Try.underlying32 hi hz hz1 hz2 rfl (by omega) v n xs hown ⟨g, 0, none⟩ 1 1 [.slice xa xl xc] rfl (fun j u hj => by
    match j, hj with
    | 0, hj => simp at hj; subst hj; simpa [Addr.add] using hc) (fun u hu => by simp at hu; subst hu; rfl) (by unfold maxLen; omega) (by omega) hbase
  have hK := h v' w' h2 ⟨h3, h5.imp id (fun e => ⟨_, e, Nat.le_refl _⟩)⟩
  unfold Oper.wp execOp
  simp only [ho, resolve, invoke, builtin, Sem.run_bind, Sem.run_pure, Result.andThen_ok, List.map_toArray, List.map_cons, List.map_nil, hs, hx, hr]
  exact hK
end Go.Proofs.Ytjpcebnbkdekkaa.Gh

/- GraphBlocks: the cuts as the law takes them. -/
namespace Go.Proofs.Ytjpcebnbkdekkaa.Gh
open Go.RowKit Go.Maps Go.Sort Fl
set_option linter.unusedVariables false
set_option linter.unusedSimpArgs false

/-- A cut at place a of n: what is too great, or below nought, is all that is left. -/
def cc (n a : Nat) (c : Int) : Nat := if c < 0 ∨ ((n : Int) - (a : Int)) < c then n - a else c.toNat
theorem cc_le {n a : Nat} (c : Int) (h : a ≤ n) : a + cc n a c ≤ n := by
  unfold cc; split <;> omega
theorem cc_bad {n a : Nat} {c : Int} (h : a ≤ n) (hc : c < 0 ∨ ((n : Int) - (a : Int)) < c) : (cc n a c : Int) = (n : Int) - (a : Int) := by
  unfold cc; rw [if_pos hc]; omega
theorem cc_ok {n a : Nat} {c : Int} (h0 : 0 ≤ c) (h1 : c ≤ (n : Int) - (a : Int)) : (cc n a c : Int) = c := by
  unfold cc; rw [if_neg (by omega)]; omega
def acs (n : Nat) : Nat → List Int → List Nat
  | _, [] => []
  | a, c :: r => cc n a c :: acs n (a + cc n a c) r
theorem acs_len (n : Nat) : ∀ (a : Nat) (l : List Int), (acs n a l).length = l.length
  | a, [] => rfl
  | a, c :: r => by show (acs n _ r).length + 1 = r.length + 1; rw [acs_len]
theorem acs_sum (n : Nat) : ∀ (a : Nat) (l : List Int), a ≤ n → a + (acs n a l).sum ≤ n
  | a, [], h => by simpa [acs] using h
  | a, c :: r, h => by
    show a + (cc n a c :: acs n _ r).sum ≤ n
    rw [List.sum_cons]
    have := acs_sum n (a + cc n a c) r (cc_le c h)
    omega
theorem acs_all (n : Nat) : ∀ (a : Nat) (l : List Int), a ≤ n → a + (acs n a (l ++ [(n : Int)])).sum = n
  | a, [], h => by
    show a + (cc n a n :: []).sum = n
    unfold cc
    simp
    split <;> omega
  | a, c :: r, h => by
    show a + (cc n a c :: acs n _ (r ++ [(n : Int)])).sum = n
    rw [List.sum_cons]
    have := acs_all n (a + cc n a c) r (cc_le c h)
    omega
theorem acs_at (n : Nat) : ∀ (a : Nat) (l : List Int) (k : Nat) (c : Int), l[k]? = some c → (acs n a l)[k]? = some (cc n (a + ((acs n a l).take k).sum) c)
  | a, [], k, c, h => by cases h
  | a, d :: r, 0, c, h => by
    cases h
    show some (cc n a d) = _
    simp
  | a, d :: r, k + 1, c, h => by
    have := acs_at n (a + cc n a d) r k c h
    show (acs n (a + cc n a d) r)[k]? = some (cc n (a + (cc n a d :: (acs n _ r).take k).sum) c)
    rw [this, List.sum_cons, Nat.add_assoc]
theorem cps_app (P : List (List Nat)) : ∀ (a : Nat) (x y : List Nat), cps P a (x ++ y) = cps P a x ++ cps P (a + x.sum) y
  | a, [], y => by simp [cps]
  | a, c :: r, y => by
    show _ :: cps P (a + c) (r ++ y) = _ :: (cps P (a + c) r ++ _)
    rw [cps_app P (a + c) r y, List.sum_cons, Nat.add_assoc]
theorem cps_snoc (P : List (List Nat)) {cs : List Nat} {k c : Nat} (h : cs[k]? = some c) : cps P 0 (cs.take (k + 1)) = cps P 0 (cs.take k) ++ [⟨cut P (cs.take k).sum c, c, false⟩] := by
  rw [List.take_add_one, h, cps_app, Nat.zero_add]; rfl
theorem sum_snoc {cs : List Nat} {k c : Nat} (h : cs[k]? = some c) : (cs.take (k + 1)).sum = (cs.take k).sum + c := by
  rw [List.take_add_one, h, List.sum_append]; simp
theorem sum_take_le (cs : List Nat) (k : Nat) : (cs.take k).sum ≤ cs.sum := by
  have e : cs.sum = (cs.take k).sum + (cs.drop k).sum := by rw [← List.sum_append, List.take_append_drop]
  omega
/-- What is joined of the first pieces. -/
def jn (V : Hist) (o : Int) (n : Nat) : List (Option Nat) := (List.range n).map (fun j => V o.toNat j)
theorem jn_step (V : Hist) (o : Int) (a c : Nat) : jn V o (a + c) = jn V o a ++ (List.range c).map (fun j => V o.toNat (a + j)) := outs_join ⟨0, [], []⟩ V a c o
/-- What is heard at once. -/
theorem out_jn (g : Gr) (V : Hist) (n k : Nat) {o : Int} (h : g.outs[k]? = some o) : (outR g V 0 n)[k]? = some (jn V o n) := by
  unfold outR jn
  rw [List.getElem?_map, h]
  show some _ = some _
  congr 1
  refine List.map_congr_left (fun j _ => ?_)
  rw [Nat.zero_add]
theorem out_piece (g : Gr) (V : Hist) (a c k : Nat) {o : Int} (h : g.outs[k]? = some o) : (outR g V a c)[k]? = some ((List.range c).map (fun j => V o.toNat (a + j))) := by
  unfold outR
  rw [List.getElem?_map, h]
  rfl
/-- What came in is all as long: the first ones. -/
structure Ln (P : List (List Nat)) (k n : Nat) : Prop where
  z : k = 0 → n = 0
  l : ∀ (j : Nat) p, j < k → P[j]? = some p → p.length = n
  b : n ≤ 5000
theorem Ln.step {P : List (List Nat)} {k n : Nat} {p : List Nat} (h : Ln P k n) (hp : P[k]? = some p) (h1 : 0 < k → p.length = n) (h2 : p.length ≤ 5000) : Ln P (k + 1) p.length := by
  refine ⟨fun h => absurd h (by omega), fun j q hj hq => ?_, h2⟩
  by_cases c : j = k
  · subst c
    rw [hp] at hq
    cases hq
    rfl
  · rw [h.l j q (by omega) hq, h1 (by omega)]
theorem Ln.all {P : List (List Nat)} {m n : Nat} (h : Ln P m n) (hm : P.length = m) : ∀ l ∈ P, l.length = n := fun l hl => by
  obtain ⟨j, hj⟩ := List.getElem?_of_mem hl
  exact h.l j l (by have := (List.getElem?_eq_some_iff.1 hj).1; omega) hj
end Go.Proofs.Ytjpcebnbkdekkaa.Gh

/- In whatever order the nodes stand: what is wrong, and loops. -/
namespace Go.Proofs.Ytjpcebnbkdekkaa.Gh
open Go.RowKit Go.Maps Go.Sort Fl
set_option linter.unusedVariables false
set_option linter.unusedSimpArgs false

/-- s is an order of N nodes, τ tells where each stands then. -/
structure Pm (N : Nat) (s : List Nat) (τ : Nat → Nat) : Prop where
  len : s.length = N
  at' : ∀ i, i < N → τ i < N ∧ s[τ i]? = some i
  lt : ∀ x ∈ s, x < N
/-- The graph in that order. -/
def gp (g : Gr) (s : List Nat) (τ : Nat → Nat) : Gr := ⟨g.ins, s.map (fun i => pm τ (nd g i)), g.outs.map (fun o => (τ o.toNat : Int))⟩
theorem gp_nd {g : Gr} {s : List Nat} {τ : Nat → Nat} (h : Pm g.nodes.length s τ) {i : Nat} (hi : i < g.nodes.length) : nd (gp g s τ) (τ i) = pm τ (nd g i) := by
  show (s.map (fun i => pm τ (nd g i))).getD (τ i) nd0 = _
  rw [List.getD_eq_getElem?_getD, List.getElem?_map, (h.at' i hi).2]
  rfl
theorem gp_len {g : Gr} {s : List Nat} {τ : Nat → Nat} (h : Pm g.nodes.length s τ) : (gp g s τ).nodes.length = g.nodes.length := by
  show (s.map _).length = _
  rw [List.length_map, h.len]
theorem Pm.back {N : Nat} {s : List Nat} {τ : Nat → Nat} (h : Pm N s τ) {k i : Nat} (hk : s[k]? = some i) : i < N := h.lt i (List.mem_of_getElem? hk)
theorem eg_perm {g : Gr} {s : List Nat} {τ : Nat → Nat} (h : Pm g.nodes.length s τ) {i k : Nat} (hi : i < g.nodes.length) (e : Eg g i k) : Eg (gp g s τ) (τ i) (τ k) := by
  obtain ⟨x, hx, rfl⟩ := e
  refine ⟨(τ x.toNat : Int), ?_, by omega⟩
  rw [gp_nd h hi]
  unfold now at hx ⊢
  show _ ∈ (if (nd g i).kind = 6 then [] else (nd g i).frm.map (fun k => (τ k.toNat : Int)))
  split at hx
  · cases hx
  · rename_i c
    rw [if_neg c]
    exact List.mem_map.2 ⟨x, hx, rfl⟩
theorem rch_perm {g : Gr} {s : List Nat} {τ : Nat → Nat} (h : Pm g.nodes.length s τ) (hf : ∀ i, i < g.nodes.length → ∀ k ∈ (nd g i).frm, k.toNat < g.nodes.length) : ∀ (n i k : Nat), i < g.nodes.length → Rch g n i k → Rch (gp g s τ) n (τ i) (τ k)
  | 0, i, k, hi, e => eg_perm h hi e
  | n + 1, i, k, hi, ⟨c, e, r⟩ => by
    refine ⟨τ c, eg_perm h hi e, rch_perm h hf n c k ?_ r⟩
    obtain ⟨x, hx, rfl⟩ := e
    unfold now at hx
    split at hx
    · cases hx
    · exact hf i hi x hx
theorem cyc_perm {g : Gr} {s : List Nat} {τ : Nat → Nat} (h : Pm g.nodes.length s τ) (hf : ∀ i, i < g.nodes.length → ∀ k ∈ (nd g i).frm, k.toNat < g.nodes.length) (hc : Cyc g) : Cyc (gp g s τ) := by
  obtain ⟨n, i, hi, hr⟩ := hc
  exact ⟨n, τ i, by rw [gp_len h]; exact (h.at' i hi).1, rch_perm h hf n i i hi hr⟩
/-- .. and back. -/
theorem eg_back {g : Gr} {s : List Nat} {τ : Nat → Nat} (h : Pm g.nodes.length s τ) (hf : ∀ i, i < g.nodes.length → ∀ k ∈ (nd g i).frm, k.toNat < g.nodes.length) {i b : Nat} (hi : i < g.nodes.length) (e : Eg (gp g s τ) (τ i) b) : ∃ k, k < g.nodes.length ∧ b = τ k ∧ Eg g i k := by
  obtain ⟨x, hx, rfl⟩ := e
  rw [gp_nd h hi] at hx
  unfold now at hx
  have hk : (pm τ (nd g i)).kind = (nd g i).kind := rfl
  rw [hk] at hx
  split at hx
  · cases hx
  · rename_i c
    obtain ⟨y, hy, rfl⟩ := List.mem_map.1 hx
    exact ⟨y.toNat, hf i hi y hy, by omega, y, by unfold now; rw [if_neg c]; exact hy, rfl⟩
theorem Pm.inj {N : Nat} {s : List Nat} {τ : Nat → Nat} (h : Pm N s τ) {i k : Nat} (hi : i < N) (hk : k < N) (e : τ i = τ k) : i = k := by
  have a := (h.at' i hi).2
  rw [e, (h.at' k hk).2] at a
  cases a
  rfl
theorem rch_back {g : Gr} {s : List Nat} {τ : Nat → Nat} (h : Pm g.nodes.length s τ) (hf : ∀ i, i < g.nodes.length → ∀ k ∈ (nd g i).frm, k.toNat < g.nodes.length) : ∀ (n i k : Nat), i < g.nodes.length → k < g.nodes.length → Rch (gp g s τ) n (τ i) (τ k) → Rch g n i k
  | 0, i, k, hi, hk, e => by
    obtain ⟨k', h1, h2, h3⟩ := eg_back h hf hi e
    rw [h.inj hk h1 h2]
    exact h3
  | n + 1, i, k, hi, hk, ⟨c, e, r⟩ => by
    obtain ⟨c', h1, rfl, h3⟩ := eg_back h hf hi e
    exact ⟨c', h3, rch_back h hf n c' k h1 hk r⟩
/-- Every place is one's. -/
theorem Pm.onto {N : Nat} {s : List Nat} {τ : Nat → Nat} (h : Pm N s τ) (hs : ∀ k i, s[k]? = some i → τ i = k) {k : Nat} (hk : k < N) : ∃ i, i < N ∧ τ i = k := by
  obtain ⟨i, hi⟩ : ∃ i, s[k]? = some i := ⟨_, List.getElem?_eq_getElem (by rw [h.len]; exact hk)⟩
  exact ⟨i, h.back hi, hs k i hi⟩
theorem cyc_iff {g : Gr} {s : List Nat} {τ : Nat → Nat} (h : Pm g.nodes.length s τ) (hs : ∀ k i, s[k]? = some i → τ i = k) (hf : ∀ i, i < g.nodes.length → ∀ k ∈ (nd g i).frm, k.toNat < g.nodes.length) : Cyc (gp g s τ) ↔ Cyc g := by
  refine ⟨fun ⟨n, i, hi, hr⟩ => ?_, cyc_perm h hf⟩
  rw [gp_len h] at hi
  obtain ⟨j, hj, rfl⟩ := h.onto hs hi
  exact ⟨n, j, hj, rch_back h hf n j j hj hj hr⟩
end Go.Proofs.Ytjpcebnbkdekkaa.Gh

/- In whatever order the nodes stand: nothing is wrong with one where nothing is with the other. -/
namespace Go.Proofs.Ytjpcebnbkdekkaa.Gh
open Go.RowKit Go.Maps Go.Sort Fl
set_option linter.unusedVariables false
set_option linter.unusedSimpArgs false

theorem belB_mem {most : Int} {l : List Int} (h : ∀ x ∈ l, 0 ≤ x ∧ x < most) : belB most l = true := belB_yes (fun k x hx => h x (List.mem_of_getElem? hx))
theorem wn_perm {N : Nat} {ins : Int} {τ : Nat → Nat} {d : Nd} (hf : ∀ k ∈ d.frm, 0 ≤ k ∧ k < (N : Int)) (hτ : ∀ i, i < N → τ i < N) : wn N ins (pm τ d) = wn N ins d := by
  have e1 : belB N d.frm = true := belB_mem hf
  have e2 : belB N (pm τ d).frm = true := belB_mem (fun x hx => by
    obtain ⟨y, hy, rfl⟩ := List.mem_map.1 hx
    have := hf y hy
    have := hτ y.toNat (by omega)
    omega)
  have e3 : (pm τ d).frm.length = d.frm.length := List.length_map _
  have e4 : wr1 N ins (pm τ d) = wr1 N ins d := by
    unfold wr1
    rw [e1, e2, e3]
    rfl
  unfold wn
  rw [e4]
  rfl
theorem ne0_iff (g : Gr) (hu : ∀ o ∈ g.outs, 0 ≤ o ∧ o < (g.nodes.length : Int)) : ne0 g = 0 ↔ ¬ (256 < g.nodes.length ∨ 256 < g.outs.length ∨ g.ins < 0 ∨ 16 < g.ins) ∧ ∀ d ∈ g.nodes, wn g.nodes.length g.ins d = 0 := by
  have e1 : belB g.nodes.length g.outs = true := belB_mem hu
  unfold ne0
  by_cases c : 256 < g.nodes.length ∨ 256 < g.outs.length ∨ g.ins < 0 ∨ 16 < g.ins
  · rw [if_pos c]
    exact ⟨fun h => by omega, fun h => absurd c h.1⟩
  · rw [if_neg c]
    by_cases d : wns g.nodes.length g.ins g.nodes = 0
    · rw [if_pos d, if_pos e1]
      exact ⟨fun _ => ⟨c, wns_is d⟩, fun _ => rfl⟩
    · rw [if_neg d]
      exact ⟨fun h => absurd h d, fun h => wns_zero h.2⟩
theorem ne0_perm {g : Gr} {s : List Nat} {τ : Nat → Nat} (h : Pm g.nodes.length s τ) (hf : ∀ i, i < g.nodes.length → ∀ k ∈ (nd g i).frm, 0 ≤ k ∧ k < (g.nodes.length : Int)) (hu : ∀ o ∈ g.outs, 0 ≤ o ∧ o < (g.nodes.length : Int)) : ne0 (gp g s τ) = 0 ↔ ne0 g = 0 := by
  have hτ : ∀ i, i < g.nodes.length → τ i < g.nodes.length := fun i hi => (h.at' i hi).1
  have hu' : ∀ o ∈ (gp g s τ).outs, 0 ≤ o ∧ o < ((gp g s τ).nodes.length : Int) := fun o ho => by
    obtain ⟨y, hy, rfl⟩ := List.mem_map.1 ho
    rw [gp_len h]
    have := hu y hy
    have := hτ y.toNat (by omega)
    omega
  have hol : (gp g s τ).outs.length = g.outs.length := List.length_map _
  rw [ne0_iff _ hu', ne0_iff _ hu, gp_len h, hol]
  show _ ∧ (∀ d ∈ s.map (fun i => pm τ (nd g i)), wn g.nodes.length g.ins d = 0) ↔ _
  refine and_congr Iff.rfl ⟨fun q d hd => ?_, fun q d hd => ?_⟩
  · obtain ⟨i, hi⟩ := List.getElem?_of_mem hd
    have hil := (List.getElem?_eq_some_iff.1 hi).1
    have e : nd g i = d := by unfold nd; rw [List.getD_eq_getElem?_getD, hi]; rfl
    have := q (pm τ (nd g i)) (List.mem_map.2 ⟨i, List.mem_of_getElem? (h.at' i hil).2, rfl⟩)
    rw [wn_perm (hf i hil) hτ, e] at this
    exact this
  · obtain ⟨i, hi, rfl⟩ := List.mem_map.1 hd
    have hil := h.lt i hi
    rw [wn_perm (hf i hil) hτ]
    refine q _ ?_
    unfold nd
    rw [List.getD_eq_getElem?_getD, List.getElem?_eq_getElem hil]
    exact List.getElem_mem hil
/-- What is heard is one. -/
theorem outR_perm {g : Gr} {s : List Nat} {τ : Nat → Nat} (h : Pm g.nodes.length s τ) (hw : ne0 g = 0) (I : Hist) (hm : ∀ i, i < g.nodes.length → many (nd g i)) (hf : ∀ i, i < g.nodes.length → ∀ k ∈ (nd g i).frm, 0 ≤ k ∧ k < (g.nodes.length : Int)) (hu : ∀ o ∈ g.outs, 0 ≤ o ∧ o < (g.nodes.length : Int)) (T n : Nat) : outR (gp g s τ) (vl (gp g s τ) I) T n = outR g (vl g I) T n := by
  unfold outR
  show (g.outs.map (fun o => (τ o.toNat : Int))).map _ = _
  rw [List.map_map]
  refine List.map_congr_left (fun o ho => ?_)
  have := hu o ho
  show (List.range n).map (fun j => vl (gp g s τ) I ((τ o.toNat : Int)).toNat (T + j)) = _
  refine List.map_congr_left (fun j _ => ?_)
  rw [Int.toNat_natCast]
  exact vl_perm I (gp_len h) (fun i hi => gp_nd h hi) hm (fun i hi k hk => by have := hf i hi k hk; omega) o.toNat (T + j) (by omega)
end Go.Proofs.Ytjpcebnbkdekkaa.Gh

/- In whatever order the nodes stand: how the other graph lies while it is made. -/
namespace Go.Proofs.Ytjpcebnbkdekkaa.Gh
open Go.RowKit Go.Maps Go.Sort Fl
set_option linter.unusedVariables false
set_option linter.unusedSimpArgs false

/-- What is told apart and has room for no more is all. -/
theorem pig : ∀ (N : Nat) (f : Nat → Nat), (∀ j, j < N → f j < N) → (∀ i j, i < N → j < N → f i = f j → i = j) → ∀ i, i < N → ∃ j, j < N ∧ f j = i
  | 0, f, h1, h2, i, hi => absurd hi (by omega)
  | N + 1, f, h1, h2, i, hi => by
    have hm := h1 N (by omega)
    have key : ∀ j, j < N → f j = N → f N < N := fun j hj e => by
      by_cases q : f N = N
      · have := h2 j N (by omega) (by omega) (by omega); omega
      · omega
    have ih := pig N (fun j => if f j = N then f N else f j) (fun j hj => by
      show (if f j = N then f N else f j) < N
      split
      · rename_i e; exact key j hj e
      · have := h1 j (by omega); omega) (fun a b ha hb e => by
      have e' : (if f a = N then f N else f a) = (if f b = N then f N else f b) := e
      split at e' <;> split at e'
      · exact h2 a b (by omega) (by omega) (by omega)
      · have := h2 N b (by omega) (by omega) e'; omega
      · have := h2 a N (by omega) (by omega) e'; omega
      · exact h2 a b (by omega) (by omega) e')
    by_cases c : i = f N
    · exact ⟨N, by omega, c.symm⟩
    by_cases d : i = N
    · obtain ⟨j, hj, e⟩ := ih (f N) (by omega)
      have e' : (if f j = N then f N else f j) = f N := e
      split at e'
      · exact ⟨j, by omega, by omega⟩
      · have := h2 j N (by omega) (by omega) e'; omega
    · obtain ⟨j, hj, e⟩ := ih i (by omega)
      have e' : (if f j = N then f N else f j) = i := e
      split at e'
      · omega
      · exact ⟨j, by omega, e'⟩
/-- The order as far as it is read: where each node stands then, which were seen. -/
structure Od (N : Nat) (ord : List Int) (k : Nat) (τ : Nat → Nat) (sn : Nat → Bool) : Prop where
  r : ∀ j x, j < k → ord[j]? = some x → ∃ i : Nat, x = i ∧ i < N ∧ τ i = j ∧ sn i = true
  s : ∀ i, i < N → sn i = true → τ i < k ∧ ord[τ i]? = some (i : Int)
theorem Od.nil (N : Nat) (ord : List Int) : Od N ord 0 (fun _ => 0) (fun _ => false) := ⟨fun j x h => absurd h (by omega), fun i _ h => by cases h⟩
theorem Od.step {N : Nat} {ord : List Int} {k : Nat} {τ : Nat → Nat} {sn : Nat → Bool} (h : Od N ord k τ sn) {i : Nat} (hi : i < N) (hk : ord[k]? = some (i : Int)) (hs : sn i = false) : Od N ord (k + 1) (fun j => if j = i then k else τ j) (fun j => if j = i then true else sn j) := by
  refine ⟨fun j x hj hx => ?_, fun j hj hsj => ?_⟩
  · by_cases c : j = k
    · subst c
      rw [hk] at hx
      cases hx
      exact ⟨i, rfl, hi, if_pos rfl, if_pos rfl⟩
    · obtain ⟨i', e1, e2, e3, e4⟩ := h.r j x (by omega) hx
      have hne : i' ≠ i := fun e => by subst e; rw [hs] at e4; cases e4
      exact ⟨i', e1, e2, by show (if i' = i then k else τ i') = j; rw [if_neg hne]; exact e3, by show (if i' = i then true else sn i') = true; rw [if_neg hne]; exact e4⟩
  · show (if j = i then k else τ j) < k + 1 ∧ ord[if j = i then k else τ j]? = some (j : Int)
    by_cases c : j = i
    · subst c
      rw [if_pos rfl]
      exact ⟨by omega, hk⟩
    · rw [if_neg c]
      have hsj' : (if j = i then true else sn j) = true := hsj
      rw [if_neg c] at hsj'
      have := h.s j hj hsj'
      exact ⟨by omega, this.2⟩
theorem Od.pm {N : Nat} {ord : List Int} {τ : Nat → Nat} {sn : Nat → Bool} (h : Od N ord N τ sn) (hl : ord.length = N) : Pm N (ord.map Int.toNat) τ ∧ (∀ k i, (ord.map Int.toNat)[k]? = some i → τ i = k) := by
  have hr : ∀ k i, (ord.map Int.toNat)[k]? = some i → i < N ∧ τ i = k ∧ sn i = true ∧ k < N := fun k i hk => by
    rw [List.getElem?_map] at hk
    cases e : ord[k]? with
    | none => rw [e] at hk; cases hk
    | some x =>
      rw [e] at hk
      have hkl : k < N := by have := (List.getElem?_eq_some_iff.1 e).1; omega
      obtain ⟨i', e1, e2, e3, e4⟩ := h.r k x hkl e
      subst e1
      cases hk
      exact ⟨e2, e3, e4, hkl⟩
  have hg : ∀ j, j < N → ∃ i, (ord.map Int.toNat)[j]? = some i := fun j hj => ⟨_, List.getElem?_eq_getElem (by rw [List.length_map, hl]; exact hj)⟩
  refine ⟨⟨by rw [List.length_map, hl], fun i hi => ?_, fun x hx => ?_⟩, fun k i hk => (hr k i hk).2.1⟩
  · obtain ⟨j, hj, e⟩ := pig N (fun j => (ord.map Int.toNat).getD j 0) (fun j hj => by
      obtain ⟨i, e⟩ := hg j hj
      show (ord.map Int.toNat).getD j 0 < N
      rw [List.getD_eq_getElem?_getD, e]
      exact (hr j i e).1) (fun a b ha hb e => by
      obtain ⟨i, e1⟩ := hg a ha
      obtain ⟨i2, e2⟩ := hg b hb
      have e' : (ord.map Int.toNat).getD a 0 = (ord.map Int.toNat).getD b 0 := e
      rw [List.getD_eq_getElem?_getD, List.getD_eq_getElem?_getD, e1, e2] at e'
      have e'' : i = i2 := e'
      subst e''
      rw [← (hr a i e1).2.1, ← (hr b i e2).2.1]) i hi
    obtain ⟨i', e1⟩ := hg j hj
    have e' : (ord.map Int.toNat).getD j 0 = i := e
    rw [List.getD_eq_getElem?_getD, e1] at e'
    have e'' : i' = i := e'
    subst e''
    obtain ⟨a1, a2, a3, a4⟩ := hr j i' e1
    rw [a2]
    exact ⟨a4, e1⟩
  · obtain ⟨j, hj⟩ := List.getElem?_of_mem hx
    exact (hr j x hj).1
/-- The two rows of the order. -/
structure T1 (w2 : World) (tb N : Nat) (τ : Nat → Nat) (sn : Nat → Bool) (ww : World) : Prop where
  t : ww.rowIs tb 3 N (fun i => .int .i64 (τ i : Nat))
  s : ww.rowIs (tb + 1) 4 N (fun i => .bool (sn i))
  z : ww.heap.size = tb + 2
  b : Below tb w2 ww
theorem T1.step {w2 ww : World} {tb N : Nat} {τ : Nat → Nat} {sn : Nat → Bool} (h : T1 w2 tb N τ sn ww) (i k : Nat) : T1 w2 tb N (fun j => if j = i then k else τ j) (fun j => if j = i then true else sn j) ((ww.setCell ⟨tb + 1, i, none⟩ (.bool true)).setCell ⟨tb, i, none⟩ (.int .i64 (k : Nat))) := by
  refine ⟨World.rowIs.congr (World.rowIs.set (World.rowIs.setOther h.t (by show tb ≠ tb + 1; omega) _) i _) (fun u _ => ?_), World.rowIs.congr (World.rowIs.setOther (World.rowIs.set h.s i _) (by show tb + 1 ≠ tb; omega) _) (fun u _ => ?_), by rw [World.size_setCell, World.size_setCell]; exact h.z, ?_⟩
  · by_cases c : u = i
    · rw [if_pos c]; show Value.int .i64 (k : Nat) = .int .i64 ((if u = i then k else τ u : Nat) : Int); rw [if_pos c]
    · rw [if_neg c]; show Value.int .i64 (τ u : Nat) = .int .i64 ((if u = i then k else τ u : Nat) : Int); rw [if_neg c]
  · by_cases c : u = i
    · rw [if_pos c, if_pos c]
    · rw [if_neg c, if_neg c]
  · exact (h.b.setCell (by show tb ≤ tb + 1; omega) _).setCell (by show tb ≤ tb; omega) _
/-- Nodes in a row of one's own; what they hear lies in blocks from base on. -/
structure NO (w : World) (base : Nat) (v : Value) (ds : List Nd) : Prop where
  ex : ∃ Vs : List Value, w.ownsRow base 53 16 v ds.length Vs ∧ Vs.length = ds.length * 16 ∧ ∀ (j : Nat) d, ds[j]? = some d → ∃ fo fc, (∀ (i : Nat) u, (nc d fo fc)[i]? = some u → Vs[j * 16 + i]? = some u) ∧ NA w (Fi.Sc base w v) d fo fc
theorem NO.nil (w : World) (base : Nat) : NO w base (.slice none 0 0) [] := ⟨⟨[], World.ownsRow_nil _ _ _ _, rfl, fun j r h => by simp at h⟩⟩
theorem NO.keep {w w' : World} {base : Nat} {v : Value} {ds : List Nd} (h : NO w base v ds) (hk : ∀ j, base ≤ j → j < w.heap.size → w'.heap[j]? = w.heap[j]?) (hz : w.heap.size ≤ w'.heap.size) : NO w' base v ds := by
  obtain ⟨Vs, h1, h2, h3⟩ := h.ex
  refine ⟨⟨Vs, Fi.own_step h1 (fun k hk' => hk k (Fi.own_block h1 k hk') (Fi.own_lt h1 k hk')), h2, fun j d hj => ?_⟩⟩
  obtain ⟨fo, fc, g1, g2⟩ := h3 j d hj
  exact ⟨fo, fc, g1, g2.keep (fun b hb hl => hk b hb.1 hl) hz (fun b hb hl => ⟨hb.1, by omega, hb.2.2⟩)⟩
/-- One node more: w1 is w with blocks more. -/
theorem NO.put {w w1 w2 : World} {base : Nat} {v v' : Value} {ds : List Nd} {d : Nd} {fo : Option Addr} {fc : Nat} (Vs : List Value) (hV : Vs.length = ds.length * 16) (h3 : ∀ (j : Nat) d, ds[j]? = some d → ∃ fo fc, (∀ (i : Nat) u, (nc d fo fc)[i]? = some u → Vs[j * 16 + i]? = some u) ∧ NA w (Fi.Sc base w v) d fo fc)
    (hb1 : Below w.heap.size w w1) (g1 : Fi.Gw w1 w2 v v') (o1 : w2.ownsRow base 53 16 v' (ds.length + 1) (Vs ++ (nc d fo fc).toList)) (hx : NA w1 (Fi.Sc base w1 v) d fo fc) : NO w2 base v' (ds ++ [d]) := by
  have z1 := hb1.size; have z2 := g1.gr.size
  have hkeep : ∀ b, Fi.Sc base w v b → b < w.heap.size → w2.heap[b]? = w.heap[b]? := fun b hb l => by
    rw [g1.gr.block b (by omega) hb.2.2, hb1.block b l]
  have hS1 : ∀ b, Fi.Sc base w1 v b → b < w1.heap.size → Fi.Sc base w2 v' b := fun b hb l => by
    refine ⟨hb.1, by omega, ?_⟩
    rcases g1.ob with q | ⟨k, q, hk⟩
    · rw [q]; exact hb.2.2
    · rw [q]; intro q2; simp at q2; omega
  have hS : ∀ b, Fi.Sc base w v b → b < w.heap.size → Fi.Sc base w2 v' b := fun b hb l => hS1 b ⟨hb.1, by omega, hb.2.2⟩ (by omega)
  refine ⟨⟨Vs ++ (nc d fo fc).toList, ?_, by simp [hV]; omega, fun j q hj => ?_⟩⟩
  · have e : (ds ++ [d]).length = ds.length + 1 := by simp
    rw [e]; exact o1
  · by_cases c : j < ds.length
    · rw [List.getElem?_append_left c] at hj
      obtain ⟨fo', fc', y1, y2⟩ := h3 j q hj
      refine ⟨fo', fc', fun i u hu => ?_, y2.keep hkeep (by omega) hS⟩
      have := y1 i u hu
      rw [List.getElem?_append_left (List.getElem?_eq_some_iff.1 this).1]; exact this
    · have hjl : j < (ds ++ [d]).length := (List.getElem?_eq_some_iff.1 hj).1
      simp at hjl
      obtain rfl : j = ds.length := by omega
      rw [List.getElem?_append_right (Nat.le_refl _)] at hj
      simp at hj
      subst hj
      refine ⟨fo, fc, fun i u hu => ?_, hx.keep (fun b hb l => g1.gr.block b l hb.2.2) z2 hS1⟩
      rw [← hV, List.getElem?_append_right (by omega), show Vs.length + i - Vs.length = i by omega, Array.getElem?_toList]
      exact hu
/-- The whole row, as nodes that are handed in. -/
theorem NO.ga {w : World} {base : Nat} {v : Value} {ds : List Nd} (h : NO w base v ds) : ∃ go gc, v = .slice go ds.length gc ∧ ds.length ≤ gc ∧ gc ≤ 9223372036854775807 ∧ GA w (fun b => b < w.heap.size) go ds := by
  obtain ⟨Vs, h1, h2, h3⟩ := h.ex
  obtain ⟨ao, c, e1, e2, e3⟩ := Fi.own_form h1
  refine ⟨ao, c, e1, e2, e3, ⟨fun i d hd => ?_⟩⟩
  obtain ⟨fo, fc, y1, y2⟩ := h3 i d hd
  have hi := (List.getElem?_eq_some_iff.1 hd).1
  rcases h1.2 with ⟨q1, q2⟩ | ⟨q, cap, cur, q1, q2, q3, q4, hm, rest⟩
  · omega
  · have e4 := e1
    rw [q1] at e4
    cases e4
    refine ⟨q, 0, fo, fc, rfl, (Array.getElem?_eq_some_iff.1 q3).1, (Array.getElem?_eq_some_iff.1 q3).1, fun j u hu => ?_, y2.keep (fun _ _ _ => rfl) (Nat.le_refl _) (fun b hb hl => hl)⟩
    have y := y1 j u hu
    have hown := h1
    subst q1
    have hjl := (List.getElem?_eq_some_iff.1 y).1
    rw [Nat.zero_add, World.ownsRow.cellAt hown (i * 16 + j) (by omega)]; exact y
theorem infoNd : (Try.prog.info? 53).map (fun i => (i.zero, i.size, i.bytes)) = some (some (.agg #[.int .i64 0, .slice none 0 0, .int .i64 0, .float .f64 0, .float .f64 0, .float .f64 0, .float .f64 0, .float .f64 0, .float .f64 0, .int .i64 0, .int .u32 0, .float .f64 0, .int .i64 0, .int .i64 0, .int .i64 0, .int .i64 0]), 16, 144) := by kernel_rfl
/-- append(s, x) where s is one's own row of nodes. -/
theorem wpList_append_nd {w : World} {ops : Array Oper} {rest : List Oper} {o : Oper} {a : Act} {Q : Exit → Act → World → Prop} (hgd : o.guard = none) (s y : Operand)
    (ho : o.op = .call { callee := .builtin .append, args := #[s, y], argTypes := #[22, 22] })
    (base : Nat) (v : Value) (n : Nat) (xs : List Value) (hs : a.eval s = v) (hown : w.ownsRow base 53 16 v n xs)
    (g : Nat) (d : Nd) (fo : Option Addr) (fc : Nat) (hx : a.eval y = .slice (some ⟨g, 0, none⟩) 1 1) (hc : ∀ (j : Nat) u, (nc d fo fc)[j]? = some u → w.cell? ⟨g, j, none⟩ = some u)
    (h63 : n < 977343669134) (hbase : base ≤ w.heap.size)
    (h : ∀ v' w', w'.ownsRow base 53 16 v' (n + 1) (xs ++ (nc d fo fc).toList) → Fi.Gw w w' v v' → wpList Try.prog ops Q rest (a.put o.dst v') w') :
    wpList Try.prog ops Q (o :: rest) a w := by
  obtain ⟨i, hi, hz, hz1, hz2⟩ := info_parts infoNd
  refine wpList_append_own_at w hgd s y 22 ho base 53 i _ 16 144 Try.underlying22 hi hz hz1 hz2 rfl (by omega) v n xs hs hown ⟨g, 0, none⟩ 1 1 (nc d fo fc).toList hx rfl ?_ ?_ (by unfold maxLen; omega) (by omega) hbase (fun v' w' k1 k2 _ k4 => h v' w' k1 ⟨k2, k4.imp id (fun e => ⟨_, e, Nat.le_refl _⟩)⟩)
  · intro j u hj
    have e6 : (⟨g, 0, none⟩ : Addr).add j = ⟨g, j, none⟩ := by unfold Addr.add; by_cases h : j = 0 <;> simp [h]
    rw [e6]
    exact hc j u (by rw [← Array.getElem?_toList]; exact hj)
  · intro u hu
    simp at hu
    rcases hu with rfl | rfl | rfl | rfl | rfl | rfl | rfl | rfl | rfl | rfl | rfl | rfl | rfl | rfl | rfl | rfl <;> rfl
/-- The same at a step of a drawn region: ints. -/
theorem step_append_i {w : World} {ops : Array Oper} {o : Oper} {a : Act} {K : Act → World → Prop} {Q : Exit → Act → World → Prop} {E : Prop} (hgd : o.guard = none) (s y : Operand)
    (ho : o.op = .call { callee := .builtin .append, args := #[s, y], argTypes := #[23, 23] })
    (base : Nat) (v : Value) (n : Nat) (xs : List Value) (hs : a.eval s = v) (hown : w.ownsRow base 3 1 v n xs)
    (g : Nat) (x : Int) (hx : a.eval y = .slice (some ⟨g, 0, none⟩) 1 1) (hc : w.cell? ⟨g, 0, none⟩ = some (.int .i64 x))
    (h63 : n < 17592186044416) (hbase : base ≤ w.heap.size)
    (h : ∀ v' w', w'.ownsRow base 3 1 v' (n + 1) (xs ++ [.int .i64 x]) → Fi.Gw w w' v v' → K (a.put o.dst v') w') :
    if Region.wanted o (yielded ops a.tmps) = true then Oper.wp Try.prog o a w K Q else E := by
  have hw : Region.wanted o (yielded ops a.tmps) = true := by simp [Region.wanted, hgd]
  rw [if_pos hw]
  obtain ⟨i, hi, hz, hz1, hz2⟩ := info_parts infoZ
  obtain ⟨v', w', hr, h2, h3, _, h5⟩ := run_append_own_at (P := Try.prog) w base 23 o.type 3 i (.int .i64 0) 1 8 Try.underlying23 hi hz hz1 hz2 rfl (by omega) v n xs hown ⟨g, 0, none⟩ 1 1 [.int .i64 x] rfl (fun j u hj => by
    match j, hj with
    | 0, hj => simp at hj; subst hj; simpa [Addr.add] using hc) (fun u hu => by simp at hu; subst hu; rfl) (by unfold maxLen; omega) (by omega) hbase
  have hK := h v' w' h2 ⟨h3, h5.imp id (fun e => ⟨_, e, Nat.le_refl _⟩)⟩
  unfold Oper.wp execOp
  simp only [ho, resolve, invoke, builtin, Sem.run_bind, Sem.run_pure, Result.andThen_ok, List.map_toArray, List.map_cons, List.map_nil, hs, hx, hr]
  exact hK
end Go.Proofs.Ytjpcebnbkdekkaa.Gh

/- GraphOrder, walked: rows while the other graph is made. -/
namespace Go.Proofs.Ytjpcebnbkdekkaa.Gh
open Go.RowKit Go.Maps Go.Sort Fl
set_option linter.unusedVariables false
set_option linter.unusedSimpArgs false

theorem infoBo : (Try.prog.info? 4).map (fun i => (i.zero, i.size, i.bytes)) = some (some (.bool false), 1, 1) := by kernel_rfl
/-- The other graph's own cells. -/
def hf (ins : Int) (a b : Value) : Nat → Value
  | 0 => .int .i64 ins
  | 1 => a
  | _ => b
/-- A node's cells, but for what it hears. -/
def xf (d : Nd) (v : Value) (i : Nat) : Value := if i = 1 then v else ((nc d none 0)[i]?).getD (.bool false)
/-- The nodes so far. -/
def dsk (g : Gr) (s : List Nat) (τ : Nat → Nat) (k : Nat) : List Nd := (s.take k).map (fun i => pm τ (nd g i))
theorem dsk_len {g : Gr} {s : List Nat} {τ : Nat → Nat} {k : Nat} (h : k ≤ s.length) : (dsk g s τ k).length = k := by
  unfold dsk; rw [List.length_map, List.length_take]; omega
theorem dsk_step {g : Gr} {s : List Nat} {τ : Nat → Nat} {k i : Nat} (h : s[k]? = some i) : dsk g s τ (k + 1) = dsk g s τ k ++ [pm τ (nd g i)] := by
  unfold dsk; rw [List.take_add_one, h, List.map_append]; rfl
theorem dsk_all {g : Gr} {s : List Nat} {τ : Nat → Nat} : dsk g s τ s.length = (gp g s τ).nodes := by
  unfold dsk; rw [List.take_of_length_le (Nat.le_refl _)]; rfl
structure L2 (w3 : World) (hb : Nat) (ins : Int) (ds : List Nd) (k : Nat) (ww : World) : Prop where
  v : ∃ go gc, ww.rowIs hb 25 3 (hf ins (.slice go k gc) (.slice none 0 0)) ∧ NO ww (hb + 1) (.slice go k gc) ds
  b : Below hb w3 ww
  z : hb + 1 ≤ ww.heap.size
structure L3 (w3 : World) (xk : Nat) (d : Nd) (τ : Nat → Nat) (j : Nat) (ww : World) : Prop where
  v : ∃ fo fc, ww.rowIs xk 53 16 (xf d (.slice fo j fc)) ∧ ww.ownsRow (xk + 1) 3 1 (.slice fo j fc) j (ils ((d.frm.take j).map (fun k => (τ k.toNat : Int))))
  b : Below xk w3 ww
  z : xk + 1 ≤ ww.heap.size
structure L4 (w5 : World) (hb : Nat) (ins : Int) (N : Nat) (go : Option Addr) (gc : Nat) (us : List Int) (j : Nat) (ww : World) : Prop where
  v : ∃ uo uc, ww.rowIs hb 25 3 (hf ins (.slice go N gc) (.slice uo j uc)) ∧ ww.ownsRow w5.heap.size 3 1 (.slice uo j uc) j (ils us)
  k : Kx (· = hb) w5 ww
theorem ils_snoc (l : List Int) (x : Int) : ils (l ++ [x]) = ils l ++ [.int .i64 x] := by unfold ils; rw [List.map_append]; rfl
/-- One more that a node hears. -/
theorem L3.push {w3 ww W w7 : World} {xk : Nat} {d : Nd} {τ : Nat → Nat} {j : Nat} {v v' : Value} {y : Int} (h : ww.rowIs xk 53 16 (xf d v)) (ho : ww.ownsRow (xk + 1) 3 1 v j (ils ((d.frm.take j).map (fun k => (τ k.toNat : Int))))) (hb0 : Below xk w3 ww) (hz : xk + 1 ≤ ww.heap.size) (hb : Below ww.heap.size ww W) (hg : Fi.Gw W w7 v v') (h7 : w7.ownsRow (xk + 1) 3 1 v' (j + 1) (ils ((d.frm.take j).map (fun k => (τ k.toNat : Int))) ++ [.int .i64 (τ y.toNat : Nat)])) (hy : d.frm[j]? = some y) : L3 w3 xk d τ (j + 1) (w7.setCell ⟨xk, 1, none⟩ v') := by
  have zb := hb.size
  have zg := hg.gr.size
  have hown := Fi.own_block ho
  have hkp : ∀ b, b < xk + 1 → w7.heap[b]? = ww.heap[b]? := fun b hb' => by
    rw [hg.gr.block b (by omega) (fun q => by have := hown b q.symm; omega), hb.block b (by omega)]
  obtain ⟨ao, c, rfl, _, _⟩ := Fi.own_form h7
  have hb7 : Below xk w3 w7 := by
    have hbW : Below xk w3 W := hb0.trans (hb.mono (by omega))
    exact hbW.trans (hg.bel (by omega) (fun k hk => by have := hown k hk; omega))
  refine ⟨⟨ao, c, ?_, ?_⟩, hb7.setCell (Nat.le_refl _) _, by rw [World.size_setCell]; omega⟩
  · refine World.rowIs.congr (World.rowIs.set (World.rowIs.of_block h (hkp xk (by omega))) 1 _) (fun u _ => ?_)
    unfold xf
    by_cases c : u = 1
    · rw [if_pos c, if_pos c]
    · rw [if_neg c, if_neg c, if_neg c]
  · have e : (d.frm.take (j + 1)).map (fun k => (τ k.toNat : Int)) = (d.frm.take j).map (fun k => (τ k.toNat : Int)) ++ [(τ y.toNat : Int)] := by rw [List.take_add_one, hy, List.map_append]; rfl
    rw [e, ils_snoc]
    exact Fi.own_step h7 (fun q hq => Below.heap_setCell _ _ _ _ (fun e => by
      have := Fi.own_block h7 q hq
      have e' : q = xk := e
      omega))
theorem L3.ils_z {w : World} {b : Nat} {v : Value} {l : List Int} (h : w.ownsRow b 3 1 v l.length (ils l)) : ∃ ao c, v = .slice ao l.length c ∧ l.length ≤ c ∧ c ≤ 9223372036854775807 ∧ (ao = none → c = 0) ∧ ZL w (fun k => b ≤ k ∧ k < w.heap.size) ao l := by
  obtain ⟨ao, c, a1, a2, a3, a4⟩ := own_ZL h
  refine ⟨ao, c, a1, a2, a3, fun hn => ?_, a4⟩
  rcases h.2 with ⟨q1, _⟩ | ⟨q, cap, cur, q1, _⟩
  · rw [a1] at q1; injection q1 with i1 i2 i3
  · rw [a1, hn] at q1; cases q1
/-- A node is done: it is put behind the others. -/
theorem L2.push {w3 w0 ww W w7 : World} {hb xk : Nat} {ins : Int} {g : Gr} {s : List Nat} {τ : Nat → Nat} {k i : Nat} {go : Option Addr} {gc : Nat} {v' : Value} {fo : Option Addr} {fc : Nat} (hk : k ≤ s.length) (hi : s[k]? = some i)
    (h : w0.rowIs hb 25 3 (hf ins (.slice go k gc) (.slice none 0 0))) (hN : NO w0 (hb + 1) (.slice go k gc) (dsk g s τ k)) (hb0 : Below hb w3 w0) (hz : hb + 1 ≤ w0.heap.size) (hxk : xk = w0.heap.size)
    (h3 : Below xk w0 ww) (hW : Below ww.heap.size ww W) (hNA : NA W (fun q => xk + 1 ≤ q ∧ q < ww.heap.size) (pm τ (nd g i)) fo fc) (Vs : List Value) (hVs : w0.ownsRow (hb + 1) 53 16 (.slice go k gc) k Vs) (hV : Vs.length = k * 16) (hq3 : ∀ (j : Nat) d, (dsk g s τ k)[j]? = some d → ∃ fo fc, (∀ (i : Nat) u, (nc d fo fc)[i]? = some u → Vs[j * 16 + i]? = some u) ∧ NA w0 (Fi.Sc (hb + 1) w0 (.slice go k gc)) d fo fc)
    (hg : Fi.Gw W w7 (.slice go k gc) v') (h7 : w7.ownsRow (hb + 1) 53 16 v' (k + 1) (Vs ++ (nc (pm τ (nd g i)) fo fc).toList)) : L2 w3 hb ins (dsk g s τ (k + 1)) (k + 1) (w7.setCell ⟨hb, 1, none⟩ v') := by
  subst hxk
  have z3 := h3.size
  have zW := hW.size
  have zg := hg.gr.size
  have hown := Fi.own_block hVs
  have hol := Fi.own_lt hVs
  have hbW : Below w0.heap.size w0 W := h3.trans (hW.mono z3)
  have hkp : ∀ b, b < hb + 1 → w7.heap[b]? = w0.heap[b]? := fun b hb' => by
    rw [hg.gr.block b (by omega) (fun q => by have := hown b q.symm; omega), hbW.block b (by omega)]
  obtain ⟨ao, c, rfl, _, _⟩ := Fi.own_form h7
  have hb7 : Below hb w3 w7 := (hb0.trans (hbW.mono (by omega))).trans (hg.bel (by omega) (fun q hq => by have := hown q hq; omega))
  have hno : NO w7 (hb + 1) (.slice ao (k + 1) c) (dsk g s τ (k + 1)) := by
    rw [dsk_step hi]
    refine NO.put Vs (by rw [dsk_len hk]; exact hV) hq3 hbW hg (by rw [dsk_len hk]; exact h7) ?_
    exact hNA.keep (fun _ _ _ => rfl) (Nat.le_refl _) (fun b hb' hl => ⟨by omega, hl, fun q => by have := hol b q.symm; omega⟩)
  refine ⟨⟨ao, c, ?_, ?_⟩, hb7.setCell (Nat.le_refl _) _, by rw [World.size_setCell]; omega⟩
  · refine World.rowIs.congr (World.rowIs.set (World.rowIs.of_block h (hkp hb (by omega))) 1 _) (fun u hu => ?_)
    match u, hu with
    | 0, _ => rfl
    | 1, _ => rfl
    | 2, _ => rfl
  · exact hno.keep (fun q hq hl => Below.heap_setCell _ _ _ _ (fun e => by
      have e' : q = hb := e
      omega)) (by rw [World.size_setCell]; exact Nat.le_refl _)
/-- One more that is heard outside. -/
theorem L4.push {w5 ww W w7 : World} {hb : Nat} {ins : Int} {N : Nat} {go : Option Addr} {gc : Nat} {us : List Int} {j : Nat} {uo : Option Addr} {uc : Nat} {v' : Value} {x : Int} (h : ww.rowIs hb 25 3 (hf ins (.slice go N gc) (.slice uo j uc))) (ho : ww.ownsRow w5.heap.size 3 1 (.slice uo j uc) j (ils us)) (hk : Kx (· = hb) w5 ww) (hu : hb < w5.heap.size) (hbW : Below ww.heap.size ww W) (hg : Fi.Gw W w7 (.slice uo j uc) v') (h7 : w7.ownsRow w5.heap.size 3 1 v' (j + 1) (ils us ++ [.int .i64 x])) : L4 w5 hb ins N go gc (us ++ [x]) (j + 1) (w7.setCell ⟨hb, 2, none⟩ v') := by
  have zb := hbW.size
  have zg := hg.gr.size
  have zk := hk.size
  have hown := Fi.own_block ho
  have hkp : ∀ b, b < w5.heap.size → w7.heap[b]? = ww.heap[b]? := fun b hb' => by
    rw [hg.gr.block b (by omega) (fun q => by have := hown b q.symm; omega), hbW.block b (by omega)]
  obtain ⟨ao, c, rfl, _, _⟩ := Fi.own_form h7
  refine ⟨⟨ao, c, ?_, ?_⟩, ?_⟩
  · refine World.rowIs.congr (World.rowIs.set (World.rowIs.of_block h (hkp hb hu)) 2 _) (fun u hu => ?_)
    match u, hu with
    | 0, _ => rfl
    | 1, _ => rfl
    | 2, _ => rfl
  · rw [ils_snoc]
    exact Fi.own_step h7 (fun q hq => Below.heap_setCell _ _ _ _ (fun e => by
      have := Fi.own_block h7 q hq
      have e' : q = hb := e
      omega))
  · have k7 : Kx (· = hb) w5 w7 := ⟨hg.gr.os.trans (hbW.os.trans hk.os), hg.gr.tape.trans (hbW.tape.trans hk.tape), hg.gr.output.trans (hbW.output.trans hk.output), by omega, fun b hb' hm => (hkp b hb').trans (hk.block b hb' hm)⟩
    exact k7.trans (Kx.put rfl)
end Go.Proofs.Ytjpcebnbkdekkaa.Gh

/- GraphRests, walked. -/
namespace Go.Proofs.Ytjpcebnbkdekkaa.Gh
open Go.RowKit Go.Maps Go.Sort Fl
set_option linter.unusedVariables false
set_option linter.unusedSimpArgs false

theorem RW.pl {w1 ww : World} {ob U nn : Nat} (h : RW w1 ob U nn U ww) (hn : nn ≤ 9223372036854775807) : Fi.PL ww ww.heap.size (some ⟨ob, 0, none⟩) (List.replicate U (List.replicate nn 0)) := ⟨fun _ => ⟨ob, 0, rfl, by have := h.z; omega, fun j p hj => by
  rw [List.getElem?_replicate] at hj
  split at hj
  · rename_i hjl
    cases hj
    refine ⟨some ⟨ob + 1 + j, 0, none⟩, nn, ?_, by simp, hn, fun h => (by cases h), ⟨fun _ => ⟨ob + 1 + j, 0, rfl, by have := h.z; omega, by have := h.z; omega, fun i x hi => ?_⟩⟩⟩
    · have := World.rowIs.cell h.r hjl
      rw [if_pos hjl] at this
      rw [Nat.zero_add, List.length_replicate]
      exact this
    · rw [List.getElem?_replicate] at hi
      split at hi
      · rename_i hin
        cases hi
        have := World.rowIs.cell (h.h j hjl) hin
        rw [Nat.zero_add]
        exact ⟨this, by decide⟩
      · cases hi
  · cases hj⟩⟩
theorem GH.bel {w w' : World} {g : Gr} {go uo : Option Addr} {gc uc : Nat} (h : GH w (fun b => b < w.heap.size) g go uo gc uc) (hb : Below w.heap.size w w') : GH w' (fun b => b < w'.heap.size) g go uo gc uc :=
  ⟨⟨fun i d hd => by
    obtain ⟨b, off, fo, fc, h1, h2, h3, h4, h5⟩ := h.n.at' i d hd
    have hz := hb.size
    exact ⟨b, off, fo, fc, h1, by omega, by omega, fun j v hv => (World.cell?_of_block (w := w) (w' := w') (a := ⟨b, _, none⟩) (hb.block b h3)).trans (h4 j v hv), h5.keep (fun b _ hl => hb.block b hl) hb.size (fun b hb _ => by omega)⟩⟩, h.gl, h.u.keep (fun b _ hl => hb.block b hl) hb.size (fun b hl _ => by have := hb.size; omega), h.ul, h.um, h.un⟩
set_option maxRecDepth 8000 in
set_option maxHeartbeats 8000000 in
theorem rests_walk (g : Gr) (go uo : Option Addr) (gc uc : Nat) (P : List (List Nat)) (io : Option Addr) (m ic nn mm : Nat) (w : World) (hG : GH w (fun b => b < w.heap.size) g go uo gc uc) (hP : Fi.PL w w.heap.size io P) (hm : P.length = m) (hc : m ≤ ic) (hcm : ic ≤ 9223372036854775807) (hml : m ≤ 5864062014805) (hn : nn ≤ 5000) (hmm : mm ≤ 5000) :
    Calls Try.prog 6 #[gvg g go uo gc uc, .slice io m ic, .int .i64 nn, .int .i64 mm] w fun e w' => e = .returned (.bool true) ∧ Below w.heap.size w w' := by
  obtain ⟨N, hN⟩ : ∃ N, N = g.nodes.length := ⟨_, rfl⟩
  obtain ⟨U, hU⟩ : ∃ U, U = g.outs.length := ⟨_, rfl⟩
  obtain ⟨ins, hins⟩ : ∃ ins, ins = g.ins := ⟨_, rfl⟩
  obtain ⟨W1, hW1⟩ : ∃ X, X = w.alloc (Obj.cells #[.int .i64 ins, .slice go N gc, .slice uo U uc] 25) := ⟨_, rfl⟩
  have HB1 : Hid (Below w.heap.size w W1) := by rw [hW1]; exact (Below.refl _ _).alloc (Nat.le_refl _) _
  have x0 : W1.cell? ⟨w.heap.size, 0, none⟩ = some (.int .i64 ins) := by rw [hW1]; simp [go_sem]
  have x1 : W1.cell? ⟨w.heap.size, 1, none⟩ = some (.slice go N gc) := by rw [hW1]; simp [go_sem]
  have x2 : W1.cell? ⟨w.heap.size, 2, none⟩ = some (.slice uo U uc) := by rw [hW1]; simp [go_sem]
  have hargs : gvg g go uo gc uc = .agg #[.int .i64 ins, .slice go N gc, .slice uo U uc] := by rw [hN, hU, hins]
  have HA : Hid (gvg g go uo gc uc = .agg #[.int .i64 ins, .slice go N gc, .slice uo U uc]) := hargs
  rw [hargs]
  have HG : Hid (GH w (fun b => b < w.heap.size) g go uo gc uc) := hG
  have HP : Hid (Fi.PL w w.heap.size io P) := hP
  have Hm : Hid (P.length = m) := hm
  have qa := alive_any W1
  have n1 : ¬ ((nn : Int) < 0) := by omega
  have n2 : ¬ ((5000 : Int) < (nn : Int)) := by omega
  have n3 : ¬ ((mm : Int) < 0) := by omega
  have n4 : ¬ ((5000 : Int) < (mm : Int)) := by omega
  obtain ⟨xb, hxb⟩ : ∃ xb, xb = w.heap.size := ⟨_, rfl⟩
  rw [← hxb] at x0 x1 x2
  have Hxb : Hid (xb = w.heap.size) := hxb
  clear hG hP hm hargs hN hU hins
  go_enter Try.func6, Try.ntmps6
  go_wp2_with fail
  rw [← hW1, ← hxb]
  clear hW1 hxb
  refine qa.mono ?_
  rintro e w2 ⟨rfl, hb2⟩
  have y0 := Fi.keepC hb2 (lt_cell x0) x0
  have y1 := Fi.keepC hb2 (lt_cell x1) x1
  have y2 := Fi.keepC hb2 (lt_cell x2) x2
  have HB2 : Hid (Below w.heap.size w w2) := HB1.out.trans (hb2.mono HB1.out.size)
  have ly := lt_cell y0
  obtain ⟨ob, hob⟩ : ∃ ob, ob = w2.heap.size := ⟨_, rfl⟩
  have mk : (Instr.makeSlice 32 (.int .i64 (m : Int)) (.int .i64 (m : Int))).run Try.prog w2 = .ok (.slice (some ⟨w2.heap.size, 0, none⟩) m m) (w2.alloc (.cells (madeCells #[.slice none 0 0] m) 38)) := run_make_row' (P := Try.prog) 32 38 (.slice none 0 0) 24 Try.underlying32 Fi.infoFs rfl .i64 .i64 m (by omega) (by omega) _
  have HRW : Hid (RW w2 w2.heap.size m mm 0 (w2.alloc (.cells (madeCells #[.slice none 0 0] m) 38))) := ⟨World.rowIs.congr (World.rowIs_made w2 (.slice none 0 0) m 38) (fun u _ => (if_neg (by omega)).symm), fun u hu => absurd hu (by omega), by simp, (Below.refl _ _).alloc (Nat.le_refl _) _⟩
  rw [← hob] at mk HRW
  have Hob : Hid (ob = w2.heap.size) := hob
  clear x0 x1 x2 qa hb2 HB1 hob ly
  go_wp2_with (simp only [mk])
  generalize w2.alloc (.cells (madeCells #[.slice none 0 0] m) 38) = W3 at *
  clear mk
  go_loopw [35] (fun i ww => ∃ k : Nat, k ≤ m ∧ i = .int .i64 k ∧ Hid (RW w2 ob m mm k ww)) (fun i _ => m - (intOf i).toNat)
  case atStart => exact ⟨0, by omega, rfl, HRW⟩
  case round =>
    obtain ⟨k, hk, rfl, hR⟩ := hrel
    by_cases hlt : k < m
    · have mk2 : (Instr.makeSlice 38 (.int .i64 (mm : Int)) (.int .i64 (mm : Int))).run Try.prog wr = .ok (.slice (some ⟨wr.heap.size, 0, none⟩) mm mm) (wr.alloc (.cells (madeCells #[.float .f64 0] mm) 46)) := run_make_row' (P := Try.prog) 38 46 (.float .f64 0) 8 Try.underlying38 Fi.infoF rfl .i64 .i64 mm (by omega) (by omega) _
      have hz := hR.out.z
      rw [hz] at mk2
      have HR2 : Hid (RW w2 ob m mm (k + 1) ((wr.alloc (.cells (madeCells #[.float .f64 0] mm) 46)).setCell ⟨ob, k, none⟩ (.slice (some ⟨ob + 1 + k, 0, none⟩) mm mm))) := hR.out.step hlt
      have y1 := World.rowIs.cell (World.rowIs.alloc hR.out.r (.cells (madeCells #[.float .f64 0] mm) 46)) hlt
      have y2 := World.rowIs.frozen (World.rowIs.alloc hR.out.r (.cells (madeCells #[.float .f64 0] mm) 46)) k
      have y3 := World.rowIs.lt (World.rowIs.alloc hR.out.r (.cells (madeCells #[.float .f64 0] mm) 46))
      rw [if_neg (by omega)] at y1
      have hlt' : (k : Int) < (m : Int) := by omega
      have w3 : IntKind.i64.wrap ((k : Int) + 1) = (k : Int) + 1 := wid (by omega) (by omega)
      generalize hwa : wr.alloc (.cells (madeCells #[.float .f64 0] mm) 46) = WA at *
      clear hR hz hwa
      go_wp2_with (simp only [mk2])
      exact ⟨⟨k + 1, by omega, by go_num, HR2⟩, by simp [intOf]; omega⟩
    · obtain rfl : k = m := by omega
      have hbr := hR.out.b
      have c0 := Fi.keepC hbr (by rw [Hob.out]; exact lt_cell y0) y0
      have c1 := Fi.keepC hbr (by rw [Hob.out]; exact lt_cell y1) y1
      have c2 := Fi.keepC hbr (by rw [Hob.out]; exact lt_cell y2) y2
      have lc := lt_cell c0
      have hbw : Below w.heap.size w wr := HB2.out.trans (hbr.mono (by rw [Hob.out]; exact HB2.out.size))
      obtain ⟨W4, hW4⟩ : ∃ X, X = wr.alloc (Obj.cells #[.slice io k ic, .int .i64 nn, .bool false, .slice (some ⟨ob, 0, none⟩) k k, .int .i64 mm, .bool false, .slice io k ic, .int .i64 nn, .bool true] 34) := ⟨_, rfl⟩
      have hb4 : Below wr.heap.size wr W4 := by rw [hW4]; exact (Below.refl _ _).alloc (Nat.le_refl _) _
      have z4 : W4.heap.size = wr.heap.size + 1 := by rw [hW4]; simp
      have hbw4 : Below w.heap.size w W4 := hbw.trans (hb4.mono hbw.size)
      have hPL : Fi.PL W4 W4.heap.size io P := PLmono (HP.out.keep (Nat.le_refl _) (fun b hb => hbw4.block b hb) hbw4.size) hbw4.size
      have hPS : Fi.PL W4 W4.heap.size (some ⟨ob, 0, none⟩) (List.replicate k (List.replicate mm 0)) := PLmono ((hR.out.pl (by omega)).keep (Nat.le_refl _) (fun b hb => hb4.block b hb) hb4.size) hb4.size
      have hPc : PcL W4 W4.heap.size (some ⟨wr.heap.size, 0, none⟩) (p3 P nn mm k) := ⟨fun i p hp => by
        match i, hp with
        | 0, hp =>
          cases hp
          refine ⟨wr.heap.size, 0, io, ic, rfl, by omega, ?_, ?_, ?_, by show P.length ≤ ic; rw [Hm.out]; exact hc, hcm, hPL⟩
          · rw [hW4]; simp [go_sem]; rw [Hm.out]
          · rw [hW4]; simp [go_sem]
          · rw [hW4]; simp [go_sem]
        | 1, hp =>
          cases hp
          refine ⟨wr.heap.size, 0, some ⟨ob, 0, none⟩, k, rfl, by omega, ?_, ?_, ?_, by simp, by omega, hPS⟩
          · rw [hW4]; simp [go_sem]
          · rw [hW4]; simp [go_sem]
          · rw [hW4]; simp [go_sem]
        | 2, hp =>
          cases hp
          refine ⟨wr.heap.size, 0, io, ic, rfl, by omega, ?_, ?_, ?_, by show P.length ≤ ic; rw [Hm.out]; exact hc, hcm, hPL⟩
          · rw [hW4]; simp [go_sem]; rw [Hm.out]
          · rw [hW4]; simp [go_sem]
          · rw [hW4]; simp [go_sem]
        | i + 3, hp => cases hp⟩
      have q := Sound_any cirC g go uo gc uc (p3 P nn mm k) (some ⟨wr.heap.size, 0, none⟩) 3 3 (fun _ => i3 g P nn) W4 (HG.out.bel hbw4) hPc rfl (by omega) (by omega) (by omega) (fun _ _ _ _ => rfl) (p3_J g P nn mm k)
      rw [HA.out] at q
      have HB4 : Hid (Below w.heap.size w W4) := hbw4
      clear hR hbr hPc hPL hPS hbw hbw4 hb4 z4 HRW hlt y0 y1 y2
      go_wp2_with fail
      rw [← hW4]
      clear hW4
      refine q.mono ?_
      intro e w5 hS
      have HB5 : Hid (Below w.heap.size w w5) := HB4.out.trans (hS.b.mono HB4.out.size)
      by_cases hne : ne0 g = 0
      · by_cases hcy : Cyc g
        · have hex := hS.cyc hne hcy
          subst hex
          clear hS q
          go_wp2_with fail
          go_returns
          exact ⟨rfl, HB5.out⟩
        · obtain ⟨v, base, rfl, hb1, hb2, hH⟩ := hS.ok hne hcy
          clear hS q
          obtain ⟨x3, hx3⟩ := p3_r g P nn mm k
          rw [hx3] at hH
          obtain ⟨q, cap, ao, c, hv, k1, k2, k3, k4, d1, d2, o1, k8, k9⟩ := hH.at (j := 0) (r := (h3 g P nn, er g P nn)) rfl
          obtain ⟨q', cap', ao', c', hv', k1', k2', k3', k4', d3, d4, o2, k8', k9'⟩ := hH.at (j := 2) (r := (h3 g P nn, er g P nn)) rfl
          rw [hv] at hv'
          cases hv'
          obtain ⟨U3, hU3⟩ : ∃ X, X = (h3 g P nn).length := ⟨_, rfl⟩
          obtain ⟨E3, hE3⟩ : ∃ X, X = er g P nn := ⟨_, rfl⟩
          have hv3 : v = .slice (some ⟨q, 0, none⟩) 3 cap := hv
          have kc : 3 ≤ cap := k1
          subst hv3
          have f1 : w5.cell? ⟨q, 0, none⟩ = some (.slice ao U3 c) := by rw [hU3]; exact d1
          have f2 : w5.cell? ⟨q, 1, none⟩ = some (.int .i64 E3) := by rw [hE3]; exact d2
          have f3 : w5.cell? ⟨q, 4, none⟩ = some (.slice ao' U3 c') := by rw [hU3]; exact d3
          have f4 : w5.cell? ⟨q, 5, none⟩ = some (.int .i64 E3) := by rw [hE3]; exact d4
          rw [← hU3] at o1 o2 k8 k8'
          have HO1 : Hid (OL w5 (Sz (fun b => base ≤ b) w5 (.slice (some ⟨q, 0, none⟩) 3 cap)) (.slice ao U3 c) (h3 g P nn)) := o1
          have HO2 : Hid (OL w5 (Sz (fun b => base ≤ b) w5 (.slice (some ⟨q, 0, none⟩) 3 cap)) (.slice ao' U3 c') (h3 g P nn)) := o2
          have HU3 : Hid (U3 = (h3 g P nn).length) := hU3
          clear hH hv d1 d2 d3 d4 o1 o2 hU3 hE3 k1 k1' k2' k3' k4 k4' hx3 x3 HB4 hb1 hb2 c0 c1 c2 lc hne hcy
          go_wp2_with fail
          go_region
          have HBd : Hid (Below w5.heap.size w5 w5.drew) := belD' (n := 1)
          have g1 : w5.drew.cell? ⟨q, 0, none⟩ = some (.slice ao U3 c) := f1
          have g3 : w5.drew.cell? ⟨q, 4, none⟩ = some (.slice ao' U3 c') := f3
          clear f2 f4
          generalize w5.drew = w6 at *
          go_wp2_with fail
          go_loopw [93] (fun i ww => ∃ j : Nat, j ≤ U3 ∧ i = .int .i64 j ∧ Hid (Below w5.heap.size w5 ww)) (fun i _ => U3 - (intOf i).toNat)
          case atStart => exact ⟨0, by omega, rfl, HBd⟩
          case round =>
            obtain ⟨j, hj, rfl, hbj⟩ := hrel
            have e1 := Fi.keepC hbj.out k3 f1
            have e3 := Fi.keepC hbj.out k3 f3
            have le1 := lt_cell e1
            by_cases hlt : j < U3
            · obtain ⟨r, hr⟩ : ∃ r, (h3 g P nn)[j]? = some r := ⟨_, List.getElem?_eq_getElem (by rw [← HU3.out]; exact hlt)⟩
              have hrl := h3_len g P nn j r hr
              have hO1 := HO1.out.keep (w' := wr) (S' := fun _ => True) (fun b _ hl => hbj.out.block b hl) hbj.out.size (fun _ _ _ => trivial)
              have hO2 := HO2.out.keep (w' := wr) (S' := fun _ => True) (fun b _ hl => hbj.out.block b hl) hbj.out.size (fun _ _ _ => trivial)
              obtain ⟨_, _, m1, m2, m3, m4⟩ := hO1.ex
              injection m1 with i1 i2 i3
              subst i1
              subst i3
              obtain ⟨b1, of1, rfl, _, n3, n4⟩ := m4 (by rw [← HU3.out]; omega)
              obtain ⟨xa, xa1, xa2⟩ := n4 j r hr
              obtain ⟨ga, aa, ca, rfl, y2, y3, y4, y5, y6⟩ := xa2.ex
              obtain ⟨_, _, m1', m2', m3', m4'⟩ := hO2.ex
              injection m1' with i1' i2' i3'
              subst i1'
              subst i3'
              obtain ⟨b2, of2, rfl, _, n3', n4'⟩ := m4' (by rw [← HU3.out]; omega)
              obtain ⟨xb', xb1, xb2⟩ := n4' j r hr
              obtain ⟨gb, ab', cb, rfl, z2, z3, z4, z5, z6⟩ := xb2.ex
              have hla : ga.length = nn := by rw [← Fi.abs_len, y5, hrl]
              have hlb : gb.length = nn := by rw [← Fi.abs_len, z5, hrl]
              rw [hla] at xa1 y2
              rw [hlb] at xb1 z2
              have hq : ∀ nq, Calls Try.prog 11 #[.slice aa nn ca, .slice ab' nn cb] (wr.drewN nq) fun e w' => e = .returned (.bool true) ∧ Below (wr.drewN nq).heap.size (wr.drewN nq) w' := fun nq => Fi.LikeAll_eq (wr.drewN nq) _ _ aa ab' ga gb nn ca cb (y6.keep (fun _ _ _ => rfl) (Nat.le_refl _) (fun _ h _ => h)) (z6.keep (fun _ _ _ => rfl) (Nat.le_refl _) (fun _ h _ => h)) (y5.trans z5.symm) hla (by omega) y2 y3 z2 z3
              have hlt' : (j : Int) < (U3 : Int) := by omega
              have w3 : IntKind.i64.wrap ((j : Int) + 1) = (j : Int) + 1 := wid (by omega) (by omega)
              have lx1 := lt_cell xa1
              have lx2 := lt_cell xb1
              clear hO1 hO2 i2 i2' m4 n4 m4' n4' xa2 xb2 y6 z6 y5 z5 hla hlb hr hrl m2 m3 m2' m3' y4 z4 n3 n3'
              go_wp2_with fail
              refine U2.wp_region_tail_read 14 (by decide) (by kernel_rfl) (by kernel_rfl) (by kernel_rfl) (by kernel_rfl) ?_
              dsimp only [List.take, List.drop]
              repeat (quiet_step (fail))
              refine wpQuiet_nil ?_
              rintro w7 ⟨nq, rfl⟩
              go_wp2_with fail
              refine (hq nq).mono ?_
              rintro e w8 ⟨rfl, hb8⟩
              have HB8 : Hid (Below w5.heap.size w5 w8) := Below.trans hbj.out (Below.mono (show Below wr.heap.size wr w8 from Below.trans belD' hb8) hbj.out.size)
              clear hq hb8
              go_wp2_with fail
              exact ⟨⟨j + 1, by omega, by go_num, HB8⟩, by simp [intOf]; omega⟩
            · obtain rfl : j = U3 := by omega
              go_wp2_with fail
              go_returns
              exact ⟨rfl, HB5.out.trans (hbj.out.mono HB5.out.size)⟩
      · have hex := hS.bad hne
        subst hex
        clear hS q
        go_wp2_with fail
        go_returns
        exact ⟨rfl, HB5.out⟩
set_option maxRecDepth 8000 in
set_option maxHeartbeats 8000000 in
theorem rests_out (ins : Int) (go uo io : Option Addr) (N gc U uc m ic : Nat) (n mo : Int) (w : World) (h : n < 0 ∨ 5000 < n ∨ mo < 0 ∨ 5000 < mo) :
    Calls Try.prog 6 #[.agg #[.int .i64 ins, .slice go N gc, .slice uo U uc], .slice io m ic, .int .i64 n, .int .i64 mo] w fun e w' => e = .returned (.bool true) ∧ Below w.heap.size w w' := by
  obtain ⟨W1, hW1⟩ : ∃ X, X = w.alloc (Obj.cells #[.int .i64 ins, .slice go N gc, .slice uo U uc] 25) := ⟨_, rfl⟩
  have HB1 : Hid (Below w.heap.size w W1) := by rw [hW1]; exact (Below.refl _ _).alloc (Nat.le_refl _) _
  have qa := alive_any W1
  have H : Hid (¬ (((0 ≤ n ∧ n ≤ 5000) ∧ 0 ≤ mo) ∧ mo ≤ 5000)) := by show ¬ _; omega
  clear h
  go_enter Try.func6, Try.ntmps6
  go_wp2_with fail
  rw [← hW1]
  clear hW1
  refine qa.mono ?_
  rintro e w2 ⟨rfl, hb2⟩
  have HB2 : Hid (Below w.heap.size w w2) := HB1.out.trans (hb2.mono HB1.out.size)
  clear qa hb2 HB1
  go_wp2_with fail
  all_goals first
    | (exfalso; apply H.out; assumption)
    | (go_returns; exact ⟨rfl, HB2.out⟩)
theorem rests_any (g : Gr) (go uo : Option Addr) (gc uc : Nat) (P : List (List Nat)) (io : Option Addr) (m ic : Nat) (n mo : Int) (w : World) (hG : GH w (fun b => b < w.heap.size) g go uo gc uc) (hP : Fi.PL w w.heap.size io P) (hm : P.length = m) (hc : m ≤ ic) (hcm : ic ≤ 9223372036854775807) (hml : m ≤ 5864062014805) :
    Calls Try.prog 6 #[gvg g go uo gc uc, .slice io m ic, .int .i64 n, .int .i64 mo] w fun e w' => e = .returned (.bool true) ∧ Below w.heap.size w w' := by
  by_cases c : n < 0 ∨ 5000 < n ∨ mo < 0 ∨ 5000 < mo
  · exact rests_out g.ins go uo io g.nodes.length gc g.outs.length uc m ic n mo w c
  · obtain ⟨nn, rfl⟩ := Int.eq_ofNat_of_zero_le (show 0 ≤ n by omega)
    obtain ⟨mm, rfl⟩ := Int.eq_ofNat_of_zero_le (show 0 ≤ mo by omega)
    exact rests_walk g go uo gc uc P io m ic nn mm w hG hP hm hc hcm hml (by omega) (by omega)
end Go.Proofs.Ytjpcebnbkdekkaa.Gh

/- GraphOrder: one piece; the other graph as it is handed on. -/
namespace Go.Proofs.Ytjpcebnbkdekkaa.Gh
open Go.RowKit Go.Maps Go.Sort Fl
set_option linter.unusedVariables false
set_option linter.unusedSimpArgs false

/-- One piece. -/
def p1 (P : List (List Nat)) (nn : Nat) : List Pc := [⟨P, nn, false⟩]
/-- What is heard of it. -/
def h1 (g : Gr) (P : List (List Nat)) (nn : Nat) : List (List (Option Nat)) := if er g P nn = 0 then outR g (vl g (iB P)) 0 nn else []
theorem p1_J (g : Gr) (P : List (List Nat)) (nn : Nat) : ∀ k p, (p1 P nn)[k]? = some p → er g p.ins p.n = 0 → ∀ (q : Nat) l, p.ins[q]? = some l → ∀ i, i < p.n.toNat → iB P q (t0 (tst g 0 ((p1 P nn).take k)) p + i) = ab (l.getD i 0) := by
  intro k p hp he q l hl i hi
  match k, hp with
  | 0, hp =>
    cases hp
    have e : t0 (tst g 0 ((p1 P nn).take 0)) ⟨P, nn, false⟩ + i = i := by show 0 + i = i; omega
    rw [e]
    unfold iB
    rw [show P.getD q [] = l by rw [List.getD_eq_getElem?_getD, hl]; rfl]
  | k + 1, hp => cases hp
theorem p1_r (g : Gr) (P : List (List Nat)) (nn : Nat) : rsl g (fun _ => iB P) 0 0 (p1 P nn) = [(h1 g P nn, er g P nn)] := rfl
theorem h1_len (g : Gr) (P : List (List Nat)) (nn : Nat) : ∀ (k : Nat) r, (h1 g P nn)[k]? = some r → r.length = nn := by
  intro k r hr
  unfold h1 at hr
  split at hr
  · unfold outR at hr
    rw [List.getElem?_map] at hr
    cases h : g.outs[k]? with
    | none => rw [h] at hr; cases hr
    | some o => rw [h] at hr; cases hr; simp
  · cases hr
/-- In whatever order: the same. -/
theorem h1_perm {g : Gr} {s : List Nat} {τ : Nat → Nat} (h : Pm g.nodes.length s τ) (hw : ne0 g = 0) (P : List (List Nat)) (nn : Nat) : h1 (gp g s τ) P nn = h1 g P nn ∧ er (gp g s τ) P nn = er g P nn := by
  have e : er (gp g s τ) P nn = er g P nn := rfl
  refine ⟨?_, e⟩
  have hW := ne0_wf hw
  unfold h1
  rw [e]
  split
  · refine outR_perm h hw (iB P) (fun i hi => ?_) (fun i hi => ?_) ?_ 0 nn
    · exact (hW.n (nd g i) (by unfold nd; rw [List.getD_eq_getElem?_getD, List.getElem?_eq_getElem hi]; exact List.getElem_mem hi)).1
    · exact (hW.n (nd g i) (by unfold nd; rw [List.getD_eq_getElem?_getD, List.getElem?_eq_getElem hi]; exact List.getElem_mem hi)).2.1
    · exact hW.o
  · rfl
theorem p1_L {w w0 : World} {P : List (List Nat)} {io : Option Addr} {m ic nn : Nat} (hP : Fi.PL w0 w0.heap.size io P) (hm : P.length = m) (hc : m ≤ ic) (hcm : ic ≤ 9223372036854775807) (hb : Below w0.heap.size w0 w) : PcL (w.alloc (Obj.cells #[.slice io m ic, .int .i64 nn, .bool false] 34)) ((w.alloc (Obj.cells #[.slice io m ic, .int .i64 nn, .bool false] 34)).heap.size) (some ⟨w.heap.size, 0, none⟩) (p1 P nn) := ⟨fun i p hp => by
  have hb2 : Below w0.heap.size w0 (w.alloc (Obj.cells #[.slice io m ic, .int .i64 nn, .bool false] 34)) := hb.alloc hb.size _
  match i, hp with
  | 0, hp =>
    cases hp
    refine ⟨w.heap.size, 0, io, ic, rfl, by simp, ?_, ?_, ?_, by show P.length ≤ ic; rw [hm]; exact hc, hcm, PLmono (hP.keep (Nat.le_refl _) (fun b hb => hb2.block b hb) hb2.size) hb2.size⟩
    · simp [go_sem]; exact hm.symm
    · simp [go_sem]
    · simp [go_sem]
  | i + 1, hp => cases hp⟩
/-- The other graph is handed on. -/
theorem L4.gh {w5 ww : World} {hb : Nat} {ins : Int} {N : Nat} {go : Option Addr} {gc : Nat} {g : Gr} {s : List Nat} {τ : Nat → Nat} {uo : Option Addr} {uc : Nat} (hN : NO w5 (hb + 1) (.slice go N gc) (gp g s τ).nodes) (ho : ww.ownsRow w5.heap.size 3 1 (.slice uo (gp g s τ).outs.length uc) (gp g s τ).outs.length (ils (gp g s τ).outs)) (hk : Kx (· = hb) w5 ww) : GH ww (fun b => b < ww.heap.size) (gp g s τ) go uo gc uc := by
  have hN' := hN.keep (w' := ww) (fun j hj hl => hk.block j hl (by omega)) hk.size
  obtain ⟨go', gc', e1, e2, e3, e4⟩ := hN'.ga
  injection e1 with i1 i2 i3
  subst i1
  subst i3
  obtain ⟨ao, c, a1, a2, a3, a4, a5⟩ := L3.ils_z ho
  injection a1 with j1 j2 j3
  subst j1
  subst j3
  exact ⟨e4, e2, a5.keep (fun _ _ _ => rfl) (Nat.le_refl _) (fun b hb hl => hl), a2, a3, a4⟩
end Go.Proofs.Ytjpcebnbkdekkaa.Gh

/- GraphBlocks: a piece while it is made. -/
namespace Go.Proofs.Ytjpcebnbkdekkaa.Gh
open Go.RowKit Go.Maps Go.Sort Fl
set_option linter.unusedVariables false
set_option linter.unusedSimpArgs false

/-- append(s, x...) of ints: x may be nil. -/
theorem wpList_append_zz {w : World} {ops : Array Oper} {rest : List Oper} {o : Oper} {a : Act} {Q : Exit → Act → World → Prop} (hgd : o.guard = none) (s y : Operand)
    (ho : o.op = .call { callee := .builtin .append, args := #[s, y], argTypes := #[23, 23] })
    (base : Nat) (v : Value) (n : Nat) (xs : List Value) (hs : a.eval s = v) (hown : w.ownsRow base 3 1 v n xs)
    (S' : Nat → Prop) (r : List Int) (rm : Nat) (hrm : r.length = rm) (xa : Option Addr) (xc : Nat) (hx : a.eval y = .slice xa rm xc) (hc1 : rm ≤ xc) (hcn : xa = none → xc = 0) (hf : ZL w S' xa r)
    (h63 : n + rm ≤ 17592186044416) (hbase : base ≤ w.heap.size)
    (h : ∀ v' w', w'.ownsRow base 3 1 v' (n + rm) (xs ++ ils r) → Fi.Gw w w' v v' → wpList Try.prog ops Q rest (a.put o.dst v') w') :
    wpList Try.prog ops Q (o :: rest) a w := by
  cases xa with
  | none =>
    obtain ⟨i, hi, hz, hz1, hz2⟩ := info_parts infoZ
    have hc := hcn rfl
    have hm : rm = 0 := by omega
    have hx2 : a.eval y = .slice none 0 0 := by rw [hx, hm, hc]
    have hnil : ils r = [] := List.eq_nil_of_length_eq_zero (by rw [ils_len, hrm, hm])
    refine wpList_append_own_none hgd s y 23 ho base 3 i 1 Try.underlying23 hi v n xs hs hown hx2 (h v w ?_ ⟨⟨rfl, rfl, rfl, Nat.le_refl _, fun _ _ _ => rfl⟩, Or.inl rfl⟩)
    rw [hm, hnil, List.append_nil]; exact hown
  | some ad => exact wpList_append_zl hgd s y ho base v n xs hs hown S' r rm hrm ad xc hx hf h63 hbase h
/-- A slice of floats from a up to b, with no room behind it. -/
theorem run_cut (la : Option Addr) (m c a b : Nat) (h1 : a ≤ b) (h2 : b ≤ c) (w : World) : (Instr.slice 38 (.slice la m c) (some (.int .i64 (a : Int))) (some (.int .i64 (b : Int))) (some (.int .i64 (b : Int)))).run Try.prog w = .ok (.slice (Fi.frm la a b) (b - a) (b - a)) w := by
  have hu : Try.prog.underlying 38 = some (.slice 46) := Try.underlying38
  unfold Instr.slice Fi.frm
  simp [run_underlying hu, Instr.sliceBounds, run_sliceBound, h1, h2, Fi.sizeF]
/-- A piece's cells. -/
def sf (v : Value) (c : Nat) : Nat → Value
  | 0 => v
  | 1 => .int .i64 (c : Nat)
  | _ => .bool false
/-- A piece while it is made. -/
structure LB (w3 : World) (pk N : Nat) (P : List (List Nat)) (a c j : Nat) (ww : World) : Prop where
  v : ∃ xo xc, ww.rowIs pk 34 3 (sf (.slice xo j xc) c) ∧ Fi.VO ww (pk + 1) N (.slice xo j xc) ((cut P a c).take j)
  b : Below pk w3 ww
  z : pk + 1 ≤ ww.heap.size
theorem cut_at {P : List (List Nat)} {a c j : Nat} {l : List Nat} (h : P[j]? = some l) : (cut P a c)[j]? = some ((l.drop a).take c) := by
  unfold cut; rw [List.getElem?_map, h]; rfl
theorem cut_len (P : List (List Nat)) (a c : Nat) : (cut P a c).length = P.length := by unfold cut; rw [List.length_map]
theorem IL_cut {w : World} {S : Nat → Prop} {la : Option Addr} {l : List Nat} (h : Fi.IL w S la l) (a c : Nat) (hc : a + c ≤ l.length) : Fi.IL w S (Fi.frm la a (a + c)) ((l.drop a).take c) := by
  have h1 : Fi.IL w S la (l.take (a + c)) := h.take (a + c)
  have h2 := h1.drop a (a + c) (by rw [List.length_take]; omega)
  have e : (l.take (a + c)).drop a = (l.drop a).take c := by rw [List.drop_take]; congr 1; omega
  rw [e] at h2
  exact h2
theorem VO_keep {w w' : World} {base N : Nat} {v : Value} {ps : List (List Nat)} (h : Fi.VO w base N v ps) (ho : ∀ k, v.ownBlock = some k → w'.heap[k]? = w.heap[k]?) (hN : ∀ b, b < N → b < w.heap.size → w'.heap[b]? = w.heap[b]?) (hz : w.heap.size ≤ w'.heap.size) : Fi.VO w' base N v ps := by
  obtain ⟨Vs, h1, h2, h3⟩ := h.ex
  refine ⟨⟨Vs, Fi.own_step h1 ho, h2, fun j p hj => ?_⟩⟩
  obtain ⟨a, c, g1, g2, g3, g4, g5⟩ := h3 j p hj
  exact ⟨a, c, g1, g2, g3, g4, g5.keep hN hz (fun _ h _ => h)⟩
/-- One list more in a piece. -/
theorem LB.push {w3 ww W w7 : World} {pk N : Nat} {P : List (List Nat)} {a c j : Nat} {xo : Option Addr} {xc : Nat} {v' : Value} {la : Option Addr} {l : List Nat} {Vs : List Value} (hr : ww.rowIs pk 34 3 (sf (.slice xo j xc) c)) (ho : ww.ownsRow (pk + 1) 38 1 (.slice xo j xc) j Vs) (hV : Vs.length = j) (h3 : ∀ (q : Nat) p, ((cut P a c).take j)[q]? = some p → ∃ a c, Vs[q]? = some (.slice a p.length c) ∧ p.length ≤ c ∧ c ≤ 9223372036854775807 ∧ (a = none → c = 0) ∧ Fi.IL ww (fun k => k < N) a p) (hj : j < P.length) (hN : N ≤ pk) (hb0 : Below pk w3 ww) (hz : pk + 1 ≤ ww.heap.size) (hb : Below ww.heap.size ww W) (hg : Fi.Gw W w7 (.slice xo j xc) v') (hl : P[j]? = some l) (hac : a + c ≤ l.length) (hcm : c ≤ 9223372036854775807) (hn : la = none → l.length = 0) (hIL : Fi.IL ww (fun k => k < N) la l) (h7 : w7.ownsRow (pk + 1) 38 1 v' (j + 1) (Vs ++ [.slice (Fi.frm la a (a + c)) c c])) : LB w3 pk N P a c (j + 1) (w7.setCell ⟨pk, 0, none⟩ v') := by
  have zb := hb.size
  have zg := hg.gr.size
  have hown := Fi.own_block ho
  have hkp : ∀ b, b < pk + 1 → w7.heap[b]? = ww.heap[b]? := fun b hb' => by
    rw [hg.gr.block b (by omega) (fun q => by have := hown b q.symm; omega), hb.block b (by omega)]
  have hb7 : Below pk w3 w7 := (hb0.trans (hb.mono (by omega))).trans (hg.bel (by omega) (fun k hk => by have := hown k hk; omega))
  have hlen : ((l.drop a).take c).length = c := by rw [List.length_take, List.length_drop]; omega
  have htl : ((cut P a c).take j).length = j := by rw [List.length_take, cut_len]; omega
  have hvo : Fi.VO w7 (pk + 1) N v' ((cut P a c).take j ++ [(l.drop a).take c]) := by
    refine Fi.VO.put Vs (by rw [hV, htl]) h3 (by omega) hz hb hg hown (a := Fi.frm la a (a + c)) (c := c) ?_ (by omega) hcm (fun q => ?_) (IL_cut hIL a c hac)
    · rw [hlen, htl]; exact h7
    · have := Fi.frm_none (la := la) (n := a) (c := a + c) (fun e => by have := hn e; omega) q
      omega
  have e : (cut P a c).take (j + 1) = (cut P a c).take j ++ [(l.drop a).take c] := by rw [List.take_add_one, cut_at hl]; rfl
  have hol := Fi.own_lt h7
  have hob := Fi.own_block h7
  obtain ⟨ao, ca, rfl, _, _⟩ := Fi.own_form h7
  refine ⟨⟨ao, ca, ?_, ?_⟩, hb7.setCell (Nat.le_refl _) _, by rw [World.size_setCell]; omega⟩
  · refine World.rowIs.congr (World.rowIs.set (World.rowIs.of_block hr (hkp pk (by omega))) 0 _) (fun u hu => ?_)
    match u, hu with
    | 0, _ => rfl
    | 1, _ => rfl
    | 2, _ => rfl
  · rw [e]
    exact VO_keep hvo (fun q hq => Below.heap_setCell _ _ _ _ (fun e => by
      have := hob q hq
      have e' : q = pk := e
      omega)) (fun b hb' _ => Below.heap_setCell _ _ _ _ (fun e => by
      have e' : b = pk := e
      omega)) (by rw [World.size_setCell]; exact Nat.le_refl _)
/-- The pieces so far. -/
def pcsk (P : List (List Nat)) (n : Nat) (L : List Int) (k : Nat) : List Pc := cps P 0 ((acs n 0 L).take k)
def atk (n : Nat) (L : List Int) (k : Nat) : Nat := ((acs n 0 L).take k).sum
theorem pcsk_len {P : List (List Nat)} {n : Nat} {L : List Int} {k : Nat} (h : k ≤ L.length) : (pcsk P n L k).length = k := by
  unfold pcsk; rw [cps_len, List.length_take, acs_len]; omega
theorem pcsk_step {P : List (List Nat)} {n : Nat} {L : List Int} {k : Nat} {c : Int} (h : L[k]? = some c) : pcsk P n L (k + 1) = pcsk P n L k ++ [⟨cut P (atk n L k) (cc n (atk n L k) c), cc n (atk n L k) c, false⟩] := by
  have := acs_at n 0 L k c h
  rw [Nat.zero_add] at this
  unfold pcsk atk
  rw [cps_snoc P this]
theorem atk_step {n : Nat} {L : List Int} {k : Nat} {c : Int} (h : L[k]? = some c) : atk n L (k + 1) = atk n L k + cc n (atk n L k) c := by
  have := acs_at n 0 L k c h
  rw [Nat.zero_add] at this
  unfold atk
  rw [sum_snoc this]
theorem atk_le (n : Nat) (L : List Int) (k : Nat) : atk n L k ≤ n := by
  have h1 := sum_take_le (acs n 0 L) k
  have h2 := acs_sum n 0 L (by omega)
  unfold atk
  omega
end Go.Proofs.Ytjpcebnbkdekkaa.Gh
