/- GraphBlocks: what is joined, a row of floats of one's own for each out. -/
import Derived.Test.YteocihkiibigkaaGB20
import Derived.Test.YteocihkiibigkaaGB6
namespace Go.Proofs.Yteocihkiibigkaa.Gh
open Go.RowKit Go.Maps Go.Sort Fl
set_option linter.unusedVariables false
set_option linter.unusedSimpArgs false

/-- One joined row. -/
structure J1 (w : World) (base : Nat) (v : Value) (r : List (Option Nat)) : Prop where
  ex : ∃ ga : List Nat, w.ownsRow base 46 1 v r.length (Fi.fls ga) ∧ Fi.abs ga = r ∧ ∀ x ∈ ga, x < 18446744073709551616
theorem J1.nil (w : World) (base : Nat) : J1 w base (.slice none 0 0) [] := ⟨⟨[], World.ownsRow_nil _ _ _ _, rfl, fun x h => by simp at h⟩⟩
theorem J1.keep {w w' : World} {base : Nat} {v : Value} {r : List (Option Nat)} (h : J1 w base v r) (hk : ∀ b, v.ownBlock = some b → w'.heap[b]? = w.heap[b]?) : J1 w' base v r := by
  obtain ⟨ga, h1, h2, h3⟩ := h.ex
  exact ⟨⟨ga, Fi.own_step h1 hk, h2, h3⟩⟩
theorem J1.blk {w : World} {base : Nat} {v : Value} {r : List (Option Nat)} (h : J1 w base v r) : ∀ b, v.ownBlock = some b → base ≤ b ∧ b < w.heap.size := fun b e => by
  obtain ⟨ga, h1, h2, h3⟩ := h.ex
  exact ⟨Fi.own_block h1 b e, Fi.own_lt h1 b e⟩
/-- All rows; none of them has block x for its own. -/
structure JA (ww : World) (ab x U : Nat) (r : Nat → List (Option Nat)) : Prop where
  ex : ∃ V : Nat → Value, ww.rowIs ab 38 U V ∧ (∀ k, k < U → J1 ww (ab + 1) (V k) (r k)) ∧ (∀ j k b, j < U → k < U → j ≠ k → (V j).ownBlock = some b → (V k).ownBlock ≠ some b) ∧ ∀ k b, k < U → (V k).ownBlock = some b → b ≠ x
theorem JA.lt {w : World} {ab x U : Nat} {r : Nat → List (Option Nat)} (h : JA w ab x U r) : ab < w.heap.size := by
  obtain ⟨V, h1, _⟩ := h.ex
  obtain ⟨c, hb, _⟩ := h1
  exact (Array.getElem?_eq_some_iff.1 hb).1
theorem JA.keep {w w' : World} {ab x x' U : Nat} {r : Nat → List (Option Nat)} (h : JA w ab x U r) (hk : ∀ b, ab ≤ b → b < w.heap.size → w'.heap[b]? = w.heap[b]?) (hx : x' = x ∨ w.heap.size ≤ x' ∨ x' ≤ ab) : JA w' ab x' U r := by
  have hl := h.lt
  obtain ⟨V, h1, h2, h3, h4⟩ := h.ex
  refine ⟨⟨V, World.rowIs.of_block h1 (hk ab (Nat.le_refl _) hl), fun k hk' => (h2 k hk').keep (fun b e => ?_), h3, fun k b hk' e => ?_⟩⟩
  · have := (h2 k hk').blk b e
    exact hk b (by omega) this.2
  · have := (h2 k hk').blk b e
    have := h4 k b hk' e
    omega
theorem JA.made (w : World) (U : Nat) (r : Nat → List (Option Nat)) (hr : ∀ k, k < U → r k = []) : JA (w.alloc (.cells (madeCells #[.slice none 0 0] U) 38)) w.heap.size w.heap.size U r :=
  ⟨⟨fun _ => .slice none 0 0, World.rowIs_made w (.slice none 0 0) U 38, fun k hk => by rw [hr k hk]; exact J1.nil _ _, fun j k b _ _ _ e => by simp [Value.ownBlock] at e, fun k b _ e => by simp [Value.ownBlock] at e⟩⟩
theorem JA.congr {w : World} {ab x U : Nat} {r r' : Nat → List (Option Nat)} (h : JA w ab x U r) (e : ∀ k, k < U → r' k = r k) : JA w ab x U r' := by
  obtain ⟨V, h1, h2, h3, h4⟩ := h.ex
  exact ⟨⟨V, h1, fun k hk => by rw [e k hk]; exact h2 k hk, h3, h4⟩⟩
/-- One row gets a piece more, and is put back. -/
theorem JA.put {w w4 : World} {ab x U k : Nat} {r r' : Nat → List (Option Nat)} {V : Nat → Value} {v' : Value} {y : List (Option Nat)} (hr : w.rowIs ab 38 U V) (h2 : ∀ k, k < U → J1 w (ab + 1) (V k) (r k)) (h3 : ∀ j k b, j < U → k < U → j ≠ k → (V j).ownBlock = some b → (V k).ownBlock ≠ some b) (h4 : ∀ k b, k < U → (V k).ownBlock = some b → b ≠ x) (hx : x < w.heap.size)
    (hk : k < U) (hg : Fi.Gw w w4 (V k) v') (hv : J1 w4 (ab + 1) v' (r k ++ y)) (e1 : r' k = r k ++ y) (e2 : ∀ j, j ≠ k → r' j = r j) : JA (w4.setCell ⟨ab, k, none⟩ v') ab x U r' := by
  have hab : ab < w.heap.size := by
    obtain ⟨c, hb, _⟩ := hr
    exact (Array.getElem?_eq_some_iff.1 hb).1
  have hkb : w4.heap[ab]? = w.heap[ab]? := hg.gr.block ab hab (fun q => by have := (h2 k hk).blk ab q.symm; omega)
  have hset : ∀ b, b ≠ ab → (w4.setCell ⟨ab, k, none⟩ v').heap[b]? = w4.heap[b]? := fun b hb => Below.heap_setCell _ _ _ _ hb
  refine ⟨⟨fun j => if j = k then v' else V j, ?_, fun j hj => ?_, fun i j b hi hj hne e => ?_, fun j b hj e => ?_⟩⟩
  · refine World.rowIs.congr (World.rowIs.set (World.rowIs.of_block hr hkb) k v') (fun i hi => ?_)
    rfl
  · by_cases c : j = k
    · subst c
      rw [e1]
      show J1 _ (ab + 1) (if j = j then v' else V j) _
      rw [if_pos rfl]
      exact hv.keep (fun b e => hset b (by have := hv.blk b e; omega))
    · rw [e2 j c]
      show J1 _ (ab + 1) (if j = k then v' else V j) _
      rw [if_neg c]
      refine (h2 j hj).keep (fun b e => ?_)
      have hb := (h2 j hj).blk b e
      rw [hset b (by omega), hg.gr.block b hb.2 (fun q => h3 j k b hj hk c e q.symm)]
  · have key : ∀ j, j < U → j ≠ k → ∀ b, (V j).ownBlock = some b → v'.ownBlock ≠ some b := fun j hj c b e q => by
      rcases hg.ob with o | ⟨m, o, om⟩
      · rw [o] at q; exact h3 j k b hj hk c e q
      · rw [o] at q; cases q; have := (h2 j hj).blk _ e; omega
    by_cases ci : i = k
    · have cj : j ≠ k := fun q => hne (ci.trans q.symm)
      have e' : v'.ownBlock = some b := by rw [← e]; show _ = (if i = k then v' else V i).ownBlock; rw [if_pos ci]
      show (if j = k then v' else V j).ownBlock ≠ some b
      rw [if_neg cj]
      exact fun q => key j hj cj b q e'
    · have e' : (V i).ownBlock = some b := by rw [← e]; show _ = (if i = k then v' else V i).ownBlock; rw [if_neg ci]
      show (if j = k then v' else V j).ownBlock ≠ some b
      by_cases cj : j = k
      · rw [if_pos cj]
        exact key i hi ci b e'
      · rw [if_neg cj]
        exact h3 i j b hi hj hne e'
  · by_cases c : j = k
    · have e' : v'.ownBlock = some b := by rw [← e]; show _ = (if j = k then v' else V j).ownBlock; rw [if_pos c]
      rcases hg.ob with o | ⟨m, o, om⟩
      · rw [o] at e'; exact h4 k b hk e'
      · rw [o] at e'; cases e'; omega
    · have e' : (V j).ownBlock = some b := by rw [← e]; show _ = (if j = k then v' else V j).ownBlock; rw [if_neg c]
      exact h4 j b hj e'
/-- A row with a piece more. -/
theorem J1.put {w4 : World} {base rm : Nat} {v' : Value} {r x : List (Option Nat)} {ga gx : List Nat} (h2 : Fi.abs ga = r) (h3 : ∀ x ∈ ga, x < 18446744073709551616) (o : w4.ownsRow base 46 1 v' (r.length + rm) (Fi.fls ga ++ Fi.fls gx)) (hm : gx.length = rm) (e : Fi.abs gx = x) (hx : ∀ y ∈ gx, y < 18446744073709551616) : J1 w4 base v' (r ++ x) := by
  refine ⟨⟨ga ++ gx, ?_, by rw [Fi.abs_app, h2, e], fun y hy => ?_⟩⟩
  · have e1 : (r ++ x).length = r.length + rm := by rw [List.length_append, ← e, Fi.abs_len, hm]
    rw [e1]
    have e2 : Fi.fls (ga ++ gx) = Fi.fls ga ++ Fi.fls gx := by unfold Fi.fls; rw [List.map_append]
    rw [e2]; exact o
  · rcases List.mem_append.1 hy with q | q
    · exact h3 y q
    · exact hx y q
theorem IL_words {w : World} {S : Nat → Prop} {ao : Option Addr} {g : List Nat} (h : Fi.IL w S ao g) : ∀ y ∈ g, y < 18446744073709551616 := fun y hy => by
  obtain ⟨j, hj⟩ := List.getElem?_of_mem hy
  have hl := (List.getElem?_eq_some_iff.1 hj).1
  obtain ⟨b, off, _, _, _, h4⟩ := h.at' (by omega)
  exact (h4 j y hj).2
/-- What is joined up to time n, out by out. -/
def rj (g : Gr) (V : Hist) (n k : Nat) : List (Option Nat) := jn V (g.outs.getD k 0) n
theorem rj_len (g : Gr) (V : Hist) (n k : Nat) : (rj g V n k).length = n := by unfold rj jn; simp
theorem rj_out {g : Gr} {V : Hist} {n k : Nat} (h : k < g.outs.length) : (outR g V 0 n)[k]? = some (rj g V n k) := by
  have e : g.outs[k]? = some (g.outs.getD k 0) := by rw [List.getD_eq_getElem?_getD, List.getElem?_eq_getElem h]; rfl
  exact out_jn g V n k e
theorem rj_piece {g : Gr} {V : Hist} {a c k : Nat} {y : List (Option Nat)} (h : (outR g V a c)[k]? = some y) : rj g V (a + c) k = rj g V a k ++ y := by
  have hk : k < g.outs.length := by have := (List.getElem?_eq_some_iff.1 h).1; rwa [outR_len] at this
  have e : g.outs[k]? = some (g.outs.getD k 0) := by rw [List.getD_eq_getElem?_getD, List.getElem?_eq_getElem hk]; rfl
  rw [out_piece g V a c k e] at h
  cases h
  exact jn_step V _ a c
theorem outR_piece_len {g : Gr} {V : Hist} {a c k : Nat} {y : List (Option Nat)} (h : (outR g V a c)[k]? = some y) : y.length = c := by
  unfold outR at h
  rw [List.getElem?_map] at h
  cases h2 : g.outs[k]? with
  | none => rw [h2] at h; cases h
  | some o => rw [h2] at h; cases h; simp
/-- The first piece's fault is that of all at once. -/
theorem first_er {P : List (List Nat)} {n : Nat} (g : Gr) (J : Nat → Hist) (hP : ∀ l ∈ P, l.length = n) (hn : n ≤ 65536) {cs : List Nat} (h0 : 0 < cs.length) (hs : cs.sum ≤ n) : ∃ r, (rsl g J 0 0 (cps P 0 cs))[0]? = some r ∧ r.2 = er g P n := by
  cases cs with
  | nil => simp at h0
  | cons c q =>
    rw [List.sum_cons] at hs
    exact ⟨(hrs g (vl g (J 0)) 0 ⟨cut P 0 c, c, false⟩, er g (cut P 0 c) c), rfl, cut_er g hP (by omega) hn⟩
theorem er_bad {g : Gr} {P : List (List Nat)} {n : Nat} (hn : n ≤ 65536) (h : er g P n ≠ 0) : er g P n = 8 := by
  unfold er at h ⊢
  rw [if_neg (by omega)] at h ⊢
  by_cases c : fitB g.ins P n = true
  · rw [if_pos c] at h; exact absurd rfl h
  · rw [if_neg c]
end Go.Proofs.Yteocihkiibigkaa.Gh

/- GraphBlocks: what a round of joining leaves. -/
namespace Go.Proofs.Yteocihkiibigkaa.Gh
open Go.RowKit Go.Maps Go.Sort Fl
set_option linter.unusedVariables false
set_option linter.unusedSimpArgs false

/-- What is left behind one piece's append and store. -/
structure PuJ (g : Gr) (V : Hist) (wr w7 : World) (ab xq U k S cq : Nat) (v' : Value) : Prop where
  ja : JA (w7.setCell ⟨ab, k, none⟩ v') ab xq U (fun j => if j < k + 1 then rj g V (S + cq) j else rj g V S j)
  cell : ∀ b o u, b < wr.heap.size → b ≤ ab ∨ b = xq → wr.cell? ⟨b, o, none⟩ = some u → w7.cell? ⟨b, o, none⟩ = some u
  x : ∀ u, wr.cell? ⟨xq, 0, none⟩ = some u → (w7.setCell ⟨ab, k, none⟩ v').cell? ⟨xq, 0, none⟩ = some u
  fz : w7.frozen? ⟨ab, k, none⟩ = false
  b : ∀ B w9, B ≤ ab → B ≤ wr.heap.size → Below B w9 wr → Below B w9 (w7.setCell ⟨ab, k, none⟩ v')
  z : xq + 1 ≤ (w7.setCell ⟨ab, k, none⟩ v').heap.size
theorem PuJ.mk' {g : Gr} {V : Hist} {wr w7 : World} {ab xq U k S cq : Nat} {Vv : Nat → Value} {v' : Value} {va : Option Addr} {vc : Nat} {y : List (Option Nat)} {ga gx : List Nat}
    (j1 : wr.rowIs ab 38 U Vv) (j2 : ∀ i, i < U → J1 wr (ab + 1) (Vv i) (if i < k then rj g V (S + cq) i else rj g V S i)) (j3 : ∀ j k b, j < U → k < U → j ≠ k → (Vv j).ownBlock = some b → (Vv k).ownBlock ≠ some b) (j4 : ∀ k b, k < U → (Vv k).ownBlock = some b → b ≠ xq)
    (hVk : Vv k = .slice va S vc) (ga1 : wr.ownsRow (ab + 1) 46 1 (Vv k) S (Fi.fls ga)) (ga2 : Fi.abs ga = rj g V S k) (ga3 : ∀ x ∈ ga, x < 18446744073709551616) (hk : k < U) (hxs : xq < wr.heap.size) (hxa : ab < xq) (hy : (outR g V S cq)[k]? = some y) (hgx : gx.length = cq) (y5 : Fi.abs gx = y) (hw : ∀ z ∈ gx, z < 18446744073709551616)
    (h7 : w7.ownsRow (ab + 1) 46 1 v' (S + cq) (Fi.fls ga ++ Fi.fls gx)) (g7 : Fi.Gw wr.drew w7 (.slice va S vc) v') : PuJ g V wr w7 ab xq U k S cq v' := by
  rw [← hVk] at g7
  have hown : ∀ b, (Vv k).ownBlock = some b → ab + 1 ≤ b ∧ b ≠ xq := fun b e => ⟨Fi.own_block ga1 b e, j4 k b hk e⟩
  have hsz : wr.heap.size ≤ w7.heap.size := g7.gr.size
  have hr0 : (if k < k then rj g V (S + cq) k else rj g V S k) = rj g V S k := if_neg (by omega)
  have hab : ab < wr.heap.size := by omega
  have hc : ∀ b o u, b < wr.heap.size → b ≤ ab ∨ b = xq → wr.cell? ⟨b, o, none⟩ = some u → w7.cell? ⟨b, o, none⟩ = some u := fun b o u h1 h2 h3 => g7.cell (w := wr.drew) h1 (fun e => by have := hown b e.symm; omega) h3
  have hbx : (w7.setCell ⟨ab, k, none⟩ v').heap[xq]? = w7.heap[xq]? := Below.heap_setCell _ _ _ _ (by show xq ≠ ab; omega)
  have hd : Below wr.heap.size wr wr.drew := ⟨rfl, rfl, rfl, Nat.le_refl _, fun _ _ => rfl⟩
  refine ⟨?_, hc, fun u hu => ?_, ?_, fun B w9 h1 h2 h3 => ?_, ?_⟩
  · have q1 : wr.drew.rowIs ab 38 U Vv := World.rowIs.of_block j1 rfl
    have q2 : ∀ i, i < U → J1 wr.drew (ab + 1) (Vv i) ((fun i => if i < k then rj g V (S + cq) i else rj g V S i) i) := fun i hi => (j2 i hi).keep (fun _ _ => rfl)
    have q3 : J1 w7 (ab + 1) v' ((fun i => if i < k then rj g V (S + cq) i else rj g V S i) k ++ y) := by
      show J1 w7 (ab + 1) v' ((if k < k then rj g V (S + cq) k else rj g V S k) ++ y)
      rw [hr0]
      have h8 : w7.ownsRow (ab + 1) 46 1 v' ((rj g V S k).length + cq) (Fi.fls ga ++ Fi.fls gx) := by rw [rj_len]; exact h7
      exact J1.put ga2 ga3 h8 hgx y5 hw
    have q4 : (fun j => if j < k + 1 then rj g V (S + cq) j else rj g V S j) k = (fun i => if i < k then rj g V (S + cq) i else rj g V S i) k ++ y := by
      show (if k < k + 1 then rj g V (S + cq) k else rj g V S k) = (if k < k then rj g V (S + cq) k else rj g V S k) ++ y
      rw [hr0, if_pos (by omega)]
      exact rj_piece hy
    have q5 : ∀ i, i ≠ k → (fun j => if j < k + 1 then rj g V (S + cq) j else rj g V S j) i = (fun i => if i < k then rj g V (S + cq) i else rj g V S i) i := fun i hi => by
      show (if i < k + 1 then rj g V (S + cq) i else rj g V S i) = (if i < k then rj g V (S + cq) i else rj g V S i)
      by_cases ci : i < k
      · rw [if_pos ci, if_pos (by omega)]
      · rw [if_neg ci, if_neg (by omega)]
    exact JA.put q1 q2 j3 j4 hxs hk g7 q3 q4 q5
  · exact (World.cell?_of_block (w := w7) (a := ⟨xq, 0, none⟩) hbx).trans (hc xq 0 u hxs (.inr rfl) hu)
  · exact g7.froz (w := wr.drew) hab (fun e => by have := hown ab e.symm; omega) (World.rowIs.frozen j1 k)
  · have h4 : Below B wr wr.drew := hd.mono h2
    have h5 : Below B wr.drew w7 := g7.bel h2 (fun b e => by have := hown b e; omega)
    exact ((h3.trans h4).trans h5).setCell (p := ⟨ab, k, none⟩) h1 _
  · rw [World.size_setCell]; omega
end Go.Proofs.Yteocihkiibigkaa.Gh

/- GraphBlocks, walked. -/
namespace Go.Proofs.Yteocihkiibigkaa.Gh
open Go.RowKit Go.Maps Go.Sort Fl
set_option linter.unusedVariables false
set_option linter.unusedSimpArgs false

set_option maxRecDepth 4000 in
/-- l[a:b:b] in a region that draws. -/
theorem val_cut {a : Act} {w' : World} {o : Oper} (i j k l : Operand) (ho : o.op = .slice 38 i (some j) (some k) (some l)) (la : Option Addr) (m c A C : Nat) (hi : a.eval i = .slice la m c) (hj : a.eval j = .int .i64 (A : Int)) (hk : a.eval k = .int .i64 ((A + C : Nat) : Int)) (hl : a.eval l = .int .i64 ((A + C : Nat) : Int)) (h2 : A + C ≤ c) : RM.valAt Try.prog o a w' (.slice (Fi.frm la A (A + C)) C C) := by
  have e : (execOp a.eval o).run Try.prog w' = .ok (.value (.slice (Fi.frm la A (A + C)) C C)) w' := by
    unfold execOp
    rw [ho]
    have h := run_cut la m c A (A + C) (by omega) h2 w'
    rw [show A + C - A = C by omega] at h
    have ec : ((A + C : Nat) : Int) = (A : Int) + (C : Int) := by push_cast; rfl
    rw [ec] at h hk hl
    simp [hi, hj, hk, hl, run_sliceAt_slice (P := Try.prog) _ 38 _ _ _ _ Try.underlying38, h]
  unfold RM.valAt
  rw [e]
  exact ⟨rfl, rfl⟩
set_option maxRecDepth 40000 in
set_option maxHeartbeats 8000000 in
theorem blocks_walk (g : Gr) (go uo : Option Addr) (gc uc : Nat) (P : List (List Nat)) (io : Option Addr) (m ic : Nat) (cu : List Int) (co : Option Addr) (M kc : Nat) (w : World) (hG : GH w (fun b => b < w.heap.size) g go uo gc uc) (hP : Fi.PL w w.heap.size io P) (hm : P.length = m) (hc : m ≤ ic) (hcm : ic ≤ 9223372036854775807) (hml : m ≤ 1048576) (hO : ZL w (fun b => b < w.heap.size) co cu) (hol : cu.length = M) (hoc : M ≤ kc) (hocm : kc ≤ 9223372036854775807) (hnil : co = none → kc = 0) (hM : M < 1048576) (hUl : g.outs.length ≤ 1048576) :
    Calls Try.prog 4 #[gvg g go uo gc uc, .slice io m ic, .slice co M kc] w fun e w' => e = .returned (.bool true) ∧ Below w.heap.size w w' := by
  obtain ⟨N, hNg⟩ : ∃ N, N = g.nodes.length := ⟨_, rfl⟩
  obtain ⟨U, hU⟩ : ∃ U, U = g.outs.length := ⟨_, rfl⟩
  obtain ⟨ins, hins⟩ : ∃ ins, ins = g.ins := ⟨_, rfl⟩
  obtain ⟨W1, hW1⟩ : ∃ X, X = w.alloc (Obj.cells #[.int .i64 ins, .slice go N gc, .slice uo U uc] 25) := ⟨_, rfl⟩
  have HB1 : Hid (Below w.heap.size w W1) := by rw [hW1]; exact (Below.refl _ _).alloc (Nat.le_refl _) _
  have x0 : W1.cell? ⟨w.heap.size, 0, none⟩ = some (.int .i64 ins) := by rw [hW1]; simp [go_sem]
  have x1 : W1.cell? ⟨w.heap.size, 1, none⟩ = some (.slice go N gc) := by rw [hW1]; simp [go_sem]
  have x2 : W1.cell? ⟨w.heap.size, 2, none⟩ = some (.slice uo U uc) := by rw [hW1]; simp [go_sem]
  have hargs : gvg g go uo gc uc = .agg #[.int .i64 ins, .slice go N gc, .slice uo U uc] := by rw [hU, hins, hNg]
  have HA : Hid (gvg g go uo gc uc = .agg #[.int .i64 ins, .slice go N gc, .slice uo U uc]) := hargs
  rw [hargs]
  have HG : Hid (GH w (fun b => b < w.heap.size) g go uo gc uc) := hG
  have HP : Hid (Fi.PL w w.heap.size io P) := hP
  have HOr : Hid (ZL w (fun b => b < w.heap.size) co cu) := hO
  have Hm : Hid (P.length = m) := hm
  have Hol : Hid (cu.length = M) := hol
  have HNg : Hid (N = g.nodes.length ∧ U = g.outs.length ∧ ins = g.ins) := ⟨hNg, hU, hins⟩
  have hUl' : U ≤ 1048576 := by rw [hU]; exact hUl
  have qa := alive_any W1
  obtain ⟨xb, hxb⟩ : ∃ xb, xb = w.heap.size := ⟨_, rfl⟩
  rw [← hxb] at x0 x1 x2
  have Hxb : Hid (xb = w.heap.size) := hxb
  clear hG hP hO hm hargs hU hins hNg hUl hol
  go_enter Try.func4, Try.ntmps4
  go_wp2_with fail
  rw [← hW1, ← hxb]
  clear hW1 hxb
  refine qa.mono ?_
  rintro e w2 ⟨rfl, hb2⟩
  have y0 := Fi.keepC hb2 (lt_cell x0) x0
  have y1 := Fi.keepC hb2 (lt_cell x1) x1
  have y2 := Fi.keepC hb2 (lt_cell x2) x2
  have HB2 : Hid (Below w.heap.size w w2) := HB1.out.trans (hb2.mono HB1.out.size)
  have ly := lt_cell y0
  have HP2 : Hid (Fi.PL w2 w.heap.size io P) := HP.out.keep (Nat.le_refl _) (fun b hb => HB2.out.block b hb) HB2.out.size
  clear x0 x1 x2 qa hb2 HB1
  go_wp2_with fail
  go_loopw [30, 7] (fun i v ww => ∃ k n : Nat, k ≤ m ∧ i = .int .i64 k ∧ v = .int .i64 n ∧ Hid (Ln P k n) ∧ ww = w2) (fun i _ _ => m - (intOf i).toNat)
  case atStart => exact ⟨0, 0, by omega, rfl, rfl, ⟨fun _ => rfl, fun j p h => absurd h (by omega), by omega⟩, rfl⟩
  case round =>
    obtain ⟨k, n, hk, rfl, rfl, hL, rfl⟩ := hrel
    by_cases hlt : k < m
    ·
      --[
      obtain ⟨l, hl⟩ : ∃ l, P[k]? = some l := ⟨_, List.getElem?_eq_getElem (by rw [Hm.out]; exact hlt)⟩
      obtain ⟨b, off, rfl, p1, p2⟩ := HP2.out.at' (by rw [Hm.out]; omega)
      obtain ⟨la, lc, v0, q2, q3, q4, q5⟩ := p2 k l hl
      obtain ⟨L, hLl⟩ : ∃ L, L = l.length := ⟨_, rfl⟩
      rw [← hLl] at v0 q2
      have lv0 := lt_cell v0
      have hlt' : (k : Int) < (m : Int) := by omega
      have w3 : IntKind.i64.wrap ((k : Int) + 1) = (k : Int) + 1 := wid (by omega) (by omega)
      have HBw : Hid (Below w.heap.size w wr) := HB2.out
      have HS : Hid (0 < k → L = n) → Hid (L ≤ 5000) → Hid (Ln P (k + 1) L) := fun h1 h2 => by
        have := hL.out.step hl (by rw [← hLl]; exact h1.out) (by rw [← hLl]; exact h2.out)
        rw [← hLl] at this
        exact this
      by_cases c0 : 0 < k
      · have c0' : (0 : Int) < (k : Int) := by omega
        by_cases c1 : L = n
        · have c1' : ((L : Int) != (n : Int)) = false := by simp [c1]
          by_cases c2 : 5000 < L
          · have c2' : (5000 : Int) < (L : Int) := by omega
            clear hL p2 hl q5 HS hLl c1
            go_wp2_with fail
            go_returns
            exact ⟨rfl, HBw.out⟩
          · have c2' : ¬ (5000 : Int) < (L : Int) := by omega
            have HN : Hid (Ln P (k + 1) L) := HS (show 0 < k → L = n from fun _ => c1) (show L ≤ 5000 by omega)
            clear hL p2 hl q5 HS hLl c1
            go_wp2_with fail
            exact ⟨⟨k + 1, L, by omega, by go_num, rfl, HN, trivial⟩, by simp [intOf]; omega⟩
        · have c1' : ((L : Int) != (n : Int)) = true := by simp; omega
          clear hL p2 hl q5 HS hLl
          go_wp2_with fail
          all_goals first
            | (exfalso; omega)
            | (go_returns; exact ⟨rfl, HBw.out⟩)
      · obtain rfl : k = 0 := by omega
        have v0' : wr.cell? ⟨b, off, none⟩ = some (.slice la L lc) := v0
        by_cases c2 : 5000 < L
        · have c2' : (5000 : Int) < (L : Int) := by omega
          clear hL p2 hl q5 HS hLl
          go_wp2_with fail
          go_returns
          exact ⟨rfl, HBw.out⟩
        · have c2' : ¬ (5000 : Int) < (L : Int) := by omega
          have HN : Hid (Ln P (0 + 1) L) := HS (show 0 < 0 → L = n from fun h => absurd h (by omega)) (show L ≤ 5000 by omega)
          clear hL p2 hl q5 HS hLl
          go_wp2_with fail
          exact ⟨⟨0 + 1, L, by omega, by go_num, rfl, HN, trivial⟩, by simp [intOf]; omega⟩
      --]
    · obtain rfl : m = k := by omega
      go_upto_if 53 with fail
      go_cut [7] (fun v ww => ∃ nn : Nat, v = .int .i64 nn ∧ Hid ((∀ l ∈ P, l.length = nn) ∧ nn ≤ 5000) ∧ ww = wr)
      case first =>
        by_cases h0 : m = 0
        · subst h0
          have HN : Hid ((∀ l ∈ P, l.length = 100) ∧ 100 ≤ 5000) := ⟨fun l hl => (by
            have h1 : P = [] := List.eq_nil_of_length_eq_zero Hm.out
            rw [h1] at hl
            cases hl), by omega⟩
          clear hL
          go_wp2_with fail
          go_meet
          case rel => exact ⟨100, rfl, HN, rfl⟩
        · have h0' : ((m : Int) == 0) = false := by simp; omega
          have HN : Hid ((∀ l ∈ P, l.length = n) ∧ n ≤ 5000) := ⟨hL.out.all Hm.out, hL.out.b⟩
          clear hL
          go_wp2_with fail
          all_goals first
            | (exfalso; omega)
            | (go_meet
               case rel => exact ⟨n, rfl, HN, rfl⟩)
      case rest =>
        obtain ⟨nn, rfl, hN, rfl⟩ := hcut
        have HBw : Hid (Below w.heap.size w wc) := HB2.out
        have hbA : Below wc.heap.size wc (wc.alloc (Obj.cells #[] 3)) := (Below.refl _ _).alloc (Nat.le_refl _) _
        have HOw : Hid ((wc.alloc (Obj.cells #[] 3)).ownsRow wc.heap.size 3 1 (.slice (some ⟨wc.heap.size, 0, none⟩) 0 0) 0 (ils [])) := own_new3 wc wc.heap.size (Nat.le_refl _)
        have HZ : Hid (ZL (wc.alloc (Obj.cells #[] 3)) (fun _ => True) co cu) := HOr.out.keep (fun b _ hl => (HBw.out.trans (hbA.mono HBw.out.size)).block b hl) (HBw.out.trans (hbA.mono HBw.out.size)).size (fun _ _ _ => trivial)
        have hzA : wc.heap.size ≤ (wc.alloc (Obj.cells #[] 3)).heap.size := hbA.size
        have HbA : Hid (Below wc.heap.size wc (wc.alloc (Obj.cells #[] 3))) := hbA
        clear hbA hk hlt
        go_wp2_with (at_builtin; refine wpList_append_zz rfl (.tmp 54) (.tmp 55) rfl wc.heap.size _ 0 (ils []) rfl HOw.out (fun _ => True) cu M Hol.out co kc rfl hoc hnil HZ.out (by omega) hzA ?a1)
        case a1 =>
          intro v' w' h7 g7
          obtain ⟨va, vc, rfl, vc1, vc2⟩ := Fi.own_form h7
          have hb4 : Below w.heap.size w w' := HBw.out.trans ((HbA.out.trans (g7.bel HbA.out.size (fun k hk => Fi.own_block HOw.out k hk))).mono HBw.out.size)
          have hb4' : Below wc.heap.size wc w' := HbA.out.trans (g7.bel HbA.out.size (fun k hk => Fi.own_block HOw.out k hk))
          have hbB : Below w'.heap.size w' (w'.alloc (Obj.cells #[.int .i64 nn] 3)) := (Below.refl _ _).alloc (Nat.le_refl _) _
          have HOw2 : Hid ((w'.alloc (Obj.cells #[.int .i64 nn] 3)).ownsRow wc.heap.size 3 1 (.slice va M vc) M (ils [] ++ ils cu)) := Fi.own_step h7 (fun q hq => hbB.block q (Fi.own_lt h7 q hq))
          have hzB : wc.heap.size ≤ (w'.alloc (Obj.cells #[.int .i64 nn] 3)).heap.size := by have := hbB.size; have := hb4'.size; omega
          have HB4 : Hid (Below w.heap.size w (w'.alloc (Obj.cells #[.int .i64 nn] 3)) ∧ Below wc.heap.size wc (w'.alloc (Obj.cells #[.int .i64 nn] 3))) := ⟨hb4.trans (hbB.mono hb4.size), hb4'.trans (hbB.mono hb4'.size)⟩
          have hM4 : M ≤ 4194304 := by omega
          clear h7 g7 hb4 hb4' hbB HOw HZ HbA hzA
          go_wp2_with (at_builtin; refine Fi.wpList_append_1 23 3 (.int .i64 0) 8 Try.underlying23 infoZ rfl (by omega) rfl (.tmp 56) (.tmp 58) rfl wc.heap.size _ M (ils [] ++ ils cu) rfl HOw2.out w'.heap.size (.int .i64 nn) rfl (by simp [go_sem]) rfl hM4 hzB ?a2)
          case a2 =>
            intro v2 w5 h8 g8
            obtain ⟨L, hL2⟩ : ∃ L, L = cu ++ [(nn : Int)] := ⟨_, rfl⟩
            have hLl : L.length = M + 1 := by rw [hL2, List.length_append, Hol.out]; rfl
            have h9 : w5.ownsRow wc.heap.size 3 1 v2 L.length (ils L) := by
              rw [hLl, hL2, ils_snoc]
              exact h8
            obtain ⟨ca, cc2, hv2, cc3, cc4, hZL⟩ := own_ZL h9
            rw [hLl] at hv2 cc3
            subst hv2
            have hb5 : Below wc.heap.size wc w5 := HB4.out.2.trans (g8.bel hzB (fun k hk => Fi.own_block HOw2.out k hk))
            have HB5 : Hid (Below w.heap.size w w5 ∧ Below wc.heap.size wc w5) := ⟨HBw.out.trans (hb5.mono HBw.out.size), hb5⟩
            have HZ5 : Hid (ZL w5 (fun b => b < w5.heap.size) ca L ∧ L = cu ++ [(nn : Int)] ∧ L.length = M + 1) := ⟨hZL.keep (fun _ _ _ => rfl) (Nat.le_refl _) (fun b h _ => h.2), hL2, hLl⟩
            have HP5 : Hid (Fi.PL w5 w.heap.size io P) := HP.out.keep (Nat.le_refl _) (fun b hb => HB5.out.1.block b hb) HB5.out.1.size
            have z0 := Fi.keepC hb5 (lt_cell y0) y0
            have z1 := Fi.keepC hb5 (lt_cell y1) y1
            have z2 := Fi.keepC hb5 (lt_cell y2) y2
            clear h8 g8 h9 hZL hb5 HOw2 HB4 hzB hL2 hLl y0 y1 y2 ly
            have hNw : Hid (w.heap.size ≤ w5.heap.size) := HB5.out.1.size
            go_wp2_with fail
            go_loopw [61, 10, 11] (fun i v a ww => ∃ k : Nat, k ≤ M + 1 ∧ i = .int .i64 k ∧ a = .int .i64 (atk nn L k : Nat) ∧ Hid (PcO ww w5.heap.size w.heap.size v (pcsk P nn L k)) ∧ Hid (Below w5.heap.size w5 ww)) (fun i _ _ _ => M + 1 - (intOf i).toNat)
            case atStart => exact ⟨0, by omega, rfl, rfl, PcO.nil _ _ _, Below.refl _ _⟩
            case round =>
              obtain ⟨k, hk, rfl, rfl, hPc, hBr⟩ := hrel
              obtain ⟨Vs, hV1, hV2, hV3⟩ := hPc.out.ex
              rw [pcsk_len (by rw [HZ5.out.2.2]; exact hk)] at hV1 hV2
              obtain ⟨po, pc, rfl, pc1, pc2⟩ := Fi.own_form hV1
              obtain ⟨A, hA⟩ : ∃ A, A = atk nn L k := ⟨_, rfl⟩
              have hAn : A ≤ nn := by rw [hA]; exact atk_le nn L k
              have hn5 : nn ≤ 5000 := hN.out.2
              rw [← hA]
              by_cases hlt : k < M + 1
              · obtain ⟨c, hc'⟩ : ∃ c, L[k]? = some c := ⟨_, List.getElem?_eq_getElem (by rw [HZ5.out.2.2]; exact hlt)⟩
                obtain ⟨cb, cof, rfl, o1, _, o3⟩ := (HZ5.out.1.keep (w' := wr) (S' := fun _ => True) (fun b _ hl => hBr.out.block b hl) hBr.out.size (fun _ _ _ => trivial)).at' (by rw [HZ5.out.2.2]; omega)
                have v0 := o3 k c hc'
                have lv0 := lt_cell v0
                have hlt' : (k : Int) < (M : Int) + 1 := by omega
                have w7 : IntKind.i64.wrap ((k : Int) + 1) = (k : Int) + 1 := wid (by omega) (by omega)
                obtain ⟨wl, hwl⟩ : ∃ x, x = wr := ⟨wr, rfl⟩
                subst hwl
                have HK : Hid (L[k]? = some c ∧ A = atk nn L k) := ⟨hc', hA⟩
                clear o3 hc' hA
                obtain ⟨C, hC⟩ : ∃ C, C = cc nn A c := ⟨_, rfl⟩
                have hAC : A + C ≤ nn := by rw [hC]; exact cc_le c hAn
                have wA : IntKind.i64.wrap ((A : Int) + (C : Int)) = (A : Int) + (C : Int) := wid (by omega) (by omega)
                have hw6 : (if c < 0 ∨ (nn : Int) - (A : Int) < c then (nn : Int) - (A : Int) else c) = (C : Int) := by
                  rw [hC]
                  by_cases cb : c < 0 ∨ (nn : Int) - (A : Int) < c
                  · rw [if_pos cb, cc_bad hAn cb]
                  · rw [if_neg cb, cc_ok (by omega) (by omega)]
                obtain ⟨pk, hpk⟩ : ∃ pk, pk = wl.heap.size := ⟨_, rfl⟩
                obtain ⟨WX, hWX⟩ : ∃ X, X = wl.alloc (Obj.cells #[.slice none 0 0, .int .i64 (C : Nat), .bool false] 34) := ⟨_, rfl⟩
                have HLB : Hid (LB wl pk w.heap.size P A C 0 WX) := by
                  rw [hWX, hpk]
                  refine ⟨⟨none, 0, ?_, Fi.VO.nil _ _ _⟩, (Below.refl _ _).alloc (Nat.le_refl _) _, by simp⟩
                  exact World.rowIs_alloc wl #[.slice none 0 0, .int .i64 (C : Nat), .bool false] 34 (sf (.slice none 0 0) C) (fun i hi => by
                    match i, hi with
                    | 0, _ => rfl
                    | 1, _ => rfl
                    | 2, _ => rfl
                    | i + 3, hi => exact absurd hi (by show ¬ (i + 3 < 3); omega))
                have HKC : Hid (C = cc nn A c) := hC
                clear hC
                have hway : (c < 0 ∧ (nn : Int) - (A : Int) = (C : Int)) ∨ (¬ c < 0 ∧ (nn : Int) - (A : Int) < c ∧ (nn : Int) - (A : Int) = (C : Int)) ∨ (c = (C : Int) ∧ ¬ (nn : Int) - (A : Int) < (C : Int)) := by
                  by_cases c1 : c < 0
                  · rw [if_pos (.inl c1)] at hw6; exact .inl ⟨c1, hw6⟩
                  · by_cases c2 : (nn : Int) - (A : Int) < c
                    · rw [if_pos (.inr c2)] at hw6; exact .inr (.inl ⟨c1, c2, hw6⟩)
                    · rw [if_neg (by omega)] at hw6; exact .inr (.inr ⟨hw6, by omega⟩)
                have HV : Hid (wl.ownsRow w5.heap.size 34 3 (.slice po k pc) k Vs ∧ Vs.length = k * 3 ∧ (∀ (j : Nat) p, (pcsk P nn L k)[j]? = some p → ∃ io ic, Vs[j * 3]? = some (.slice io p.ins.length ic) ∧ Vs[j * 3 + 1]? = some (.int .i64 p.n) ∧ Vs[j * 3 + 2]? = some (.bool p.rest) ∧ p.ins.length ≤ ic ∧ ic ≤ 9223372036854775807 ∧ PQ wl (Fi.Sc w5.heap.size wl (.slice po k pc)) w.heap.size io p.ins)) := ⟨hV1, hV2, hV3⟩
                have Hpk : Hid (pk = wl.heap.size) := hpk
                clear hV1 hV2 hV3 hPc hw6
                rcases hway with ⟨c1, e⟩ | ⟨c1, c2, e⟩ | ⟨rfl, c2⟩
                all_goals
                  go_wp2_with fail
                  rw [← hWX, ← hpk]
                  clear hWX hpk
                  go_loopw [81] (fun q ww => ∃ j : Nat, j ≤ m ∧ q = .int .i64 j ∧ Hid (LB wl pk w.heap.size P A C j ww)) (fun q _ => m - (intOf q).toNat)
                  case atStart => exact ⟨0, by omega, rfl, HLB⟩
                  case round =>
                    obtain ⟨j, hj, rfl, hLB⟩ := hrel
                    obtain ⟨xo, xc, hxr, hxv⟩ := hLB.out.v
                    have hb3 := hLB.out.b
                    have hz3 := hLB.out.z
                    obtain ⟨Vx, q1, q2, q3⟩ := hxv.ex
                    have htl : ((cut P A C).take j).length = j := by rw [List.length_take, cut_len, Hm.out]; omega
                    rw [htl] at q1 q2
                    by_cases hlt3 : j < m
                    · obtain ⟨l, hl⟩ : ∃ l, P[j]? = some l := ⟨_, List.getElem?_eq_getElem (by rw [Hm.out]; exact hlt3)⟩
                      have hll : l.length = nn := hN.out.1 l (List.mem_of_getElem? hl)
                      have hbw : Below w5.heap.size w5 wr := hBr.out.trans (hb3.mono (by rw [Hpk.out]; exact hBr.out.size))
                      have hPL := HP5.out.keep (w' := wr) (by exact hNw.out) (fun b hb => hbw.block b (by have := hNw.out; omega)) hbw.size
                      obtain ⟨ib, iof, rfl, i1, i2⟩ := hPL.at' (by rw [Hm.out]; omega)
                      obtain ⟨la, lc, v1, r2, r3, r4, r5⟩ := i2 j l hl
                      rw [hll] at v1 r2
                      have lv1 := lt_cell v1
                      have hlt3' : (j : Int) < (m : Int) := by omega
                      have w8 : IntKind.i64.wrap ((j : Int) + 1) = (j : Int) + 1 := wid (by omega) (by omega)
                      have vx : wr.cell? ⟨pk, 0, none⟩ = some (.slice xo j xc) := World.rowIs.cell hxr (by decide)
                      have vxf := World.rowIs.frozen hxr 0
                      have lvx := lt_cell vx
                      have hbA : Below wr.heap.size wr ((wr.alloc (Obj.cells #[.slice (Fi.frm la A (A + C)) C C] 38)).drew) := ((Below.refl _ _).alloc (Nat.le_refl _) _).drew
                      have HOx : Hid (((wr.alloc (Obj.cells #[.slice (Fi.frm la A (A + C)) C C] 38)).drew).ownsRow (pk + 1) 38 1 (.slice xo j xc) j Vx) := Fi.own_step q1 (fun q hq => hbA.block q (Fi.own_lt q1 q hq))
                      have hbz : pk + 1 ≤ ((wr.alloc (Obj.cells #[.slice (Fi.frm la A (A + C)) C C] 38)).drew).heap.size := by have := hbA.size; omega
                      have hcA : ((wr.alloc (Obj.cells #[.slice (Fi.frm la A (A + C)) C C] 38)).drew).cell? ⟨wr.heap.size, 0, none⟩ = some (.slice (Fi.frm la A (A + C)) C C) := by simp [go_sem]
                      have HPu : Hid (∀ v' w7, w7.ownsRow (pk + 1) 38 1 v' (j + 1) (Vx ++ [.slice (Fi.frm la A (A + C)) C C]) → Fi.Gw ((wr.alloc (Obj.cells #[.slice (Fi.frm la A (A + C)) C C] 38)).drew) w7 (.slice xo j xc) v' → LB wl pk w.heap.size P A C (j + 1) (w7.setCell ⟨pk, 0, none⟩ v') ∧ w7.cell? ⟨pk, 0, none⟩ = some (.slice xo j xc) ∧ w7.frozen? ⟨pk, 0, none⟩ = false) := fun v' w7 h7 g7 => by
                        have hne : some pk ≠ (Value.slice xo j xc).ownBlock := fun q => by have := Fi.own_block q1 pk q.symm; omega
                        refine ⟨?_, g7.cell (by have := hbA.size; omega) hne (Fi.keepC hbA lvx vx), g7.froz (by have := hbA.size; omega) hne ((World.frozen?_of_block (w := wr) (a := ⟨pk, 0, none⟩) (hbA.block pk lvx)).trans vxf)⟩
                        exact LB.push hxr q1 q2 q3 (by rw [Hm.out]; exact hlt3) (by have h1 := hNw.out; have h2 := hBr.out.size; have h3 := Hpk.out; omega) hb3 hz3 hbA g7 hl (by rw [hll]; exact hAC) (by omega) (fun e => by have := r4 e; omega) (r5.keep (fun _ _ _ => rfl) (Nat.le_refl _) (fun _ h _ => h)) h7
                      have hjB : j ≤ 4194304 := by omega
                      have hACl : A + C ≤ lc := by omega
                      have wA2 : IntKind.i64.wrap ((A : Int) + (C : Int)) = ((A + C : Nat) : Int) := by rw [wA]; push_cast; rfl
                      clear hLB hxr hxv hb3 hz3 q1 q2 q3 i2 hl hbw hPL htl r5
                      go_wp2_with fail
                      refine RF.wp_region_last (fun w' : World => w'.cell? ⟨pk, 0, none⟩ = some (.slice xo j xc)) (fun k => k != 11 && k != 12) 14 _ rfl (by kernel_rfl) (by kernel_rfl) (by kernel_rfl) (by kernel_rfl) (by kernel_rfl) vx ?_
                      dsimp only [List.take]
                      refine RF.wpFl_readC rfl rfl (.pointer (some ⟨pk, 0, none⟩)) (fun w' hw' => by have cd : w'.cell? ⟨pk, 0, none⟩ = some (.slice xo j xc) := hw'; have cc := lt_cell cd; clear hw' hbA HPu HOx; unfold RM.valAt; go_simp) ?_
                      refine RF.wpFl_readC rfl rfl (.slice xo j xc) (fun w' hw' => by have cd : w'.cell? ⟨pk, 0, none⟩ = some (.slice xo j xc) := hw'; have cc := lt_cell cd; clear hw' hbA HPu HOx; unfold RM.valAt; go_simp) ?_
                      refine RF.wpFl_readC rfl rfl (.slice la nn lc) (fun w' hw' => by have cd : w'.cell? ⟨pk, 0, none⟩ = some (.slice xo j xc) := hw'; have cc := lt_cell cd; clear hw' hbA HPu HOx; unfold RM.valAt; go_simp) ?_
                      refine RF.wpFl_readC rfl rfl (.int .i64 (A : Nat)) (fun w' hw' => by have cd : w'.cell? ⟨pk, 0, none⟩ = some (.slice xo j xc) := hw'; have cc := lt_cell cd; clear hw' hbA HPu HOx; unfold RM.valAt; go_simp) ?_
                      refine RF.wpFl_readC rfl rfl (.int .i64 (A : Nat)) (fun w' hw' => by have cd : w'.cell? ⟨pk, 0, none⟩ = some (.slice xo j xc) := hw'; have cc := lt_cell cd; clear hw' hbA HPu HOx; unfold RM.valAt; go_simp) ?_
                      refine RF.wpFl_readC rfl rfl (.int .i64 (C : Nat)) (fun w' hw' => by have cd : w'.cell? ⟨pk, 0, none⟩ = some (.slice xo j xc) := hw'; have cc := lt_cell cd; clear hw' hbA HPu HOx; unfold RM.valAt; go_simp) ?_
                      refine RF.wpFl_readC rfl rfl (.int .i64 (A + C : Nat)) (fun w' hw' => by have cd : w'.cell? ⟨pk, 0, none⟩ = some (.slice xo j xc) := hw'; have cc := lt_cell cd; clear hw' hbA HPu HOx; unfold RM.valAt; go_simp) ?_
                      refine RF.wpFl_readC rfl rfl (.int .i64 (A : Nat)) (fun w' hw' => by have cd : w'.cell? ⟨pk, 0, none⟩ = some (.slice xo j xc) := hw'; have cc := lt_cell cd; clear hw' hbA HPu HOx; unfold RM.valAt; go_simp) ?_
                      refine RF.wpFl_readC rfl rfl (.int .i64 (C : Nat)) (fun w' hw' => by have cd : w'.cell? ⟨pk, 0, none⟩ = some (.slice xo j xc) := hw'; have cc := lt_cell cd; clear hw' hbA HPu HOx; unfold RM.valAt; go_simp) ?_
                      refine RF.wpFl_readC rfl rfl (.int .i64 (A + C : Nat)) (fun w' hw' => by have cd : w'.cell? ⟨pk, 0, none⟩ = some (.slice xo j xc) := hw'; have cc := lt_cell cd; clear hw' hbA HPu HOx; unfold RM.valAt; go_simp) ?_
                      refine RF.wpFl_readC rfl rfl (.slice (Fi.frm la A (A + C)) C C) (fun w' hw' => by
                        clear hw' hbA HPu HOx
                        have f1 : (0 : Int) ≤ (A : Int) + (C : Int) := by omega
                        have f2 : (A : Int) + (C : Int) ≤ (lc : Int) := by omega
                        have f3 : ((A : Int) + (C : Int)).toNat = A + C := by omega
                        have f4 : max ((A : Int) + (C : Int)) 0 = (A : Int) + (C : Int) := by omega
                        have f5 : A + C - A = C := by omega
                        have f6 : A ≤ A + C := by omega
                        unfold RM.valAt Fi.frm
                        go_simp) ?_
                      refine RF.wpFl_doC rfl rfl (fun K hK => ?_)
                      go_wp2_with fail
                      refine hK _ _ ((Fi.keepC hbA lvx vx)) ?_
                      clear hK K
                      refine RF.wpFl_doC rfl rfl (fun K hK => ?_)
                      refine Fi.wpList_append_1 32 38 (.slice none 0 0) 24 Try.underlying32 Fi.infoFs rfl (by omega) rfl (.tmp 86) (.tmp 96) rfl (pk + 1) (.slice xo j xc) j Vx rfl HOx.out wr.heap.size (.slice (Fi.frm la A (A + C)) C C) rfl hcA rfl hjB hbz ?_
                      intro v' w7 h7 g7
                      obtain ⟨z1, z2, z3⟩ := HPu.out v' w7 h7 g7
                      obtain ⟨va2, vc3, rfl, vd1, vd2⟩ := Fi.own_form h7
                      have Z1 : Hid _ := z1
                      refine hK _ _ z2 ?_
                      clear hK K h7 g7 z1 hbA
                      refine RF.wpFl_readC rfl rfl (.pointer (some ⟨pk, 0, none⟩)) (fun w' hw' => by have cd : w'.cell? ⟨pk, 0, none⟩ = some (.slice xo j xc) := hw'; have cc := lt_cell cd; unfold RM.valAt; go_simp) ?_
                      refine RF.wpFl_nil ?_
                      have lz2 := lt_cell z2
                      go_wp2_with fail
                      generalize w7.setCell ⟨pk, 0, none⟩ (.slice va2 (j + 1) vc3) = W8 at *
                      clear HPu HOx z2 z3 vx vxf v1 lv1 lvx hcA hbz lz2
                      go_wp2_with fail
                      exact ⟨⟨j + 1, by omega, by go_num, Z1⟩, by simp [intOf]; omega⟩
                    · obtain rfl : m = j := by omega
                      have htk : (cut P A C).take m = cut P A C := List.take_of_length_le (by rw [cut_len, Hm.out]; exact Nat.le_refl _)
                      rw [htk] at hxv
                      obtain ⟨xo', xc', e1, e2, e3, e4⟩ := PQ.of hxv
                      rw [cut_len, Hm.out] at e1 e2
                      cases e1
                      have d0 : wr.cell? ⟨pk, 0, none⟩ = some (.slice xo m xc) := World.rowIs.cell hxr (i := 0) (by decide)
                      have d1 : wr.cell? ⟨pk, 1, none⟩ = some (.int .i64 (C : Nat)) := World.rowIs.cell hxr (i := 1) (by decide)
                      have d2 : wr.cell? ⟨pk, 2, none⟩ = some (.bool false) := World.rowIs.cell hxr (i := 2) (by decide)
                      have ld := lt_cell d0
                      have hbA : Below wr.heap.size wr (wr.alloc (Obj.cells #[.slice xo m xc, .int .i64 (C : Nat), .bool false] 34)) := (Below.refl _ _).alloc (Nat.le_refl _) _
                      have hbA2 : Below wl.heap.size wl (wr.alloc (Obj.cells #[.slice xo m xc, .int .i64 (C : Nat), .bool false] 34)) := by rw [← Hpk.out]; exact hb3.trans (hbA.mono (by omega))
                      have HOa : Hid ((wr.alloc (Obj.cells #[.slice xo m xc, .int .i64 (C : Nat), .bool false] 34)).ownsRow w5.heap.size 34 3 (.slice po k pc) k Vs) := Fi.own_step HV.out.1 (fun q hq => hbA2.block q (Fi.own_lt HV.out.1 q hq))
                      have zA := hbA.size
                      have zB := hBr.out.size
                      have hbz : w5.heap.size ≤ (wr.alloc (Obj.cells #[.slice xo m xc, .int .i64 (C : Nat), .bool false] 34)).heap.size := by have := hbA2.size; omega
                      have HPQ : Hid (PQ (wr.alloc (Obj.cells #[.slice xo m xc, .int .i64 (C : Nat), .bool false] 34)) (Fi.Sc w5.heap.size (wr.alloc (Obj.cells #[.slice xo m xc, .int .i64 (C : Nat), .bool false] 34)) (.slice po k pc)) w.heap.size xo (cut P A C)) := e4.keep (fun b _ hl => hbA.block b hl) (fun b _ hl => hbA.block b hl) zA (fun b hb hl => ⟨by have := Hpk.out; omega, by omega, fun q => by have := Fi.own_lt HV.out.1 b q.symm; have := Hpk.out; omega⟩)
                      have HPut : Hid (∀ v' w7, w7.ownsRow w5.heap.size 34 3 v' (k + 1) (Vs ++ [.slice xo m xc, .int .i64 (C : Nat), .bool false]) → Fi.Gw (wr.alloc (Obj.cells #[.slice xo m xc, .int .i64 (C : Nat), .bool false] 34)) w7 (.slice po k pc) v' → PcO w7 w5.heap.size w.heap.size v' (pcsk P nn L (k + 1)) ∧ Below w5.heap.size w5 w7) := fun v' w7 h7 g7 => by
                        have hpl : (pcsk P nn L k).length = k := pcsk_len (by rw [HZ5.out.2.2]; exact hk)
                        have hcl : (cut P A C).length = m := by rw [cut_len, Hm.out]
                        refine ⟨?_, (hBr.out.trans (hbA2.mono hBr.out.size)).trans (g7.bel hbz (fun q hq => Fi.own_block HV.out.1 q hq))⟩
                        rw [pcsk_step HK.out.1, ← HK.out.2, ← HKC.out]
                        refine PcO.put (w := wl) (io := xo) (ic := xc) (p := ⟨cut P A C, C, false⟩) hNw.out zB Vs (by rw [hpl]; exact HV.out.2.1) (fun q hq => Fi.own_block HV.out.1 q hq) HV.out.2.2 hbA2 g7 (by rw [hpl]; show w7.ownsRow _ _ _ _ _ (Vs ++ [.slice xo (cut P A C).length xc, _, _]); rw [hcl]; exact h7) HPQ.out (by show (cut P A C).length ≤ xc; rw [hcl]; exact e2) e3
                      have hk44 : k ≤ 4194304 := by omega
                      have x0 : (wr.alloc (Obj.cells #[.slice xo m xc, .int .i64 (C : Nat), .bool false] 34)).cell? ⟨wr.heap.size, 0, none⟩ = some (.slice xo m xc) := by simp [go_sem]
                      have x1 : (wr.alloc (Obj.cells #[.slice xo m xc, .int .i64 (C : Nat), .bool false] 34)).cell? ⟨wr.heap.size, 1, none⟩ = some (.int .i64 (C : Nat)) := by simp [go_sem]
                      have x2 : (wr.alloc (Obj.cells #[.slice xo m xc, .int .i64 (C : Nat), .bool false] 34)).cell? ⟨wr.heap.size, 2, none⟩ = some (.bool false) := by simp [go_sem]
                      have HX : Hid ((A : Int) + (C : Int) = (atk nn L (k + 1) : Nat)) := by show _ = _; rw [atk_step HK.out.1, ← HK.out.2, ← HKC.out]; push_cast; rfl
                      clear hLB hxr hxv hb3 hz3 q1 q2 q3 htl e4 hbA hbA2 htk
                      go_wp2_with (at_builtin; refine wpList_append_sd rfl (.tmp 103) (.tmp 105) rfl w5.heap.size _ k Vs rfl HOa.out wr.heap.size xo m xc (C : Nat) false rfl x0 x1 x2 hk44 hbz ?_)
                      intro v' w7 h7 g7
                      have HF := HPut.out v' w7 h7 g7
                      have HF : Hid (PcO w7 w5.heap.size w.heap.size v' (pcsk P nn L (k + 1)) ∧ Below w5.heap.size w5 w7) := HF
                      clear h7 g7 HPut HOa HPQ x0 x1 x2 d0 d1 d2 ld
                      go_wp2_with fail
                      exact ⟨⟨k + 1, by omega, by go_num, by rw [HX.out], HF.out.1, HF.out.2⟩, by simp [intOf]; omega⟩
              · obtain rfl : k = M + 1 := by omega
                obtain ⟨cs, hcs⟩ : ∃ cs, cs = acs nn 0 L := ⟨_, rfl⟩
                have hcl : cs.length = M + 1 := by rw [hcs, acs_len, HZ5.out.2.2]
                have hsum : cs.sum = nn := by
                  have := acs_all nn 0 cu (Nat.zero_le _)
                  rw [← HZ5.out.2.1, ← hcs] at this
                  omega
                have hpk : pcsk P nn L (M + 1) = cps P 0 cs := by unfold pcsk; rw [← hcs, List.take_of_length_le (by omega)]
                obtain ⟨pcs, hpcs⟩ : ∃ pcs, pcs = cps P 0 cs := ⟨_, rfl⟩
                have hpl : pcs.length = M + 1 := by rw [hpcs, cps_len, hcl]
                have hPcO := hPc.out
                rw [hpk, ← hpcs] at hPcO
                have zB := hBr.out.size
                obtain ⟨po', pc', e1, e2, e3, hPL⟩ := hPcO.pcl (by have := hNw.out; omega)
                rw [hpl] at e1 e2
                cases e1
                have hbw : Below w.heap.size w wr := HB5.out.1.trans (hBr.out.mono hNw.out)
                have f0 := Fi.keepC hBr.out (lt_cell z0) z0
                have f1 := Fi.keepC hBr.out (lt_cell z1) z1
                have f2 := Fi.keepC hBr.out (lt_cell z2) z2
                have lf := lt_cell f0
                have q1 := Sound_any cirC g go uo gc uc pcs po (M + 1) pc (fun _ => iB P) wr (HG.out.bel hbw) hPL hpl (by omega) e3 (by omega) (fun _ _ _ _ => rfl) (by rw [hpcs]; exact cps_J g hN.out.1 (by omega) cs (by omega))
                rw [HA.out] at q1
                have HCS : Hid (cs.length = M + 1 ∧ cs.sum = nn ∧ pcs = cps P 0 cs) := ⟨hcl, hsum, hpcs⟩
                have HBw' : Hid (Below w.heap.size w wr) := hbw
                have hPn : Hid (∀ l ∈ P, l.length = nn) := hN.out.1
                clear hcs hcl hsum hpk hpcs hPcO hPc hV1 hV2 hV3 hPL hbw hA hlt hk hAn
                go_wp2_with fail
                refine q1.mono ?_
                intro e w7 hS
                have HB7 : Hid (Below wr.heap.size wr w7) := hS.b
                have k0 := Fi.keepC HB7.out lf f0
                have k1 := Fi.keepC HB7.out (lt_cell f1) f1
                have k2 := Fi.keepC HB7.out (lt_cell f2) f2
                have lk := lt_cell k0
                obtain ⟨W8, hW8⟩ : ∃ X, X = w7.alloc (Obj.cells #[.slice io m ic, .int .i64 nn, .bool false] 34) := ⟨_, rfl⟩
                have hb8 : Below w7.heap.size w7 W8 := by rw [hW8]; exact (Below.refl _ _).alloc (Nat.le_refl _) _
                have hbw7 : Below w.heap.size w w7 := HBw'.out.trans (HB7.out.mono HBw'.out.size)
                have hPc2 : PcL W8 W8.heap.size (some ⟨w7.heap.size, 0, none⟩) (p1 P nn) := by rw [hW8]; exact p1_L HP.out Hm.out hc hcm hbw7
                have hbw8 : Below w.heap.size w W8 := hbw7.trans (hb8.mono hbw7.size)
                have q2 := Sound_any cirC g go uo gc uc (p1 P nn) (some ⟨w7.heap.size, 0, none⟩) 1 1 (fun _ => iB P) W8 (HG.out.bel hbw8) hPc2 rfl (by omega) (by omega) (by omega) (fun _ _ _ _ => rfl) (p1_J g P nn)
                rw [HA.out] at q2
                have HB8 : Hid (Below w.heap.size w W8 ∧ Below w7.heap.size w7 W8) := ⟨hbw8, hb8⟩
                clear hPc2 hb8 hbw7 hbw8 q1 f0 f1 f2 lf z0 z1 z2
                by_cases hne : ne0 g = 0
                · by_cases hcy : Cyc g
                  · have hex := hS.cyc hne hcy
                    subst hex
                    clear hS
                    go_wp2_with fail
                    rw [← hW8]
                    clear hW8
                    refine q2.mono ?_
                    intro e w9 hS2
                    have hex := hS2.cyc hne hcy
                    subst hex
                    have HB9 : Hid (Below w.heap.size w w9) := HB8.out.1.trans (hS2.b.mono HB8.out.1.size)
                    clear hS2 q2
                    go_wp2_with fail
                    go_returns
                    exact ⟨rfl, HB9.out⟩
                  · obtain ⟨va, base, rfl, ba1, ba2, hH⟩ := hS.ok hne hcy
                    obtain ⟨R1, hR1⟩ : ∃ R1, R1 = rsl g (fun _ => iB P) 0 0 pcs := ⟨_, rfl⟩
                    rw [← hR1] at hH
                    have hRl : R1.length = M + 1 := by rw [hR1, rsl_len, hpl]
                    obtain ⟨r0, hr0⟩ : ∃ r, R1[0]? = some r := ⟨_, List.getElem?_eq_getElem (by omega)⟩
                    have HH : Hid (HO w7 base (fun b => base ≤ b) va R1) := hH
                    obtain ⟨qa1, capa, aoa, ca, hva, _⟩ := hH.at hr0
                    rw [hRl] at hva
                    have HR1 : Hid (R1 = rsl g (fun _ => iB P) 0 0 pcs ∧ R1.length = M + 1 ∧ R1[0]? = some r0) := ⟨hR1, hRl, hr0⟩
                    clear hS hH hR1 hRl hr0
                    subst hva
                    go_wp2_with fail
                    rw [← hW8]
                    clear hW8
                    refine q2.mono ?_
                    intro e w9 hS2
                    have HB9 : Hid (Below w.heap.size w w9) := HB8.out.1.trans (hS2.b.mono HB8.out.1.size)
                    have hb79 : Below w7.heap.size w7 w9 := HB8.out.2.trans (hS2.b.mono HB8.out.2.size)
                    obtain ⟨vb, base2, rfl, ba3, ba4, hH2⟩ := hS2.ok hne hcy
                    rw [p1_r] at hH2
                    have hH := HH.out.keep (w' := w9) (Z' := fun b => base ≤ b) (fun j _ hl => hb79.block j hl) hb79.size (fun j h _ => h)
                    obtain ⟨qx, capx, ao, c, hv, k1', k2', k3, k4, d1, d2, o1, k8, k9⟩ := hH.at HR1.out.2.2
                    obtain ⟨qy, capy, ao', c', hv', l1, l2, l3, l4, d3, d4, o2, l8, l9⟩ := hH2.at (j := 0) (r := (h1 g P nn, er g P nn)) rfl
                    rw [HR1.out.2.1] at hv k1'
                    have hv2 : vb = .slice (some ⟨qy, 0, none⟩) 1 capy := hv'
                    cases hv
                    subst hv2
                    have kc2 : 1 ≤ capy := l1
                    obtain ⟨rr, hrr, hre⟩ := first_er g (fun _ => iB P) hPn.out (show nn ≤ 65536 by omega) (cs := cs) (by rw [HCS.out.1]; omega) (by rw [HCS.out.2.1]; exact Nat.le_refl _)
                    have hre2 : r0.2 = er g P nn := by
                      have h1 := HR1.out.2.2
                      rw [HR1.out.1, HCS.out.2.2, hrr] at h1
                      cases h1
                      exact hre
                    rw [hre2] at d2
                    have m2 : w9.cell? ⟨qa1, 1, none⟩ = some (.int .i64 (er g P nn)) := d2
                    have m3 : w9.cell? ⟨qy, 0, none⟩ = some (.slice ao' (h1 g P nn).length c') := d3
                    have m4 : w9.cell? ⟨qy, 1, none⟩ = some (.int .i64 (er g P nn)) := d4
                    have g2 : w9.cell? ⟨xb, 2, none⟩ = some (.slice uo U uc) := Fi.keepC hb79 (lt_cell k2) k2
                    have lg := lt_cell g2
                    have HHa : Hid (HO w9 base (fun b => base ≤ b) (.slice (some ⟨qa1, 0, none⟩) (M + 1) capa) R1) := hH
                    have HO2 : Hid (OL w9 (Sz (fun b => base2 ≤ b) w9 (.slice (some ⟨qy, 0, none⟩) 1 capy)) (.slice ao' (h1 g P nn).length c') (h1 g P nn)) := o2
                    clear hH hH2 hS2 HH q2 d1 d2 d3 d4 o1 o2 hre hre2 hrr hv' hb79 k0 k1 k2 lk HB8 HB7 k9 k8 k2' k4 l4
                    by_cases hE : er g P nn = 0
                    · have hh1 : h1 g P nn = outR g (vl g (iB P)) 0 nn := by unfold h1; rw [if_pos hE]
                      have hhl : (h1 g P nn).length = U := by rw [hh1, outR_len, ← HNg.out.2.1]
                      have hO2 := HO2.out
                      rw [hhl] at m3 hO2 l8
                      rw [hE] at m2 m4
                      obtain ⟨V, hV⟩ : ∃ V, V = vl g (iB P) := ⟨_, rfl⟩
                      rw [← hV] at hh1
                      rw [hh1] at hO2
                      have HO3 : Hid (OL w9 (Sz (fun b => base2 ≤ b) w9 (.slice (some ⟨qy, 0, none⟩) 1 capy)) (.slice ao' U c') (outR g V 0 nn)) := hO2
                      have HUo : Hid (U = g.outs.length) := HNg.out.2.1
                      have HRq : Hid (∀ q r, R1[q]? = some r → ∃ c, cs[q]? = some c ∧ r = (outR g V (cs.take q).sum c, 0)) := fun q r hr => by
                        rw [HR1.out.1, HCS.out.2.2] at hr
                        obtain ⟨c, h1, h2⟩ := cps_r g hPn.out (show nn ≤ 65536 by omega) hE V (fun _ => iB P) (fun _ => hV.symm) cs 0 0 (by rw [HCS.out.2.1]; omega) q r hr
                        rw [Nat.zero_add] at h2
                        exact ⟨c, h1, h2⟩
                      have mk : (Instr.makeSlice 32 (.int .i64 (U : Int)) (.int .i64 (U : Int))).run Try.prog w9 = .ok (.slice (some ⟨w9.heap.size, 0, none⟩) U U) (w9.alloc (.cells (madeCells #[.slice none 0 0] U) 38)) := run_make_row' (P := Try.prog) 32 38 (.slice none 0 0) 24 Try.underlying32 Fi.infoFs rfl .i64 .i64 U (by omega) (by omega) _
                      have HJ0 : Hid (JA (w9.alloc (.cells (madeCells #[.slice none 0 0] U) 38)) w9.heap.size w9.heap.size U (rj g V 0)) := JA.made w9 U _ (fun k hk => by simp [rj, jn])
                      have HB10 : Hid (Below w9.heap.size w9 (w9.alloc (.cells (madeCells #[.slice none 0 0] U) 38))) := (Below.refl _ _).alloc (Nat.le_refl _) _
                      have z10 : (w9.alloc (.cells (madeCells #[.slice none 0 0] U) 38)).heap.size = w9.heap.size + 1 := by simp
                      obtain ⟨W10, hW10⟩ : ∃ X, X = w9.alloc (.cells (madeCells #[.slice none 0 0] U) 38) := ⟨_, rfl⟩
                      rw [← hW10] at mk HJ0 HB10 z10
                      obtain ⟨ab, hab⟩ : ∃ ab, ab = w9.heap.size := ⟨_, rfl⟩
                      have Hab : Hid (ab = w9.heap.size) := hab
                      have zab : w9.heap.size ≤ ab := by omega
                      rw [← hab] at mk HJ0 z10
                      clear hab hW10 hO2 HO2 hh1 hhl hV hne hcy hE
                      go_wp2_with (simp only [mk])
                      clear mk
                      go_loopw [166] (fun i ww => ∃ q : Nat, q ≤ M + 1 ∧ i = .int .i64 q ∧ Hid (JA ww ab ab U (rj g V (cs.take q).sum)) ∧ Hid (Below w9.heap.size w9 ww)) (fun i _ => M + 1 - (intOf i).toNat)
                      case atStart => exact ⟨0, Nat.zero_le _, rfl, HJ0, HB10⟩
                      case round =>
                        obtain ⟨q, hq, rfl, hJ, hbq⟩ := hrel
                        have hsz := hbq.out.size
                        have hjl := hJ.out.lt
                        by_cases hlt : q < M + 1
                        ·
                          --(
                          obtain ⟨r, hr⟩ : ∃ r, R1[q]? = some r := ⟨_, List.getElem?_eq_getElem (by rw [HR1.out.2.1]; exact hlt)⟩
                          obtain ⟨cq, hcq, rfl⟩ := HRq.out q r hr
                          obtain ⟨S, hS⟩ : ∃ S, S = (cs.take q).sum := ⟨_, rfl⟩
                          have hS1 : (cs.take (q + 1)).sum = S + cq := by rw [sum_snoc hcq, hS]
                          have hSn : S + cq ≤ nn := by
                            have := sum_take_le cs (q + 1)
                            have h2 := HCS.out.2.1
                            omega
                          rw [← hS] at hr
                          have hJ' := hJ.out
                          rw [← hS] at hJ'
                          have hOl : (outR g V S cq).length = U := by rw [outR_len, ← HUo.out]
                          obtain ⟨qx, capx, ao, c, hv, k1, k2, k3', k4, d1, d2, o1, k8, k9⟩ := HHa.out.at hr
                          rw [HR1.out.2.1] at hv k1
                          cases hv
                          have d1' : w9.cell? ⟨qa1, q * 2, none⟩ = some (.slice ao U c) := by rw [← hOl]; exact d1
                          have d2' : w9.cell? ⟨qa1, q * 2 + 1, none⟩ = some (.int .i64 0) := d2
                          have hcu : U ≤ c := by rw [← hOl]; exact k8
                          have HOq : Hid (OL w9 (Sz (fun b => base ≤ b) w9 (.slice (some ⟨qa1, 0, none⟩) (M + 1) capa)) (.slice ao U c) (outR g V S cq)) := by
                            have h := o1
                            rw [show ((outR g V S cq, (0 : Int)).1).length = U from hOl] at h
                            exact h
                          have e1 := Fi.keepC hbq.out k3' d1'
                          have e2 := Fi.keepC hbq.out k3' d2'
                          have le := lt_cell e1
                          have hlt' : (q : Int) < (M : Int) + 1 := by omega
                          have w3' : IntKind.i64.wrap ((q : Int) + 1) = (q : Int) + 1 := wid (by omega) (by omega)
                          obtain ⟨xq, hxq⟩ : ∃ xq, xq = wr.heap.size := ⟨_, rfl⟩
                          obtain ⟨W11, hW11⟩ : ∃ X, X = wr.alloc (Obj.cells #[.slice ao U c, .int .i64 0] 37) := ⟨_, rfl⟩
                          have hb11 : Below wr.heap.size wr W11 := by rw [hW11]; exact (Below.refl _ _).alloc (Nat.le_refl _) _
                          have HJ1 : Hid (JA W11 ab xq U (rj g V S)) := hJ'.keep (fun b _ hl => hb11.block b hl) (.inr (.inl (by omega)))
                          have HB11 : Hid (Below w9.heap.size w9 W11) := hbq.out.trans (hb11.mono hsz)
                          have v0 : Hid (W11.cell? ⟨xq, 0, none⟩ = some (.slice ao U c)) := by show _ = _; rw [hW11, hxq]; simp [go_sem]
                          have zx : xq + 1 ≤ W11.heap.size := by rw [hW11, hxq]; simp
                          have zabx : ab < xq := by omega
                          have HS1 : Hid ((cs.take (q + 1)).sum = S + cq) := hS1
                          clear hr hcq hS hS1 hJ hJ' hOl d1 d2 o1 hb11 hbq k2 k4
                          go_wp2_with fail
                          rw [← hW11, ← hxq]
                          clear hW11 hxq
                          go_loopw [183] (fun i ww => ∃ k : Nat, k ≤ U ∧ i = .int .i64 k ∧ Hid (JA ww ab xq U (fun j => if j < k then rj g V (S + cq) j else rj g V S j)) ∧ Hid (ww.cell? ⟨xq, 0, none⟩ = some (.slice ao U c)) ∧ Hid (Below w9.heap.size w9 ww) ∧ xq + 1 ≤ ww.heap.size) (fun i _ => U - (intOf i).toNat)
                          case atStart => exact ⟨0, Nat.zero_le _, rfl, HJ1.out.congr (fun k _ => if_neg (by omega)), v0, HB11, zx⟩
                          case round =>
                            obtain ⟨k, hk, rfl, hJ, hx0, hb5, hz5⟩ := hrel
                            by_cases hlt2 : k < U
                            · obtain ⟨Vv, j1, j2, j3, j4⟩ := hJ.out.ex
                              have hr0 : (if k < k then rj g V (S + cq) k else rj g V S k) = rj g V S k := if_neg (by omega)
                              have j2k := j2 k hlt2
                              rw [hr0] at j2k
                              obtain ⟨ga, ga1, ga2, ga3⟩ := j2k.ex
                              rw [rj_len] at ga1
                              obtain ⟨va, vc, hVk, vc1, vc2⟩ := Fi.own_form ga1
                              obtain ⟨y, hy⟩ : ∃ y, (outR g V S cq)[k]? = some y := ⟨_, List.getElem?_eq_getElem (by rw [outR_len, ← HUo.out]; exact hlt2)⟩
                              have hyl := outR_piece_len hy
                              obtain ⟨_, _, m1', m2', m3', m4'⟩ := (HOq.out.keep (w' := wr) (S' := fun b => b < w9.heap.size) (fun b hb hl => hb5.out.block b hl) hb5.out.size (fun b hb hl => hl)).ex
                              injection m1' with i1 i2 i3
                              subst i1
                              subst i3
                              obtain ⟨b1, of1, rfl, n2, n3, n4⟩ := m4' (by rw [outR_len, ← HUo.out]; omega)
                              obtain ⟨xv, xa1, xa2⟩ := n4 k y hy
                              obtain ⟨gx, aa, ca, rfl, y2, y3, y4, y5, y6⟩ := xa2.ex
                              have hgx : gx.length = cq := by rw [← Fi.abs_len, y5, hyl]
                              rw [hgx] at xa1 y2
                              have cV : wr.cell? ⟨ab, k, none⟩ = some (.slice va S vc) := by rw [← hVk]; exact World.rowIs.cell j1 hlt2
                              have cVf := World.rowIs.frozen j1 k
                              have cX : wr.cell? ⟨xq, 0, none⟩ = some (.slice (some ⟨b1, of1, none⟩) U c) := hx0.out
                              have hk2 : (k : Int) < (U : Int) := by omega
                              have w5' : IntKind.i64.wrap ((k : Int) + 1) = (k : Int) + 1 := wid (by omega) (by omega)
                              have la1 := lt_cell xa1
                              have labv := lt_cell cV
                              have hb1ab : b1 ≠ ab := by omega
                              have HOw : Hid (wr.drew.ownsRow (ab + 1) 46 1 (.slice va S vc) S (Fi.fls ga)) := by rw [← hVk]; exact Fi.own_step ga1 (fun _ _ => rfl)
                              have HIL : Hid (Fi.IL wr.drew (fun b => b < w9.heap.size) aa gx) := y6.keep (fun _ _ _ => rfl) (Nat.le_refl _) (fun _ h _ => h)
                              have HPu : Hid (∀ v' w7, w7.ownsRow (ab + 1) 46 1 v' (S + cq) (Fi.fls ga ++ Fi.fls gx) → Fi.Gw wr.drew w7 (.slice va S vc) v' → PuJ g V wr w7 ab xq U k S cq v') := fun v' w7 h7 g7 => PuJ.mk' j1 j2 j3 j4 hVk ga1 ga2 ga3 hlt2 (by omega) zabx hy hgx y5 (IL_words y6) h7 g7
                              have HBr5 : Hid (Below w9.heap.size w9 wr) := hb5
                              have lxq : xq < wr.heap.size := by omega
                              have hbz : ab + 1 ≤ wr.drew.heap.size := by show ab + 1 ≤ wr.heap.size; omega
                              have hSc : S + cq ≤ 4194304 := by omega
                              have CC : (fun w' : World => w'.cell? ⟨ab, k, none⟩ = some (.slice va S vc) ∧ w'.cell? ⟨xq, 0, none⟩ = some (.slice (some ⟨b1, of1, none⟩) U c) ∧ w'.cell? ⟨b1, of1 + k, none⟩ = some (.slice aa cq ca)) wr.drew := ⟨cV, cX, xa1⟩
                              clear hJ j1 j2 j3 j4 j2k ga1 ga2 ga3 hVk hy hyl n4 m4' xa2 y5 y6 hb5 hx0 hr0 cVf m2' m3' i2
                              go_wp2_with fail
                              refine RF.wp_region_last (fun w' : World => w'.cell? ⟨ab, k, none⟩ = some (.slice va S vc) ∧ w'.cell? ⟨xq, 0, none⟩ = some (.slice (some ⟨b1, of1, none⟩) U c) ∧ w'.cell? ⟨b1, of1 + k, none⟩ = some (.slice aa cq ca)) (fun k => k != 11) 13 _ rfl (by kernel_rfl) (by kernel_rfl) (by kernel_rfl) (by kernel_rfl) (by kernel_rfl) CC ?_
                              dsimp only [List.take]
                              refine RF.wpFl_readC rfl rfl (.slice (some ⟨ab, 0, none⟩) U U) (fun w' hw' => by have ca := hw'.1; have cb := hw'.2.1; have cc := hw'.2.2; have la' := lt_cell ca; have lb' := lt_cell cb; have lc' := lt_cell cc; clear hw' HPu HOw HIL; unfold RM.valAt; go_simp) ?_
                              refine RF.wpFl_readC rfl rfl (.int .i64 (k : Nat)) (fun w' hw' => by have ca := hw'.1; have cb := hw'.2.1; have cc := hw'.2.2; have la' := lt_cell ca; have lb' := lt_cell cb; have lc' := lt_cell cc; clear hw' HPu HOw HIL; unfold RM.valAt; go_simp) ?_
                              refine RF.wpFl_readC rfl rfl (.slice (some ⟨ab, 0, none⟩) U U) (fun w' hw' => by have ca := hw'.1; have cb := hw'.2.1; have cc := hw'.2.2; have la' := lt_cell ca; have lb' := lt_cell cb; have lc' := lt_cell cc; clear hw' HPu HOw HIL; unfold RM.valAt; go_simp) ?_
                              refine RF.wpFl_readC rfl rfl (.int .i64 (k : Nat)) (fun w' hw' => by have ca := hw'.1; have cb := hw'.2.1; have cc := hw'.2.2; have la' := lt_cell ca; have lb' := lt_cell cb; have lc' := lt_cell cc; clear hw' HPu HOw HIL; unfold RM.valAt; go_simp) ?_
                              refine RF.wpFl_readC rfl rfl (.pointer (some ⟨ab, k, none⟩)) (fun w' hw' => by have ca := hw'.1; have cb := hw'.2.1; have cc := hw'.2.2; have la' := lt_cell ca; have lb' := lt_cell cb; have lc' := lt_cell cc; clear hw' HPu HOw HIL; unfold RM.valAt; go_simp) ?_
                              refine RF.wpFl_readC rfl rfl (.slice va S vc) (fun w' hw' => by have ca := hw'.1; have cb := hw'.2.1; have cc := hw'.2.2; have la' := lt_cell ca; have lb' := lt_cell cb; have lc' := lt_cell cc; clear hw' HPu HOw HIL; unfold RM.valAt; go_simp) ?_
                              refine RF.wpFl_readC rfl rfl (.pointer (some ⟨xq, 0, none⟩)) (fun w' hw' => by have ca := hw'.1; have cb := hw'.2.1; have cc := hw'.2.2; have la' := lt_cell ca; have lb' := lt_cell cb; have lc' := lt_cell cc; clear hw' HPu HOw HIL; unfold RM.valAt; go_simp) ?_
                              refine RF.wpFl_readC rfl rfl (.slice (some ⟨b1, of1, none⟩) U c) (fun w' hw' => by have ca := hw'.1; have cb := hw'.2.1; have cc := hw'.2.2; have la' := lt_cell ca; have lb' := lt_cell cb; have lc' := lt_cell cc; clear hw' HPu HOw HIL; unfold RM.valAt; go_simp) ?_
                              refine RF.wpFl_readC rfl rfl (.int .i64 (k : Nat)) (fun w' hw' => by have ca := hw'.1; have cb := hw'.2.1; have cc := hw'.2.2; have la' := lt_cell ca; have lb' := lt_cell cb; have lc' := lt_cell cc; clear hw' HPu HOw HIL; unfold RM.valAt; go_simp) ?_
                              refine RF.wpFl_readC rfl rfl (.pointer (some ⟨b1, of1 + k, none⟩)) (fun w' hw' => by have ca := hw'.1; have cb := hw'.2.1; have cc := hw'.2.2; have la' := lt_cell ca; have lb' := lt_cell cb; have lc' := lt_cell cc; clear hw' HPu HOw HIL; unfold RM.valAt; go_simp) ?_
                              refine RF.wpFl_readC rfl rfl (.slice aa cq ca) (fun w' hw' => by have ca := hw'.1; have cb := hw'.2.1; have cc := hw'.2.2; have la' := lt_cell ca; have lb' := lt_cell cb; have lc' := lt_cell cc; clear hw' HPu HOw HIL; unfold RM.valAt; go_simp) ?_
                              refine RF.wpFl_doC rfl rfl (fun K hK => ?_)
                              go_wp2_with (at_builtin; refine Fi.wpList_append_il (by rfl) (.tmp 191) (.tmp 196) (by rfl) (ab + 1) (.slice va S vc) S (Fi.fls ga) ?e1 HOw.out (fun b => b < w9.heap.size) gx cq hgx aa ca ?e2 y2 y4 HIL.out hSc hbz ?e3)
                              intro v' w7 h7 g7
                              have hpj := HPu.out v' w7 h7 g7
                              have z2 := hpj.cell ab k _ labv (.inl (Nat.le_refl _)) cV
                              have z3 := hpj.cell xq 0 _ lxq (.inr rfl) cX
                              have z4 := hpj.cell b1 (of1 + k) _ la1 (.inl (by omega)) xa1
                              have z5 := hpj.fz
                              have Z1 : Hid (JA (w7.setCell ⟨ab, k, none⟩ v') ab xq U (fun j => if j < k + 1 then rj g V (S + cq) j else rj g V S j)) := hpj.ja
                              have Z2 : Hid ((w7.setCell ⟨ab, k, none⟩ v').cell? ⟨xq, 0, none⟩ = some (.slice (some ⟨b1, of1, none⟩) U c)) := hpj.x _ cX
                              have Z3 : Hid (Below w9.heap.size w9 (w7.setCell ⟨ab, k, none⟩ v')) := hpj.b _ _ zab (by omega) HBr5.out
                              have Z4 : Hid (xq + 1 ≤ (w7.setCell ⟨ab, k, none⟩ v').heap.size) := hpj.z
                              obtain ⟨va2, vc3, rfl, vd1, vd2⟩ := Fi.own_form h7
                              refine hK _ _ ⟨z2, z3, z4⟩ ?_
                              clear hK K h7 g7 hpj CC
                              refine RF.wpFl_readC rfl rfl (.pointer (some ⟨ab, k, none⟩)) (fun w' hw' => by have ca := hw'.1; have cb := hw'.2.1; have cc := hw'.2.2; have la' := lt_cell ca; have lb' := lt_cell cb; have lc' := lt_cell cc; clear hw' HPu HOw HIL; unfold RM.valAt; go_simp) ?_
                              refine RF.wpFl_nil ?_
                              have lz2 := lt_cell z2
                              go_wp2_with fail
                              generalize w7.setCell ⟨ab, k, none⟩ (.slice va2 (S + cq) vc3) = W8 at *
                              clear HPu HOw HIL z2 z3 z4 z5 cV cX xa1 lz2 hbz
                              go_wp2_with fail
                              exact ⟨⟨k + 1, by omega, by go_num, Z1, Z2, Z3, Z4.out⟩, by simp [intOf]; omega⟩
                            · obtain rfl : k = U := by omega
                              have HJ2 : Hid (JA wr ab ab k (rj g V (cs.take (q + 1)).sum)) := by
                                rw [HS1.out]
                                exact (hJ.out.congr (fun j hj => (if_pos hj).symm)).keep (fun _ _ _ => rfl) (.inr (.inr (Nat.le_refl _)))
                              have HB5 : Hid (Below w9.heap.size w9 wr) := hb5
                              clear hJ hb5 hx0
                              go_wp2_with fail
                              exact ⟨⟨q + 1, by omega, by go_num, HJ2, HB5⟩, by simp [intOf]; omega⟩
                          --)
                        · obtain rfl : q = M + 1 := by omega
                          have hJ' := hJ.out
                          rw [List.take_of_length_le (by rw [HCS.out.1]; exact Nat.le_refl _), HCS.out.2.1] at hJ'
                          obtain ⟨w11, hw11⟩ : ∃ x, x = wr := ⟨wr, rfl⟩
                          subst hw11
                          have HJn : Hid (JA w11 ab ab U (rj g V nn)) := hJ'
                          have HB11 : Hid (Below w9.heap.size w9 w11) := hbq
                          have e3 := Fi.keepC hbq.out l3 m3
                          have le3 := lt_cell e3
                          clear hJ hJ' hbq HRq HHa HR1
                          --{
                          go_wp2_with fail
                          go_loopw [211] (fun i ww => ∃ j : Nat, j ≤ U ∧ i = .int .i64 j ∧ Hid (Below w11.heap.size w11 ww)) (fun i _ => U - (intOf i).toNat)
                          case atStart => exact ⟨0, by omega, rfl, Below.refl _ _⟩
                          case round =>
                            obtain ⟨j, hj, rfl, hbj⟩ := hrel
                            have f3 := Fi.keepC hbj.out le3 e3
                            have lf3 := lt_cell f3
                            by_cases hlt : j < U
                            · obtain ⟨Vv, j1, j2, _, _⟩ := (HJn.out.keep (w' := wr) (x' := ab) (fun b _ hl => hbj.out.block b hl) (.inl rfl)).ex
                              obtain ⟨ga, ga1, ga2, ga3⟩ := (j2 j hlt).ex
                              have hal : ga.length = nn := by rw [← Fi.abs_len, ga2, rj_len]
                              rw [rj_len, ← hal] at ga1
                              obtain ⟨aa, ca, hVj, y2, y3, y4, y6⟩ := Fi.own_IL ga1 ga3
                              have hrl := rj_out (g := g) (V := V) (n := nn) (k := j) (by rw [← HUo.out]; exact hlt)
                              have hbw9 : Below w9.heap.size w9 wr := HB11.out.trans (hbj.out.mono HB11.out.size)
                              obtain ⟨_, _, m1', m2', m3', m4'⟩ := (HO3.out.keep (w' := wr) (S' := fun _ => True) (fun b _ hl => hbw9.block b hl) hbw9.size (fun _ _ _ => trivial)).ex
                              injection m1' with i1 i2 i3
                              subst i1
                              subst i3
                              obtain ⟨b2, of2, rfl, _, n3', n4'⟩ := m4' (by rw [outR_len, ← HUo.out]; omega)
                              obtain ⟨xb', xb1, xb2⟩ := n4' j _ hrl
                              obtain ⟨gb, ab', cb, rfl, z2, z3, z4, z5, z6⟩ := xb2.ex
                              have hbl : gb.length = nn := by rw [← Fi.abs_len, z5, rj_len]
                              rw [hbl] at xb1 z2
                              rw [hal] at hVj y2
                              have cV : wr.cell? ⟨ab, j, none⟩ = some (.slice aa nn ca) := by rw [← hVj]; exact World.rowIs.cell j1 hlt
                              have hq : ∀ nq, Calls Try.prog 12 #[.slice aa nn ca, .slice ab' nn cb] (wr.drewN nq) fun e w' => e = .returned (.bool true) ∧ Below (wr.drewN nq).heap.size (wr.drewN nq) w' := fun nq => Fi.LikeAll_eq (wr.drewN nq) _ _ aa ab' ga gb nn ca cb (y6.keep (fun _ _ _ => rfl) (Nat.le_refl _) (fun _ h _ => h)) (z6.keep (fun _ _ _ => rfl) (Nat.le_refl _) (fun _ h _ => h)) (ga2.trans z5.symm) hal (by omega) y2 y3 z2 z3
                              have hlt' : (j : Int) < (U : Int) := by omega
                              have w3' : IntKind.i64.wrap ((j : Int) + 1) = (j : Int) + 1 := wid (by omega) (by omega)
                              have lx1 := lt_cell cV
                              have lx2 := lt_cell xb1
                              clear j1 j2 ga1 ga2 ga3 hVj y6 hrl m4' n4' xb2 z6 z5 hal hbl m2' m3' i2 y4 z4 n3' hbw9
                              go_wp2_with fail
                              refine U2.wp_region_tail_read 11 (by decide) (by kernel_rfl) (by kernel_rfl) (by kernel_rfl) (by kernel_rfl) ?_
                              dsimp only [List.take, List.drop]
                              repeat (quiet_step (fail))
                              refine wpQuiet_nil ?_
                              rintro w7' ⟨nq, rfl⟩
                              go_wp2_with fail
                              refine (hq nq).mono ?_
                              rintro e w8' ⟨rfl, hb8⟩
                              have HBl : Hid (Below w11.heap.size w11 w8') := Below.trans hbj.out (Below.mono (show Below wr.heap.size wr w8' from Below.trans belD' hb8) hbj.out.size)
                              clear hq hb8
                              go_wp2_with fail
                              go_roundw
                              case rel =>
                                (repeat apply Exists.intro)
                                exact ⟨⟨j + 1, by omega, by go_num, HBl⟩, rfl⟩
                              case measure => simp [intOf]; omega
                            · obtain rfl : j = U := by omega
                              go_wp2_with fail
                              go_returns
                              exact ⟨rfl, HB9.out.trans ((HB11.out.trans (hbj.out.mono HB11.out.size)).mono HB9.out.size)⟩
                          --}
                    · have hE8 := er_bad (show nn ≤ 65536 by omega) hE
                      rw [hE8] at m2 m4
                      clear hE8
                      go_wp2_with fail
                      go_returns
                      exact ⟨rfl, HB9.out⟩
                · have hex := hS.bad hne
                  subst hex
                  obtain ⟨r, hr⟩ : ∃ r, r = ne0 g := ⟨_, rfl⟩
                  rw [← hr] at hne ⊢
                  have HR : Hid (r = ne0 g) := hr
                  have hne0 : Hid (ne0 g ≠ 0) := by rw [← hr]; exact hne
                  clear hS hr
                  go_wp2_with fail
                  rw [← hW8]
                  clear hW8
                  refine q2.mono ?_
                  intro e w9 hS2
                  have hex := hS2.bad hne0.out
                  rw [← HR.out] at hex
                  subst hex
                  have HB9 : Hid (Below w.heap.size w w9) := HB8.out.1.trans (hS2.b.mono HB8.out.1.size)
                  have hz1 : (r == 0) = false := by simp [hne]
                  have hz3 : (r != r) = false := by simp
                  have hz4 : (r != 0) = true := by simp [hne]
                  clear hS2 q2
                  go_wp2_with fail
                  go_returns
                  exact ⟨rfl, HB9.out⟩
end Go.Proofs.Yteocihkiibigkaa.Gh
