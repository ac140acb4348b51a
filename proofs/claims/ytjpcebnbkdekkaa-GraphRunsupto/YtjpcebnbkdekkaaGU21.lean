/- GraphBlocks: what is joined, a row of floats of one's own for each out. -/
import Derived.Test.YtjpcebnbkdekkaaGU20
namespace Go.Proofs.Ytjpcebnbkdekkaa.Gh
open Go.RowKit Go.Maps Go.Sort Fl
set_option linter.unusedVariables false
set_option linter.unusedSimpArgs false

/-- One joined row. -/
structure J1 (w : World) (base : Nat) (v : Value) (r : List (Option Nat)) : Prop where
  ex : ∃ ga : List Nat, w.ownsRow base 46 1 v r.length (Fi.fls ga) ∧ Fi.abs ga = r ∧ ∀ x ∈ ga, x < 18446744073709551616
theorem J1.nil (w : World) (base : Nat) : J1 w base (.slice none 0 0) [] := ⟨⟨[], World.ownsRow_nil _ _ _ _, rfl, fun x h => by simp at h⟩⟩
theorem J1.keep {w w' : World} {base : Nat} {v : Value} {r : List (Option Nat)} (h : J1 w base v r) (hk : ∀ b, v.ownBlock = some b → w'.heap[b]? = w.heap[b]?) : J1 w' base v r := by
  obtain ⟨ga, h1, h2, h3⟩ := h.ex
  exact ⟨⟨ga, Fi.own_step h1 hk, h2, h3⟩⟩
theorem J1.blk {w : World} {base : Nat} {v : Value} {r : List (Option Nat)} (h : J1 w base v r) : ∀ b, v.ownBlock = some b → base ≤ b ∧ b < w.heap.size := fun b e => by
  obtain ⟨ga, h1, h2, h3⟩ := h.ex
  exact ⟨Fi.own_block h1 b e, Fi.own_lt h1 b e⟩
/-- All rows; none of them has block x for its own. -/
structure JA (ww : World) (ab x U : Nat) (r : Nat → List (Option Nat)) : Prop where
  ex : ∃ V : Nat → Value, ww.rowIs ab 38 U V ∧ (∀ k, k < U → J1 ww (ab + 1) (V k) (r k)) ∧ (∀ j k b, j < U → k < U → j ≠ k → (V j).ownBlock = some b → (V k).ownBlock ≠ some b) ∧ ∀ k b, k < U → (V k).ownBlock = some b → b ≠ x
theorem JA.lt {w : World} {ab x U : Nat} {r : Nat → List (Option Nat)} (h : JA w ab x U r) : ab < w.heap.size := by
  obtain ⟨V, h1, _⟩ := h.ex
  obtain ⟨c, hb, _⟩ := h1
  exact (Array.getElem?_eq_some_iff.1 hb).1
theorem JA.keep {w w' : World} {ab x x' U : Nat} {r : Nat → List (Option Nat)} (h : JA w ab x U r) (hk : ∀ b, ab ≤ b → b < w.heap.size → w'.heap[b]? = w.heap[b]?) (hx : x' = x ∨ w.heap.size ≤ x' ∨ x' ≤ ab) : JA w' ab x' U r := by
  have hl := h.lt
  obtain ⟨V, h1, h2, h3, h4⟩ := h.ex
  refine ⟨⟨V, World.rowIs.of_block h1 (hk ab (Nat.le_refl _) hl), fun k hk' => (h2 k hk').keep (fun b e => ?_), h3, fun k b hk' e => ?_⟩⟩
  · have := (h2 k hk').blk b e
    exact hk b (by omega) this.2
  · have := (h2 k hk').blk b e
    have := h4 k b hk' e
    omega
theorem JA.made (w : World) (U : Nat) (r : Nat → List (Option Nat)) (hr : ∀ k, k < U → r k = []) : JA (w.alloc (.cells (madeCells #[.slice none 0 0] U) 38)) w.heap.size w.heap.size U r :=
  ⟨⟨fun _ => .slice none 0 0, World.rowIs_made w (.slice none 0 0) U 38, fun k hk => by rw [hr k hk]; exact J1.nil _ _, fun j k b _ _ _ e => by simp [Value.ownBlock] at e, fun k b _ e => by simp [Value.ownBlock] at e⟩⟩
theorem JA.congr {w : World} {ab x U : Nat} {r r' : Nat → List (Option Nat)} (h : JA w ab x U r) (e : ∀ k, k < U → r' k = r k) : JA w ab x U r' := by
  obtain ⟨V, h1, h2, h3, h4⟩ := h.ex
  exact ⟨⟨V, h1, fun k hk => by rw [e k hk]; exact h2 k hk, h3, h4⟩⟩
/-- One row gets a piece more, and is put back. -/
theorem JA.put {w w4 : World} {ab x U k : Nat} {r r' : Nat → List (Option Nat)} {V : Nat → Value} {v' : Value} {y : List (Option Nat)} (hr : w.rowIs ab 38 U V) (h2 : ∀ k, k < U → J1 w (ab + 1) (V k) (r k)) (h3 : ∀ j k b, j < U → k < U → j ≠ k → (V j).ownBlock = some b → (V k).ownBlock ≠ some b) (h4 : ∀ k b, k < U → (V k).ownBlock = some b → b ≠ x) (hx : x < w.heap.size)
    (hk : k < U) (hg : Fi.Gw w w4 (V k) v') (hv : J1 w4 (ab + 1) v' (r k ++ y)) (e1 : r' k = r k ++ y) (e2 : ∀ j, j ≠ k → r' j = r j) : JA (w4.setCell ⟨ab, k, none⟩ v') ab x U r' := by
  have hab : ab < w.heap.size := by
    obtain ⟨c, hb, _⟩ := hr
    exact (Array.getElem?_eq_some_iff.1 hb).1
  have hkb : w4.heap[ab]? = w.heap[ab]? := hg.gr.block ab hab (fun q => by have := (h2 k hk).blk ab q.symm; omega)
  have hset : ∀ b, b ≠ ab → (w4.setCell ⟨ab, k, none⟩ v').heap[b]? = w4.heap[b]? := fun b hb => Below.heap_setCell _ _ _ _ hb
  refine ⟨⟨fun j => if j = k then v' else V j, ?_, fun j hj => ?_, fun i j b hi hj hne e => ?_, fun j b hj e => ?_⟩⟩
  · refine World.rowIs.congr (World.rowIs.set (World.rowIs.of_block hr hkb) k v') (fun i hi => ?_)
    rfl
  · by_cases c : j = k
    · subst c
      rw [e1]
      show J1 _ (ab + 1) (if j = j then v' else V j) _
      rw [if_pos rfl]
      exact hv.keep (fun b e => hset b (by have := hv.blk b e; omega))
    · rw [e2 j c]
      show J1 _ (ab + 1) (if j = k then v' else V j) _
      rw [if_neg c]
      refine (h2 j hj).keep (fun b e => ?_)
      have hb := (h2 j hj).blk b e
      rw [hset b (by omega), hg.gr.block b hb.2 (fun q => h3 j k b hj hk c e q.symm)]
  · have key : ∀ j, j < U → j ≠ k → ∀ b, (V j).ownBlock = some b → v'.ownBlock ≠ some b := fun j hj c b e q => by
      rcases hg.ob with o | ⟨m, o, om⟩
      · rw [o] at q; exact h3 j k b hj hk c e q
      · rw [o] at q; cases q; have := (h2 j hj).blk _ e; omega
    by_cases ci : i = k
    · have cj : j ≠ k := fun q => hne (ci.trans q.symm)
      have e' : v'.ownBlock = some b := by rw [← e]; show _ = (if i = k then v' else V i).ownBlock; rw [if_pos ci]
      show (if j = k then v' else V j).ownBlock ≠ some b
      rw [if_neg cj]
      exact fun q => key j hj cj b q e'
    · have e' : (V i).ownBlock = some b := by rw [← e]; show _ = (if i = k then v' else V i).ownBlock; rw [if_neg ci]
      show (if j = k then v' else V j).ownBlock ≠ some b
      by_cases cj : j = k
      · rw [if_pos cj]
        exact key i hi ci b e'
      · rw [if_neg cj]
        exact h3 i j b hi hj hne e'
  · by_cases c : j = k
    · have e' : v'.ownBlock = some b := by rw [← e]; show _ = (if j = k then v' else V j).ownBlock; rw [if_pos c]
      rcases hg.ob with o | ⟨m, o, om⟩
      · rw [o] at e'; exact h4 k b hk e'
      · rw [o] at e'; cases e'; omega
    · have e' : (V j).ownBlock = some b := by rw [← e]; show _ = (if j = k then v' else V j).ownBlock; rw [if_neg c]
      exact h4 j b hj e'
/-- A row with a piece more. -/
theorem J1.put {w4 : World} {base rm : Nat} {v' : Value} {r x : List (Option Nat)} {ga gx : List Nat} (h2 : Fi.abs ga = r) (h3 : ∀ x ∈ ga, x < 18446744073709551616) (o : w4.ownsRow base 46 1 v' (r.length + rm) (Fi.fls ga ++ Fi.fls gx)) (hm : gx.length = rm) (e : Fi.abs gx = x) (hx : ∀ y ∈ gx, y < 18446744073709551616) : J1 w4 base v' (r ++ x) := by
  refine ⟨⟨ga ++ gx, ?_, by rw [Fi.abs_app, h2, e], fun y hy => ?_⟩⟩
  · have e1 : (r ++ x).length = r.length + rm := by rw [List.length_append, ← e, Fi.abs_len, hm]
    rw [e1]
    have e2 : Fi.fls (ga ++ gx) = Fi.fls ga ++ Fi.fls gx := by unfold Fi.fls; rw [List.map_append]
    rw [e2]; exact o
  · rcases List.mem_append.1 hy with q | q
    · exact h3 y q
    · exact hx y q
theorem IL_words {w : World} {S : Nat → Prop} {ao : Option Addr} {g : List Nat} (h : Fi.IL w S ao g) : ∀ y ∈ g, y < 18446744073709551616 := fun y hy => by
  obtain ⟨j, hj⟩ := List.getElem?_of_mem hy
  have hl := (List.getElem?_eq_some_iff.1 hj).1
  obtain ⟨b, off, _, _, _, h4⟩ := h.at' (by omega)
  exact (h4 j y hj).2
/-- What is joined up to time n, out by out. -/
def rj (g : Gr) (V : Hist) (n k : Nat) : List (Option Nat) := jn V (g.outs.getD k 0) n
theorem rj_len (g : Gr) (V : Hist) (n k : Nat) : (rj g V n k).length = n := by unfold rj jn; simp
theorem rj_out {g : Gr} {V : Hist} {n k : Nat} (h : k < g.outs.length) : (outR g V 0 n)[k]? = some (rj g V n k) := by
  have e : g.outs[k]? = some (g.outs.getD k 0) := by rw [List.getD_eq_getElem?_getD, List.getElem?_eq_getElem h]; rfl
  exact out_jn g V n k e
theorem rj_piece {g : Gr} {V : Hist} {a c k : Nat} {y : List (Option Nat)} (h : (outR g V a c)[k]? = some y) : rj g V (a + c) k = rj g V a k ++ y := by
  have hk : k < g.outs.length := by have := (List.getElem?_eq_some_iff.1 h).1; rwa [outR_len] at this
  have e : g.outs[k]? = some (g.outs.getD k 0) := by rw [List.getD_eq_getElem?_getD, List.getElem?_eq_getElem hk]; rfl
  rw [out_piece g V a c k e] at h
  cases h
  exact jn_step V _ a c
theorem outR_piece_len {g : Gr} {V : Hist} {a c k : Nat} {y : List (Option Nat)} (h : (outR g V a c)[k]? = some y) : y.length = c := by
  unfold outR at h
  rw [List.getElem?_map] at h
  cases h2 : g.outs[k]? with
  | none => rw [h2] at h; cases h
  | some o => rw [h2] at h; cases h; simp
/-- The first piece's fault is that of all at once. -/
theorem first_er {P : List (List Nat)} {n : Nat} (g : Gr) (J : Nat → Hist) (hP : ∀ l ∈ P, l.length = n) (hn : n ≤ 65536) {cs : List Nat} (h0 : 0 < cs.length) (hs : cs.sum ≤ n) : ∃ r, (rsl g J 0 0 (cps P 0 cs))[0]? = some r ∧ r.2 = er g P n := by
  cases cs with
  | nil => simp at h0
  | cons c q =>
    rw [List.sum_cons] at hs
    exact ⟨(hrs g (vl g (J 0)) 0 ⟨cut P 0 c, c, false⟩, er g (cut P 0 c) c), rfl, cut_er g hP (by omega) hn⟩
theorem er_bad {g : Gr} {P : List (List Nat)} {n : Nat} (hn : n ≤ 65536) (h : er g P n ≠ 0) : er g P n = 8 := by
  unfold er at h ⊢
  rw [if_neg (by omega)] at h ⊢
  by_cases c : fitB g.ins P n = true
  · rw [if_pos c] at h; exact absurd rfl h
  · rw [if_neg c]
end Go.Proofs.Ytjpcebnbkdekkaa.Gh

/- GraphBlocks: what a round of joining leaves. -/
namespace Go.Proofs.Ytjpcebnbkdekkaa.Gh
open Go.RowKit Go.Maps Go.Sort Fl
set_option linter.unusedVariables false
set_option linter.unusedSimpArgs false

/-- What is left behind one piece's append and store. -/
structure PuJ (g : Gr) (V : Hist) (wr w7 : World) (ab xq U k S cq : Nat) (v' : Value) : Prop where
  ja : JA (w7.setCell ⟨ab, k, none⟩ v') ab xq U (fun j => if j < k + 1 then rj g V (S + cq) j else rj g V S j)
  cell : ∀ b o u, b < wr.heap.size → b ≤ ab ∨ b = xq → wr.cell? ⟨b, o, none⟩ = some u → w7.cell? ⟨b, o, none⟩ = some u
  x : ∀ u, wr.cell? ⟨xq, 0, none⟩ = some u → (w7.setCell ⟨ab, k, none⟩ v').cell? ⟨xq, 0, none⟩ = some u
  fz : w7.frozen? ⟨ab, k, none⟩ = false
  b : ∀ B w9, B ≤ ab → B ≤ wr.heap.size → Below B w9 wr → Below B w9 (w7.setCell ⟨ab, k, none⟩ v')
  z : xq + 1 ≤ (w7.setCell ⟨ab, k, none⟩ v').heap.size
theorem PuJ.mk' {g : Gr} {V : Hist} {wr w7 : World} {ab xq U k S cq : Nat} {Vv : Nat → Value} {v' : Value} {va : Option Addr} {vc : Nat} {y : List (Option Nat)} {ga gx : List Nat}
    (j1 : wr.rowIs ab 38 U Vv) (j2 : ∀ i, i < U → J1 wr (ab + 1) (Vv i) (if i < k then rj g V (S + cq) i else rj g V S i)) (j3 : ∀ j k b, j < U → k < U → j ≠ k → (Vv j).ownBlock = some b → (Vv k).ownBlock ≠ some b) (j4 : ∀ k b, k < U → (Vv k).ownBlock = some b → b ≠ xq)
    (hVk : Vv k = .slice va S vc) (ga1 : wr.ownsRow (ab + 1) 46 1 (Vv k) S (Fi.fls ga)) (ga2 : Fi.abs ga = rj g V S k) (ga3 : ∀ x ∈ ga, x < 18446744073709551616) (hk : k < U) (hxs : xq < wr.heap.size) (hxa : ab < xq) (hy : (outR g V S cq)[k]? = some y) (hgx : gx.length = cq) (y5 : Fi.abs gx = y) (hw : ∀ z ∈ gx, z < 18446744073709551616)
    (h7 : w7.ownsRow (ab + 1) 46 1 v' (S + cq) (Fi.fls ga ++ Fi.fls gx)) (g7 : Fi.Gw wr.drew w7 (.slice va S vc) v') : PuJ g V wr w7 ab xq U k S cq v' := by
  rw [← hVk] at g7
  have hown : ∀ b, (Vv k).ownBlock = some b → ab + 1 ≤ b ∧ b ≠ xq := fun b e => ⟨Fi.own_block ga1 b e, j4 k b hk e⟩
  have hsz : wr.heap.size ≤ w7.heap.size := g7.gr.size
  have hr0 : (if k < k then rj g V (S + cq) k else rj g V S k) = rj g V S k := if_neg (by omega)
  have hab : ab < wr.heap.size := by omega
  have hc : ∀ b o u, b < wr.heap.size → b ≤ ab ∨ b = xq → wr.cell? ⟨b, o, none⟩ = some u → w7.cell? ⟨b, o, none⟩ = some u := fun b o u h1 h2 h3 => g7.cell (w := wr.drew) h1 (fun e => by have := hown b e.symm; omega) h3
  have hbx : (w7.setCell ⟨ab, k, none⟩ v').heap[xq]? = w7.heap[xq]? := Below.heap_setCell _ _ _ _ (by show xq ≠ ab; omega)
  have hd : Below wr.heap.size wr wr.drew := ⟨rfl, rfl, rfl, Nat.le_refl _, fun _ _ => rfl⟩
  refine ⟨?_, hc, fun u hu => ?_, ?_, fun B w9 h1 h2 h3 => ?_, ?_⟩
  · have q1 : wr.drew.rowIs ab 38 U Vv := World.rowIs.of_block j1 rfl
    have q2 : ∀ i, i < U → J1 wr.drew (ab + 1) (Vv i) ((fun i => if i < k then rj g V (S + cq) i else rj g V S i) i) := fun i hi => (j2 i hi).keep (fun _ _ => rfl)
    have q3 : J1 w7 (ab + 1) v' ((fun i => if i < k then rj g V (S + cq) i else rj g V S i) k ++ y) := by
      show J1 w7 (ab + 1) v' ((if k < k then rj g V (S + cq) k else rj g V S k) ++ y)
      rw [hr0]
      have h8 : w7.ownsRow (ab + 1) 46 1 v' ((rj g V S k).length + cq) (Fi.fls ga ++ Fi.fls gx) := by rw [rj_len]; exact h7
      exact J1.put ga2 ga3 h8 hgx y5 hw
    have q4 : (fun j => if j < k + 1 then rj g V (S + cq) j else rj g V S j) k = (fun i => if i < k then rj g V (S + cq) i else rj g V S i) k ++ y := by
      show (if k < k + 1 then rj g V (S + cq) k else rj g V S k) = (if k < k then rj g V (S + cq) k else rj g V S k) ++ y
      rw [hr0, if_pos (by omega)]
      exact rj_piece hy
    have q5 : ∀ i, i ≠ k → (fun j => if j < k + 1 then rj g V (S + cq) j else rj g V S j) i = (fun i => if i < k then rj g V (S + cq) i else rj g V S i) i := fun i hi => by
      show (if i < k + 1 then rj g V (S + cq) i else rj g V S i) = (if i < k then rj g V (S + cq) i else rj g V S i)
      by_cases ci : i < k
      · rw [if_pos ci, if_pos (by omega)]
      · rw [if_neg ci, if_neg (by omega)]
    exact JA.put q1 q2 j3 j4 hxs hk g7 q3 q4 q5
  · exact (World.cell?_of_block (w := w7) (a := ⟨xq, 0, none⟩) hbx).trans (hc xq 0 u hxs (.inr rfl) hu)
  · exact g7.froz (w := wr.drew) hab (fun e => by have := hown ab e.symm; omega) (World.rowIs.frozen j1 k)
  · have h4 : Below B wr wr.drew := hd.mono h2
    have h5 : Below B wr.drew w7 := g7.bel h2 (fun b e => by have := hown b e; omega)
    exact ((h3.trans h4).trans h5).setCell (p := ⟨ab, k, none⟩) h1 _
  · rw [World.size_setCell]; omega
end Go.Proofs.Ytjpcebnbkdekkaa.Gh

/- The document's Many, at. -/
namespace Go.Proofs.Ytjpcebnbkdekkaa.Gh
open Go.RowKit Go.Maps Go.Sort Fl
set_option linter.unusedVariables false
set_option linter.unusedSimpArgs false

/-- How many others a kind hears. -/
def mny (k : Int) : Int := if k = 1 ∨ k = 2 ∨ k = 8 then 0 else if k = 3 ∨ k = 6 ∨ k = 7 then 1 else if k = 5 then 2 else if k = 4 then -1 else -2
set_option maxHeartbeats 2000000 in
theorem Many_any (k : Int) (w : World) : Calls Try.prog 30 #[.int .i64 k] w fun e w' => e = .returned (.int .i64 (mny k)) ∧ w' = w := by
  rcases (show k = 1 ∨ k = 2 ∨ k = 3 ∨ k = 4 ∨ k = 5 ∨ k = 6 ∨ k = 7 ∨ k = 8 ∨ (k ≠ 1 ∧ k ≠ 2 ∧ k ≠ 3 ∧ k ≠ 4 ∧ k ≠ 5 ∧ k ≠ 6 ∧ k ≠ 7 ∧ k ≠ 8) by omega) with rfl | rfl | rfl | rfl | rfl | rfl | rfl | rfl | ⟨h1, h2, h3, h4, h5, h6, h7, h8⟩
  iterate 8
    · go_enter Try.func30, Try.ntmps30
      go_wp2_with fail
      go_ret
      exact ⟨rfl, rfl⟩
  · rw [show mny k = -2 by unfold mny; rw [if_neg (by omega), if_neg (by omega), if_neg h5, if_neg h4]]
    have b1 : (k == 1) = false := by simp [h1]
    have b2 : (k == 2) = false := by simp [h2]
    have b3 : (k == 3) = false := by simp [h3]
    have b4 : (k == 4) = false := by simp [h4]
    have b5 : (k == 5) = false := by simp [h5]
    have b6 : (k == 6) = false := by simp [h6]
    have b7 : (k == 7) = false := by simp [h7]
    have b8 : (k == 8) = false := by simp [h8]
    go_enter Try.func30, Try.ntmps30
    go_wp2_with fail
    go_ret
    exact ⟨rfl, rfl⟩
set_option maxHeartbeats 2000000 in
theorem at_neg (pv : Value) (i t : Int) (w : World) (h : t < 0) : Calls Try.prog 33 #[pv, .int .i64 i, .int .i64 t] w fun e w' => e = .returned (.float .f64 0) ∧ w' = w := by
  go_enter Try.func33, Try.ntmps33
  go_wp2_with fail
  go_ret
  exact ⟨rfl, rfl⟩
set_option maxHeartbeats 2000000 in
theorem at_pos (pb N i m c b of t x : Nat) (w : World) (h0 : w.cell? ⟨pb, i, none⟩ = some (.slice (some ⟨b, of, none⟩) m c)) (h1 : w.cell? ⟨b, of + t, none⟩ = some (.float .f64 x)) (hi : i < N) (ht : t < m) :
    Calls Try.prog 33 #[.slice (some ⟨pb, 0, none⟩) N N, .int .i64 i, .int .i64 t] w fun e w' => e = .returned (.float .f64 x) ∧ w' = w := by
  have l0 := lt_cell h0
  have l1 := lt_cell h1
  have hi' : (i : Int) < (N : Int) := by omega
  have ht' : (t : Int) < (m : Int) := by omega
  have hn : ¬ (t : Int) < 0 := by omega
  go_enter Try.func33, Try.ntmps33
  go_wp2_with fail
  go_ret
  exact ⟨rfl, rfl⟩
end Go.Proofs.Ytjpcebnbkdekkaa.Gh

/- Who hears whom by way of whom: the document's matrix. -/
namespace Go.Proofs.Ytjpcebnbkdekkaa.Gh
open Go.RowKit Go.Maps Go.Sort Fl
set_option linter.unusedVariables false
set_option linter.unusedSimpArgs false

/-- By way of those below m alone. -/
def Pt (g : Gr) : Nat → Nat → Nat → Prop
  | 0, a, b => Eg g a b
  | m + 1, a, b => Pt g m a b ∨ (Pt g m a m ∧ Pt g m m b)
theorem Pt.up {g : Gr} {m a b : Nat} (h : Pt g m a b) : Pt g (m + 1) a b := .inl h
theorem Pt.le {g : Gr} {a b : Nat} : ∀ {m n : Nat}, m ≤ n → Pt g m a b → Pt g n a b := by
  intro m n hmn h
  induction n with
  | zero => obtain rfl : m = 0 := by omega
            exact h
  | succ n ih =>
    by_cases c : m = n + 1
    · subst c; exact h
    · exact .inl (ih (by omega))
theorem Pt.trans {g : Gr} : ∀ {m a b c : Nat}, c < m → Pt g m a c → Pt g m c b → Pt g m a b
  | 0, a, b, c, hc, _, _ => absurd hc (by omega)
  | m + 1, a, b, c, hc, h1, h2 => by
    have k1 : Pt g (m + 1) a m → Pt g m a m := fun h => by
      rcases h with h | h
      · exact h
      · exact h.1
    have k2 : Pt g (m + 1) m b → Pt g m m b := fun h => by
      rcases h with h | h
      · exact h
      · exact h.2
    by_cases e : c = m
    · subst e
      exact .inr ⟨k1 h1, k2 h2⟩
    · have hc' : c < m := by omega
      rcases h1 with h1 | ⟨h1, h1'⟩ <;> rcases h2 with h2 | ⟨h2, h2'⟩
      · exact .inl (Pt.trans hc' h1 h2)
      · exact .inr ⟨Pt.trans hc' h1 h2, h2'⟩
      · exact .inr ⟨h1, Pt.trans hc' h1' h2⟩
      · exact .inr ⟨h1, h2'⟩
theorem Rch.join {g : Gr} : ∀ {n k a b c : Nat}, Rch g n a b → Rch g k b c → ∃ j, Rch g j a c
  | 0, k, a, b, c, h, h2 => ⟨k + 1, b, h, h2⟩
  | n + 1, k, a, b, c, ⟨d, h1, h3⟩, h2 => by
    obtain ⟨j, hj⟩ := Rch.join h3 h2
    exact ⟨j + 1, d, h1, hj⟩
theorem Pt.rch {g : Gr} : ∀ {m a b : Nat}, Pt g m a b → ∃ n, Rch g n a b
  | 0, a, b, h => ⟨0, h⟩
  | m + 1, a, b, .inl h => Pt.rch h
  | m + 1, a, b, .inr ⟨h1, h2⟩ => by
    obtain ⟨n, hn⟩ := Pt.rch h1
    obtain ⟨k, hk⟩ := Pt.rch h2
    exact Rch.join hn hk
theorem Eg.lt {g : Gr} {a b : Nat} (h : Eg g a b) : a < g.nodes.length := by
  obtain ⟨x, hx, _⟩ := h
  by_cases c : a < g.nodes.length
  · exact c
  · rw [nd_out c] at hx; cases hx
theorem Rch.lt {g : Gr} {n a b : Nat} (h : Rch g n a b) : a < g.nodes.length := by
  cases n with
  | zero => exact Eg.lt h
  | succ n => obtain ⟨c, h1, _⟩ := h; exact h1.lt
theorem Rch.pt {g : Gr} : ∀ {n a b : Nat}, Rch g n a b → Pt g g.nodes.length a b
  | 0, a, b, h => Pt.le (Nat.zero_le _) (show Pt g 0 a b from h)
  | n + 1, a, b, ⟨c, h1, h2⟩ => Pt.trans h2.lt (Pt.le (Nat.zero_le _) (show Pt g 0 a c from h1)) h2.pt
theorem cyc_pt {g : Gr} : Cyc g ↔ ∃ i, i < g.nodes.length ∧ Pt g g.nodes.length i i := by
  constructor
  · rintro ⟨n, i, hi, h⟩
    exact ⟨i, hi, h.pt⟩
  · rintro ⟨i, hi, h⟩
    obtain ⟨n, hn⟩ := h.rch
    exact ⟨n, i, hi, hn⟩
/-- The same as a matrix. -/
def rm0 (g : Gr) (i k : Nat) : Bool := (now (nd g i)).any (fun x => decide (x.toNat = k))
def rm (g : Gr) : Nat → Nat → Nat → Bool
  | 0, i, k => rm0 g i k
  | m + 1, i, k => rm g m i k || (rm g m i m && rm g m m k)
theorem rm_pt (g : Gr) : ∀ m i k, rm g m i k = true ↔ Pt g m i k
  | 0, i, k => by
    show rm0 g i k = true ↔ Eg g i k
    unfold rm0 Eg
    simp
  | m + 1, i, k => by
    show (rm g m i k || (rm g m i m && rm g m m k)) = true ↔ _
    rw [Bool.or_eq_true, Bool.and_eq_true, rm_pt g m i k, rm_pt g m i m, rm_pt g m m k]
    rfl
theorem rm_col (g : Gr) (m i : Nat) : rm g (m + 1) i m = rm g m i m := by
  show (rm g m i m || (rm g m i m && rm g m m m)) = _
  cases rm g m i m <;> rfl
theorem rm_row (g : Gr) (m k : Nat) : rm g (m + 1) m k = rm g m m k := by
  show (rm g m m k || (rm g m m m && rm g m m k)) = _
  cases rm g m m k <;> cases rm g m m m <;> rfl
/-- While round m goes on: all ahead of place (i, k) is new. -/
def st (g : Gr) (m i k a b : Nat) : Bool := if a < i ∨ (a = i ∧ b < k) then rm g (m + 1) a b else rm g m a b
theorem st_col (g : Gr) (m i k a : Nat) : st g m i k a m = rm g m a m := by
  unfold st; split
  · exact rm_col g m a
  · rfl
theorem st_row (g : Gr) (m i k b : Nat) : st g m i k m b = rm g m m b := by
  unfold st; split
  · exact rm_row g m b
  · rfl
theorem st_at (g : Gr) (m i k : Nat) : st g m i k i k = rm g m i k := by unfold st; rw [if_neg (by omega)]
theorem st_next (g : Gr) (m i k a b : Nat) : st g m i (k + 1) a b = if a = i ∧ b = k then rm g (m + 1) i k else st g m i k a b := by
  unfold st
  by_cases c : a = i ∧ b = k
  · obtain ⟨rfl, rfl⟩ := c
    rw [if_pos (by omega), if_pos ⟨rfl, rfl⟩]
  · rw [if_neg c]
    by_cases d : a < i ∨ (a = i ∧ b < k)
    · rw [if_pos (by omega), if_pos d]
    · rw [if_neg (by omega), if_neg d]
theorem st_line (g : Gr) (m i N a b : Nat) (hb : b < N) : st g m i N a b = st g m (i + 1) 0 a b := by
  unfold st
  by_cases c : a < i ∨ (a = i ∧ b < N)
  · rw [if_pos c, if_pos (by omega)]
  · rw [if_neg c, if_neg (by omega)]
theorem st_first (g : Gr) (m a b : Nat) : st g m 0 0 a b = rm g m a b := by unfold st; rw [if_neg (by omega)]
theorem st_last (g : Gr) (m N a b : Nat) (ha : a < N) : st g m N 0 a b = rm g (m + 1) a b := by unfold st; rw [if_pos (by omega)]
/-- What Loop answers. -/
def lpB (g : Gr) : Bool := (List.range g.nodes.length).any (fun i => rm g g.nodes.length i i)
theorem lpB_cyc (g : Gr) : lpB g = true ↔ Cyc g := by
  rw [cyc_pt]
  unfold lpB
  rw [List.any_eq_true]
  constructor
  · rintro ⟨i, hi, h⟩
    exact ⟨i, List.mem_range.1 hi, (rm_pt g _ i i).1 h⟩
  · rintro ⟨i, hi, h⟩
    exact ⟨i, List.mem_range.2 hi, (rm_pt g _ i i).2 h⟩
end Go.Proofs.Ytjpcebnbkdekkaa.Gh

/- The document's Loop. -/
namespace Go.Proofs.Ytjpcebnbkdekkaa.Gh
open Go.RowKit Go.Maps Go.Sort Fl
set_option linter.unusedVariables false
set_option linter.unusedSimpArgs false

theorem infoSBo : (Try.prog.info? 45).map (fun i => (i.zero, i.size, i.bytes)) = some (some (.slice none 0 0), 1, 24) := by kernel_rfl
/-- A matrix in memory, its first K rows made. -/
structure BM (w : World) (rb N K : Nat) (M : Nat → Nat → Bool) : Prop where
  r : w.rowIs rb 45 N (fun i => if i < K then .slice (some ⟨rb + 2 + 2 * i, 0, none⟩) N N else .slice none 0 0)
  v : ∀ i, i < K → w.rowIs (rb + 2 + 2 * i) 4 N (fun j => .bool (M i j))
theorem BM.lt {w : World} {rb N K : Nat} {M : Nat → Nat → Bool} (h : BM w rb N K M) : rb < w.heap.size := by
  obtain ⟨c, hb, _⟩ := h.r
  exact (Array.getElem?_eq_some_iff.1 hb).1
theorem BM.lt2 {w : World} {rb N K i : Nat} {M : Nat → Nat → Bool} (h : BM w rb N K M) (hi : i < K) : rb + 2 + 2 * i < w.heap.size := by
  obtain ⟨c, hb, _⟩ := h.v i hi
  exact (Array.getElem?_eq_some_iff.1 hb).1
theorem BM.keep {w w' : World} {rb N K : Nat} {M : Nat → Nat → Bool} (h : BM w rb N K M) (hk : ∀ b, rb ≤ b → b < w.heap.size → w'.heap[b]? = w.heap[b]?) : BM w' rb N K M :=
  ⟨World.rowIs.of_block h.r (hk rb (Nat.le_refl _) h.lt), fun i hi => World.rowIs.of_block (h.v i hi) (hk _ (by omega) (h.lt2 hi))⟩
theorem BM.congr {w : World} {rb N K : Nat} {M M' : Nat → Nat → Bool} (h : BM w rb N K M) (e : ∀ a b, a < K → b < N → M a b = M' a b) : BM w rb N K M' :=
  ⟨h.r, fun i hi => World.rowIs.congr (h.v i hi) (fun j hj => by rw [e i j hi hj])⟩
theorem BM.c0 {w : World} {rb N K i : Nat} {M : Nat → Nat → Bool} (h : BM w rb N K M) (hi : i < K) (hN : K ≤ N) : w.cell? ⟨rb, i, none⟩ = some (.slice (some ⟨rb + 2 + 2 * i, 0, none⟩) N N) := by
  rw [World.rowIs.cell h.r (i := i) (by omega), if_pos hi]
theorem BM.c1 {w : World} {rb N K i j : Nat} {M : Nat → Nat → Bool} (h : BM w rb N K M) (hi : i < K) (hj : j < N) : w.cell? ⟨rb + 2 + 2 * i, j, none⟩ = some (.bool (M i j)) := World.rowIs.cell (h.v i hi) hj
theorem BM.f1 {w : World} {rb N K i : Nat} {M : Nat → Nat → Bool} (h : BM w rb N K M) (hi : i < K) (j : Nat) : w.frozen? ⟨rb + 2 + 2 * i, j, none⟩ = false := World.rowIs.frozen (h.v i hi) j
/-- One place is put. -/
theorem BM.put {w : World} {rb N K i y : Nat} {M : Nat → Nat → Bool} (h : BM w rb N K M) (hi : i < K) (t : Bool) : BM (w.setCell ⟨rb + 2 + 2 * i, y, none⟩ (.bool t)) rb N K (fun a b => if a = i ∧ b = y then t else M a b) := by
  refine ⟨World.rowIs.setOther h.r (by show rb ≠ rb + 2 + 2 * i; omega) _, fun a ha => ?_⟩
  by_cases c : a = i
  · subst c
    refine World.rowIs.congr (World.rowIs.set (h.v a ha) y (.bool t)) (fun j hj => ?_)
    by_cases d : j = y
    · subst d; simp
    · simp [d]
  · refine World.rowIs.congr (World.rowIs.setOther (a := ⟨rb + 2 + 2 * i, y, none⟩) (h.v a ha) (by show rb + 2 + 2 * a ≠ rb + 2 + 2 * i; omega) (.bool t)) (fun j hj => ?_)
    simp [c]
theorem BM.made (w : World) (N : Nat) (M : Nat → Nat → Bool) : BM (w.alloc (.cells (madeCells #[.slice none 0 0] N) 45)) w.heap.size N 0 M :=
  ⟨World.rowIs.congr (World.rowIs_made w (.slice none 0 0) N 45) (fun i hi => by rw [if_neg (by omega)]), fun i hi => absurd hi (by omega)⟩
/-- One row more: a node's copy lies ahead of it. -/
theorem BM.row {w W : World} {rb N K : Nat} {M : Nat → Nat → Bool} (h : BM w rb N K M) (hK : K < N) (hs : w.heap.size = rb + 1 + 2 * K) (hW : Below w.heap.size w W) (hz : W.heap.size = w.heap.size + 1) (hM : ∀ j, M K j = false) :
    BM ((W.alloc (.cells (madeCells #[.bool false] N) 4)).setCell ⟨rb, K, none⟩ (.slice (some ⟨rb + 2 + 2 * K, 0, none⟩) N N)) rb N (K + 1) M := by
  have hA : Below w.heap.size w (W.alloc (.cells (madeCells #[.bool false] N) 4)) := hW.alloc (by omega) _
  have e : W.heap.size = rb + 2 + 2 * K := by omega
  have hm := World.rowIs_made W (.bool false) N 4
  rw [e] at hm
  refine ⟨?_, fun i hi => ?_⟩
  · refine World.rowIs.congr (World.rowIs.set (World.rowIs.of_block h.r (hA.block rb h.lt)) K (.slice (some ⟨rb + 2 + 2 * K, 0, none⟩) N N)) (fun i hi => ?_)
    by_cases c : i = K
    · subst c; simp
    · by_cases d : i < K
      · simp [c, d]; omega
      · simp [c, d]; omega
  · by_cases c : i = K
    · subst c
      refine World.rowIs.congr (World.rowIs.setOther (a := ⟨rb, i, none⟩) hm (by show rb + 2 + 2 * i ≠ rb; omega) _) (fun j hj => ?_)
      simp [hM j]
    · have hi' : i < K := by omega
      exact World.rowIs.setOther (a := ⟨rb, K, none⟩) (World.rowIs.of_block (h.v i hi') (hA.block _ (h.lt2 hi'))) (by show rb + 2 + 2 * i ≠ rb; omega) _
end Go.Proofs.Ytjpcebnbkdekkaa.Gh

/- The document's Loop, walked. -/
namespace Go.Proofs.Ytjpcebnbkdekkaa.Gh
open Go.RowKit Go.Maps Go.Sort Fl
set_option linter.unusedVariables false
set_option linter.unusedSimpArgs false

/-- A row while it is filled. -/
def rq (g : Gr) (k j a b : Nat) : Bool := if a = k then ((nd g k).frm.take j).any (fun x => decide (x.toNat = b)) else rm0 g a b
theorem rq_next {g : Gr} {k j y : Nat} {x : Int} (h : (nd g k).frm[j]? = some x) (hx : x.toNat = y) (a b : Nat) : rq g k (j + 1) a b = if a = k ∧ b = y then true else rq g k j a b := by
  unfold rq
  by_cases c : a = k
  · rw [if_pos c, if_pos c, List.take_add_one, h]
    simp only [Option.toList_some, List.any_append, List.any_cons, List.any_nil, Bool.or_false, hx]
    by_cases d : b = y
    · subst d; rw [if_pos ⟨c, rfl⟩]; simp
    · rw [if_neg (fun q => d q.2)]
      have : decide (y = b) = false := by simp; omega
      rw [this, Bool.or_false]
  · rw [if_neg c, if_neg c, if_neg (fun q => c q.1)]
theorem rq_all {g : Gr} {k : Nat} (hk : (nd g k).kind ≠ 6) (a b : Nat) : rq g k (nd g k).frm.length a b = rm0 g a b := by
  unfold rq
  by_cases c : a = k
  · subst c
    rw [if_pos rfl, List.take_of_length_le (Nat.le_refl _)]
    unfold rm0 now
    rw [if_neg hk]
  · rw [if_neg c]
set_option maxRecDepth 40000 in
set_option maxHeartbeats 8000000 in
theorem Loop_any (g : Gr) (go uo : Option Addr) (gc uc : Nat) (S : Nat → Prop) (w : World) (hG : GH w S g go uo gc uc) (hN : g.nodes.length ≤ 256) (hf : ∀ i, i < g.nodes.length → ∀ k ∈ (nd g i).frm, 0 ≤ k ∧ k < (g.nodes.length : Int)) :
    Calls Try.prog 17 #[gvg g go uo gc uc] w fun e w' => e = .returned (.bool (lpB g)) ∧ Below w.heap.size w w' := by
  obtain ⟨N, hNg⟩ : ∃ N, N = g.nodes.length := ⟨_, rfl⟩
  obtain ⟨U, hU⟩ : ∃ U, U = g.outs.length := ⟨_, rfl⟩
  obtain ⟨ins, hins⟩ : ∃ ins, ins = g.ins := ⟨_, rfl⟩
  obtain ⟨W1, hW1⟩ : ∃ X, X = w.alloc (Obj.cells #[.int .i64 ins, .slice go N gc, .slice uo U uc] 25) := ⟨_, rfl⟩
  have HB1 : Hid (Below w.heap.size w W1) := by rw [hW1]; exact (Below.refl _ _).alloc (Nat.le_refl _) _
  have x0 : W1.cell? ⟨w.heap.size, 0, none⟩ = some (.int .i64 ins) := by rw [hW1]; simp [go_sem]
  have x1 : W1.cell? ⟨w.heap.size, 1, none⟩ = some (.slice go N gc) := by rw [hW1]; simp [go_sem]
  have x2 : W1.cell? ⟨w.heap.size, 2, none⟩ = some (.slice uo U uc) := by rw [hW1]; simp [go_sem]
  have hargs : gvg g go uo gc uc = .agg #[.int .i64 ins, .slice go N gc, .slice uo U uc] := by rw [hU, hins, hNg]
  rw [hargs]
  have HG : Hid (GH w S g go uo gc uc) := hG
  have HNg : Hid (N = g.nodes.length) := hNg
  have Hf : Hid (∀ i, i < g.nodes.length → ∀ k ∈ (nd g i).frm, 0 ≤ k ∧ k < (g.nodes.length : Int)) := hf
  have hgl : N ≤ gc := by rw [hNg]; exact hG.gl
  have hN256 : N ≤ 256 := by omega
  obtain ⟨xb, hxb⟩ : ∃ xb, xb = w.heap.size := ⟨_, rfl⟩
  have z1 : W1.heap.size = xb + 1 := by rw [hW1, hxb]; simp
  have Hxb : Hid (xb = w.heap.size) := hxb
  obtain ⟨rb, hrb⟩ : ∃ rb, rb = W1.heap.size := ⟨_, rfl⟩
  have mk1 : (Instr.makeSlice 87 (.int .i64 (N : Int)) (.int .i64 (N : Int))).run Try.prog W1 = .ok (.slice (some ⟨W1.heap.size, 0, none⟩) N N) (W1.alloc (.cells (madeCells #[.slice none 0 0] N) 45)) := run_make_row' (P := Try.prog) 87 45 (.slice none 0 0) 24 Try.underlying87 infoSBo rfl .i64 .i64 N (by omega) (by omega) _
  obtain ⟨W2, hW2⟩ : ∃ X, X = W1.alloc (.cells (madeCells #[.slice none 0 0] N) 45) := ⟨_, rfl⟩
  have HM2 : Hid (BM W2 rb N 0 (rm0 g)) := by rw [hW2, hrb]; exact BM.made W1 N _
  have HB2 : Hid (Below rb W1 W2) := by rw [hW2, hrb]; exact (Below.refl _ _).alloc (Nat.le_refl _) _
  have z2 : W2.heap.size = rb + 1 := by rw [hW2, hrb]; simp
  rw [← hW2, ← hrb] at mk1
  have hxr : w.heap.size < rb := by omega
  have HBw : Hid (Below w.heap.size w W2) := HB1.out.trans (HB2.out.mono (by omega))
  have y0 := Fi.keepC HB2.out hxr x0
  have y1 := Fi.keepC HB2.out hxr x1
  have y2 := Fi.keepC HB2.out hxr x2
  have ly := lt_cell y1
  have hxr2 : xb < rb := by omega
  rw [hW1] at mk1
  clear hG hf hargs hU hins hNg hrb hW2 hN hW1 HB2 HB1 x0 x1 x2 hxr z1
  go_enter Try.func17, Try.ntmps17
  clear hxb
  go_wp2_with (simp only [mk1])
  have hxb : xb = w.heap.size := Hxb.out
  rw [← hxb] at y0 y1 y2 ly
  rw [← hxb]
  clear hxb mk1
  go_loopw [19] (fun i ww => ∃ k : Nat, k ≤ N ∧ i = .int .i64 k ∧ Hid (BM ww rb N k (rm0 g)) ∧ Hid (Below rb W2 ww) ∧ ww.heap.size = rb + 1 + 2 * k) (fun i _ => N - (intOf i).toNat)
  case atStart => exact ⟨0, Nat.zero_le _, rfl, HM2, Below.refl _ _, by omega⟩
  case round =>
    obtain ⟨k, hk, rfl, hM, hbr, hz⟩ := hrel
    have e0 := Fi.keepC hbr.out hxr2 y0
    have e1 := Fi.keepC hbr.out hxr2 y1
    have e2 := Fi.keepC hbr.out hxr2 y2
    have le := lt_cell e1
    by_cases hlt : k < N
    ·
      --(
      have hbw : Below w.heap.size w wr := HBw.out.trans (hbr.out.mono (by have := Hxb.out; omega))
      have hgi : g.nodes[k]? = some (nd g k) := by unfold nd; rw [List.getD_eq_getElem?_getD, List.getElem?_eq_getElem (by rw [← HNg.out]; exact hlt)]; rfl
      obtain ⟨d, hd⟩ : ∃ d, d = nd g k := ⟨_, rfl⟩
      rw [← hd] at hgi
      obtain ⟨nb, ofn, fo, fc, rfl, _, hlb, hcl, hNA⟩ := HG.out.n.at' k d hgi
      have n0 : wr.cell? ⟨nb, ofn + k * 16, none⟩ = some (.int .i64 d.kind) := Fi.keepC hbw hlb (hcl 0 _ rfl)
      have n1 : wr.cell? ⟨nb, ofn + k * 16 + 1, none⟩ = some (.slice fo d.frm.length fc) := Fi.keepC hbw hlb (hcl 1 _ rfl)
      have n2 : wr.cell? ⟨nb, ofn + k * 16 + 2, none⟩ = some (.int .i64 d.n) := Fi.keepC hbw hlb (hcl 2 _ rfl)
      have n3 : wr.cell? ⟨nb, ofn + k * 16 + 3, none⟩ = some (.float .f64 d.x) := Fi.keepC hbw hlb (hcl 3 _ rfl)
      have n4 : wr.cell? ⟨nb, ofn + k * 16 + 4, none⟩ = some (.float .f64 d.c.b0) := Fi.keepC hbw hlb (hcl 4 _ rfl)
      have n5 : wr.cell? ⟨nb, ofn + k * 16 + 5, none⟩ = some (.float .f64 d.c.b1) := Fi.keepC hbw hlb (hcl 5 _ rfl)
      have n6 : wr.cell? ⟨nb, ofn + k * 16 + 6, none⟩ = some (.float .f64 d.c.b2) := Fi.keepC hbw hlb (hcl 6 _ rfl)
      have n7 : wr.cell? ⟨nb, ofn + k * 16 + 7, none⟩ = some (.float .f64 d.c.a1) := Fi.keepC hbw hlb (hcl 7 _ rfl)
      have n8 : wr.cell? ⟨nb, ofn + k * 16 + 8, none⟩ = some (.float .f64 d.c.a2) := Fi.keepC hbw hlb (hcl 8 _ rfl)
      have n9 : wr.cell? ⟨nb, ofn + k * 16 + 9, none⟩ = some (.int .i64 d.p.shape) := Fi.keepC hbw hlb (hcl 9 _ rfl)
      have n10 : wr.cell? ⟨nb, ofn + k * 16 + 10, none⟩ = some (.int .u32 d.p.step) := Fi.keepC hbw hlb (hcl 10 _ rfl)
      have n11 : wr.cell? ⟨nb, ofn + k * 16 + 11, none⟩ = some (.float .f64 d.p.gain) := Fi.keepC hbw hlb (hcl 11 _ rfl)
      have n12 : wr.cell? ⟨nb, ofn + k * 16 + 12, none⟩ = some (.int .i64 d.p.atk) := Fi.keepC hbw hlb (hcl 12 _ rfl)
      have n13 : wr.cell? ⟨nb, ofn + k * 16 + 13, none⟩ = some (.int .i64 d.p.dec) := Fi.keepC hbw hlb (hcl 13 _ rfl)
      have n14 : wr.cell? ⟨nb, ofn + k * 16 + 14, none⟩ = some (.int .i64 d.p.rel) := Fi.keepC hbw hlb (hcl 14 _ rfl)
      have n15 : wr.cell? ⟨nb, ofn + k * 16 + 15, none⟩ = some (.int .i64 d.p.sus) := Fi.keepC hbw hlb (hcl 15 _ rfl)
      obtain ⟨FL, hFL⟩ : ∃ FL, FL = d.frm.length := ⟨_, rfl⟩
      rw [← hFL] at n1
      have hlt' : (k : Int) < (N : Int) := by omega
      have w9 : IntKind.i64.wrap ((k : Int) + 1) = (k : Int) + 1 := wid (by omega) (by omega)
      have mk2 : (Instr.makeSlice 45 (.int .i64 (N : Int)) (.int .i64 (N : Int))).run Try.prog (wr.alloc (Obj.cells #[.int .i64 d.kind, .slice fo FL fc, .int .i64 d.n, .float .f64 d.x, .float .f64 d.c.b0, .float .f64 d.c.b1, .float .f64 d.c.b2, .float .f64 d.c.a1, .float .f64 d.c.a2, .int .i64 d.p.shape, .int .u32 d.p.step, .float .f64 d.p.gain, .int .i64 d.p.atk, .int .i64 d.p.dec, .int .i64 d.p.rel, .int .i64 d.p.sus] 53)) = .ok (.slice (some ⟨wr.heap.size + 1, 0, none⟩) N N) ((wr.alloc (Obj.cells #[.int .i64 d.kind, .slice fo FL fc, .int .i64 d.n, .float .f64 d.x, .float .f64 d.c.b0, .float .f64 d.c.b1, .float .f64 d.c.b2, .float .f64 d.c.a1, .float .f64 d.c.a2, .int .i64 d.p.shape, .int .u32 d.p.step, .float .f64 d.p.gain, .int .i64 d.p.atk, .int .i64 d.p.dec, .int .i64 d.p.rel, .int .i64 d.p.sus] 53)).alloc (.cells (madeCells #[.bool false] N) 4)) := by
        have := run_make_row' (P := Try.prog) 45 4 (.bool false) 1 Try.underlying45 infoBo rfl .i64 .i64 N (by omega) (by omega) (wr.alloc (Obj.cells #[.int .i64 d.kind, .slice fo FL fc, .int .i64 d.n, .float .f64 d.x, .float .f64 d.c.b0, .float .f64 d.c.b1, .float .f64 d.c.b2, .float .f64 d.c.a1, .float .f64 d.c.a2, .int .i64 d.p.shape, .int .u32 d.p.step, .float .f64 d.p.gain, .int .i64 d.p.atk, .int .i64 d.p.dec, .int .i64 d.p.rel, .int .i64 d.p.sus] 53))
        rw [World.size_alloc] at this
        exact this
      have hA : Below wr.heap.size wr (wr.alloc (Obj.cells #[.int .i64 d.kind, .slice fo FL fc, .int .i64 d.n, .float .f64 d.x, .float .f64 d.c.b0, .float .f64 d.c.b1, .float .f64 d.c.b2, .float .f64 d.c.a1, .float .f64 d.c.a2, .int .i64 d.p.shape, .int .u32 d.p.step, .float .f64 d.p.gain, .int .i64 d.p.atk, .int .i64 d.p.dec, .int .i64 d.p.rel, .int .i64 d.p.sus] 53)) := (Below.refl _ _).alloc (Nat.le_refl _) _
      obtain ⟨W3, hW3⟩ : ∃ X, X = (wr.alloc (Obj.cells #[.int .i64 d.kind, .slice fo FL fc, .int .i64 d.n, .float .f64 d.x, .float .f64 d.c.b0, .float .f64 d.c.b1, .float .f64 d.c.b2, .float .f64 d.c.a1, .float .f64 d.c.a2, .int .i64 d.p.shape, .int .u32 d.p.step, .float .f64 d.p.gain, .int .i64 d.p.atk, .int .i64 d.p.dec, .int .i64 d.p.rel, .int .i64 d.p.sus] 53)).alloc (.cells (madeCells #[.bool false] N) 4) := ⟨_, rfl⟩
      have hrc : W3.cell? ⟨rb, k, none⟩ = some (.slice none 0 0) := by
        rw [hW3]
        have h1 := World.rowIs.cell hM.out.r (i := k) hlt
        rw [if_neg (by omega)] at h1
        exact Fi.keepC (hA.alloc (by simp) _) hM.out.lt h1
      have hrf : W3.frozen? ⟨rb, k, none⟩ = false := by
        rw [hW3]
        exact (World.frozen?_of_block (w := wr) (a := ⟨rb, k, none⟩) ((hA.alloc (by simp) _).block rb hM.out.lt)).trans (World.rowIs.frozen hM.out.r k)
      have lrb : rb < W3.heap.size := lt_cell hrc
      have hk3 : ∀ b o u, b < wr.heap.size → wr.cell? ⟨b, o, none⟩ = some u → W3.cell? ⟨b, o, none⟩ = some u := fun b o u h1 h2 => by rw [hW3]; exact Fi.keepC (hA.alloc (by simp) _) h1 h2
      have d0 : W3.cell? ⟨rb + 1 + 2 * k, 0, none⟩ = some (.int .i64 d.kind) := by rw [hW3, ← hz]; simp [go_sem]
      have d1 : W3.cell? ⟨rb + 1 + 2 * k, 1, none⟩ = some (.slice fo FL fc) := by rw [hW3, ← hz]; simp [go_sem]
      have z3 : W3.heap.size = wr.heap.size + 2 := by rw [hW3]; simp
      obtain ⟨W4, hW4⟩ : ∃ X, X = W3.setCell ⟨rb, k, none⟩ (.slice (some ⟨rb + 2 + 2 * k, 0, none⟩) N N) := ⟨_, rfl⟩
      have HM4 : Hid (∀ M, (∀ a b, a < k → b < N → rm0 g a b = M a b) → (∀ b, M k b = false) → BM W4 rb N (k + 1) M) := fun M h1 h2 => by
        rw [hW4, hW3]
        exact BM.row (hM.out.congr h1) hlt hz hA (by simp) h2
      have hks : ∀ b, b ≠ rb → W4.heap[b]? = W3.heap[b]? := fun b hb => by rw [hW4]; exact Below.heap_setCell _ _ _ _ hb
      have HB4 : Hid (Below rb W2 W4) := by
        rw [hW4, hW3]
        exact (hbr.out.trans ((hA.alloc (by simp) _).mono (by omega))).setCell (p := ⟨rb, k, none⟩) (Nat.le_refl _) _
      have z4 : W4.heap.size = rb + 3 + 2 * k := by rw [hW4, World.size_setCell, z3]; omega
      have c0 : W4.cell? ⟨rb + 1 + 2 * k, 0, none⟩ = some (.int .i64 d.kind) := (World.cell?_of_block (w := W3) (a := ⟨rb + 1 + 2 * k, 0, none⟩) (hks (rb + 1 + 2 * k) (by omega))).trans d0
      have c1 : W4.cell? ⟨rb + 1 + 2 * k, 1, none⟩ = some (.slice fo FL fc) := (World.cell?_of_block (w := W3) (a := ⟨rb + 1 + 2 * k, 1, none⟩) (hks (rb + 1 + 2 * k) (by omega))).trans d1
      have HNA : Hid (NA w S d fo fc ∧ FL = d.frm.length ∧ d = nd g k) := ⟨hNA, hFL, hd⟩
      have Hbw : Hid (Below w.heap.size w wr) := hbw
      have e1' := hk3 _ _ _ le e1
      have e2' := hk3 _ _ _ le e2
      have e0' := hk3 _ _ _ le e0
      have lx3 : xb < W3.heap.size := by omega
      have lxa : xb < rb + 1 + 2 * k := by omega
      have lxc : rb + 1 + 2 * k < W4.heap.size := by omega
      have e1q := Fi.keepC hA le e1
      have e0q := Fi.keepC hA le e0
      have e2q := Fi.keepC hA le e2
      have esz : wr.heap.size + 1 = rb + 2 + 2 * k := by omega
      rw [← hW3, esz] at mk2
      have hfc := hNA.c
      have hfcm := hNA.cm
      rw [← hFL] at hfc
      have lx3c : rb + 1 + 2 * k < W3.heap.size := by omega
      have HW4 : Hid (W4 = W3.setCell ⟨rb, k, none⟩ (.slice (some ⟨rb + 2 + 2 * k, 0, none⟩) N N)) := hW4
      obtain ⟨wl, hwl⟩ : ∃ x, x = wr := ⟨wr, rfl⟩
      subst hwl
      clear hM hbr hgi hcl hNA hFL hd hA hk3 hks hbw e0 e1 e2 hW3 hW4 c0 c1
      by_cases h6 : d.kind = 6
      · have hk6 : (d.kind != 6) = false := by simp [h6]
        have HMn : Hid (BM W4 rb N (k + 1) (rm0 g)) := HM4.out _ (fun _ _ _ _ => rfl) (fun b => by
          unfold rm0 now
          rw [← HNA.out.2.2, if_pos h6]; rfl)
        clear HM4 h6
        go_wp2_with (first | simp only [mk2])
        rw [← HW4.out]
        exact ⟨⟨k + 1, by omega, by go_num, HMn, HB4, by omega⟩, by simp [intOf]; omega⟩
      · have hk6 : (d.kind != 6) = true := by simp [h6]
        have H6 : Hid ((nd g k).kind ≠ 6) := by rw [← HNA.out.2.2]; exact h6
        have HMn : Hid (BM W4 rb N (k + 1) (rq g k 0)) := HM4.out _ (fun a b ha _ => by unfold rq; rw [if_neg (by omega)]) (fun b => by unfold rq; rw [if_pos rfl]; rfl)
        clear HM4 h6
        go_wp2_with (first | simp only [mk2])
        rw [← HW4.out]
        clear mk2 e0q e1q e2q e0' e1' e2' d0 d1 hrc hrf
        go_loopw [37] (fun q ww => ∃ j : Nat, j ≤ FL ∧ q = .int .i64 j ∧ Hid (BM ww rb N (k + 1) (rq g k j)) ∧ Hid (Below rb W2 ww) ∧ ww.heap.size = rb + 3 + 2 * k) (fun q _ => FL - (intOf q).toNat)
        case atStart => exact ⟨0, Nat.zero_le _, rfl, HMn, HB4, z4⟩
        case round =>
          obtain ⟨j, hj, rfl, hM, hb5, hz5⟩ := hrel
          by_cases hlt2 : j < FL
          · have hb5w : Below w.heap.size w wr := HBw.out.trans (hb5.out.mono (by have := Hxb.out; omega))
            obtain ⟨x, hx⟩ : ∃ x, d.frm[j]? = some x := ⟨_, List.getElem?_eq_getElem (by rw [← HNA.out.2.1]; exact hlt2)⟩
            obtain ⟨fb, fof, rfl, o1, _, o3⟩ := HNA.out.1.z.at' (by rw [← HNA.out.2.1]; omega)
            have hxf := Hf.out k (by rw [← HNg.out]; exact hlt) x (by rw [← HNA.out.2.2]; exact List.mem_of_getElem? hx)
            rw [← HNg.out] at hxf
            obtain ⟨y, rfl⟩ : ∃ y : Nat, x = y := ⟨x.toNat, by omega⟩
            have hy : y < N := by omega
            have hy' : (y : Int) < (N : Int) := by omega
            have v0 := Fi.keepC hb5w o1 (o3 j _ hx)
            have lv0 := lt_cell v0
            have r0 := hM.out.c0 (i := k) (by omega) (by omega)
            have r1 := hM.out.c1 (i := k) (j := y) (by omega) hy
            have rf := hM.out.f1 (i := k) (by omega) y
            have lr0 := lt_cell r0
            have lr1 := lt_cell r1
            have hlt2' : (j : Int) < (FL : Int) := by omega
            have w10 : IntKind.i64.wrap ((j : Int) + 1) = (j : Int) + 1 := wid (by omega) (by omega)
            have HMp : Hid (BM (wr.setCell ⟨rb + 2 + 2 * k, y, none⟩ (.bool true)) rb N (k + 1) (rq g k (j + 1))) := (hM.out.put (i := k) (y := y) (by omega) true).congr (fun a b _ _ => (rq_next (by rw [← HNA.out.2.2]; exact hx) (by omega) a b).symm)
            have HBp : Hid (Below rb W2 (wr.setCell ⟨rb + 2 + 2 * k, y, none⟩ (.bool true))) := hb5.out.setCell (p := ⟨rb + 2 + 2 * k, y, none⟩) (by show rb ≤ rb + 2 + 2 * k; omega) _
            have zp : (wr.setCell ⟨rb + 2 + 2 * k, y, none⟩ (.bool true)).heap.size = rb + 3 + 2 * k := by rw [World.size_setCell]; exact hz5
            clear hM hb5 hx o3 hb5w hxf
            go_wp2_with fail
            exact ⟨⟨j + 1, by omega, by go_num, HMp, HBp, zp⟩, by simp [intOf]; omega⟩
          · obtain rfl : j = FL := by omega
            have HMf : Hid (BM wr rb N (k + 1) (rm0 g)) := hM.out.congr (fun a b _ _ => by rw [HNA.out.2.1, HNA.out.2.2]; exact rq_all H6.out a b)
            clear hM
            go_wp2_with fail
            exact ⟨⟨k + 1, by omega, by go_num, HMf, hb5, by omega⟩, by simp [intOf]; omega⟩
      --)
    · obtain rfl : N = k := by omega
      obtain ⟨w5, hw5⟩ : ∃ x, x = wr := ⟨wr, rfl⟩
      subst hw5
      have HM5 : Hid (BM w5 rb N N (rm g 0)) := hM
      clear hM e0 e1 e2 le
      go_wp2_with fail
      go_loopw [51] (fun i ww => ∃ m : Nat, m ≤ N ∧ i = .int .i64 m ∧ Hid (BM ww rb N N (rm g m)) ∧ Hid (Below rb W2 ww)) (fun i _ => N - (intOf i).toNat)
      case atStart => exact ⟨0, Nat.zero_le _, rfl, HM5, hbr⟩
      case round =>
        obtain ⟨m, hm, rfl, hM, hb6⟩ := hrel
        by_cases hlm : m < N
        ·
          --{
          have hlm' : (m : Int) < (N : Int) := by omega
          have wm : IntKind.i64.wrap ((m : Int) + 1) = (m : Int) + 1 := wid (by omega) (by omega)
          have HMs : Hid (BM wr rb N N (st g m 0 0)) := hM.out.congr (fun a b _ _ => (st_first g m a b).symm)
          clear hM
          go_wp2_with fail
          go_loopw [56] (fun i ww => ∃ p : Nat, p ≤ N ∧ i = .int .i64 p ∧ Hid (BM ww rb N N (st g m p 0)) ∧ Hid (Below rb W2 ww)) (fun i _ => N - (intOf i).toNat)
          case atStart => exact ⟨0, Nat.zero_le _, rfl, HMs, hb6⟩
          case round =>
            obtain ⟨p, hp, rfl, hM, hb7⟩ := hrel
            by_cases hlp : p < N
            · have hlp' : (p : Int) < (N : Int) := by omega
              have wp' : IntKind.i64.wrap ((p : Int) + 1) = (p : Int) + 1 := wid (by omega) (by omega)
              have HMp : Hid (BM wr rb N N (st g m p 0)) := hM
              clear hM
              go_wp2_with fail
              go_loopw [61] (fun i ww => ∃ q : Nat, q ≤ N ∧ i = .int .i64 q ∧ Hid (BM ww rb N N (st g m p q)) ∧ Hid (Below rb W2 ww)) (fun i _ => N - (intOf i).toNat)
              case atStart => exact ⟨0, Nat.zero_le _, rfl, HMp, hb7⟩
              case round =>
                obtain ⟨q, hq, rfl, hM, hb8⟩ := hrel
                by_cases hlq : q < N
                · have hlq' : (q : Int) < (N : Int) := by omega
                  have wq : IntKind.i64.wrap ((q : Int) + 1) = (q : Int) + 1 := wid (by omega) (by omega)
                  have r0 := hM.out.c0 (i := p) hlp (Nat.le_refl _)
                  have r1 := hM.out.c1 (i := p) (j := m) hlp hlm
                  have r2 := hM.out.c0 (i := m) hlm (Nat.le_refl _)
                  have r3 := hM.out.c1 (i := m) (j := q) hlm hlq
                  have r4 := hM.out.c1 (i := p) (j := q) hlp hlq
                  have rf := hM.out.f1 (i := p) hlp q
                  rw [st_col] at r1
                  rw [st_row] at r3
                  have l0 := lt_cell r0
                  have l1 := lt_cell r1
                  have l3 := lt_cell r3
                  have HP : Hid (BM (wr.setCell ⟨rb + 2 + 2 * p, q, none⟩ (.bool true)) rb N N (fun a b => if a = p ∧ b = q then true else st g m p q a b)) := hM.out.put (i := p) (y := q) hlp true
                  have HBp : Hid (Below rb W2 (wr.setCell ⟨rb + 2 + 2 * p, q, none⟩ (.bool true))) := hb8.out.setCell (p := ⟨rb + 2 + 2 * p, q, none⟩) (by show rb ≤ rb + 2 + 2 * p; omega) _
                  have HE : Hid (rm g (m + 1) p q = (rm g m p q || (rm g m p m && rm g m m q))) := rfl
                  have HMq : Hid (BM wr rb N N (st g m p q)) := hM
                  clear hM
                  cases hA : rm g m p m with
                  | false =>
                    rw [hA] at r1
                    have HN : Hid (BM wr rb N N (st g m p (q + 1))) := HMq.out.congr (fun a b _ _ => by
                      rw [st_next]
                      by_cases c : a = p ∧ b = q
                      · rw [if_pos c, c.1, c.2, st_at, HE.out, hA]; simp
                      · rw [if_neg c])
                    clear hA r2 r3 r4 rf l3
                    go_wp2_with fail
                    exact ⟨⟨q + 1, by omega, by go_num, HN, hb8⟩, by simp [intOf]; omega⟩
                  | true =>
                    rw [hA] at r1
                    cases hB : rm g m m q with
                    | false =>
                      rw [hB] at r3
                      have HN : Hid (BM wr rb N N (st g m p (q + 1))) := HMq.out.congr (fun a b _ _ => by
                        rw [st_next]
                        by_cases c : a = p ∧ b = q
                        · rw [if_pos c, c.1, c.2, st_at, HE.out, hB]; simp
                        · rw [if_neg c])
                      clear hA hB r4 rf
                      go_wp2_with fail
                      exact ⟨⟨q + 1, by omega, by go_num, HN, hb8⟩, by simp [intOf]; omega⟩
                    | true =>
                      rw [hB] at r3
                      have HN : Hid (BM (wr.setCell ⟨rb + 2 + 2 * p, q, none⟩ (.bool true)) rb N N (st g m p (q + 1))) := HP.out.congr (fun a b _ _ => by
                        rw [st_next]
                        by_cases c : a = p ∧ b = q
                        · rw [if_pos c, if_pos c, HE.out, hA, hB]; simp
                        · rw [if_neg c, if_neg c])
                      clear hA hB
                      go_wp2_with fail
                      exact ⟨⟨q + 1, by omega, by go_num, HN, HBp⟩, by simp [intOf]; omega⟩
                · obtain rfl : N = q := by omega
                  have HN : Hid (BM wr rb N N (st g m (p + 1) 0)) := hM.out.congr (fun a b _ hb => st_line g m p N a b hb)
                  clear hM
                  go_wp2_with fail
                  exact ⟨⟨p + 1, by omega, by go_num, HN, hb8⟩, by simp [intOf]; omega⟩
            · obtain rfl : N = p := by omega
              have HN : Hid (BM wr rb N N (rm g (m + 1))) := hM.out.congr (fun a b ha _ => st_last g m N a b ha)
              clear hM
              go_wp2_with fail
              exact ⟨⟨m + 1, by omega, by go_num, HN, hb7⟩, by simp [intOf]; omega⟩
          --}
        · obtain rfl : N = m := by omega
          obtain ⟨w6, hw6⟩ : ∃ x, x = wr := ⟨wr, rfl⟩
          subst hw6
          have HM6 : Hid (BM w6 rb N N (rm g N)) := hM
          have HB6 : Hid (Below w.heap.size w w6) := HBw.out.trans (hb6.out.mono (by have := Hxb.out; omega))
          clear hM
          go_wp2_with fail
          go_loopw [91] (fun i ww => ∃ j : Nat, j ≤ N ∧ i = .int .i64 j ∧ Hid (∀ a, a < j → rm g N a a = false) ∧ ww = w6) (fun i _ => N - (intOf i).toNat)
          case atStart => exact ⟨0, Nat.zero_le _, rfl, fun a h => absurd h (by omega), rfl⟩
          case round =>
            obtain ⟨j, hj, rfl, hF, rfl⟩ := hrel
            by_cases hlj : j < N
            · have hlj' : (j : Int) < (N : Int) := by omega
              have wj : IntKind.i64.wrap ((j : Int) + 1) = (j : Int) + 1 := wid (by omega) (by omega)
              have r0 := HM6.out.c0 (i := j) hlj (Nat.le_refl _)
              have r1 := HM6.out.c1 (i := j) (j := j) hlj hlj
              have l0 := lt_cell r0
              have l1 := lt_cell r1
              cases hA : rm g N j j with
              | true =>
                rw [hA] at r1
                have HQ : Hid (lpB g = true) := by
                  unfold Hid lpB
                  rw [List.any_eq_true, ← HNg.out]
                  exact ⟨j, List.mem_range.2 hlj, hA⟩
                clear hA
                go_wp2_with fail
                go_ret
                refine ⟨?_, HB6.out⟩
                show Ending.returned (.bool true) = _
                rw [HQ.out]
              | false =>
                rw [hA] at r1
                have HN : Hid (∀ a, a < j + 1 → rm g N a a = false) := fun a ha => by
                  by_cases c : a = j
                  · rw [c]; exact hA
                  · exact hF.out a (by omega)
                clear hA
                go_wp2_with fail
                exact ⟨⟨j + 1, by omega, by go_num, HN, trivial⟩, by simp [intOf]; omega⟩
            · obtain rfl : N = j := by omega
              have HQ : Hid (lpB g = false) := by
                unfold Hid
                cases h : lpB g with
                | false => rfl
                | true =>
                  unfold lpB at h
                  rw [List.any_eq_true, ← HNg.out] at h
                  obtain ⟨a, ha, h2⟩ := h
                  rw [hF.out a (List.mem_range.1 ha)] at h2
                  cases h2
              go_wp2_with fail
              go_ret
              refine ⟨?_, HB6.out⟩
              show Ending.returned (.bool false) = _
              rw [HQ.out]
end Go.Proofs.Ytjpcebnbkdekkaa.Gh

/- The document's node: what is wrong with one. -/
namespace Go.Proofs.Ytjpcebnbkdekkaa.Gh
open Go.RowKit Go.Maps Go.Sort Fl
set_option linter.unusedVariables false
set_option linter.unusedSimpArgs false

theorem mny_bad {k : Int} (h : isK k = false) : mny k = -2 := by
  unfold isK at h
  have : ¬ (1 ≤ k ∧ k ≤ 8) := fun q => by simp [q.1, q.2] at h
  unfold mny
  rw [if_neg (by omega), if_neg (by omega), if_neg (by omega), if_neg (by omega)]
theorem mny_ok {k : Int} (h : isK k = true) : mny k ≠ -2 := by
  unfold isK at h
  simp only [Bool.and_eq_true, decide_eq_true_eq] at h
  unfold mny
  split
  · omega
  · split
    · omega
    · split
      · omega
      · split <;> omega
theorem mny_fit {k m : Int} (h : isK k = true) : fitK k m = false ↔ (0 ≤ mny k ∧ mny k ≠ m) := by
  unfold isK at h
  simp only [Bool.and_eq_true, decide_eq_true_eq] at h
  unfold fitK mny
  by_cases c1 : k = 1 ∨ k = 2 ∨ k = 8
  · rw [if_pos c1, if_pos c1]; simp; omega
  · rw [if_neg c1, if_neg c1]
    by_cases c2 : k = 3 ∨ k = 6 ∨ k = 7
    · rw [if_pos c2, if_pos c2]; simp; omega
    · rw [if_neg c2, if_neg c2]
      by_cases c3 : k = 5
      · rw [if_pos c3, if_pos c3]; simp; omega
      · rw [if_neg c3, if_neg c3]
        have c4 : k = 4 := by omega
        rw [if_pos c4]
        simp [c4]
set_option maxRecDepth 40000 in
set_option maxHeartbeats 8000000 in
theorem node_any (ins : Int) (go uo : Option Addr) (N gc U uc : Nat) (d : Nd) (fo : Option Addr) (fc : Nat) (S : Nat → Prop) (w : World) (hN : NA w S d fo fc) (hNs : N ≤ 9223372036854775807) :
    Calls Try.prog 16 #[gv ins go uo N gc U uc, nv d fo fc] w fun e w' => e = .returned (.int .i64 (wn N ins d)) ∧ Below w.heap.size w w' := by
  obtain ⟨m, hl⟩ : ∃ m, d.frm.length = m := ⟨_, rfl⟩
  obtain ⟨W2, hW2⟩ : ∃ X, X = (w.alloc (Obj.cells #[.int .i64 ins, .slice go N gc, .slice uo U uc] 25)).alloc (Obj.cells (nc d fo fc) 53) := ⟨_, rfl⟩
  have HB2 : Hid (Below w.heap.size w W2) := by rw [hW2]; exact ((Below.refl _ _).alloc (Nat.le_refl _) _).alloc (by simp) _
  have z2 : W2.heap.size = w.heap.size + 2 := by rw [hW2]; simp
  have g0 : W2.cell? ⟨w.heap.size, 0, none⟩ = some (.int .i64 ins) := by rw [hW2]; simp [go_sem]
  have g1 : W2.cell? ⟨w.heap.size, 1, none⟩ = some (.slice go N gc) := by rw [hW2]; simp [go_sem]
  have n0 : W2.cell? ⟨w.heap.size + 1, 0, none⟩ = some (.int .i64 d.kind) := by rw [hW2]; simp [go_sem]
  have n1 : W2.cell? ⟨w.heap.size + 1, 1, none⟩ = some (.slice fo m fc) := by rw [hW2, ← hl]; simp [go_sem]
  have n2 : W2.cell? ⟨w.heap.size + 1, 2, none⟩ = some (.int .i64 d.n) := by rw [hW2]; simp [go_sem]
  have n4 : W2.cell? ⟨w.heap.size + 1, 4, none⟩ = some (.float .f64 d.c.b0) := by rw [hW2]; simp [go_sem]
  have n5 : W2.cell? ⟨w.heap.size + 1, 5, none⟩ = some (.float .f64 d.c.b1) := by rw [hW2]; simp [go_sem]
  have n6 : W2.cell? ⟨w.heap.size + 1, 6, none⟩ = some (.float .f64 d.c.b2) := by rw [hW2]; simp [go_sem]
  have n7 : W2.cell? ⟨w.heap.size + 1, 7, none⟩ = some (.float .f64 d.c.a1) := by rw [hW2]; simp [go_sem]
  have n8 : W2.cell? ⟨w.heap.size + 1, 8, none⟩ = some (.float .f64 d.c.a2) := by rw [hW2]; simp [go_sem]
  have n9 : W2.cell? ⟨w.heap.size + 1, 9, none⟩ = some (.int .i64 d.p.shape) := by rw [hW2]; simp [go_sem]
  have n10 : W2.cell? ⟨w.heap.size + 1, 10, none⟩ = some (.int .u32 d.p.step) := by rw [hW2]; simp [go_sem]
  have n11 : W2.cell? ⟨w.heap.size + 1, 11, none⟩ = some (.float .f64 d.p.gain) := by rw [hW2]; simp [go_sem]
  have n12 : W2.cell? ⟨w.heap.size + 1, 12, none⟩ = some (.int .i64 d.p.atk) := by rw [hW2]; simp [go_sem]
  have n13 : W2.cell? ⟨w.heap.size + 1, 13, none⟩ = some (.int .i64 d.p.dec) := by rw [hW2]; simp [go_sem]
  have n14 : W2.cell? ⟨w.heap.size + 1, 14, none⟩ = some (.int .i64 d.p.rel) := by rw [hW2]; simp [go_sem]
  have n15 : W2.cell? ⟨w.heap.size + 1, 15, none⟩ = some (.int .i64 d.p.sus) := by rw [hW2]; simp [go_sem]
  have lg : w.heap.size < W2.heap.size := by omega
  have ln : w.heap.size + 1 < W2.heap.size := by omega
  have q1 := Many_any d.kind W2
  have HZ : Hid (ZL W2 S fo d.frm) := hN.z.bel HB2.out
  have hfc : m ≤ fc := by rw [← hl]; exact hN.c
  have hfm := hN.cm
  have Hl : Hid (d.frm.length = m) := hl
  have Hw : Hid (wn N ins d = if wr1 N ins d = 0 then wr2 d else wr1 N ins d) := rfl
  have Hw1 : Hid (wr1 N ins d = if isK d.kind = false then 1 else if fitK d.kind d.frm.length = false then 5 else if belB N d.frm = false then 8 else if d.kind = 1 ∧ (d.n < 0 ∨ ins ≤ d.n) then 3 else if d.kind = 6 ∧ (d.n < 1 ∨ 4096 < d.n) then 3 else 0) := rfl
  have HW2 : Hid ((w.alloc (Obj.cells #[.int .i64 ins, .slice go N gc, .slice uo U uc] 25)).alloc (Obj.cells (nc d fo fc) 53) = W2) := hW2.symm
  obtain ⟨WR, hWR⟩ : ∃ A, A = wn N ins d := ⟨_, rfl⟩
  have HWR : Hid (WR = wn N ins d) := hWR
  rw [← hWR]
  obtain ⟨MK, hMK⟩ : ∃ A, A = mny d.kind := ⟨_, rfl⟩
  have HMK : Hid (MK = mny d.kind) := hMK
  rw [← hMK] at q1
  clear hN hl hW2 hWR hMK
  by_cases hK : isK d.kind = false
  · have hv : Hid (WR = 1) := by
      unfold Hid
      rw [HWR.out, Hw.out, Hw1.out, if_pos hK]; rfl
    have hm2 : MK = -2 := by rw [HMK.out]; exact mny_bad hK
    subst hm2
    clear hK
    go_enter Try.func16, Try.ntmps16
    go_wp2_with fail
    rw [HW2.out]
    refine q1.mono ?_
    rintro e w1 ⟨rfl, hw⟩
    rw [hw]
    clear hw q1
    go_wp2_with fail
    go_ret
    refine ⟨?_, HB2.out⟩
    show Ending.returned (.int .i64 1) = _
    rw [hv.out]
  · have hK' : isK d.kind = true := by simpa using hK
    have hm2 : (MK == -2) = false := by simp; rw [HMK.out]; exact mny_ok hK'
    by_cases hF : fitK d.kind (d.frm.length : Int) = false
    · have hv : Hid (WR = 5) := by
        unfold Hid
        rw [HWR.out, Hw.out, Hw1.out, if_neg hK, if_pos hF]; rfl
      have h3 := (mny_fit hK').1 hF
      rw [← HMK.out, Hl.out] at h3
      have h4 : (MK != (m : Int)) = true := by simp [h3.2]
      have h5 := h3.1
      clear hK hK' hF h3
      go_enter Try.func16, Try.ntmps16
      go_wp2_with fail
      rw [HW2.out]
      refine q1.mono ?_
      rintro e w1 ⟨rfl, hw⟩
      rw [hw]
      clear hw q1
      go_wp2_with fail
      go_ret
      refine ⟨?_, HB2.out⟩
      show Ending.returned (.int .i64 5) = _
      rw [hv.out]
    · have hway : (¬ 0 ≤ MK) ∨ (0 ≤ MK ∧ (MK != (m : Int)) = false) := by
        by_cases c : 0 ≤ MK
        · right
          refine ⟨c, ?_⟩
          cases hb : (MK != (m : Int)) with
          | false => rfl
          | true =>
            exfalso
            apply hF
            rw [mny_fit hK', ← HMK.out, Hl.out]
            exact ⟨c, by simpa using hb⟩
        · exact .inl c
      have HKF : Hid (isK d.kind = true ∧ fitK d.kind (d.frm.length : Int) ≠ false ∧ ¬ isK d.kind = false) := ⟨hK', hF, hK⟩
      clear hK hK' hF
      go_enter Try.func16, Try.ntmps16
      go_wp2_with fail
      rw [HW2.out]
      refine q1.mono ?_
      rintro e w1 ⟨rfl, hw⟩
      rw [hw]
      clear hw q1
      rcases hway with h5 | ⟨h5, h6⟩
      all_goals
        go_wp2_with fail
        go_loopw [25] (fun i ww => ∃ j : Nat, j ≤ m ∧ i = .int .i64 j ∧ Hid (∀ i x, i < j → d.frm[i]? = some x → 0 ≤ x ∧ x < (N : Int)) ∧ ww = W2) (fun i _ => m - (intOf i).toNat)
        case atStart => exact ⟨0, Nat.zero_le _, rfl, fun i x h => absurd h (by omega), rfl⟩
        case round =>
          obtain ⟨j, hj, rfl, hR, rfl⟩ := hrel
          by_cases hlt : j < m
          · obtain ⟨x, hx⟩ : ∃ x, d.frm[j]? = some x := ⟨_, List.getElem?_eq_getElem (by rw [Hl.out]; exact hlt)⟩
            obtain ⟨fb, fof, rfl, o1, _, o3⟩ := HZ.out.at' (by rw [Hl.out]; omega)
            have v0 := o3 j x hx
            have hlt' : (j : Int) < (m : Int) := by omega
            have w9 : IntKind.i64.wrap ((j : Int) + 1) = (j : Int) + 1 := wid (by omega) (by omega)
            by_cases c1 : x < 0
            · have hv : Hid (WR = 8) := by
                unfold Hid
                rw [HWR.out, Hw.out, Hw1.out, if_neg HKF.out.2.2, if_neg HKF.out.2.1, if_pos (belB_no hx (.inl c1))]; rfl
              clear hR o3 hx
              go_wp2_with fail
              go_ret
              refine ⟨?_, HB2.out⟩
              show Ending.returned (.int .i64 8) = _
              rw [hv.out]
            · by_cases c2 : (N : Int) ≤ x
              · have hv : Hid (WR = 8) := by
                  unfold Hid
                  rw [HWR.out, Hw.out, Hw1.out, if_neg HKF.out.2.2, if_neg HKF.out.2.1, if_pos (belB_no hx (.inr c2))]; rfl
                clear hR o3 hx
                go_wp2_with fail
                go_ret
                refine ⟨?_, HB2.out⟩
                show Ending.returned (.int .i64 8) = _
                rw [hv.out]
              · have HN : Hid (∀ i x, i < j + 1 → d.frm[i]? = some x → 0 ≤ x ∧ x < (N : Int)) := fun i y hi hy => by
                  by_cases e : i = j
                  · subst e
                    rw [hx] at hy
                    cases hy
                    omega
                  · exact hR.out i y (by omega) hy
                clear hR o3 hx
                go_wp2_with fail
                exact ⟨⟨j + 1, by omega, by go_num, HN, trivial⟩, by simp [intOf]; omega⟩
          · obtain rfl : m = j := by omega
            have hbel : belB N d.frm = true := belB_yes (fun i x hx => hR.out i x (by have := (List.getElem?_eq_some_iff.1 hx).1; rw [Hl.out] at this; exact this) hx)
            have hv0 : wr1 N ins d = if d.kind = 1 ∧ (d.n < 0 ∨ ins ≤ d.n) then 3 else if d.kind = 6 ∧ (d.n < 1 ∨ 4096 < d.n) then 3 else 0 := by
              rw [Hw1.out, if_neg HKF.out.2.2, if_neg HKF.out.2.1, if_neg (by rw [hbel]; decide)]
            have hk8 : d.kind = 1 ∨ d.kind = 2 ∨ d.kind = 3 ∨ d.kind = 4 ∨ d.kind = 5 ∨ d.kind = 6 ∨ d.kind = 7 ∨ d.kind = 8 := by
              have h := HKF.out.1
              unfold isK at h
              simp only [Bool.and_eq_true, decide_eq_true_eq] at h
              omega
            rcases hk8 with h | h | h | h | h | h | h | h
            · rw [h] at n0
              by_cases a1 : d.n < 0
              · skip
                have hw : wr1 N ins d = 3 := by rw [hv0, if_pos ⟨h, .inl a1⟩]
                have hv : Hid (WR = 3) := by
                  unfold Hid
                  rw [HWR.out, Hw.out, hw]; rfl
                clear hR hv0 hbel hw
                go_wp2_with fail
                go_ret
                refine ⟨?_, HB2.out⟩
                show Ending.returned (.int .i64 3) = _
                rw [hv.out]
              · by_cases a2 : ins ≤ d.n
                · skip
                  have hw : wr1 N ins d = 3 := by rw [hv0, if_pos ⟨h, .inr a2⟩]
                  have hv : Hid (WR = 3) := by
                    unfold Hid
                    rw [HWR.out, Hw.out, hw]; rfl
                  clear hR hv0 hbel hw
                  go_wp2_with fail
                  go_ret
                  refine ⟨?_, HB2.out⟩
                  show Ending.returned (.int .i64 3) = _
                  rw [hv.out]
                · skip
                  have hw : wr1 N ins d = 0 := by rw [hv0, if_neg (by omega), if_neg (by omega)]
                  have hv : Hid (WR = 0) := by
                    unfold Hid
                    rw [HWR.out, Hw.out, hw, if_pos rfl]
                    unfold wr2
                    rw [if_neg (by omega), if_neg (by omega)]
                  clear hR hv0 hbel hw
                  go_wp2_with fail
                  go_ret
                  refine ⟨?_, HB2.out⟩
                  show Ending.returned (.int .i64 0) = _
                  rw [hv.out]
            · rw [h] at n0
              have hw : wr1 N ins d = 0 := by rw [hv0, if_neg (by omega), if_neg (by omega)]
              have hv : Hid (WR = 0) := by
                unfold Hid
                rw [HWR.out, Hw.out, hw, if_pos rfl]
                unfold wr2
                rw [if_neg (by omega), if_neg (by omega)]
              clear hR hv0 hbel hw
              go_wp2_with fail
              go_ret
              refine ⟨?_, HB2.out⟩
              show Ending.returned (.int .i64 0) = _
              rw [hv.out]
            · rw [h] at n0
              have hw : wr1 N ins d = 0 := by rw [hv0, if_neg (by omega), if_neg (by omega)]
              have hv : Hid (WR = 0) := by
                unfold Hid
                rw [HWR.out, Hw.out, hw, if_pos rfl]
                unfold wr2
                rw [if_neg (by omega), if_neg (by omega)]
              clear hR hv0 hbel hw
              go_wp2_with fail
              go_ret
              refine ⟨?_, HB2.out⟩
              show Ending.returned (.int .i64 0) = _
              rw [hv.out]
            · rw [h] at n0
              have hw : wr1 N ins d = 0 := by rw [hv0, if_neg (by omega), if_neg (by omega)]
              have hv : Hid (WR = 0) := by
                unfold Hid
                rw [HWR.out, Hw.out, hw, if_pos rfl]
                unfold wr2
                rw [if_neg (by omega), if_neg (by omega)]
              clear hR hv0 hbel hw
              go_wp2_with fail
              go_ret
              refine ⟨?_, HB2.out⟩
              show Ending.returned (.int .i64 0) = _
              rw [hv.out]
            · rw [h] at n0
              have hw : wr1 N ins d = 0 := by rw [hv0, if_neg (by omega), if_neg (by omega)]
              have hv : Hid (WR = 0) := by
                unfold Hid
                rw [HWR.out, Hw.out, hw, if_pos rfl]
                unfold wr2
                rw [if_neg (by omega), if_neg (by omega)]
              clear hR hv0 hbel hw
              go_wp2_with fail
              go_ret
              refine ⟨?_, HB2.out⟩
              show Ending.returned (.int .i64 0) = _
              rw [hv.out]
            · rw [h] at n0
              by_cases a1 : d.n < 1
              · skip
                have hw : wr1 N ins d = 3 := by rw [hv0, if_neg (by omega), if_pos ⟨h, .inl a1⟩]
                have hv : Hid (WR = 3) := by
                  unfold Hid
                  rw [HWR.out, Hw.out, hw]; rfl
                clear hR hv0 hbel hw
                go_wp2_with fail
                go_ret
                refine ⟨?_, HB2.out⟩
                show Ending.returned (.int .i64 3) = _
                rw [hv.out]
              · by_cases a2 : 4096 < d.n
                · skip
                  have hw : wr1 N ins d = 3 := by rw [hv0, if_neg (by omega), if_pos ⟨h, .inr a2⟩]
                  have hv : Hid (WR = 3) := by
                    unfold Hid
                    rw [HWR.out, Hw.out, hw]; rfl
                  clear hR hv0 hbel hw
                  go_wp2_with fail
                  go_ret
                  refine ⟨?_, HB2.out⟩
                  show Ending.returned (.int .i64 3) = _
                  rw [hv.out]
                · skip
                  have hw : wr1 N ins d = 0 := by rw [hv0, if_neg (by omega), if_neg (by omega)]
                  have hv : Hid (WR = 0) := by
                    unfold Hid
                    rw [HWR.out, Hw.out, hw, if_pos rfl]
                    unfold wr2
                    rw [if_neg (by omega), if_neg (by omega)]
                  clear hR hv0 hbel hw
                  go_wp2_with fail
                  go_ret
                  refine ⟨?_, HB2.out⟩
                  show Ending.returned (.int .i64 0) = _
                  rw [hv.out]
            · rw [h] at n0
              have qf : Calls Try.prog 31 #[.agg #[.float .f64 d.c.b0, .float .f64 d.c.b1, .float .f64 d.c.b2, .float .f64 d.c.a1, .float .f64 d.c.a2]] wr fun e w' => e = .returned (.bool (!Fi.inC d.c)) ∧ Below wr.heap.size wr w' := Fi.refWrong_any d.c wr
              have hw : wr1 N ins d = 0 := by rw [hv0, if_neg (by omega), if_neg (by omega)]
              have hv : Hid (WR = if Fi.inC d.c = true then 0 else 3) := by
                unfold Hid
                rw [HWR.out, Hw.out, hw, if_pos rfl]
                unfold wr2
                rw [if_pos h]
              generalize Fi.inC d.c = IC at *
              clear hR hv0 hbel hw
              go_wp2_with fail
              refine qf.mono ?_
              rintro e w3 ⟨rfl, hb3⟩
              have HB3 : Hid (Below w.heap.size w w3) := HB2.out.trans (hb3.mono HB2.out.size)
              have hb3' := hb3
              clear qf hb3
              cases IC
              · go_wp2_with fail
                go_ret
                refine ⟨?_, HB3.out⟩
                show Ending.returned (.int .i64 3) = _
                rw [hv.out]; rfl
              · have c0 := Fi.keepC hb3' ln n0
                go_wp2_with fail
                go_ret
                refine ⟨?_, HB3.out⟩
                show Ending.returned (.int .i64 0) = _
                rw [hv.out]; rfl
            · rw [h] at n0
              have qf : Calls Try.prog 32 #[.agg #[.int .i64 d.p.shape, .int .u32 d.p.step, .float .f64 d.p.gain, .int .i64 d.p.atk, .int .i64 d.p.dec, .int .i64 d.p.rel, .int .i64 d.p.sus]] wr fun e w' => e = .returned (.int .i64 (Vo.wr d.p)) ∧ Below wr.heap.size wr w' := Vo.refWrong_any d.p wr
              have hw : wr1 N ins d = 0 := by rw [hv0, if_neg (by omega), if_neg (by omega)]
              have hv : Hid (WR = Vo.wr d.p) := by
                unfold Hid
                rw [HWR.out, Hw.out, hw, if_pos rfl]
                unfold wr2
                rw [if_neg (by omega), if_pos h]
              generalize Vo.wr d.p = VW at *
              clear hR hv0 hbel hw
              go_wp2_with fail
              refine qf.mono ?_
              rintro e w3 ⟨rfl, hb3⟩
              have HB3 : Hid (Below w.heap.size w w3) := HB2.out.trans (hb3.mono HB2.out.size)
              clear qf hb3
              go_wp2_with fail
              go_ret
              refine ⟨?_, HB3.out⟩
              show Ending.returned (.int .i64 VW) = _
              rw [hv.out]
end Go.Proofs.Ytjpcebnbkdekkaa.Gh

/- The document's Wrong. -/
namespace Go.Proofs.Ytjpcebnbkdekkaa.Gh
open Go.RowKit Go.Maps Go.Sort Fl
set_option linter.unusedVariables false
set_option linter.unusedSimpArgs false

theorem wns_first {N : Nat} {ins : Int} {d : Nd} : ∀ {l : List Nd} {k : Nat}, (∀ a e, a < k → l[a]? = some e → wn N ins e = 0) → l[k]? = some d → wn N ins d ≠ 0 → wns N ins l = wn N ins d
  | [], k, _, h, _ => by cases h
  | e :: l, 0, _, h, hd => by
    cases h
    show (if wn N ins d = 0 then wns N ins l else wn N ins d) = _
    rw [if_neg hd]
  | e :: l, k + 1, h0, h, hd => by
    show (if wn N ins e = 0 then wns N ins l else wn N ins e) = _
    rw [if_pos (h0 0 e (by omega) rfl)]
    exact wns_first (fun a x ha hx => h0 (a + 1) x (by omega) hx) h hd
/-- What the document's Wrong answers. -/
def nw (g : Gr) : Int := if ne0 g = 0 then (if lpB g = true then 10 else 0) else ne0 g
set_option maxRecDepth 40000 in
set_option maxHeartbeats 8000000 in
theorem refWrong_any (g : Gr) (go uo : Option Addr) (gc uc : Nat) (w : World) (hG : GH w (fun b => b < w.heap.size) g go uo gc uc) (hgm : gc ≤ 9223372036854775807) :
    Calls Try.prog 8 #[gvg g go uo gc uc] w fun e w' => e = .returned (.int .i64 (nw g)) ∧ Below w.heap.size w w' := by
  obtain ⟨N, hNg⟩ : ∃ N, N = g.nodes.length := ⟨_, rfl⟩
  obtain ⟨U, hU⟩ : ∃ U, U = g.outs.length := ⟨_, rfl⟩
  obtain ⟨ins, hins⟩ : ∃ ins, ins = g.ins := ⟨_, rfl⟩
  obtain ⟨W1, hW1⟩ : ∃ X, X = w.alloc (Obj.cells #[.int .i64 ins, .slice go N gc, .slice uo U uc] 25) := ⟨_, rfl⟩
  have HB1 : Hid (Below w.heap.size w W1) := by rw [hW1]; exact (Below.refl _ _).alloc (Nat.le_refl _) _
  have x0 : W1.cell? ⟨w.heap.size, 0, none⟩ = some (.int .i64 ins) := by rw [hW1]; simp [go_sem]
  have x1 : W1.cell? ⟨w.heap.size, 1, none⟩ = some (.slice go N gc) := by rw [hW1]; simp [go_sem]
  have x2 : W1.cell? ⟨w.heap.size, 2, none⟩ = some (.slice uo U uc) := by rw [hW1]; simp [go_sem]
  have z1 : W1.heap.size = w.heap.size + 1 := by rw [hW1]; simp
  have lx : w.heap.size < W1.heap.size := by omega
  have hargs : gvg g go uo gc uc = .agg #[.int .i64 ins, .slice go N gc, .slice uo U uc] := by rw [hU, hins, hNg]
  have HA : Hid (gvg g go uo gc uc = .agg #[.int .i64 ins, .slice go N gc, .slice uo U uc]) := hargs
  rw [hargs]
  have HG : Hid (GH w (fun b => b < w.heap.size) g go uo gc uc) := hG
  have HNg : Hid (N = g.nodes.length ∧ U = g.outs.length ∧ ins = g.ins) := ⟨hNg, hU, hins⟩
  have hgl : N ≤ gc := by rw [hNg]; exact hG.gl
  have hul : U ≤ uc := by rw [hU]; exact hG.ul
  have hum := hG.um
  have Hnw : Hid (nw g = if ne0 g = 0 then (if lpB g = true then 10 else 0) else ne0 g) := rfl
  have Hne : Hid (ne0 g = if 256 < N ∨ 256 < U ∨ ins < 0 ∨ 16 < ins then 5 else if wns N ins g.nodes = 0 then (if belB N g.outs = true then 0 else 8) else wns N ins g.nodes) := by
    unfold Hid; rw [hNg, hU, hins]; rfl
  obtain ⟨WR, hWR⟩ : ∃ A, A = nw g := ⟨_, rfl⟩
  have HWR : Hid (WR = nw g) := hWR
  rw [← hWR]
  have HW1 : Hid (w.alloc (Obj.cells #[.int .i64 ins, .slice go N gc, .slice uo U uc] 25) = W1) := hW1.symm
  clear hG hargs hU hins hNg hWR hW1
  have hway : (256 < N ∨ 256 < U ∨ ins < 0 ∨ 16 < ins) ∨ ¬ (256 < N ∨ 256 < U ∨ ins < 0 ∨ 16 < ins) := by omega
  rcases hway with hbad | hok
  · have hv : Hid (WR = 5) := by
      unfold Hid
      rw [HWR.out, Hnw.out]
      have e5 : ne0 g = 5 := by rw [Hne.out, if_pos hbad]
      rw [e5]; rfl
    have hw4 : (256 < (N : Int)) ∨ (¬ 256 < (N : Int) ∧ 256 < (U : Int)) ∨ (¬ 256 < (N : Int) ∧ ¬ 256 < (U : Int) ∧ ins < 0) ∨ (¬ 256 < (N : Int) ∧ ¬ 256 < (U : Int) ∧ ¬ ins < 0 ∧ 16 < ins) := by omega
    clear hbad
    rcases hw4 with h1 | ⟨h1, h2⟩ | ⟨h1, h2, h3⟩ | ⟨h1, h2, h3, h4⟩
    all_goals
      go_enter Try.func8, Try.ntmps8
      go_wp2_with fail
      rw [HW1.out]
      go_wp2_with fail
      go_ret
      refine ⟨?_, HB1.out⟩
      show Ending.returned (.int .i64 5) = _
      rw [hv.out]
  · have k1 : ¬ 256 < (N : Int) := by omega
    have k2 : ¬ 256 < (U : Int) := by omega
    have k3 : ¬ ins < 0 := by omega
    have k4 : ¬ 16 < ins := by omega
    have Hok : Hid (¬ (256 < N ∨ 256 < U ∨ ins < 0 ∨ 16 < ins)) := hok
    have hN256 : N ≤ 256 := by omega
    clear hok
    go_enter Try.func8, Try.ntmps8
    go_wp2_with fail
    rw [HW1.out]
    have hx0 : w.heap.size < W1.heap.size := lx
    go_loopw [31] (fun i ww => ∃ k : Nat, k ≤ N ∧ i = .int .i64 k ∧ Hid (∀ a e, a < k → g.nodes[a]? = some e → wn N ins e = 0) ∧ Hid (Below W1.heap.size W1 ww)) (fun i _ => N - (intOf i).toNat)
    case atStart => exact ⟨0, Nat.zero_le _, rfl, fun a e h => absurd h (by omega), Below.refl _ _⟩
    case round =>
      obtain ⟨k, hk, rfl, hR, hbr⟩ := hrel
      have e0 := Fi.keepC hbr.out hx0 x0
      have e1 := Fi.keepC hbr.out hx0 x1
      have e2 := Fi.keepC hbr.out hx0 x2
      have le := lt_cell e1
      have hbw : Below w.heap.size w wr := HB1.out.trans (hbr.out.mono HB1.out.size)
      by_cases hlt : k < N
      · have hgi : g.nodes[k]? = some (nd g k) := by unfold nd; rw [List.getD_eq_getElem?_getD, List.getElem?_eq_getElem (by rw [← HNg.out.1]; exact hlt)]; rfl
        obtain ⟨d, hd⟩ : ∃ d, d = nd g k := ⟨_, rfl⟩
        rw [← hd] at hgi
        obtain ⟨nb, ofn, fo, fc, rfl, _, hlb, hcl, hNA⟩ := HG.out.n.at' k d hgi
        have n0 : wr.cell? ⟨nb, ofn + k * 16, none⟩ = some (.int .i64 d.kind) := Fi.keepC hbw hlb (hcl 0 _ rfl)
        have n1 : wr.cell? ⟨nb, ofn + k * 16 + 1, none⟩ = some (.slice fo d.frm.length fc) := Fi.keepC hbw hlb (hcl 1 _ rfl)
        have n2 : wr.cell? ⟨nb, ofn + k * 16 + 2, none⟩ = some (.int .i64 d.n) := Fi.keepC hbw hlb (hcl 2 _ rfl)
        have n3 : wr.cell? ⟨nb, ofn + k * 16 + 3, none⟩ = some (.float .f64 d.x) := Fi.keepC hbw hlb (hcl 3 _ rfl)
        have n4 : wr.cell? ⟨nb, ofn + k * 16 + 4, none⟩ = some (.float .f64 d.c.b0) := Fi.keepC hbw hlb (hcl 4 _ rfl)
        have n5 : wr.cell? ⟨nb, ofn + k * 16 + 5, none⟩ = some (.float .f64 d.c.b1) := Fi.keepC hbw hlb (hcl 5 _ rfl)
        have n6 : wr.cell? ⟨nb, ofn + k * 16 + 6, none⟩ = some (.float .f64 d.c.b2) := Fi.keepC hbw hlb (hcl 6 _ rfl)
        have n7 : wr.cell? ⟨nb, ofn + k * 16 + 7, none⟩ = some (.float .f64 d.c.a1) := Fi.keepC hbw hlb (hcl 7 _ rfl)
        have n8 : wr.cell? ⟨nb, ofn + k * 16 + 8, none⟩ = some (.float .f64 d.c.a2) := Fi.keepC hbw hlb (hcl 8 _ rfl)
        have n9 : wr.cell? ⟨nb, ofn + k * 16 + 9, none⟩ = some (.int .i64 d.p.shape) := Fi.keepC hbw hlb (hcl 9 _ rfl)
        have n10 : wr.cell? ⟨nb, ofn + k * 16 + 10, none⟩ = some (.int .u32 d.p.step) := Fi.keepC hbw hlb (hcl 10 _ rfl)
        have n11 : wr.cell? ⟨nb, ofn + k * 16 + 11, none⟩ = some (.float .f64 d.p.gain) := Fi.keepC hbw hlb (hcl 11 _ rfl)
        have n12 : wr.cell? ⟨nb, ofn + k * 16 + 12, none⟩ = some (.int .i64 d.p.atk) := Fi.keepC hbw hlb (hcl 12 _ rfl)
        have n13 : wr.cell? ⟨nb, ofn + k * 16 + 13, none⟩ = some (.int .i64 d.p.dec) := Fi.keepC hbw hlb (hcl 13 _ rfl)
        have n14 : wr.cell? ⟨nb, ofn + k * 16 + 14, none⟩ = some (.int .i64 d.p.rel) := Fi.keepC hbw hlb (hcl 14 _ rfl)
        have n15 : wr.cell? ⟨nb, ofn + k * 16 + 15, none⟩ = some (.int .i64 d.p.sus) := Fi.keepC hbw hlb (hcl 15 _ rfl)
        obtain ⟨FL, hFL⟩ : ∃ FL, FL = d.frm.length := ⟨_, rfl⟩
        rw [← hFL] at n1
        have hlt' : (k : Int) < (N : Int) := by omega
        have w9 : IntKind.i64.wrap ((k : Int) + 1) = (k : Int) + 1 := wid (by omega) (by omega)
        have hA : Below wr.heap.size wr (wr.alloc (Obj.cells #[.int .i64 d.kind, .slice fo FL fc, .int .i64 d.n, .float .f64 d.x, .float .f64 d.c.b0, .float .f64 d.c.b1, .float .f64 d.c.b2, .float .f64 d.c.a1, .float .f64 d.c.a2, .int .i64 d.p.shape, .int .u32 d.p.step, .float .f64 d.p.gain, .int .i64 d.p.atk, .int .i64 d.p.dec, .int .i64 d.p.rel, .int .i64 d.p.sus] 53)) := (Below.refl _ _).alloc (Nat.le_refl _) _
        have hbA : Below w.heap.size w (wr.alloc (Obj.cells #[.int .i64 d.kind, .slice fo FL fc, .int .i64 d.n, .float .f64 d.x, .float .f64 d.c.b0, .float .f64 d.c.b1, .float .f64 d.c.b2, .float .f64 d.c.a1, .float .f64 d.c.a2, .int .i64 d.p.shape, .int .u32 d.p.step, .float .f64 d.p.gain, .int .i64 d.p.atk, .int .i64 d.p.dec, .int .i64 d.p.rel, .int .i64 d.p.sus] 53)) := hbw.trans (hA.mono hbw.size)
        have q : Calls Try.prog 16 #[.agg #[.int .i64 ins, .slice (some ⟨nb, ofn, none⟩) N gc, .slice uo U uc], .agg #[.int .i64 d.kind, .slice fo FL fc, .int .i64 d.n, .float .f64 d.x, .float .f64 d.c.b0, .float .f64 d.c.b1, .float .f64 d.c.b2, .float .f64 d.c.a1, .float .f64 d.c.a2, .int .i64 d.p.shape, .int .u32 d.p.step, .float .f64 d.p.gain, .int .i64 d.p.atk, .int .i64 d.p.dec, .int .i64 d.p.rel, .int .i64 d.p.sus]] (wr.alloc (Obj.cells #[.int .i64 d.kind, .slice fo FL fc, .int .i64 d.n, .float .f64 d.x, .float .f64 d.c.b0, .float .f64 d.c.b1, .float .f64 d.c.b2, .float .f64 d.c.a1, .float .f64 d.c.a2, .int .i64 d.p.shape, .int .u32 d.p.step, .float .f64 d.p.gain, .int .i64 d.p.atk, .int .i64 d.p.dec, .int .i64 d.p.rel, .int .i64 d.p.sus] 53)) fun e w' => e = .returned (.int .i64 (wn N ins d)) ∧ Below (wr.alloc (Obj.cells #[.int .i64 d.kind, .slice fo FL fc, .int .i64 d.n, .float .f64 d.x, .float .f64 d.c.b0, .float .f64 d.c.b1, .float .f64 d.c.b2, .float .f64 d.c.a1, .float .f64 d.c.a2, .int .i64 d.p.shape, .int .u32 d.p.step, .float .f64 d.p.gain, .int .i64 d.p.atk, .int .i64 d.p.dec, .int .i64 d.p.rel, .int .i64 d.p.sus] 53)).heap.size (wr.alloc (Obj.cells #[.int .i64 d.kind, .slice fo FL fc, .int .i64 d.n, .float .f64 d.x, .float .f64 d.c.b0, .float .f64 d.c.b1, .float .f64 d.c.b2, .float .f64 d.c.a1, .float .f64 d.c.a2, .int .i64 d.p.shape, .int .u32 d.p.step, .float .f64 d.p.gain, .int .i64 d.p.atk, .int .i64 d.p.dec, .int .i64 d.p.rel, .int .i64 d.p.sus] 53)) w' := by
          have := node_any ins (some ⟨nb, ofn, none⟩) uo N gc U uc d fo fc (fun b => b < w.heap.size) (wr.alloc (Obj.cells #[.int .i64 d.kind, .slice fo FL fc, .int .i64 d.n, .float .f64 d.x, .float .f64 d.c.b0, .float .f64 d.c.b1, .float .f64 d.c.b2, .float .f64 d.c.a1, .float .f64 d.c.a2, .int .i64 d.p.shape, .int .u32 d.p.step, .float .f64 d.p.gain, .int .i64 d.p.atk, .int .i64 d.p.dec, .int .i64 d.p.rel, .int .i64 d.p.sus] 53)) (hNA.keep (fun b hb _ => hbA.block b hb) hbA.size (fun _ h _ => h)) (by omega)
          unfold nv nc gv at this
          rw [← hFL] at this
          exact this
        have HbA : Hid (Below wr.heap.size wr (wr.alloc (Obj.cells #[.int .i64 d.kind, .slice fo FL fc, .int .i64 d.n, .float .f64 d.x, .float .f64 d.c.b0, .float .f64 d.c.b1, .float .f64 d.c.b2, .float .f64 d.c.a1, .float .f64 d.c.a2, .int .i64 d.p.shape, .int .u32 d.p.step, .float .f64 d.p.gain, .int .i64 d.p.atk, .int .i64 d.p.dec, .int .i64 d.p.rel, .int .i64 d.p.sus] 53))) := hA
        have HD : Hid (g.nodes[k]? = some d) := hgi
        have HBr : Hid (Below W1.heap.size W1 wr) := hbr
        obtain ⟨WV, hWV⟩ : ∃ A, A = wn N ins d := ⟨_, rfl⟩
        rw [← hWV] at q
        have HWV : Hid (WV = wn N ins d) := hWV
        clear hgi hcl hNA hd hFL hA hbA hbr hbw hWV
        go_wp2_with fail
        refine q.mono ?_
        rintro e w3 ⟨rfl, hb3⟩
        have HB3 : Hid (Below W1.heap.size W1 w3) := HBr.out.trans (Below.mono (HbA.out.trans (hb3.mono HbA.out.size)) HBr.out.size)
        clear q hb3
        by_cases hv0 : WV = 0
        · subst hv0
          have HN : Hid (∀ a e, a < k + 1 → g.nodes[a]? = some e → wn N ins e = 0) := fun a e ha he => by
            by_cases c : a = k
            · subst c
              rw [HD.out] at he
              cases he
              exact HWV.out.symm
            · exact hR.out a e (by omega) he
          clear hR
          go_wp2_with fail
          exact ⟨⟨k + 1, by omega, by go_num, HN, HB3⟩, by simp [intOf]; omega⟩
        · have hb0 : (WV != 0) = true := by simp [hv0]
          have hv : Hid (WR = WV) := by
            have e5 : wns N ins g.nodes = WV := by rw [wns_first (fun a e ha he => hR.out a e ha he) HD.out (by rw [← HWV.out]; exact hv0), ← HWV.out]
            unfold Hid
            have e6 : ne0 g = WV := by rw [Hne.out, if_neg Hok.out, e5, if_neg hv0]
            rw [HWR.out, Hnw.out, e6, if_neg hv0]
          clear hR
          go_wp2_with fail
          go_ret
          refine ⟨?_, HB1.out.trans (HB3.out.mono HB1.out.size)⟩
          show Ending.returned (.int .i64 WV) = _
          rw [hv.out]
      · obtain rfl : N = k := by omega
        have hz : wns N ins g.nodes = 0 := wns_zero (fun d hd => by
          obtain ⟨a, ha⟩ := List.getElem?_of_mem hd
          exact hR.out a d (by have := (List.getElem?_eq_some_iff.1 ha).1; rw [← HNg.out.1] at this; exact this) ha)
        have Hz : Hid (wns N ins g.nodes = 0) := hz
        have HF : Hid (∀ i, i < g.nodes.length → ∀ k ∈ (nd g i).frm, 0 ≤ k ∧ k < (g.nodes.length : Int)) := fun i hi => by
          have hgi : g.nodes[i]? = some (nd g i) := by unfold nd; rw [List.getD_eq_getElem?_getD, List.getElem?_eq_getElem hi]; rfl
          have h1 := hR.out i (nd g i) (by rw [HNg.out.1]; exact hi) hgi
          have h2 : wr1 N ins (nd g i) = 0 := by
            unfold wn at h1
            by_cases c : wr1 N ins (nd g i) = 0
            · exact c
            · rw [if_neg c] at h1; exact h1
          have h3 : belB N (nd g i).frm = true := by
            cases hb : belB N (nd g i).frm with
            | true => rfl
            | false =>
              exfalso
              unfold wr1 at h2
              rw [hb] at h2
              by_cases c1 : isK (nd g i).kind = false
              · rw [if_pos c1] at h2; omega
              · rw [if_neg c1] at h2
                by_cases c2 : fitK (nd g i).kind ((nd g i).frm.length : Int) = false
                · rw [if_pos c2] at h2; omega
                · rw [if_neg c2, if_pos rfl] at h2; omega
          rw [← HNg.out.1]
          exact belB_is h3
        obtain ⟨w5, hw5⟩ : ∃ x, x = wr := ⟨wr, rfl⟩
        subst hw5
        have HB5 : Hid (Below w.heap.size w w5) := hbw
        have HZ : Hid (ZL w5 (fun b => b < w.heap.size) uo g.outs) := HG.out.u.bel hbw
        clear hR hz hbw
        go_wp2_with fail
        go_loopw [45] (fun i ww => ∃ j : Nat, j ≤ U ∧ i = .int .i64 j ∧ Hid (∀ i x, i < j → g.outs[i]? = some x → 0 ≤ x ∧ x < (N : Int)) ∧ ww = w5) (fun i _ => U - (intOf i).toNat)
        case atStart => exact ⟨0, Nat.zero_le _, rfl, fun i x h => absurd h (by omega), rfl⟩
        case round =>
          obtain ⟨j, hj, rfl, hR, rfl⟩ := hrel
          by_cases hlt2 : j < U
          · obtain ⟨x, hx⟩ : ∃ x, g.outs[j]? = some x := ⟨_, List.getElem?_eq_getElem (by rw [← HNg.out.2.1]; exact hlt2)⟩
            obtain ⟨fb, fof, rfl, o1, _, o3⟩ := HZ.out.at' (by rw [← HNg.out.2.1]; omega)
            have v0 := o3 j x hx
            have hlt2' : (j : Int) < (U : Int) := by omega
            have w9 : IntKind.i64.wrap ((j : Int) + 1) = (j : Int) + 1 := wid (by omega) (by omega)
            by_cases c1 : x < 0
            · have hv : Hid (WR = 8) := by
                unfold Hid
                have e6 : ne0 g = 8 := by rw [Hne.out, if_neg Hok.out, if_pos Hz.out, if_neg (by rw [belB_no hx (.inl c1)]; decide)]
                rw [HWR.out, Hnw.out, e6]; rfl
              clear hR o3 hx
              go_wp2_with fail
              go_ret
              refine ⟨?_, HB5.out⟩
              show Ending.returned (.int .i64 8) = _
              rw [hv.out]
            · by_cases c2 : (N : Int) ≤ x
              · have hv : Hid (WR = 8) := by
                  unfold Hid
                  have e6 : ne0 g = 8 := by rw [Hne.out, if_neg Hok.out, if_pos Hz.out, if_neg (by rw [belB_no hx (.inr c2)]; decide)]
                  rw [HWR.out, Hnw.out, e6]; rfl
                clear hR o3 hx
                go_wp2_with fail
                go_ret
                refine ⟨?_, HB5.out⟩
                show Ending.returned (.int .i64 8) = _
                rw [hv.out]
              · have HN : Hid (∀ i x, i < j + 1 → g.outs[i]? = some x → 0 ≤ x ∧ x < (N : Int)) := fun i y hi hy => by
                  by_cases e : i = j
                  · subst e
                    rw [hx] at hy
                    cases hy
                    omega
                  · exact hR.out i y (by omega) hy
                clear hR o3 hx
                go_wp2_with fail
                exact ⟨⟨j + 1, by omega, by go_num, HN, trivial⟩, by simp [intOf]; omega⟩
          · obtain rfl : U = j := by omega
            have hbel : belB N g.outs = true := belB_yes (fun i x hx => hR.out i x (by have := (List.getElem?_eq_some_iff.1 hx).1; rw [← HNg.out.2.1] at this; exact this) hx)
            have hq := Loop_any g go uo gc uc (fun b => b < w.heap.size) wr ⟨HG.out.n.keep (fun b hb _ => HB5.out.block b hb) HB5.out.size, HG.out.gl, HG.out.u.bel HB5.out, HG.out.ul, HG.out.um, HG.out.un⟩ (by rw [← HNg.out.1]; exact hN256) HF.out
            rw [HA.out] at hq
            have hv : Hid (WR = if lpB g = true then 10 else 0) := by
              unfold Hid
              have e6 : ne0 g = 0 := by rw [Hne.out, if_neg Hok.out, if_pos Hz.out, if_pos hbel]
              rw [HWR.out, Hnw.out, e6, if_pos rfl]
            generalize lpB g = LB at *
            clear hR hbel
            go_wp2_with fail
            refine hq.mono ?_
            rintro e w6 ⟨rfl, hb6⟩
            have HB6 : Hid (Below w.heap.size w w6) := HB5.out.trans (hb6.mono HB5.out.size)
            clear hq hb6
            cases LB
            · go_wp2_with fail
              go_ret
              refine ⟨?_, HB6.out⟩
              show Ending.returned (.int .i64 0) = _
              rw [hv.out]; rfl
            · go_wp2_with fail
              go_ret
              refine ⟨?_, HB6.out⟩
              show Ending.returned (.int .i64 10) = _
              rw [hv.out]; rfl
end Go.Proofs.Ytjpcebnbkdekkaa.Gh
