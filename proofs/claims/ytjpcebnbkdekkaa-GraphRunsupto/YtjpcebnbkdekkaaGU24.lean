/- GraphRuns: what came in so far, in memory: each row in a block of its own or none. -/
import Derived.Test.YtjpcebnbkdekkaaGU23
import Derived.Test.YtjpcebnbkdekkaaGU6
import Derived.Test.YtjpcebnbkdekkaaGU5
namespace Go.Proofs.Ytjpcebnbkdekkaa.Gh
open Go.RowKit Go.Maps Go.Sort Fl
set_option linter.unusedVariables false
set_option linter.unusedSimpArgs false

/-- What came in so far: the row of rows is block ib; none of its rows lies there. -/
structure CL (w : World) (base ib M : Nat) (c : List (List Nat)) : Prop where
  len : c.length = M
  lo : base ≤ ib
  lt : ib < w.heap.size
  rd : ∀ (q : Nat) a, c[q]? = some a → ∃ ao ca, w.cell? ⟨ib, q, none⟩ = some (.slice ao a.length ca) ∧ a.length ≤ ca ∧ ca ≤ 9223372036854775807 ∧ (ao = none → ca = 0) ∧ Fi.IL w (fun k => base ≤ k ∧ k ≠ ib) ao a
  fz : ∀ q, w.frozen? ⟨ib, q, none⟩ = false
theorem CL.bel {w w' : World} {base ib M : Nat} {c : List (List Nat)} (h : CL w base ib M c) (hb : Below w.heap.size w w') : CL w' base ib M c :=
  ⟨h.len, h.lo, by have := hb.size; have := h.lt; omega, fun q a hq => by
    obtain ⟨ao, ca, h1, h2, h3, h4, h5⟩ := h.rd q a hq
    exact ⟨ao, ca, Fi.keepC hb h.lt h1, h2, h3, h4, h5.bel hb⟩, fun q => (World.frozen?_of_block (hb.block ib h.lt)).trans (h.fz q)⟩
/-- As a law of the document asks it. -/
theorem CL.pl {w : World} {base ib M : Nat} {c : List (List Nat)} (h : CL w base ib M c) : Fi.PL w w.heap.size (some ⟨ib, 0, none⟩) c := ⟨fun _ => ⟨ib, 0, rfl, h.lt, fun q a hq => by
  obtain ⟨ao, ca, h1, h2, h3, h4, h5⟩ := h.rd q a hq
  refine ⟨ao, ca, by rw [Nat.zero_add]; exact h1, h2, h3, h4, ⟨fun hn => ?_⟩⟩
  obtain ⟨b, off, g1, g2, g3, g4⟩ := h5.at' hn
  exact ⟨b, off, g1, g2, g2, g4⟩⟩⟩
/-- Nothing yet. -/
theorem CL.made (w : World) (base M : Nat) (hb : base ≤ w.heap.size) : CL (w.alloc (.cells (madeCells #[.slice none 0 0] M) 38)) base w.heap.size M (ze M) :=
  ⟨by unfold ze; simp, hb, by simp, fun q a hq => by
    have hl := (List.getElem?_eq_some_iff.1 hq).1
    have ea : a = [] := by
      have := List.mem_of_getElem? hq
      unfold ze at this
      exact (List.mem_replicate.1 this).2
    subst ea
    have hqM : q < M := by unfold ze at hl; simpa using hl
    refine ⟨none, 0, ?_, Nat.le_refl _, by omega, fun _ => rfl, ⟨fun hn => by cases hn⟩⟩
    have := (World.rowIs_made w (.slice none 0 0) M 38).cell hqM
    exact this, fun q => World.rowIs.frozen (World.rowIs_made w (.slice none 0 0) M 38) q⟩
/-- One row anew. -/
theorem CL.put {w w4 : World} {base ib M k : Nat} {c : List (List Nat)} (h : CL w base ib M c) (hb : Below w.heap.size w w4) (hk : k < M) {ao : Option Addr} {a : List Nat} {ca : Nat} (h2 : a.length ≤ ca) (h3 : ca ≤ 9223372036854775807) (h4 : ao = none → ca = 0) (h5 : Fi.IL w4 (fun b => w.heap.size ≤ b) ao a) : CL (w4.setCell ⟨ib, k, none⟩ (.slice ao a.length ca)) base ib M (c.set k a) := by
  have hh := h.bel hb
  have hset : ∀ b, b ≠ ib → (w4.setCell ⟨ib, k, none⟩ (.slice ao a.length ca)).heap[b]? = w4.heap[b]? := fun b hb => Below.heap_setCell _ _ _ _ hb
  have hsz : (w4.setCell ⟨ib, k, none⟩ (.slice ao a.length ca)).heap.size = w4.heap.size := by simp
  have z4 := hb.size
  have hlo := h.lo
  have hlt := h.lt
  refine ⟨by rw [List.length_set]; exact h.len, h.lo, by rw [hsz]; omega, fun q x hq => ?_, fun q => by rw [World.frozen?_setCell]; exact hh.fz q⟩
  by_cases e : q = k
  · subst e
    rw [List.getElem?_set_self (by rw [h.len]; exact hk)] at hq
    simp at hq
    subst hq
    obtain ⟨y, hy⟩ : ∃ y, c[q]? = some y := ⟨_, List.getElem?_eq_getElem (by rw [h.len]; exact hk)⟩
    obtain ⟨_, _, g1, _⟩ := hh.rd q y hy
    refine ⟨ao, ca, ?_, h2, h3, h4, h5.keep (fun b hb1 _ => hset b (by omega)) (by rw [hsz]; exact Nat.le_refl _) (fun b hb1 _ => ⟨by omega, by omega⟩)⟩
    exact World.cell?_setCell_same _ _ _ g1
  · rw [List.getElem?_set_ne (by omega)] at hq
    obtain ⟨bo, cb, g1, g2, g3, g4, g5⟩ := hh.rd q x hq
    refine ⟨bo, cb, ?_, g2, g3, g4, g5.keep (fun b hb1 _ => hset b hb1.2) (by rw [hsz]; exact Nat.le_refl _) (fun b hb1 _ => hb1)⟩
    rw [← g1]
    exact World.cell?_setCell_other _ _ _ _ (by first | (simp; done) | (simp; omega))
/-- While loop 2 goes on: the rows ahead of i are longer. -/
def zp (i : Nat) (c d : List (List Nat)) : List (List Nat) := List.zipWith (fun a b => a ++ b) (c.take i) (d.take i) ++ c.drop i
theorem zp_zero (c d : List (List Nat)) : zp 0 c d = c := by unfold zp; simp
theorem zp_end (c d : List (List Nat)) (h : c.length = d.length) : zp c.length c d = List.zipWith (fun a b => a ++ b) c d := by
  unfold zp
  rw [List.take_length, List.drop_length, List.append_nil, h, List.take_length]
theorem zp_at {i : Nat} {c d : List (List Nat)} {a : List Nat} (h : c.length = d.length) (ha : c[i]? = some a) : (zp i c d)[i]? = some a := by
  have hi := (List.getElem?_eq_some_iff.1 ha).1
  unfold zp
  have e : (List.zipWith (fun a b => a ++ b) (c.take i) (d.take i)).length = i := by simp; omega
  rw [List.getElem?_append_right (by omega), e, Nat.sub_self, List.getElem?_drop, Nat.add_zero]
  exact ha
theorem zp_step {i : Nat} {c d : List (List Nat)} {a b : List Nat} (h : c.length = d.length) (ha : c[i]? = some a) (hb : d[i]? = some b) : (zp i c d).set i (a ++ b) = zp (i + 1) c d := by
  have hi := (List.getElem?_eq_some_iff.1 ha).1
  apply List.ext_getElem?
  intro q
  unfold zp
  have e : (List.zipWith (fun a b => a ++ b) (c.take i) (d.take i)).length = i := by simp; omega
  have e1 : (List.zipWith (fun a b => a ++ b) (c.take (i + 1)) (d.take (i + 1))).length = i + 1 := by simp; omega
  have e2 : (List.zipWith (fun a b => a ++ b) (c.take i) (d.take i) ++ c.drop i).length = c.length := by simp; omega
  rw [List.getElem?_set]
  by_cases q1 : i = q
  · subst q1
    rw [if_pos rfl, if_pos (by rw [e2]; exact hi), List.getElem?_append_left (by omega), List.getElem?_zipWith, List.getElem?_take_of_lt (by omega), List.getElem?_take_of_lt (by omega), ha, hb]
  · rw [if_neg q1]
    by_cases q2 : q < i
    · rw [List.getElem?_append_left (by omega), List.getElem?_append_left (by omega), List.getElem?_zipWith, List.getElem?_zipWith, List.getElem?_take_of_lt q2, List.getElem?_take_of_lt q2, List.getElem?_take_of_lt (by omega), List.getElem?_take_of_lt (by omega)]
    · rw [List.getElem?_append_right (by omega), List.getElem?_append_right (by omega), e, e1, List.getElem?_drop, List.getElem?_drop, show i + (q - i) = i + 1 + (q - (i + 1)) by omega]
end Go.Proofs.Ytjpcebnbkdekkaa.Gh

/- GraphRuns: a piece's rows as the document's All has them. -/
namespace Go.Proofs.Ytjpcebnbkdekkaa.Gh
open Go.RowKit Go.Maps Go.Sort Fl
set_option linter.unusedVariables false
set_option linter.unusedSimpArgs false

/-- One row of All's. -/
theorem JA.row {w : World} {ab x N k : Nat} {r : Nat → List (Option Nat)} (h : JA w ab x N r) (hk : k < N) : ∃ (ga : List Nat) (ao : Option Addr) (c : Nat), w.cell? ⟨ab, k, none⟩ = some (.slice ao ga.length c) ∧ ga.length ≤ c ∧ c ≤ 9223372036854775807 ∧ (ao = none → c = 0) ∧ Fi.abs ga = r k ∧ Fi.IL w (fun b => b < w.heap.size) ao ga := by
  obtain ⟨V, P, h1, h2, _, _, _⟩ := h.words
  obtain ⟨g1, g2, g3⟩ := h2 k hk
  obtain ⟨ao, c, e, e1, e2, e3, e4⟩ := Fi.own_IL g1 g3
  refine ⟨P k, ao, c, by rw [← e]; exact World.rowIs.cell h1 hk, e1, e2, e3, g2, ⟨fun hn => ?_⟩⟩
  obtain ⟨b, off, f1, f2, _, f4⟩ := e4.at' hn
  exact ⟨b, off, f1, f2, f2, f4⟩
/-- Behind the time T it is what is heard of a piece. -/
theorem mad_drop (g : Gr) (J : Hist) (T n k : Nat) : (mad g J (T + n) k).drop T = (List.range n).map (fun j => vl g J k (T + j)) := by
  apply List.ext_getElem?
  intro i
  unfold mad
  rw [List.getElem?_drop, List.getElem?_map, List.getElem?_map]
  by_cases c : i < n
  · have h1 : (List.range (T + n))[T + i]? = some (T + i) := by rw [List.getElem?_range (by omega)]
    have h2 : (List.range n)[i]? = some i := by rw [List.getElem?_range c]
    rw [h1, h2]; simp only [Option.map_some, Option.map_none]
  · have h1 : (List.range (T + n))[T + i]? = none := List.getElem?_eq_none (by rw [List.length_range]; omega)
    have h2 : (List.range n)[i]? = none := List.getElem?_eq_none (by rw [List.length_range]; omega)
    rw [h1, h2]; simp only [Option.map_some, Option.map_none]
theorem outR_get {g : Gr} {J : Hist} {T n u : Nat} {o : Int} (h : g.outs[u]? = some o) : (outR g (vl g J) T n)[u]? = some ((mad g J (T + n) o.toNat).drop T) := by
  unfold outR
  rw [List.getElem?_map, h, mad_drop]; rfl
/-- What All wants to know of what came in. -/
theorem jr_rows {g : Gr} {M : Nat} (hM : (M : Int) = g.ins) (hg : ∀ i, many (nd g i)) (hin : ∀ i, (nd g i).kind = 1 → 0 ≤ (nd g i).n ∧ (nd g i).n < g.ins) (pcs : List Pc) (k : Nat) : (∀ (a : Nat) l, (cum g M (ze M) (pcs.take (k + 1)))[a]? = some l → l.length = tst g 0 (pcs.take (k + 1))) ∧ ∀ (a : Nat) l, (cum g M (ze M) (pcs.take (k + 1)))[a]? = some l → ∀ t, t < tst g 0 (pcs.take (k + 1)) → jr g M pcs k a t = ab (l.getD t 0) := by
  have hC := Cu.cum (g := g) hM (l := pcs.take (k + 1)) (Cu.ze M)
  refine ⟨fun a l h => hC.l a l h, fun a l h t ht => ?_⟩
  have ha : a < M := by have := (List.getElem?_eq_some_iff.1 h).1; rw [hC.m] at this; exact this
  rw [jr_so_far hM hg hin pcs k a t ha ht]
  unfold iB
  rw [show (cum g M (ze M) (pcs.take (k + 1))).getD a [] = l by rw [List.getD_eq_getElem?_getD, h]; rfl]
/-- What came in with one piece more, where it is as it must be. -/
theorem cum_ok {g : Gr} {M : Nat} {pcs : List Pc} {k : Nat} {p : Pc} (h : pcs[k]? = some p) (he : er g p.ins p.n = 0) : cum g M (ze M) (pcs.take (k + 1)) = List.zipWith (fun a b => a ++ b) (c0 M (cum g M (ze M) (pcs.take k)) p) p.ins := by
  rw [cum_step g M (ze M) h]; unfold stp; rw [if_pos he]
theorem cum_bad {g : Gr} {M : Nat} {pcs : List Pc} {k : Nat} {p : Pc} (h : pcs[k]? = some p) (he : er g p.ins p.n ≠ 0) : cum g M (ze M) (pcs.take (k + 1)) = c0 M (cum g M (ze M) (pcs.take k)) p := by
  rw [cum_step g M (ze M) h]; unfold stp; rw [if_neg he]
/-- One round's answer in Sound's row. -/
theorem rsl_at {g : Gr} {J : Nat → Hist} {pcs : List Pc} {k : Nat} {p : Pc} (h : pcs[k]? = some p) : (rsl g J 0 0 pcs)[k]? = some (hrs g (vl g (J k)) (tst g 0 (pcs.take k)) p, er g p.ins p.n) := by
  have hk := (List.getElem?_eq_some_iff.1 h).1
  have e : pcs = pcs.take k ++ p :: pcs.drop (k + 1) := by
    have h1 : pcs.drop k = p :: pcs.drop (k + 1) := by
      rw [List.drop_eq_getElem_cons hk]
      have := (List.getElem?_eq_some_iff.1 h).2
      rw [this]
    rw [← h1, List.take_append_drop]
  have e2 : rsl g J 0 0 pcs = rsl g J 0 0 (pcs.take k ++ p :: pcs.drop (k + 1)) := by rw [← e]
  rw [e2, rsl_app, List.getElem?_append_right (by rw [rsl_len, List.length_take]; omega), rsl_len, List.length_take, show k - min k pcs.length = 0 by omega, show 0 + min k pcs.length = k by omega]
  rfl
end Go.Proofs.Ytjpcebnbkdekkaa.Gh

/- What a sound graph's nodes are. -/
namespace Go.Proofs.Ytjpcebnbkdekkaa.Gh
set_option linter.unusedVariables false
set_option linter.unusedSimpArgs false

theorem ne0_kind {g : Gr} (h : ne0 g = 0) : ∀ d ∈ g.nodes, (1 ≤ d.kind ∧ d.kind ≤ 8) ∧ (d.kind = 8 → Vo.wr d.p = 0) := by
  unfold ne0 at h
  by_cases c : 256 < g.nodes.length ∨ 256 < g.outs.length ∨ g.ins < 0 ∨ 16 < g.ins
  · rw [if_pos c] at h; omega
  rw [if_neg c] at h
  by_cases d : wns g.nodes.length g.ins g.nodes = 0
  · intro x hx
    have h1 := wns_is d x hx
    unfold wn at h1
    by_cases f : wr1 g.nodes.length g.ins x = 0
    · obtain ⟨a1, a2, a3, a4, a5⟩ := wr1_ok f
      rw [if_pos f] at h1
      refine ⟨a1, fun h8 => ?_⟩
      unfold wr2 at h1
      rw [if_neg (by omega), if_pos h8] at h1
      exact h1
    · rw [if_neg f] at h1; exact absurd h1 f
  · rw [if_neg d] at h; exact absurd h d
theorem nd_mem {g : Gr} {i : Nat} (hi : i < g.nodes.length) : nd g i ∈ g.nodes := by
  have e : g.nodes[i]? = some (g.nodes[i]'hi) := List.getElem?_eq_getElem hi
  rw [nd_get e]; exact List.getElem_mem hi
theorem nd_out2 {g : Gr} {i : Nat} (hi : ¬ i < g.nodes.length) : nd g i = nd0 := by
  unfold nd; rw [List.getD_eq_getElem?_getD, List.getElem?_eq_none (by omega)]; rfl
theorem many_all {g : Gr} (h : Wf g) (i : Nat) : many (nd g i) := by
  by_cases hi : i < g.nodes.length
  · exact (h.n _ (nd_mem hi)).1
  · rw [nd_out2 hi]
    refine ⟨fun h => ?_, fun h => ?_, fun h => ?_⟩
    · rcases h with h | h | h <;> exact absurd h (by decide)
    · exact absurd h (by decide)
    · exact absurd h (by decide)
theorem in_all {g : Gr} (h : Wf g) (i : Nat) (h1 : (nd g i).kind = 1) : 0 ≤ (nd g i).n ∧ (nd g i).n < g.ins := by
  by_cases hi : i < g.nodes.length
  · exact (h.n _ (nd_mem hi)).2.2.1 h1
  · rw [nd_out2 hi] at h1; exact absurd h1 (by decide)
theorem vo_all {w : World} {S : Nat → Prop} {go : Option Addr} {g : Gr} (h : GA w S go g.nodes) (h0 : ne0 g = 0) : ∀ d ∈ g.nodes, d.kind = 8 → Vo.Ok d.p := fun d hd h8 => by
  obtain ⟨i, hi, e⟩ := List.getElem_of_mem hd
  obtain ⟨b, off, fo, fc, _, _, _, _, hn⟩ := h.at' i d (by rw [List.getElem?_eq_getElem hi, e])
  exact Vo.wr_ok hn.g ((ne0_kind h0 d hd).2 h8)
end Go.Proofs.Ytjpcebnbkdekkaa.Gh

/- GraphRuns, walked. -/
namespace Go.Proofs.Ytjpcebnbkdekkaa.Gh
open Go.RowKit Go.Maps Go.Sort Fl
set_option linter.unusedVariables false
set_option linter.unusedSimpArgs false

theorem PcL.up {w : World} {B B' : Nat} {po : Option Addr} {pcs : List Pc} (h : PcL w B po pcs) (hB : B ≤ B') : PcL w B' po pcs := ⟨fun i p hp => by
  obtain ⟨b, off, io, ic, h1, h2, h3, h4, h5, h6, h7, h8⟩ := h.at' i p hp
  exact ⟨b, off, io, ic, h1, by omega, h3, h4, h5, h6, h7, PLmono h8 hB⟩⟩
theorem il_w' {w : World} {S : Nat → Prop} {ao : Option Addr} {l : List Nat} (h : Fi.IL w S ao l) : ∀ x ∈ l, x < 18446744073709551616 := fun x hx => by
  obtain ⟨j, hj, e⟩ := List.getElem_of_mem hx
  obtain ⟨b, off, _, _, _, h4⟩ := h.at' (by omega)
  exact (h4 j x (by rw [List.getElem?_eq_getElem hj, e])).2
/-- Behind one round of loop 2. -/
theorem CL.round {wr w7 : World} {base ib M q T pl : Nat} {c d : List (List Nat)} {a l : List Nat} {v' : Value} (h : CL wr base ib M (zp q c d)) (hcd : c.length = d.length) (ha : c[q]? = some a) (hl : d[q]? = some l) (hq : q < M) (hT : a.length = T) (hpl : l.length = pl) (hb : Below wr.heap.size wr w7) (wa : ∀ x ∈ a, x < 18446744073709551616) (wl : ∀ x ∈ l, x < 18446744073709551616)
    (o : w7.ownsRow wr.heap.size 46 1 v' (T + pl) (Fi.fls [] ++ Fi.fls a ++ Fi.fls l)) : CL (w7.setCell ⟨ib, q, none⟩ v') base ib M (zp (q + 1) c d) := by
  have e : Fi.fls [] ++ Fi.fls a ++ Fi.fls l = Fi.fls (a ++ l) := by unfold Fi.fls; simp
  have e2 : T + pl = (a ++ l).length := by rw [List.length_append]; omega
  rw [e, e2] at o
  obtain ⟨ao, ca, rfl, k1, k2, k3, k4⟩ := Fi.own_IL o (fun x hx => by
    rcases List.mem_append.1 hx with h1 | h1
    · exact wa x h1
    · exact wl x h1)
  rw [← zp_step hcd ha hl]
  exact h.put hb hq k1 k2 k3 k4
set_option maxRecDepth 40000 in
set_option maxHeartbeats 8000000 in
theorem runs_walk (g : Gr) (go uo : Option Addr) (gc uc : Nat) (pcs : List Pc) (po : Option Addr) (m pc : Nat) (w : World) (hG : GH w (fun b => b < w.heap.size) g go uo gc uc) (hgm : gc ≤ 9223372036854775807) (hP : PcL w w.heap.size po pcs) (hm : pcs.length = m) (hpc : m ≤ pc) (hpm : pc ≤ 9223372036854775807) (hml : m ≤ 1048576) (hTb : ∀ k, k ≤ m → 0 < g.ins → tst g 0 (pcs.take k) ≤ 1048576) :
    Calls Try.prog 3 #[gvg g go uo gc uc, .slice po m pc] w fun e w' => e = .returned (.bool true) ∧ Below w.heap.size w w' := by
  obtain ⟨N, hNg⟩ : ∃ N, N = g.nodes.length := ⟨_, rfl⟩
  obtain ⟨U, hU⟩ : ∃ U, U = g.outs.length := ⟨_, rfl⟩
  obtain ⟨ins, hins⟩ : ∃ ins, ins = g.ins := ⟨_, rfl⟩
  obtain ⟨M, hM⟩ : ∃ M, M = g.ins.toNat := ⟨_, rfl⟩
  obtain ⟨W1, hW1⟩ : ∃ X, X = w.alloc (Obj.cells #[.int .i64 ins, .slice go N gc, .slice uo U uc] 25) := ⟨_, rfl⟩
  have HB1 : Hid (Below w.heap.size w W1) := by rw [hW1]; exact (Below.refl _ _).alloc (Nat.le_refl _) _
  have x0 : W1.cell? ⟨w.heap.size, 0, none⟩ = some (.int .i64 ins) := by rw [hW1]; simp [go_sem]
  have x1 : W1.cell? ⟨w.heap.size, 1, none⟩ = some (.slice go N gc) := by rw [hW1]; simp [go_sem]
  have x2 : W1.cell? ⟨w.heap.size, 2, none⟩ = some (.slice uo U uc) := by rw [hW1]; simp [go_sem]
  have hargs : gvg g go uo gc uc = .agg #[.int .i64 ins, .slice go N gc, .slice uo U uc] := by rw [hU, hins, hNg]
  have HA : Hid (gvg g go uo gc uc = .agg #[.int .i64 ins, .slice go N gc, .slice uo U uc]) := hargs
  rw [hargs]
  have HG : Hid (∀ w', Below w.heap.size w w' → GH w' (fun b => b < w'.heap.size) g go uo gc uc) := fun w' hb => hG.bel hb
  have HP : Hid (∀ w', Below w.heap.size w w' → PcL w' w.heap.size po pcs) := fun w' hb => hP.keep (Nat.le_refl _) (fun b h => hb.block b h) hb.size
  have Hm : Hid (pcs.length = m) := hm
  have HTb : Hid (∀ k, k ≤ m → 0 < g.ins → tst g 0 (pcs.take k) ≤ 1048576) := hTb
  have HNg : Hid (N = g.nodes.length ∧ U = g.outs.length ∧ ins = g.ins ∧ M = g.ins.toNat) := ⟨hNg, hU, hins, hM⟩
  have qs := Sound_any cirC g go uo gc uc pcs po m pc (jr g M pcs) W1 (HG.out W1 HB1.out) ((HP.out W1 HB1.out).up HB1.out.size) hm hpc hpm hml (jr_same g M pcs) (fun k p h he => jr_piece (by have := (er_ok he).2.2.1; omega) pcs k p h he)
  rw [hargs] at qs
  obtain ⟨xb, hxb⟩ : ∃ xb, xb = w.heap.size := ⟨_, rfl⟩
  rw [← hxb] at x0 x1 x2
  have Hxb : Hid (xb = w.heap.size) := hxb
  clear hG hP hm hTb hargs hU hins hNg hM
  go_enter Try.func3, Try.ntmps3
  go_wp2_with fail
  rw [← hW1, ← hxb]
  clear hW1 hxb
  refine qs.mono ?_
  rintro e w2 hQ
  have hb2 := hQ.b
  have y0 := Fi.keepC hb2 (lt_cell x0) x0
  have y1 := Fi.keepC hb2 (lt_cell x1) x1
  have y2 := Fi.keepC hb2 (lt_cell x2) x2
  have HB2 : Hid (Below w.heap.size w w2) := HB1.out.trans (hb2.mono HB1.out.size)
  have qw := refWrong_any g go uo gc uc w2 (HG.out w2 HB2.out) hgm
  rw [HA.out] at qw
  have ly := lt_cell y0
  have HQ : Hid (SoQ W1 g pcs (jr g M pcs) e w2) := hQ
  have Hl1 : Hid (W1.heap.size = W1.heap.size) := rfl
  clear x0 x1 x2 qs hb2 hQ
  by_cases hn : ne0 g = 0
  · by_cases hcy : Cyc g
    · have he := HQ.out.cyc hn hcy
      subst he
      have hw : nw g = 10 := by unfold nw; rw [if_pos hn, if_pos ((lpB_cyc g).2 hcy)]
      rw [hw] at qw
      go_wp2_with fail
      refine qw.mono ?_
      rintro e w3 ⟨rfl, hb3⟩
      have HB3 : Hid (Below w.heap.size w w3) := HB2.out.trans (hb3.mono HB2.out.size)
      clear qw hb3
      go_wp2_with fail
      go_returns
      exact ⟨rfl, HB3.out⟩
    · have hw : nw g = 0 := by unfold nw; rw [if_pos hn, if_neg (fun h => hcy ((lpB_cyc g).1 h))]
      rw [hw] at qw
      obtain ⟨va, base, rfl, ba1, ba2, hH⟩ := HQ.out.ok hn hcy
      have HWf : Hid (Wf g) := ne0_wf hn
      have Hac : Hid (¬ Cyc g ∧ ne0 g = 0) := ⟨hcy, hn⟩
      have hMi : ins = (M : Int) := by have h1 := HNg.out; have := HWf.out.i0; omega
      have hM16 : M ≤ 16 := by have h1 := HNg.out; have := HWf.out.i1; omega
      subst hMi
      obtain ⟨R, hR⟩ : ∃ R, R = rsl g (jr g M pcs) 0 0 pcs := ⟨_, rfl⟩
      rw [← hR] at hH
      have hRl : R.length = m := by rw [hR, rsl_len]; exact Hm.out
      obtain ⟨Vs, o1, o2, o3⟩ := hH.ex
      obtain ⟨ga, gcap, rfl, gl1, gl2⟩ := Fi.own_form o1
      rw [hRl] at gl1 hH ⊢
      have HHo : Hid (HO w2 base (fun b => base ≤ b) (.slice ga m gcap) R ∧ R.length = m ∧ R = rsl g (jr g M pcs) 0 0 pcs) := ⟨hH, hRl, hR⟩
      clear hH o1 o2 o3 hR hRl hcy hn hw
      go_wp2_with fail
      refine qw.mono ?_
      rintro e w3 ⟨rfl, hb3⟩
      have HB3 : Hid (Below w.heap.size w w3) := HB2.out.trans (hb3.mono HB2.out.size)
      have HB23 : Hid (Below w2.heap.size w2 w3) := hb3
      have z0 := Fi.keepC hb3 (lt_cell y0) y0
      have z1 := Fi.keepC hb3 (lt_cell y1) y1
      have z2 := Fi.keepC hb3 (lt_cell y2) y2
      have lz := lt_cell z0
      have mk1 : (Instr.makeSlice 32 (.int .i64 (M : Int)) (.int .i64 (M : Int))).run Try.prog w3 = .ok (.slice (some ⟨w3.heap.size, 0, none⟩) M M) (w3.alloc (.cells (madeCells #[.slice none 0 0] M) 38)) := run_make_row' (P := Try.prog) 32 38 (.slice none 0 0) 24 Try.underlying32 Fi.infoFs rfl .i64 .i64 M (by omega) (by omega) _
      clear qw hb3 y0 y1 y2
      go_wp2_with (simp only [mk1])
      obtain ⟨w4, hw4⟩ : ∃ X, X = w3.alloc (.cells (madeCells #[.slice none 0 0] M) 38) := ⟨_, rfl⟩
      have hb34 : Below w3.heap.size w3 w4 := by rw [hw4]; exact (Below.refl _ _).alloc (Nat.le_refl _) _
      have HCL0 : Hid (CL w4 w3.heap.size w3.heap.size M (ze M)) := by rw [hw4]; exact CL.made w3 w3.heap.size M (Nat.le_refl _)
      rw [← hw4]
      clear hw4 mk1
      go_loopw [49, 8, 9] (fun i v n ww => ∃ (k ib T : Nat), k ≤ m ∧ i = .int .i64 k ∧ v = .slice (some ⟨ib, 0, none⟩) M M ∧ n = .int .i64 T ∧ Hid (T = tst g 0 (pcs.take k)) ∧ Hid (CL ww w3.heap.size ib M (cum g M (ze M) (pcs.take k))) ∧ Hid (Below w3.heap.size w3 ww)) (fun i _ _ _ => m - (intOf i).toNat)
      case atStart => exact ⟨0, w3.heap.size, 0, by omega, rfl, rfl, rfl, rfl, HCL0, hb34⟩
      case round =>
        obtain ⟨k, ib, T, hk, rfl, rfl, rfl, hT, hCL, hbr⟩ := hrel
        have HBw : Hid (Below w.heap.size w wr) := HB3.out.trans (hbr.out.mono HB3.out.size)
        have u0 := Fi.keepC hbr.out lz z0
        have u1 := Fi.keepC hbr.out lz z1
        have u2 := Fi.keepC hbr.out lz z2
        have lu := lt_cell u0
        by_cases hlt : k < m
        · obtain ⟨p, hp⟩ : ∃ p, pcs[k]? = some p := ⟨_, List.getElem?_eq_getElem (by rw [Hm.out]; exact hlt)⟩
          obtain ⟨b, off, io, ic, rfl, hb, c0, c1, c2, hic, hicm, hPL⟩ := (HP.out wr HBw.out).at' k p hp
          obtain ⟨il, hil⟩ : ∃ il, il = p.ins.length := ⟨_, rfl⟩
          obtain ⟨pn, hpn⟩ : ∃ pn, pn = p.n := ⟨_, rfl⟩
          obtain ⟨pr, hpr⟩ : ∃ pr, pr = p.rest := ⟨_, rfl⟩
          rw [← hil] at c0 hic
          rw [← hpn] at c1
          rw [← hpr] at c2
          have hlt' : (k : Int) < (m : Int) := by omega
          have w3' : IntKind.i64.wrap ((k : Int) + 1) = (k : Int) + 1 := wid (by omega) (by omega)
          have lb := lt_cell c0
          obtain ⟨WB, hWB⟩ : ∃ X, X = wr.alloc (Obj.cells #[.slice io il ic, .int .i64 pn, .bool pr] 34) := ⟨_, rfl⟩
          have hbB : Below wr.heap.size wr WB := by rw [hWB]; exact (Below.refl _ _).alloc (Nat.le_refl _) _
          have zB : WB.heap.size = wr.heap.size + 1 := by rw [hWB]; simp
          have d0 : WB.cell? ⟨wr.heap.size, 0, none⟩ = some (.slice io il ic) := by rw [hWB]; simp [go_sem]
          have d1 : WB.cell? ⟨wr.heap.size, 1, none⟩ = some (.int .i64 pn) := by rw [hWB]; simp [go_sem]
          have d2 : WB.cell? ⟨wr.heap.size, 2, none⟩ = some (.bool pr) := by rw [hWB]; simp [go_sem]
          have e0 := Fi.keepC hbB lu u0
          have e1 := Fi.keepC hbB lu u1
          have e2 := Fi.keepC hbB lu u2
          have lxB : xb < WB.heap.size := by omega
          have ldB : wr.heap.size < WB.heap.size := by omega
          obtain ⟨sb, hsb⟩ : ∃ sb, sb = wr.heap.size := ⟨_, rfl⟩
          have HsB : Hid (sb = wr.heap.size) := hsb
          have HbB : Hid (Below w3.heap.size w3 WB ∧ Below w.heap.size w WB) := ⟨hbr.out.trans (hbB.mono hbr.out.size), HBw.out.trans (hbB.mono HBw.out.size)⟩
          have HCLB : Hid (CL WB w3.heap.size ib M (cum g M (ze M) (pcs.take k))) := hCL.out.bel hbB
          have Hp : Hid (pcs[k]? = some p ∧ il = p.ins.length ∧ pn = p.n ∧ pr = p.rest ∧ Fi.PL wr w.heap.size io p.ins) := ⟨hp, hil, hpn, hpr, hPL⟩
          have HPB : Hid (Fi.PL WB WB.heap.size io p.ins) := PLmono (hPL.keep HBw.out.size (fun b hb => hbB.block b (by have := HBw.out.size; omega)) hbB.size) (by have := hbB.size; have := HBw.out.size; omega)
          have HibR : Hid (ib < wr.heap.size) := hCL.out.lt
          clear hp hil hpn hpr hPL hbB hCL u0 u1 u2
          go_upto_if 55 with fail
          rw [show wr.alloc (Obj.cells #[Value.slice io il ic, .int .i64 pn, .bool pr] 34) = WB from hWB.symm]
          clear hWB
          rw [← hsb] at d0 d1 d2 ldB ⊢
          have HzB : Hid (WB.heap.size = sb + 1) := by rw [hsb]; exact zB
          have HibS : Hid (sb ≠ ib) := by
            have h1 := HibR.out
            unfold Hid
            omega
          have HibT : Hid (sb ≠ WB.heap.size) := by
            unfold Hid
            omega
          clear hsb zB
          go_cut [8, 9] (fun v n ww => ∃ (i2 T2 : Nat), v = .slice (some ⟨i2, 0, none⟩) M M ∧ n = .int .i64 T2 ∧ Hid (T2 = Gh.t0 T p) ∧ Hid (CL ww w3.heap.size i2 M (Gh.c0 M (cum g M (ze M) (pcs.take k)) p)) ∧ Hid (Below WB.heap.size WB ww) ∧ Hid (sb ≠ i2))
          case first =>
            cases hr : pr
            · rw [hr] at d2
              have HN : Hid (T = Gh.t0 T p ∧ CL WB w3.heap.size ib M (Gh.c0 M (cum g M (ze M) (pcs.take k)) p)) := by
                have h1 : p.rest = false := by rw [← Hp.out.2.2.2.1, hr]
                unfold Gh.t0 Gh.c0
                rw [if_neg (by rw [h1]; decide), if_neg (by rw [h1]; decide)]
                exact ⟨rfl, HCLB.out⟩
              go_wp2_with fail
              go_meet
              case rel => exact ⟨ib, T, rfl, rfl, HN.out.1, HN.out.2, Below.refl _ _, HibS.out⟩
            · rw [hr] at d2
              have mkB : (Instr.makeSlice 32 (.int .i64 (M : Int)) (.int .i64 (M : Int))).run Try.prog WB = .ok (.slice (some ⟨WB.heap.size, 0, none⟩) M M) (WB.alloc (.cells (madeCells #[.slice none 0 0] M) 38)) := run_make_row' (P := Try.prog) 32 38 (.slice none 0 0) 24 Try.underlying32 Fi.infoFs rfl .i64 .i64 M (by omega) (by omega) _
              have HN : Hid ((0 = Gh.t0 T p) ∧ CL (WB.alloc (.cells (madeCells #[.slice none 0 0] M) 38)) w3.heap.size WB.heap.size M (Gh.c0 M (cum g M (ze M) (pcs.take k)) p)) := by
                have h1 : p.rest = true := by rw [← Hp.out.2.2.2.1, hr]
                unfold Gh.t0 Gh.c0
                rw [if_pos h1, if_pos h1]
                exact ⟨rfl, CL.made WB w3.heap.size M HbB.out.1.size⟩
              have HbC : Hid (Below WB.heap.size WB (WB.alloc (.cells (madeCells #[.slice none 0 0] M) 38))) := (Below.refl _ _).alloc (Nat.le_refl _) _
              go_wp2_with (simp only [mkB])
              go_meet
              case rel => exact ⟨WB.heap.size, 0, rfl, rfl, HN.out.1, HN.out.2, HbC.out, HibT.out⟩
          case rest =>
            obtain ⟨i2, T2, rfl, rfl, hT2, hCL2, hbc, HsI⟩ := hcut
            have hTle : T ≤ 65536 * k := by rw [hT.out]; exact tst_le g pcs k
            have hT2le : T2 ≤ 65536 * k := by
              rw [hT2.out]; unfold Gh.t0
              split <;> omega
            have f0 := Fi.keepC hbc.out lxB e0
            have f1 := Fi.keepC hbc.out lxB e1
            have f2 := Fi.keepC hbc.out lxB e2
            have g0 := Fi.keepC hbc.out ldB d0
            have g1 := Fi.keepC hbc.out ldB d1
            have g2 := Fi.keepC hbc.out ldB d2
            have lxc := lt_cell f0
            have ldc := lt_cell g0
            have HBc : Hid (Below w3.heap.size w3 wc ∧ Below w.heap.size w wc) := ⟨HbB.out.1.trans (hbc.out.mono HbB.out.1.size), HbB.out.2.trans (hbc.out.mono HbB.out.2.size)⟩
            have hPc : Fi.PL wc wc.heap.size io p.ins := PLmono (HPB.out.keep (Nat.le_refl _) (fun b hb => hbc.out.block b hb) hbc.out.size) hbc.out.size
            have qr := right_any g go uo gc uc p.ins io il ic pn pr wc hPc Hp.out.2.1.symm hic hicm
            rw [HA.out] at qr
            obtain ⟨z, hz⟩ : ∃ z, z = er g p.ins pn := ⟨_, rfl⟩
            rw [← hz] at qr
            have Hz : Hid (z = er g p.ins p.n) := by rw [← Hp.out.2.2.1]; exact hz
            clear hz e0 e1 e2 d0 d1 d2 hPc HPB HCLB
            go_wp2_with fail
            refine qr.mono ?_
            rintro e w5 ⟨rfl, hb5⟩
            have HB5 : Hid (Below w3.heap.size w3 w5 ∧ Below w.heap.size w w5) := ⟨HBc.out.1.trans (hb5.mono HBc.out.1.size), HBc.out.2.trans (hb5.mono HBc.out.2.size)⟩
            have HP5 : Hid (Fi.PL w5 w.heap.size io p.ins) := Hp.out.2.2.2.2.keep HBw.out.size (fun b hb => (HB5.out.2.block b hb).trans (HBw.out.block b hb).symm) (by
              have := hb5.size; have := hbc.out.size; have := HzB.out; have := HsB.out; omega)
            have HB25 : Hid (Below w2.heap.size w2 w5) := HB23.out.trans (HB5.out.1.mono HB23.out.size)
            have HCL5 : Hid (CL w5 w3.heap.size i2 M (Gh.c0 M (cum g M (ze M) (pcs.take k)) p)) := hCL2.out.bel hb5
            have h0 := Fi.keepC hb5 lxc f0
            have h1 := Fi.keepC hb5 lxc f1
            have h2 := Fi.keepC hb5 lxc f2
            have j0 := Fi.keepC hb5 ldc g0
            have j1 := Fi.keepC hb5 ldc g1
            have lx5 := lt_cell h0
            have ld5 := lt_cell j0
            have hH5 := HHo.out.1.keep (w' := w5) (Z' := fun b => base ≤ b ∧ b < w2.heap.size) (fun j _ hl => HB25.out.block j hl) HB25.out.size (fun j h hl => ⟨h, hl⟩)
            obtain ⟨qa, capa, ao, ca, hv, k1, k2, k3, k4, m1, m2, o1, k8, k9⟩ := hH5.at (j := k) (by rw [HHo.out.2.2]; exact rsl_at Hp.out.1)
            rw [HHo.out.2.1] at hv
            cases hv
            have m2' : w5.cell? ⟨qa, k * 2 + 1, none⟩ = some (.int .i64 z) := by rw [Hz.out]; exact m2
            obtain ⟨RR, hRR⟩ : ∃ RR, RR = hrs g (vl g (jr g M pcs k)) (tst g 0 (pcs.take k)) p := ⟨_, rfl⟩
            rw [← hRR] at m1 o1 k8
            obtain ⟨rl, hrl⟩ : ∃ rl, rl = RR.length := ⟨_, rfl⟩
            rw [← hrl] at m1 o1 k8
            have HO1 : Hid (OL w5 (Sz (fun b => base ≤ b ∧ b < w2.heap.size) w5 (.slice (some ⟨qa, 0, none⟩) m gcap)) (.slice ao rl ca) RR) := o1
            have HRR : Hid (RR = hrs g (vl g (jr g M pcs k)) (tst g 0 (pcs.take k)) p ∧ rl = RR.length) := ⟨hRR, hrl⟩
            have l3 := lt_cell m1
            have Hqa : Hid (base ≤ qa ∧ qa < w2.heap.size) := k4
            clear hb5 f0 f1 f2 g0 g1 g2 hH5 m2 o1 hRR hrl qr hCL2 hbc k4 k1
            by_cases hzz : z = 0
            · subst hzz
              have hE : er g p.ins p.n = 0 := Hz.out.symm
              obtain ⟨en1, en2, en3, en4⟩ := er_ok hE
              obtain ⟨pl, hpl⟩ : ∃ pl : Nat, pn = (pl : Int) := ⟨pn.toNat, by have := Hp.out.2.2.1; omega⟩
              subst hpl
              have hpl16 : pl ≤ 65536 := by have := Hp.out.2.2.1; omega
              have hpn : p.n.toNat = pl := by have := Hp.out.2.2.1; omega
              have hilM : il = M := by have := Hp.out.2.1; have := HNg.out.2.2.1; omega
              subst hilM
              have HTn : Hid (tst g 0 (pcs.take (k + 1)) = T2 + pl) := by
                unfold Hid
                rw [tst_step g Hp.out.1]
                unfold tnx
                rw [if_pos hE, ← hT.out, ← hT2.out, hpn]
              have HCu : Hid (∀ (q : Nat) a, (Gh.c0 il (cum g il (ze il) (pcs.take k)) p)[q]? = some a → a.length = T2) := by
                have hC := (Cu.cum (g := g) (by have := HNg.out.2.2.1; omega) (l := pcs.take k) (Cu.ze il)).c0 p
                rw [← hT.out, ← hT2.out] at hC
                exact hC.l
              have HPi : Hid (∀ l ∈ p.ins, l.length = pl) := fun l hl => by have := en4 l hl; have := Hp.out.2.2.1; omega
              have HTs : Hid (0 < il → T2 + pl ≤ 1048576) := fun h => by
                have := HTb.out (k + 1) (by omega) (by have := HNg.out.2.2.1; omega)
                rw [HTn.out] at this
                exact this
              obtain ⟨cc, hcc⟩ : ∃ cc, cc = Gh.c0 il (cum g il (ze il) (pcs.take k)) p := ⟨_, rfl⟩
              rw [← hcc] at HCL5 HCu
              have Hcc : Hid (cc = Gh.c0 il (cum g il (ze il) (pcs.take k)) p) := hcc
              have HcL : Hid (cc.length = p.ins.length ∧ cc.length = il) := ⟨by rw [HCL5.out.len]; exact Hp.out.2.1, HCL5.out.len⟩
              have Hi2 : Hid (w3.heap.size ≤ i2 ∧ i2 < w5.heap.size) := ⟨HCL5.out.lo, HCL5.out.lt⟩
              have HZ0 : Hid (CL w5 w3.heap.size i2 il (zp 0 cc p.ins)) := by rw [zp_zero]; exact HCL5.out
              clear en1 en2 en3 en4 hcc hpn
              go_wp2_with fail
              go_loopw [80] (fun i ww => ∃ q : Nat, q ≤ il ∧ i = .int .i64 q ∧ Hid (CL ww w3.heap.size i2 il (zp q cc p.ins)) ∧ Hid (Below w3.heap.size w3 ww) ∧ Hid (w5.heap.size ≤ ww.heap.size ∧ ∀ b, b < w5.heap.size → b ≠ i2 → ww.heap[b]? = w5.heap[b]?)) (fun i _ => il - (intOf i).toNat)
              case atStart => exact ⟨0, by omega, rfl, HZ0, HB5.out.1, Nat.le_refl _, fun _ _ _ => rfl⟩
              case round =>
                obtain ⟨q, hq, rfl, hcl, hbq, hkq⟩ := hrel
                have hkk : ∀ {b o : Nat} {v : Value}, b < w5.heap.size → b ≠ i2 → w5.cell? ⟨b, o, none⟩ = some v → wr.cell? ⟨b, o, none⟩ = some v := fun h1 h2 h3 => (World.cell?_of_block (w := w5) (w' := wr) (a := ⟨_, _, none⟩) (hkq.out.2 _ h1 h2)).trans h3
                by_cases hqM : q < il
                · have hqM' : (q : Int) < (il : Int) := by omega
                  have wq : IntKind.i64.wrap ((q : Int) + 1) = (q : Int) + 1 := wid (by omega) (by omega)
                  obtain ⟨a, ha⟩ : ∃ a, cc[q]? = some a := ⟨_, List.getElem?_eq_getElem (by rw [HcL.out.2]; exact hqM)⟩
                  obtain ⟨l, hl⟩ : ∃ l, p.ins[q]? = some l := ⟨_, List.getElem?_eq_getElem (by rw [← HcL.out.1, HcL.out.2]; exact hqM)⟩
                  have hal := HCu.out q a ha
                  have hll := HPi.out l (List.mem_of_getElem? hl)
                  obtain ⟨aa, ac, v0, a2, a3, a4, a5⟩ := hcl.out.rd q a (zp_at HcL.out.1 ha)
                  rw [hal] at v0 a2
                  have HBr : Hid (Below w.heap.size w wr) := HB3.out.trans (hbq.out.mono HB3.out.size)
                  have hPL := HP5.out.keep (w' := wr) HB5.out.2.size (fun b hb => ((HBr.out.block b hb).trans (HB5.out.2.block b hb).symm)) hkq.out.1
                  obtain ⟨bI, oI, rfl, i1, i2'⟩ := hPL.at' (by rw [← HcL.out.1, HcL.out.2]; omega)
                  obtain ⟨la, lc, v1, r2, r3, r4, r5⟩ := i2' q l hl
                  rw [hll] at v1 r2
                  have HFin : Hid (∀ w7 v', w7.ownsRow wr.heap.size 46 1 v' (T2 + pl) (Fi.fls [] ++ Fi.fls a ++ Fi.fls l) → Below wr.heap.size wr w7 → CL (w7.setCell ⟨i2, q, none⟩ v') w3.heap.size i2 il (zp (q + 1) cc p.ins) ∧ Below w3.heap.size w3 (w7.setCell ⟨i2, q, none⟩ v') ∧ w5.heap.size ≤ (w7.setCell ⟨i2, q, none⟩ v').heap.size ∧ ∀ b, b < w5.heap.size → b ≠ i2 → (w7.setCell ⟨i2, q, none⟩ v').heap[b]? = w5.heap[b]?) := fun w7 v' o7 hb7 => by
                    have hset : ∀ b, b ≠ i2 → (w7.setCell ⟨i2, q, none⟩ v').heap[b]? = w7.heap[b]? := fun b hb => Below.heap_setCell _ _ _ _ hb
                    have hz7 := hb7.size
                    have hz5 := hkq.out.1
                    refine ⟨hcl.out.round HcL.out.1 ha hl hqM hal hll hb7 (il_w' a5) (il_w' r5) o7, ?_, by simp; omega, fun b hb hne => ?_⟩
                    · have hh : Below w3.heap.size w3 w7 := hbq.out.trans (hb7.mono hbq.out.size)
                      exact hh.setCell (show w3.heap.size ≤ (Addr.mk i2 q none).block from Hi2.out.1) _
                    · rw [hset b hne, hb7.block b (by omega), hkq.out.2 b hb hne]
                  have cI : wr.cell? ⟨sb, 0, none⟩ = some (.slice (some ⟨bI, oI, none⟩) il ic) := hkk ld5 HsI.out j0
                  have lI := lt_cell cI
                  have lv0 := lt_cell v0
                  have lv1 := lt_cell v1
                  have hTs := HTs.out (by omega)
                  have hbE : Below wr.heap.size wr ((wr.alloc (Obj.cells #[] 46)).drew) := ((Below.refl _ _).alloc (Nat.le_refl _) _).drew
                  have zE : ((wr.alloc (Obj.cells #[] 46)).drew).heap.size = wr.heap.size + 1 := by simp
                  have HOe : Hid (((wr.alloc (Obj.cells #[] 46)).drew).ownsRow wr.heap.size 46 1 (.slice (some ⟨wr.heap.size, 0, none⟩) 0 0) 0 (Fi.fls [])) := Fi.own_step (Fi.own_new wr wr.heap.size (Nat.le_refl _)) (fun b hb => rfl)
                  have HIa : Hid (Fi.IL ((wr.alloc (Obj.cells #[] 46)).drew) (fun k => k < wr.heap.size) aa a) := a5.keep (fun b _ hl => hbE.block b hl) hbE.size (fun b _ hl => hl)
                  have HIl : Hid (Fi.IL wr (fun k => k < wr.heap.size) la l) := r5.keep (fun _ _ _ => rfl) (Nat.le_refl _) (fun b _ hl => hl)
                  have CC : (fun w' : World => w'.cell? ⟨i2, q, none⟩ = some (.slice aa T2 ac) ∧ w'.cell? ⟨sb, 0, none⟩ = some (.slice (some ⟨bI, oI, none⟩) il ic) ∧ w'.cell? ⟨bI, oI + q, none⟩ = some (.slice la pl lc)) wr.drew := ⟨v0, cI, v1⟩
                  have Ha4 : Hid (aa = none → ac = 0) := a4
                  have Hr4 : Hid (la = none → lc = 0) := r4
                  have Hfz : Hid (wr.frozen? ⟨i2, q, none⟩ = false) := hcl.out.fz q
                  clear hcl a5 r5 i2' hPL ha hl a4 r4
                  go_wp2_with fail
                  refine RF.wp_region_last (fun w' : World => w'.cell? ⟨i2, q, none⟩ = some (.slice aa T2 ac) ∧ w'.cell? ⟨sb, 0, none⟩ = some (.slice (some ⟨bI, oI, none⟩) il ic) ∧ w'.cell? ⟨bI, oI + q, none⟩ = some (.slice la pl lc)) (fun k => k != 2 && k != 7 && k != 13) 15 _ rfl (by kernel_rfl) (by kernel_rfl) (by kernel_rfl) (by kernel_rfl) (by kernel_rfl) CC ?_
                  dsimp only [List.take]
                  refine RF.wpFl_readC rfl rfl (.slice (some ⟨i2, 0, none⟩) il il) (fun w' hw' => by have cA := hw'.1; have cB := hw'.2.1; have cC := hw'.2.2; have lA := lt_cell cA; have lB := lt_cell cB; have lC := lt_cell cC; clear hw' HFin HIa HIl HOe; unfold RM.valAt; go_simp) ?_
                  refine RF.wpFl_readC rfl rfl (.int .i64 (q : Nat)) (fun w' hw' => by have cA := hw'.1; have cB := hw'.2.1; have cC := hw'.2.2; have lA := lt_cell cA; have lB := lt_cell cB; have lC := lt_cell cC; clear hw' HFin HIa HIl HOe; unfold RM.valAt; go_simp) ?_
                  refine RF.wpFl_doC rfl rfl (fun K hK => ?_)
                  go_wp2_with fail
                  have CC2 := (⟨Fi.keepC hbE lv0 v0, Fi.keepC hbE lI cI, Fi.keepC hbE lv1 v1⟩ : (fun w' : World => w'.cell? ⟨i2, q, none⟩ = some (.slice aa T2 ac) ∧ w'.cell? ⟨sb, 0, none⟩ = some (.slice (some ⟨bI, oI, none⟩) il ic) ∧ w'.cell? ⟨bI, oI + q, none⟩ = some (.slice la pl lc)) ((wr.alloc (Obj.cells #[] 46)).drew))
                  have hbz1 : wr.heap.size ≤ ((wr.alloc (Obj.cells #[] 46)).drew).heap.size := hbE.size
                  refine hK _ _ CC2 ?_
                  clear hK K
                  refine RF.wpFl_readC rfl rfl (.slice (some ⟨i2, 0, none⟩) il il) (fun w' hw' => by have cA := hw'.1; have cB := hw'.2.1; have cC := hw'.2.2; have lA := lt_cell cA; have lB := lt_cell cB; have lC := lt_cell cC; clear hw' HFin HIa HIl HOe; unfold RM.valAt; go_simp) ?_
                  refine RF.wpFl_readC rfl rfl (.int .i64 (q : Nat)) (fun w' hw' => by have cA := hw'.1; have cB := hw'.2.1; have cC := hw'.2.2; have lA := lt_cell cA; have lB := lt_cell cB; have lC := lt_cell cC; clear hw' HFin HIa HIl HOe; unfold RM.valAt; go_simp) ?_
                  refine RF.wpFl_readC rfl rfl (.pointer (some ⟨i2, q, none⟩)) (fun w' hw' => by have cA := hw'.1; have cB := hw'.2.1; have cC := hw'.2.2; have lA := lt_cell cA; have lB := lt_cell cB; have lC := lt_cell cC; clear hw' HFin HIa HIl HOe; unfold RM.valAt; go_simp) ?_
                  refine RF.wpFl_readC rfl rfl (.slice aa T2 ac) (fun w' hw' => by have cA := hw'.1; have cB := hw'.2.1; have cC := hw'.2.2; have lA := lt_cell cA; have lB := lt_cell cB; have lC := lt_cell cC; clear hw' HFin HIa HIl HOe; unfold RM.valAt; go_simp) ?_
                  refine RF.wpFl_doC rfl rfl (fun K hK => ?_)
                  go_wp2_with (at_builtin; refine Fi.wpList_append_il (by rfl) (.tmp 85) (.tmp 89) (by rfl) wr.heap.size (.slice (some ⟨wr.heap.size, 0, none⟩) 0 0) 0 (Fi.fls []) ?e1 HOe.out (fun k => k < wr.heap.size) a T2 hal aa ac ?e2 a2 Ha4.out HIa.out (by omega) hbz1 ?e3)
                  intro v6 w6 h6 g6
                  have hb6 : Below wr.heap.size wr w6 := hbE.trans (g6.bel hbz1 (fun k hk => Fi.own_block HOe.out k hk))
                  have CC3 := (⟨Fi.keepC hb6 lv0 v0, Fi.keepC hb6 lI cI, Fi.keepC hb6 lv1 v1⟩ : (fun w' : World => w'.cell? ⟨i2, q, none⟩ = some (.slice aa T2 ac) ∧ w'.cell? ⟨sb, 0, none⟩ = some (.slice (some ⟨bI, oI, none⟩) il ic) ∧ w'.cell? ⟨bI, oI + q, none⟩ = some (.slice la pl lc)) w6)
                  have hz6 := hb6.size
                  have H6 : Hid (w6.ownsRow wr.heap.size 46 1 v6 T2 (Fi.fls [] ++ Fi.fls a)) := h6
                  have Hb6 : Hid (Below wr.heap.size wr w6) := hb6
                  have HIl6 : Hid (Fi.IL w6 (fun k => k < wr.heap.size) la l) := HIl.out.keep (fun b hb _ => hb6.block b hb) hb6.size (fun b hb _ => hb)
                  obtain ⟨va6, vc6, rfl, vd1, vd2⟩ := Fi.own_form h6
                  refine hK _ _ CC3 ?_
                  clear hK K h6 g6 hb6 CC3 CC2 HIa HOe
                  refine RF.wpFl_readC rfl rfl (.pointer (some ⟨sb, 0, none⟩)) (fun w' hw' => by have cA := hw'.1; have cB := hw'.2.1; have cC := hw'.2.2; have lA := lt_cell cA; have lB := lt_cell cB; have lC := lt_cell cC; clear hw' HFin HIl H6 Hb6; unfold RM.valAt; go_simp) ?_
                  refine RF.wpFl_readC rfl rfl (.slice (some ⟨bI, oI, none⟩) il ic) (fun w' hw' => by have cA := hw'.1; have cB := hw'.2.1; have cC := hw'.2.2; have lA := lt_cell cA; have lB := lt_cell cB; have lC := lt_cell cC; clear hw' HFin HIl H6 Hb6; unfold RM.valAt; go_simp) ?_
                  refine RF.wpFl_readC rfl rfl (.int .i64 (q : Nat)) (fun w' hw' => by have cA := hw'.1; have cB := hw'.2.1; have cC := hw'.2.2; have lA := lt_cell cA; have lB := lt_cell cB; have lC := lt_cell cC; clear hw' HFin HIl H6 Hb6; unfold RM.valAt; go_simp) ?_
                  refine RF.wpFl_readC rfl rfl (.pointer (some ⟨bI, oI + q, none⟩)) (fun w' hw' => by have cA := hw'.1; have cB := hw'.2.1; have cC := hw'.2.2; have lA := lt_cell cA; have lB := lt_cell cB; have lC := lt_cell cC; clear hw' HFin HIl H6 Hb6; unfold RM.valAt; go_simp) ?_
                  refine RF.wpFl_readC rfl rfl (.slice la pl lc) (fun w' hw' => by have cA := hw'.1; have cB := hw'.2.1; have cC := hw'.2.2; have lA := lt_cell cA; have lB := lt_cell cB; have lC := lt_cell cC; clear hw' HFin HIl H6 Hb6; unfold RM.valAt; go_simp) ?_
                  refine RF.wpFl_doC rfl rfl (fun K hK => ?_)
                  refine Fi.wpList_append_il (by rfl) (.tmp 90) (.tmp 95) (by rfl) wr.heap.size (.slice va6 T2 vc6) T2 (Fi.fls [] ++ Fi.fls a) rfl H6.out (fun k => k < wr.heap.size) l pl hll la lc rfl r2 Hr4.out HIl6.out (by omega) hz6 ?e5
                  intro v7 w7 h7 g7
                  have hb7 : Below wr.heap.size wr w7 := Hb6.out.trans (g7.bel hz6 (fun k hk => Fi.own_block H6.out k hk))
                  have CC4 := (⟨Fi.keepC hb7 lv0 v0, Fi.keepC hb7 lI cI, Fi.keepC hb7 lv1 v1⟩ : (fun w' : World => w'.cell? ⟨i2, q, none⟩ = some (.slice aa T2 ac) ∧ w'.cell? ⟨sb, 0, none⟩ = some (.slice (some ⟨bI, oI, none⟩) il ic) ∧ w'.cell? ⟨bI, oI + q, none⟩ = some (.slice la pl lc)) w7)
                  have Hb7 : Hid (Below wr.heap.size wr w7) := hb7
                  have hR := HFin.out w7 v7 h7 hb7
                  have HR : Hid _ := hR
                  obtain ⟨va7, vc7, rfl, vd3, vd4⟩ := Fi.own_form h7
                  have li7 : i2 < w7.heap.size := lt_cell CC4.1
                  have vi7 := CC4.1
                  have vf7 : w7.frozen? ⟨i2, q, none⟩ = false := (World.frozen?_of_block (hb7.block i2 lv0)).trans Hfz.out
                  refine hK _ _ CC4 ?_
                  clear hK K h7 g7 hb7 CC4 H6 Hb6 HIl6 hR
                  refine RF.wpFl_readC rfl rfl (.pointer (some ⟨i2, q, none⟩)) (fun w' hw' => by have cA := hw'.1; have cB := hw'.2.1; have cC := hw'.2.2; have lA := lt_cell cA; have lB := lt_cell cB; have lC := lt_cell cC; clear hw' HFin HIl; unfold RM.valAt; go_simp) ?_
                  refine RF.wpFl_nil ?_
                  go_wp2_with fail
                  all_goals first
                    | exact ⟨⟨q + 1, by omega, by go_num, HR.out.1, HR.out.2.1, HR.out.2.2⟩, by simp [intOf]; omega⟩
                    | (go_wp2_with fail; exact ⟨⟨q + 1, by omega, by go_num, HR.out.1, HR.out.2.1, HR.out.2.2⟩, by simp [intOf]; omega⟩)
                · obtain rfl : il = q := by omega
                  have HCn : Hid (CL wr w3.heap.size i2 il (cum g il (ze il) (pcs.take (k + 1)))) := by
                    have e := zp_end cc p.ins HcL.out.1
                    rw [HcL.out.2] at e
                    show CL _ _ _ _ _
                    rw [cum_ok Hp.out.1 hE, ← Hcc.out, ← e]
                    exact hcl.out
                  have HBr : Hid (Below w.heap.size w wr) := HB3.out.trans (hbq.out.mono HB3.out.size)
                  obtain ⟨jl, ji⟩ := jr_rows (M := il) HNg.out.2.2.1 (many_all HWf.out) (in_all HWf.out) pcs k
                  rw [HTn.out] at jl ji
                  have qall := All_any g go uo gc uc N (hrd g) (jr g il pcs k) (some ⟨i2, 0, none⟩) il il (cum g il (ze il) (pcs.take (k + 1))) (T2 + pl) wr (HG.out wr HBr.out) HWf.out HNg.out.1.symm (hrd_rk Hac.out.1 HWf.out) (fun i hi => by rw [HNg.out.1] at hi ⊢; exact hrd_lt Hac.out.1 hi) (fun i hi => (ne0_kind Hac.out.2 _ (nd_mem (by rw [← HNg.out.1]; exact hi))).1) (vo_all (HG.out wr HBr.out).n Hac.out.2) HCn.out.pl HCn.out.len HNg.out.2.2.1 (fun a l h => by rw [jl a l h]; exact Nat.le_refl _) ji (by omega)
                  rw [HA.out, show ((T2 + pl : Nat) : Int) = (T2 : Int) + (pl : Int) by push_cast; rfl] at qall
                  have hz23 := HB23.out.size
                  have hne : xb ≠ i2 := by have := Hi2.out.1; omega
                  have hnq : qa ≠ i2 := by have := Hi2.out.1; have := Hqa.out.2; omega
                  have n0 := hkk lx5 hne h0
                  have n1 := hkk lx5 hne h1
                  have n2 := hkk lx5 hne h2
                  have s1 := hkk ld5 HsI.out j1
                  have q1 := hkk l3 hnq m1
                  have ln0 := lt_cell n0
                  have ls1 := lt_cell s1
                  have lq1 := lt_cell q1
                  have wTp : IntKind.i64.wrap ((T2 : Int) + (pl : Int)) = (T2 : Int) + (pl : Int) := wid (by omega) (by omega)
                  clear jl ji hcl hqM
                  go_wp2_with fail
                  refine qall.mono ?_
                  rintro e w6 ⟨pb, rfl, hpb, hJA, hb6⟩
                  have HJA : Hid (JA w6 pb pb N (fun k' => mad g (jr g il pcs k) (T2 + pl) k')) := hJA
                  have HB6 : Hid (Below w.heap.size w w6 ∧ Below w3.heap.size w3 w6) := ⟨HBr.out.trans (hb6.mono HBr.out.size), hbq.out.trans (hb6.mono hbq.out.size)⟩
                  have HCn6 : Hid (CL w6 w3.heap.size i2 il (cum g il (ze il) (pcs.take (k + 1)))) := HCn.out.bel hb6
                  have N0 := Fi.keepC hb6 ln0 n0
                  have N1 := Fi.keepC hb6 ln0 n1
                  have N2 := Fi.keepC hb6 ln0 n2
                  have S1 := Fi.keepC hb6 ls1 s1
                  have Q1 := Fi.keepC hb6 lq1 q1
                  have HO6 : Hid (OL w6 (fun _ => True) (.slice ao rl ca) RR) := HO1.out.keep (fun b hb hl => (hb6.block b (by have := hkq.out.1; omega)).trans (hkq.out.2 b hl (by have := hb.1.2; have := Hi2.out.1; omega))) (by have := hb6.size; have := hkq.out.1; omega) (fun _ _ _ => trivial)
                  have hRl : rl = U := by rw [HRR.out.2, HRR.out.1]; unfold hrs; rw [if_pos hE, outR_len, ← HNg.out.2.1]
                  have HRo : Hid (RR = outR g (vl g (jr g il pcs k)) T2 pl) := by
                    show RR = _
                    rw [HRR.out.1]; unfold hrs; rw [if_pos hE, ← hT.out, ← hT2.out]
                    congr 1
                    have := Hp.out.2.2.1; omega
                  subst hRl
                  have LN0 := lt_cell N0
                  have LS1 := lt_cell S1
                  have LQ1 := lt_cell Q1
                  clear qall hJA hb6 n0 n1 n2 s1 q1 hkk HCn hbq
                  go_wp2_with fail
                  refine U2.wp_region_tail_read 9 (by decide) (by kernel_rfl) (by kernel_rfl) (by kernel_rfl) (by kernel_rfl) ?_
                  dsimp only [List.take, List.drop]
                  repeat (quiet_step (fail))
                  refine wpQuiet_nil ?_
                  rintro w7 ⟨nq, hw7⟩
                  have hb7 : Below w6.heap.size w6 w7 := by rw [hw7]; exact ⟨rfl, rfl, rfl, Nat.le_refl _, fun _ _ => rfl⟩
                  have P0 := Fi.keepC hb7 LN0 N0
                  have P1 := Fi.keepC hb7 LN0 N1
                  have P2 := Fi.keepC hb7 LN0 N2
                  have PS := Fi.keepC hb7 LS1 S1
                  have PQ := Fi.keepC hb7 LQ1 Q1
                  have L0 := lt_cell P0
                  have L1 := lt_cell PS
                  have L2 := lt_cell PQ
                  have HB67 : Hid (Below w6.heap.size w6 w7) := hb7
                  clear hw7 hb7 N0 N1 N2 S1 Q1 LN0 LS1 LQ1
                  go_wp2_with fail
                  go_loopw [119] (fun i ww => ∃ u : Nat, u ≤ rl ∧ i = .int .i64 u ∧ Hid (Below w7.heap.size w7 ww)) (fun i _ => rl - (intOf i).toNat)
                  case atStart => exact ⟨0, by omega, rfl, Below.refl _ _⟩
                  case round =>
                    obtain ⟨u, hu, rfl, hbu⟩ := hrel
                    have R0 := Fi.keepC hbu.out L0 P0
                    have R1 := Fi.keepC hbu.out L0 P1
                    have R2 := Fi.keepC hbu.out L0 P2
                    have RS := Fi.keepC hbu.out L1 PS
                    have RQ := Fi.keepC hbu.out L2 PQ
                    have M0 := lt_cell R0
                    have M1 := lt_cell RS
                    have M2 := lt_cell RQ
                    have H6r : Hid (Below w6.heap.size w6 wr) := HB67.out.trans (hbu.out.mono HB67.out.size)
                    have HBu : Hid (Below w.heap.size w wr ∧ Below w3.heap.size w3 wr) := ⟨HB6.out.1.trans (H6r.out.mono HB6.out.1.size), HB6.out.2.trans (H6r.out.mono HB6.out.2.size)⟩
                    by_cases huU : u < rl
                    · have huU' : (u : Int) < (rl : Int) := by omega
                      have w3u : IntKind.i64.wrap ((u : Int) + 1) = (u : Int) + 1 := wid (by omega) (by omega)
                      obtain ⟨o, ho⟩ : ∃ o, g.outs[u]? = some o := ⟨_, List.getElem?_eq_getElem (by rw [← HNg.out.2.1]; exact huU)⟩
                      have hoN := HWf.out.o o (List.mem_of_getElem? ho)
                      rw [← HNg.out.1] at hoN
                      obtain ⟨on, rfl⟩ : ∃ on : Nat, o = (on : Int) := ⟨o.toNat, by omega⟩
                      obtain ⟨bu, ou, rfl, _, bul, buc⟩ := (HG.out wr HBu.out.1).u.at' (by rw [← HNg.out.2.1]; omega)
                      have cu := buc u _ ho
                      have honN : on < N := by omega
                      obtain ⟨ga, aa, ac, g1, g2, g3, g4, g5, g6⟩ := (HJA.out.keep (w' := wr) (x' := pb) (fun b _ hl => H6r.out.block b hl) (.inl rfl)).row honN
                      have hgl : ga.length = T2 + pl := by rw [← Fi.abs_len, g5, mad_len]
                      rw [hgl] at g1 g2
                      have hrow := outR_get (J := jr g il pcs k) (T := T2) (n := pl) ho
                      rw [← HRo.out, Int.toNat_natCast] at hrow
                      obtain ⟨ao', ca', m1', m2'', m3', m4'⟩ := (HO6.out.keep (w' := wr) (S' := fun _ => True) (fun b _ hl => H6r.out.block b hl) H6r.out.size (fun _ _ _ => trivial)).ex
                      injection m1' with i1 i2' i3
                      subst i1
                      subst i3
                      obtain ⟨b2, of2, rfl, _, n3', n4'⟩ := m4' (by rw [← HRR.out.2]; omega)
                      obtain ⟨x, xb1, xb2⟩ := n4' u _ hrow
                      obtain ⟨gb, ab', cb, rfl, y2, y3, y4, y5, y6⟩ := xb2.ex
                      have hbl : gb.length = pl := by rw [← Fi.abs_len, y5, List.length_drop, mad_len]; omega
                      rw [hbl] at xb1 y2
                      have hil' : Fi.IL wr (fun b => b < wr.heap.size) (Fi.frm aa T2 ac) (ga.drop T2) := g6.drop T2 ac (by omega)
                      have hea : Fi.abs gb = Fi.abs (ga.drop T2) := by rw [y5, ← g5]; unfold Fi.abs; rw [List.map_drop]
                      have hq : ∀ nq, Calls Try.prog 11 #[.slice ab' pl cb, .slice (Fi.frm aa T2 ac) pl (ac - T2)] (wr.drewN nq) fun e w' => e = .returned (.bool true) ∧ Below (wr.drewN nq).heap.size (wr.drewN nq) w' := fun nq => Fi.LikeAll_eq (wr.drewN nq) _ _ ab' (Fi.frm aa T2 ac) gb (ga.drop T2) pl cb (ac - T2) (y6.keep (fun _ _ _ => rfl) (Nat.le_refl _) (fun _ h _ => h)) (hil'.keep (fun _ _ _ => rfl) (Nat.le_refl _) (fun _ h _ => h)) hea hbl (by omega) y2 y3 (by omega) (by omega)
                      have sl1 := Fi.run_from aa (T2 + pl) ac T2 (by omega)
                      rw [show T2 + pl - T2 = pl by omega] at sl1
                      have lx1 := lt_cell xb1
                      have lx2 := lt_cell g1
                      have lx3 := lt_cell cu
                      clear g5 g6 hgl hrow m4' n4' xb2 y6 y5 hil' hea hbl m2'' i2' y4 g4 buc ho hoN
                      go_wp2_with fail
                      refine U2.wp_region_tail_read 14 (by decide) (by kernel_rfl) (by kernel_rfl) (by kernel_rfl) (by kernel_rfl) ?_
                      dsimp only [List.take, List.drop]
                      repeat (quiet_step (fail))
                      refine wpQuiet_nil ?_
                      rintro w8 ⟨nq, rfl⟩
                      go_wp2_with fail
                      refine (hq nq).mono ?_
                      rintro e w9 ⟨rfl, hb9⟩
                      have HBl : Hid (Below w7.heap.size w7 w9) := Below.trans hbu.out (Below.mono (show Below wr.heap.size wr w9 from ⟨hb9.os, hb9.tape, hb9.output, hb9.size, hb9.block⟩) hbu.out.size)
                      clear hq hb9
                      go_wp2_with fail
                      all_goals first
                        | exact ⟨⟨u + 1, by omega, by go_num, HBl⟩, by simp [intOf]; omega⟩
                        | fail
                    · obtain rfl : rl = u := by omega
                      have HF : Hid (T2 + pl = tst g 0 (pcs.take (k + 1)) ∧ CL wr w3.heap.size i2 il (cum g il (ze il) (pcs.take (k + 1)))) := ⟨HTn.out.symm, HCn6.out.bel H6r.out⟩
                      clear huU
                      go_wp2_with fail
                      all_goals first
                        | exact ⟨⟨k + 1, i2, T2 + pl, by omega, by go_num, rfl, by push_cast; rfl, HF.out.1, HF.out.2, HBu.out.2⟩, by simp [intOf]; omega⟩
                        | fail
            · have hd : (z != 0) = true := by simp [hzz]
              have hrl : rl = 0 := by
                rw [HRR.out.2, HRR.out.1]
                unfold hrs
                rw [if_neg (by rw [← Hz.out]; exact hzz)]; rfl
              subst hrl
              have HN : Hid (T2 = tst g 0 (pcs.take (k + 1)) ∧ CL w5 w3.heap.size i2 M (cum g M (ze M) (pcs.take (k + 1)))) := by
                have h1 : er g p.ins p.n ≠ 0 := by rw [← Hz.out]; exact hzz
                rw [tst_step g Hp.out.1, cum_bad Hp.out.1 h1]
                unfold tnx
                rw [if_neg h1, ← hT.out]
                exact ⟨hT2.out, HCL5.out⟩
              clear hzz
              go_wp2_with fail
              exact ⟨⟨k + 1, i2, T2, by omega, by go_num, rfl, rfl, HN.out.1, HN.out.2, HB5.out.1⟩, by simp [intOf]; omega⟩
        · obtain rfl : m = k := by omega
          clear hCL hT
          go_wp2_with fail
          go_returns
          exact ⟨rfl, HBw.out⟩
  · have he := HQ.out.bad hn
    subst he
    have hw : nw g = ne0 g := by unfold nw; rw [if_neg hn]
    rw [hw] at qw
    have hd : (ne0 g != 0) = true := by simp [hn]
    obtain ⟨z, hz⟩ : ∃ z, z = ne0 g := ⟨_, rfl⟩
    rw [← hz] at qw hd hn
    have Hz : Hid (z = ne0 g) := hz
    rw [← hz]
    clear hz hw
    go_wp2_with fail
    refine qw.mono ?_
    rintro e w3 ⟨rfl, hb3⟩
    have HB3 : Hid (Below w.heap.size w w3) := HB2.out.trans (hb3.mono HB2.out.size)
    clear qw hb3
    go_wp2_with fail
    go_returns
    exact ⟨rfl, HB3.out⟩
end Go.Proofs.Ytjpcebnbkdekkaa.Gh
