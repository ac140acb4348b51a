/- How parts lie in memory; rows of parts that are being made. -/
import Derived.Test.YtaohahahhjkcdahX2
import Derived.Test.YtaohahahhjkcdahX4
import Derived.Deep.AppendLies
namespace Go.Proofs.Ytaohahahhjkcdah.X
open Go.RowKit Go.Maps
set_option linter.unusedVariables false
set_option linter.unusedSimpArgs false

/-- A part's cells. -/
def pcl (p : M.Pt) (ea : Option Addr) (ka : Option Addr) (kc : Nat) : List Value := [.int .i64 p.t, .int .i64 p.o, .int .i64 p.s, .slice ea p.ev.length p.ev.length, .slice ka p.kids.length kc]
structure C5 (w : World) (b o : Nat) (p : M.Pt) (ea : Option Addr) (ka : Option Addr) (kc : Nat) : Prop where
  c0 : w.cell? ⟨b, o, none⟩ = some (.int .i64 p.t)
  c1 : w.cell? ⟨b, o + 1, none⟩ = some (.int .i64 p.o)
  c2 : w.cell? ⟨b, o + 2, none⟩ = some (.int .i64 p.s)
  c3 : w.cell? ⟨b, o + 3, none⟩ = some (.slice ea p.ev.length p.ev.length)
  c4 : w.cell? ⟨b, o + 4, none⟩ = some (.slice ka p.kids.length kc)
/-- A part's kids as they lie, in blocks of S. -/
def PS (w : World) (S : Nat → Prop) : M.Pt → Option Addr → Prop
  | ⟨_, _, _, _, kids⟩, ka => 0 < kids.length → ∃ b off, ka = some ⟨b, off, none⟩ ∧ S b ∧ ∀ j k, (_ : k ∈ kids) → kids[j]? = some k → ∃ ea ka' kc, C5 w b (off + j * 5) k ea ka' kc ∧ (k.kids.length ≤ kc ∧ kc ≤ 9223372036854775807) ∧ EL w S ea k.ev ∧ PS w S k ka'
/-- A part by value. -/
structure PV (w : World) (S : Nat → Prop) (p : M.Pt) (ea : Option Addr) (ka : Option Addr) (kc : Nat) : Prop where
  n : p.kids.length ≤ kc ∧ kc ≤ 9223372036854775807
  e : EL w S ea p.ev
  k : PS w S p ka
/-- Parts as they lie. -/
structure PL (w : World) (S : Nat → Prop) (ao : Option Addr) (l : List M.Pt) : Prop where
  at' : 0 < l.length → ∃ b off, ao = some ⟨b, off, none⟩ ∧ S b ∧ ∀ j p, l[j]? = some p → ∃ ea ka kc, C5 w b (off + j * 5) p ea ka kc ∧ PV w S p ea ka kc
theorem PS.pl {w : World} {S : Nat → Prop} {p : M.Pt} {ka : Option Addr} (h : PS w S p ka) : PL w S ka p.kids := ⟨fun hn => by
  obtain ⟨t, o, s, ev, kids⟩ := p
  rw [PS] at h
  obtain ⟨b, off, h1, h2, h3⟩ := h hn
  refine ⟨b, off, h1, h2, fun j k hj => ?_⟩
  obtain ⟨ea, ka', kc, g1, g2, g3, g4⟩ := h3 j k (List.mem_of_getElem? hj) hj
  exact ⟨ea, ka', kc, g1, g2, g3, g4⟩⟩
theorem PL.ps {w : World} {S : Nat → Prop} {p : M.Pt} {ka : Option Addr} (h : PL w S ka p.kids) : PS w S p ka := by
  obtain ⟨t, o, s, ev, kids⟩ := p
  rw [PS]
  intro hn
  obtain ⟨b, off, h1, h2, h3⟩ := h.at' hn
  refine ⟨b, off, h1, h2, fun j k _ hj => ?_⟩
  obtain ⟨ea, ka', kc, g1, ⟨g2, g3, g4⟩⟩ := h3 j k hj
  exact ⟨ea, ka', kc, g1, g2, g3, g4⟩
theorem PS.keep {w w' : World} {S S' : Nat → Prop} (hk : Kp S w w') (hs : ∀ b, S b → S' b) (p : M.Pt) : ∀ ka, PS w S p ka → PS w' S' p ka := by
  induction p using M.Pt.ind with
  | h t o s ev kids ih =>
    intro ka h
    refine PL.ps ⟨fun hn => ?_⟩
    obtain ⟨b, off, h1, h2, h3⟩ := h.pl.at' hn
    refine ⟨b, off, h1, hs b h2, fun j k hj => ?_⟩
    obtain ⟨ea, ka', kc, g1, ⟨g2, g3, g4⟩⟩ := h3 j k hj
    exact ⟨ea, ka', kc, ⟨hk.cell h2 g1.c0, hk.cell h2 g1.c1, hk.cell h2 g1.c2, hk.cell h2 g1.c3, hk.cell h2 g1.c4⟩, g2, (g3.keep hk).mono hs, ih k (List.mem_of_getElem? hj) ka' g4⟩
theorem PV.keep {w w' : World} {S S' : Nat → Prop} {p : M.Pt} {ea : Option Addr} {ka : Option Addr} {kc : Nat} (h : PV w S p ea ka kc) (hk : Kp S w w') (hs : ∀ b, S b → S' b) : PV w' S' p ea ka kc :=
  ⟨h.n, (h.e.keep hk).mono hs, PS.keep hk hs p ka h.k⟩
theorem PL.keep {w w' : World} {S S' : Nat → Prop} {ao : Option Addr} {l : List M.Pt} (h : PL w S ao l) (hk : Kp S w w') (hs : ∀ b, S b → S' b) : PL w' S' ao l := ⟨fun hn => by
  obtain ⟨b, off, h1, h2, h3⟩ := h.at' hn
  refine ⟨b, off, h1, hs b h2, fun j s hj => ?_⟩
  obtain ⟨ea, ka', kc, g1, g2⟩ := h3 j s hj
  exact ⟨ea, ka', kc, ⟨hk.cell h2 g1.c0, hk.cell h2 g1.c1, hk.cell h2 g1.c2, hk.cell h2 g1.c3, hk.cell h2 g1.c4⟩, g2.keep hk hs⟩⟩

def rows (F : Nat → List Value) : Nat → List Value
  | 0 => []
  | k + 1 => rows F k ++ F k
theorem rows_len {F : Nat → List Value} {s : Nat} (h : ∀ j, (F j).length = s) (k : Nat) : (rows F k).length = k * s := by
  induction k with
  | zero => simp [rows]
  | succ k ih => rw [rows, List.length_append, ih, h, Nat.add_mul, Nat.one_mul]
theorem rows_get {F : Nat → List Value} {s : Nat} (h : ∀ j, (F j).length = s) (k j i : Nat) (hj : j < k) (hi : i < s) : (rows F k)[j * s + i]? = (F j)[i]? := by
  induction k with
  | zero => omega
  | succ k ih =>
    rw [rows]
    by_cases e : j = k
    · subst e
      rw [List.getElem?_append_right (by rw [rows_len h]; omega), rows_len h]
      congr 1; omega
    · have hjk : j < k := by omega
      have : j * s + s ≤ k * s := by rw [← Nat.succ_mul]; exact Nat.mul_le_mul_right s (by omega)
      rw [List.getElem?_append_left (by rw [rows_len h]; omega)]
      exact ih hjk
theorem rows_ext {F G : Nat → List Value} {k : Nat} (h : ∀ j, j < k → F j = G j) : rows F k = rows G k := by
  induction k with
  | zero => rfl
  | succ k ih => rw [rows, rows, ih (fun j hj => h j (by omega)), h k (by omega)]
def ex (R : Nat → List Value) (j : Nat) (c : List Value) (m : Nat) : List Value := if m = j then c else R m
theorem ex_rows {R : Nat → List Value} {j : Nat} {c : List Value} : rows (ex R j c) (j + 1) = rows R j ++ c := by
  rw [rows, rows_ext (F := ex R j c) (G := R) (fun m hm => if_neg (by omega))]
  congr 1
  exact if_pos rfl
theorem ex_len {R : Nat → List Value} {j L : Nat} {c : List Value} (h : ∀ m, (R m).length = L) (hc : c.length = L) : ∀ m, (ex R j c m).length = L := fun m => by
  unfold ex; split
  · exact hc
  · exact h m
/-- The blocks from base on, but for the row's own. -/
def Sb (base : Nat) (w : World) (v : Value) (b : Nat) : Prop := base ≤ b ∧ b < w.heap.size ∧ some b ≠ v.ownBlock
/-- v is a row of one's own that holds these parts. -/
structure OP (w : World) (base : Nat) (v : Value) (P : List M.Pt) : Prop where
  ex : ∃ C : Nat → List Value, w.ownsRow base 79 5 v P.length (rows C P.length) ∧ (∀ j, (C j).length = 5) ∧ ∀ j p, P[j]? = some p → ∃ ea ka kc, C j = pcl p ea ka kc ∧ PV w (Sb base w v) p ea ka kc
theorem OP.nil (w : World) (base : Nat) : OP w base (.slice none 0 0) [] := ⟨fun _ => [.bool false, .bool false, .bool false, .bool false, .bool false], World.ownsRow_nil _ _ _ _, fun _ => rfl, fun j p h => by simp at h⟩
theorem OP.bel {w w' : World} {base : Nat} {v : Value} {P : List M.Pt} (h : OP w base v P) (hb : Below w.heap.size w w') : OP w' base v P := by
  obtain ⟨C, h1, h2, h3⟩ := h.ex
  refine ⟨C, Z.own_step h1 (fun k hk => hb.block k (Z.own_lt h1 k hk)), h2, fun j p hj => ?_⟩
  obtain ⟨ea, ka, kc, g1, g2⟩ := h3 j p hj
  have := hb.size
  exact ⟨ea, ka, kc, g1, g2.keep (fun b hb' => hb.block b hb'.2.1) (fun b hb' => ⟨hb'.1, by have := hb'.2.1; omega, hb'.2.2⟩)⟩
theorem own_form {w : World} {base : Nat} {e : TypeId} {size : Nat} {v : Value} {n : Nat} {xs : List Value} (h : w.ownsRow base e size v n xs) : ∃ ao c, v = .slice ao n c ∧ n ≤ c ∧ c ≤ 9223372036854775807 := by
  rcases h.2 with ⟨h1, h2⟩ | ⟨g, cap, cur, h1, h2, h3, h4, hm, rest⟩
  · subst h2; exact ⟨none, 0, h1, by omega, by omega⟩
  · exact ⟨_, cap, h1, h4, by unfold maxLen at hm; omega⟩
theorem OP.form {w : World} {base : Nat} {v : Value} {P : List M.Pt} (h : OP w base v P) : ∃ ao c, v = .slice ao P.length c ∧ P.length ≤ c ∧ c ≤ 9223372036854775807 := by
  obtain ⟨C, h1, _⟩ := h.ex; exact own_form h1
theorem OP.lt {w : World} {base : Nat} {v : Value} {P : List M.Pt} (h : OP w base v P) : ∀ k, v.ownBlock = some k → base ≤ k ∧ k < w.heap.size := fun k hk => by
  obtain ⟨C, h1, _⟩ := h.ex; exact ⟨Z.own_block h1 k hk, Z.own_lt h1 k hk⟩
/-- Such a row lies as parts. -/
theorem OP.pl {w : World} {base : Nat} {v : Value} {P : List M.Pt} (h : OP w base v P) : ∃ ao c, v = .slice ao P.length c ∧ P.length ≤ c ∧ c ≤ 9223372036854775807 ∧ PL w (fun b => base ≤ b ∧ b < w.heap.size) ao P := by
  obtain ⟨C, h1, h2, h3⟩ := h.ex
  have hs : ∀ b, Sb base w v b → base ≤ b ∧ b < w.heap.size := fun b hb => ⟨hb.1, hb.2.1⟩
  rcases h1.2 with ⟨e1, e2⟩ | ⟨g, cap, cur, e1, e2, e3, e4, hm, rest⟩
  · rw [e2, e1]
    exact ⟨none, 0, rfl, by omega, by omega, ⟨fun h => by omega⟩⟩
  · refine ⟨some ⟨g, 0, none⟩, cap, e1, e4, by unfold maxLen at hm; omega, ⟨fun hn => ⟨g, 0, rfl, ⟨e2, (Array.getElem?_eq_some_iff.1 e3).1⟩, fun j p hj => ?_⟩⟩⟩
    subst e1
    have hjl : j < P.length := (List.getElem?_eq_some_iff.1 hj).1
    obtain ⟨ea, ka, kc, g1, g2⟩ := h3 j p hj
    have hc := fun i (hi : i < 5) => (World.ownsRow.cellAt h1 (j * 5 + i) (by omega)).trans (rows_get h2 P.length j i hjl hi)
    rw [g1] at hc
    rw [Nat.zero_add]
    exact ⟨ea, ka, kc, ⟨hc 0 (by omega), hc 1 (by omega), hc 2 (by omega), hc 3 (by omega), hc 4 (by omega)⟩, g2.keep (fun _ _ => rfl) hs⟩
theorem infoP : (Try.prog.info? 79).map (fun i => (i.zero, i.size, i.bytes)) = some (some (.agg #[.int .i64 0, .int .i64 0, .int .i64 0, .slice none 0 0, .slice none 0 0]), 5, 72) := by kernel_rfl
theorem part_news {w : World} {g : Nat} {c0 c1 c2 c3 c4 : Value} (h0 : w.cell? ⟨g, 0, none⟩ = some c0) (h1 : w.cell? ⟨g, 1, none⟩ = some c1) (h2 : w.cell? ⟨g, 2, none⟩ = some c2) (h3 : w.cell? ⟨g, 3, none⟩ = some c3) (h4 : w.cell? ⟨g, 4, none⟩ = some c4) : ∀ j u, ([c0, c1, c2, c3, c4] : List Value)[j]? = some u → w.cell? ((⟨g, 0, none⟩ : Addr).add j) = some u := by
  intro j u hj
  match j, hj with
  | 0, hj => simp at hj; subst hj; simpa [Addr.add] using h0
  | 1, hj => simp at hj; subst hj; simpa [Addr.add] using h1
  | 2, hj => simp at hj; subst hj; simpa [Addr.add] using h2
  | 3, hj => simp at hj; subst hj; simpa [Addr.add] using h3
  | 4, hj => simp at hj; subst hj; simpa [Addr.add] using h4
  | j + 5, hj => simp at hj
/-- A part appended. -/
theorem OP.put {w w' : World} {base : Nat} {v v' : Value} {P : List M.Pt} (C : Nat → List Value) (h2 : ∀ j, (C j).length = 5) (h3 : ∀ j p, P[j]? = some p → ∃ ea ka kc, C j = pcl p ea ka kc ∧ PV w (Sb base w v) p ea ka kc)
    (hk : ∀ b, Sb base w v b → w'.heap[b]? = w.heap[b]? ∧ some b ≠ v'.ownBlock) (hz : w.heap.size ≤ w'.heap.size) {p : M.Pt} {ea ka : Option Addr} {kc : Nat}
    (hr : w'.ownsRow base 79 5 v' (P.length + 1) (rows C P.length ++ pcl p ea ka kc))
    (hp : PV w' (Sb base w' v') p ea ka kc) : OP w' base v' (P ++ [p]) := by
  refine ⟨X.ex C P.length (pcl p ea ka kc), ?_, ex_len h2 rfl, fun j q hj => ?_⟩
  · rw [List.length_append, List.length_cons, List.length_nil, ex_rows]; exact hr
  · by_cases e : j < P.length
    · rw [List.getElem?_append_left e] at hj
      obtain ⟨ea', ka', kc', g1, g2⟩ := h3 j q hj
      exact ⟨ea', ka', kc', (if_neg (by omega)).trans g1, g2.keep (fun b hb => (hk b hb).1) (fun b hb => ⟨hb.1, by have := hb.2.1; omega, (hk b hb).2⟩)⟩
    · have hjl : j < (P ++ [p]).length := (List.getElem?_eq_some_iff.1 hj).1
      simp at hjl
      obtain rfl : j = P.length := by omega
      rw [List.getElem?_append_right (Nat.le_refl _)] at hj
      simp at hj
      subst hj
      exact ⟨ea, ka, kc, if_pos rfl, hp⟩
end Go.Proofs.Ytaohahahhjkcdah.X
