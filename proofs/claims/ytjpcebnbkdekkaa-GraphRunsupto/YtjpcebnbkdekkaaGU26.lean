/- A graph among a law's arguments, as the walks ask for it. -/
import Derived.Test.YtjpcebnbkdekkaaGU19
import Derived.Test.YtjpcebnbkdekkaaGU25
import Derived.Test.YtjpcebnbkdekkaaGU24
import Derived.SizedLaws
namespace Go.Proofs.Ytjpcebnbkdekkaa.Gh
open Go.ChangeShapes Go.WideShapes Go.ChangeAt Go.RowKit Go.Joins Go.Deep
set_option linter.unusedVariables false

/-- All that a datum holds is within reach. -/
def Szd {H : Type} (P : Program) (t : TypeId) (d : DataW H) : Prop := ∀ m ∈ d.weights P t, m ≤ reachBytes
theorem weightsAll_in {H : Type} {P : Program} {e : TypeId} : ∀ {l : List (DataW H)} {d : DataW H}, d ∈ l → ∀ n ∈ d.weights P e, n ∈ DataW.weightsAll P e l
  | d' :: r, d, hd, n, hn => by
    simp only [DataW.weightsAll, List.mem_append]
    rcases List.mem_cons.1 hd with rfl | h
    · exact Or.inl hn
    · exact Or.inr (weightsAll_in h n hn)
theorem Szd.field {H : Type} {P : Program} {t : TypeId} {fs : Array Field} {parts : List (DataW H)} (ht : P.underlying t = some (.struct fs)) (h : Szd P t (.agg parts)) {i : Nat} {f : Field} {y : DataW H} (hf : fs[i]? = some f) (hy : parts[i]? = some y) : Szd P f.type y := fun m hm => h m (by
  simp only [DataW.weights, ht]
  exact DataW.weights_mem_each (j := i) (by rw [List.getElem?_map, Array.getElem?_toList, hf]; rfl) hy m hm)
theorem Szd.elem {H : Type} {P : Program} {t e : TypeId} {elems spare : List (DataW H)} (ht : P.underlying t = some (.slice e)) (h : Szd P t (.slice elems spare)) {y : DataW H} (hy : y ∈ elems) : Szd P e y := fun m hm => h m (by
  simp only [DataW.weights, ht, List.mem_cons, List.mem_append]
  exact Or.inr (Or.inl (weightsAll_in hy m hm)))
theorem Szd.len {H : Type} {P : Program} {t e : TypeId} {elems spare : List (DataW H)} (ht : P.underlying t = some (.slice e)) (h : Szd P t (.slice elems spare)) : (elems.length + spare.length) * P.bytesOf e ≤ reachBytes := h _ (by simp [DataW.weights, ht])
/-- A list among a datum's parts, its elements opened by q. -/
theorem open_row {H : Type} {enc : TypeId × Value → H} {W : World} {α : Type} (inh : Inhabited α) {fuel : Nat} {t e : TypeId} {cs : List Value} {x : DataW H × List MemPlace} (k : Nat) (hk : Try.prog.cellsOf e = k) (hk0 : 0 < k) (ht : Try.prog.underlying t = some (.slice e))
    (h : DataW.trod enc Try.prog W 0 (fun _ => true) true fuel t cs = some x) (hs : Szd Try.prog t x.1) (q : α → List Value → Prop)
    (hq : ∀ n cs' y, n < fuel → DataW.trod enc Try.prog W 0 (fun _ => true) true n e cs' = some y → Szd Try.prog e y.1 → ∃ a, q a cs') :
    ∃ (ao : Option Addr) (cap : Nat) (L : List α), cs = [.slice ao L.length cap] ∧ L.length ≤ cap ∧ cap ≤ 9223372036854775807 ∧ (ao = none → cap = 0) ∧ L.length * Try.prog.bytesOf e ≤ reachBytes ∧ (0 < L.length → ∃ b off, ao = some ⟨b, off, none⟩ ∧ b < W.heap.size ∧ ∀ i a, L[i]? = some a → ∃ cs', q a cs' ∧ cs'.length = k ∧ ∀ j, j < k → W.cell? ⟨b, off + (i * k + j), none⟩ = cs'[j]?) := by
  rcases DataW.trod_slice ht h with ⟨h0, _⟩ | ⟨a, len, cap, elems, rest, n2, hn2, h0, hx, _, hlc, hm, hlen, hel, _, _⟩
  · exact ⟨none, 0, [], h0, by simp, by omega, fun _ => rfl, by simp, fun h => by simp at h⟩
  · rw [hk] at hel
    rw [hx] at hs
    have each : ∀ i, i < len → ∃ v : α, ∃ cs', q v cs' ∧ cs'.length = k ∧ ∀ j, j < k → W.cell? (a.add (i * k + j)) = cs'[j]? := fun i hi => by
      have key := hel i hi
      rw [List.getElem?_eq_getElem (by omega)] at key
      obtain ⟨cs', g1, g2⟩ := Option.bind_eq_some_iff.1 key
      obtain ⟨v, hv⟩ := hq n2 cs' _ (by omega) g2 (hs.elem ht (List.mem_map.2 ⟨elems[i], List.getElem_mem _, rfl⟩))
      obtain ⟨_, hl, hc⟩ := World.cells?_some g1
      refine ⟨v, cs', hv, hl, fun j hj => ?_⟩
      have := hc j hj
      rw [Fi.add_two] at this
      exact this
    obtain ⟨V, hV⟩ := choose_lt (α := α) (p := fun i v => ∃ cs', q v cs' ∧ cs'.length = k ∧ ∀ j, j < k → W.cell? (a.add (i * k + j)) = cs'[j]?) each
    have hL : ((List.range len).map V).length = len := by simp
    have hby : ((List.range len).map V).length * Try.prog.bytesOf e ≤ reachBytes := by
      rw [hL]
      refine Nat.le_trans (Nat.mul_le_mul_right _ ?_) (hs.len ht)
      rw [List.length_map]
      omega
    refine ⟨some a, cap, (List.range len).map V, by rw [hL]; exact h0, by rw [hL]; exact hlc, by unfold maxLen at hm; omega, fun q => (by cases q), hby, fun hn => ?_⟩
    rw [hL] at hn
    obtain ⟨cs0, _, hl0, hc0⟩ := hV 0 hn
    have hc00 := hc0 0 hk0
    rw [Nat.zero_mul, Nat.zero_add, List.getElem?_eq_getElem (by omega)] at hc00
    have hsp := World.cell?_spot hc00
    have hsp0 : a.spot = none := by simpa [Addr.add] using hsp
    obtain ⟨b, off, sp⟩ := a
    simp only at hsp0
    subst hsp0
    refine ⟨b, off, rfl, ?_, fun i v hi => ?_⟩
    · rw [add_plain] at hc00
      exact block_lt_of_cell hc00
    · obtain ⟨hil, hie⟩ := List.getElem?_eq_some_iff.1 hi
      rw [hL] at hil
      have he : V i = v := by simpa using hie
      obtain ⟨cs', h1, h2, h3⟩ := hV i hil
      rw [he] at h1
      exact ⟨cs', h1, h2, fun j hj => by have := h3 j hj; rw [add_plain] at this; exact this⟩
theorem u32nat {a : Int} (h : (Lit.int .u32 a).wf = true) : ∃ n : Nat, a = n ∧ n < 4294967296 := by
  have h1 : (0 : Int) ≤ a ∧ a ≤ 4294967295 := by simpa [Lit.wf, IntKind.min, IntKind.max, IntKind.signed, IntKind.bits] using h
  exact ⟨a.toNat, by omega, by omega⟩
theorem zl_of {H : Type} {enc : TypeId × Value → H} {W : World} {fuel : Nat} {cs : List Value} {x : DataW H × List MemPlace} (hf : DataW.trod enc Try.prog W 0 (fun _ => true) true fuel 23 cs = some x) (hs : Szd Try.prog 23 x.1) :
    ∃ (ao : Option Addr) (c : Nat) (l : List Int), cs = [.slice ao l.length c] ∧ l.length ≤ c ∧ c ≤ 9223372036854775807 ∧ (ao = none → c = 0) ∧ l.length ≤ 17592186044416 ∧ ZL W (fun b => b < W.heap.size) ao l := by
  have hC : Try.prog.cellsOf 3 = 1 := by kernel_rfl
  have hB : Try.prog.bytesOf 3 = 8 := by kernel_rfl
  obtain ⟨ao, cap, L, h0, h1, h2, h2b, hby, h3⟩ := open_row (⟨0⟩ : Inhabited Int) 1 hC (by omega) Try.underlying23 hf hs (fun x cs' => cs' = [.int .i64 x]) (fun m cs' y hm hy _ => by
    obtain ⟨k0, e0, _, wf⟩ := DataW.trod_int Try.underlying3 hy
    exact ⟨k0, e0⟩)
  rw [hB] at hby
  have := reachBytes_lt
  refine ⟨ao, cap, L, h0, h1, h2, h2b, by omega, ⟨fun hn => ?_⟩⟩
  obtain ⟨b, off, g1, g2, g3⟩ := h3 hn
  refine ⟨b, off, g1, g2, g2, fun i t hi => ?_⟩
  obtain ⟨cs', rfl, _, h4⟩ := g3 i t hi
  have := h4 0 (by omega)
  rw [Nat.mul_one, Nat.add_zero] at this
  exact this
/-- A node's cells. -/
def NdQ (W : World) (d : Nd) (cs : List Value) : Prop := ∃ fo fc, cs = (nc d fo fc).toList ∧ NA W (fun b => b < W.heap.size) d fo fc
set_option maxRecDepth 100000 in
theorem node_cells {H : Type} {enc : TypeId × Value → H} {W : World} {fuel : Nat} {cs : List Value} {x : DataW H × List MemPlace} (h : DataW.trod enc Try.prog W 0 (fun _ => true) true fuel 53 cs = some x) (hs : Szd Try.prog 53 x.1) : ∃ d, NdQ W d cs := by
  have hC : Try.prog.cellsOf 53 = 16 := by kernel_rfl
  have h3 : Try.prog.cellsOf 3 = 1 := by kernel_rfl
  have hU : Try.prog.cellsOf 49 = 1 := by kernel_rfl
  have hF : Try.prog.cellsOf 46 = 1 := by kernel_rfl
  have hS : Try.prog.cellsOf 23 = 1 := by kernel_rfl
  have hK : Try.prog.cellsOf 48 = 5 := by kernel_rfl
  have hP : Try.prog.cellsOf 51 = 7 := by kernel_rfl
  obtain ⟨xs, n, hfu, hx, hl, hxl, hf⟩ := DataW.trod_struct Try.underlying53 h
  rw [hC] at hl
  rw [hx] at hs
  match xs, hxl, cs, hl with
  | [y0, y1, y2, y3, y4, y5], _, [c0, c1, c2, c3, c4, c5, c6, c7, c8, c9, c10, c11, c12, c13, c14, c15], _ =>
    have t0 := hf 0 _ rfl
    have t1 := hf 1 _ rfl
    have t2 := hf 2 _ rfl
    have t3 := hf 3 _ rfl
    have t4 := hf 4 _ rfl
    have t5 := hf 5 _ rfl
    have s1 := hs.field Try.underlying53 (i := 1) rfl rfl
    simp only at s1
    simp [h3, hF, hS, hK, hP] at t0 t1 t2 t3 t4 t5
    obtain ⟨a0, e0, _⟩ := DataW.trod_int Try.underlying3 t0
    obtain ⟨fo, fc, fl, e1, f1, f2, f3, f4, f5⟩ := zl_of t1 s1
    obtain ⟨a2, e2, _⟩ := DataW.trod_int Try.underlying3 t2
    obtain ⟨a3, e3, w3⟩ := Fi.trod_float Try.underlying46 t3
    obtain ⟨us, _, _, _, ul, ulen, uf⟩ := DataW.trod_struct Try.underlying48 t4
    obtain ⟨vs, _, _, _, vl, vlen, vf⟩ := DataW.trod_struct Try.underlying51 t5
    match us, ulen, vs, vlen with
    | [z0, z1, z2, z3, z4], _, [p0, p1, p2, p3, p4, p5, p6], _ =>
      have u0 := uf 0 _ rfl
      have u1 := uf 1 _ rfl
      have u2 := uf 2 _ rfl
      have u3 := uf 3 _ rfl
      have u4 := uf 4 _ rfl
      have v0 := vf 0 _ rfl
      have v1 := vf 1 _ rfl
      have v2 := vf 2 _ rfl
      have v3 := vf 3 _ rfl
      have v4 := vf 4 _ rfl
      have v5 := vf 5 _ rfl
      have v6 := vf 6 _ rfl
      simp [h3, hU, hF] at u0 u1 u2 u3 u4 v0 v1 v2 v3 v4 v5 v6
      obtain ⟨b0, g0, _⟩ := Fi.trod_float Try.underlying46 u0
      obtain ⟨b1, g1, _⟩ := Fi.trod_float Try.underlying46 u1
      obtain ⟨b2, g2, _⟩ := Fi.trod_float Try.underlying46 u2
      obtain ⟨b3, g3, _⟩ := Fi.trod_float Try.underlying46 u3
      obtain ⟨b4, g4, _⟩ := Fi.trod_float Try.underlying46 u4
      obtain ⟨k0, l0, _⟩ := DataW.trod_int Try.underlying3 v0
      obtain ⟨k1, l1, _, q1⟩ := DataW.trod_int Try.underlying49 v1
      obtain ⟨k2, l2, q2⟩ := Fi.trod_float Try.underlying46 v2
      obtain ⟨k3, l3, _⟩ := DataW.trod_int Try.underlying3 v3
      obtain ⟨k4, l4, _⟩ := DataW.trod_int Try.underlying3 v4
      obtain ⟨k5, l5, _⟩ := DataW.trod_int Try.underlying3 v5
      obtain ⟨k6, l6, _⟩ := DataW.trod_int Try.underlying3 v6
      obtain ⟨st, rfl, hst⟩ := u32nat q1
      simp at e0 e1 e2 l0 l1 l3 l4 l5 l6
      subst e0 e1 e2 e3 g0 g1 g2 g3 g4 l0 l1 l2 l3 l4 l5 l6
      exact ⟨⟨a0, fl, a2, a3, ⟨b0, b1, b2, b3, b4⟩, ⟨k0, st, k2, k3, k4, k5, k6⟩⟩, fo, fc, rfl, ⟨f5, f1, f2, f3, Fi.fbd w3, Fi.fbd q2, hst, f4⟩⟩
theorem array3 {α : Type} {cs : Array α} (h : cs.size = 3) : ∃ c0 c1 c2, cs = #[c0, c1, c2] := by
  obtain ⟨l⟩ := cs
  match l, h with
  | [c0, c1, c2], _ => exact ⟨c0, c1, c2, rfl⟩
set_option maxRecDepth 100000 in
theorem open_graph {H : Type} {enc : TypeId × Value → H} {W : World} {r : Reach} {b0 : Nat} {v : Value} {d : DataW H} {p : List MemPlace}
    (hv : Value.okWide Try.prog W r b0 25 v) (h : DataW.Trod enc Try.prog W 0 (fun _ => true) true 25 v d p) (hs : Szd Try.prog 25 d) :
    ∃ (g : Gr) (go uo : Option Addr) (gc uc : Nat), v = gvg g go uo gc uc ∧ GH W (fun b => b < W.heap.size) g go uo gc uc := by
  have hC : Try.prog.cellsOf 25 = 3 := by kernel_rfl
  have hN : Try.prog.cellsOf 53 = 16 := by kernel_rfl
  have h3 : Try.prog.cellsOf 3 = 1 := by kernel_rfl
  have hS : Try.prog.cellsOf 23 = 1 := by kernel_rfl
  have hSN : Try.prog.cellsOf 22 = 1 := by kernel_rfl
  obtain ⟨cs, rfl, hsz⟩ := okWide_struct Try.underlying25 hv
  obtain ⟨c0, c1, c2, rfl⟩ := array3 (hsz.trans hC)
  obtain ⟨fuel, hf⟩ := h
  obtain ⟨xs, n, _, hx, hl, hlen, hff⟩ := DataW.trod_struct Try.underlying25 hf
  have hx' := (Prod.mk.inj hx).1
  rw [hx'] at hs
  match xs, hlen with
  | [y0, y1, y2], _ =>
    have t0 := hff 0 _ rfl
    have t1 := hff 1 _ rfl
    have t2 := hff 2 _ rfl
    have s1 := hs.field Try.underlying25 (i := 1) rfl rfl
    have s2 := hs.field Try.underlying25 (i := 2) rfl rfl
    simp only at s1 s2
    simp [Value.cells, h3, hS, hSN] at t0 t1 t2
    obtain ⟨a0, e0, _⟩ := DataW.trod_int Try.underlying3 t0
    obtain ⟨go, gc, L, e1, h1, h2, h2b, _, hrow⟩ := open_row (⟨⟨0, [], 0, 0, ⟨0, 0, 0, 0, 0⟩, ⟨0, 0, 0, 0, 0, 0, 0⟩⟩⟩ : Inhabited Nd) 16 hN (by omega) Try.underlying22 t1 s1 (NdQ W) (fun m cs' y hm hy hz => node_cells hy hz)
    obtain ⟨uo, uc, ul, e2, f1, f2, f3, f4, f5⟩ := zl_of t2 s2
    simp at e0 e1 e2
    subst e0 e1 e2
    refine ⟨⟨a0, L, ul⟩, go, uo, gc, uc, rfl, ⟨⟨fun i d hd => ?_⟩, h1, f5, f1, f2, f3⟩⟩
    obtain ⟨b, off, g1, g2, g3⟩ := hrow (by have := (List.getElem?_eq_some_iff.1 hd).1; exact Nat.lt_of_le_of_lt (Nat.zero_le _) this)
    obtain ⟨cs', ⟨fo, fc, rfl, hNA⟩, hl', hc'⟩ := g3 i d hd
    refine ⟨b, off, fo, fc, g1, g2, g2, fun j v hv => ?_, hNA⟩
    have hj : j < 16 := (Array.getElem?_eq_some_iff.1 hv).1
    have := hc' j hj
    rw [Array.getElem?_toList, hv] at this
    rw [Nat.add_assoc]
    exact this
set_option maxRecDepth 100000 in
theorem open_rows {H : Type} {enc : TypeId × Value → H} {W : World} {r : Reach} {b0 : Nat} {v : Value} {d : DataW H} {p : List MemPlace}
    (hv : Value.okWide Try.prog W r b0 32 v) (h : DataW.Trod enc Try.prog W 0 (fun _ => true) true 32 v d p) (hs : Szd Try.prog 32 d) :
    ∃ (ao : Option Addr) (c n : Nat) (ps : List (List Nat)), v = .slice ao n c ∧ ps.length = n ∧ n ≤ c ∧ c ≤ 9223372036854775807 ∧ (ao = none → c = 0) ∧ Fi.PL W W.heap.size ao ps ∧ n * 24 ≤ reachBytes := by
  have hC : Try.prog.cellsOf 38 = 1 := by kernel_rfl
  have hB : Try.prog.bytesOf 38 = 24 := by kernel_rfl
  obtain ⟨a0, len0, cap0, rfl⟩ := okWide_slice Try.underlying32 hv
  obtain ⟨fuel, hf⟩ := h
  obtain ⟨ao, cap, L, h0, h1, h2, h2b, hby, h3⟩ := open_row (⟨[]⟩ : Inhabited (List Nat)) 1 hC (by omega) Try.underlying32 hf hs (fun l cs' => ∃ xa xc, cs' = [.slice xa l.length xc] ∧ l.length ≤ xc ∧ xc ≤ 9223372036854775807 ∧ (xa = none → xc = 0) ∧ Fi.IL W (fun k => k < W.heap.size) xa l) (fun m cs' y hm hy _ => by
    obtain ⟨xa, xc, l, e1, e2, e3, e4, e5⟩ := Fi.floats_of hy
    exact ⟨l, xa, xc, e1, e2, e3, e4, e5⟩)
  have e : Value.slice a0 len0 cap0 = .slice ao L.length cap := by simpa [Value.cells] using h0
  rw [hB] at hby
  refine ⟨ao, cap, L.length, L, e, rfl, h1, h2, h2b, ⟨fun hn => ?_⟩, hby⟩
  obtain ⟨b, off, g1, g2, g3⟩ := h3 hn
  refine ⟨b, off, g1, g2, fun i t hi => ?_⟩
  obtain ⟨cs', ⟨xa, xc, rfl, g5, g6, g7, g8⟩, _, h4⟩ := g3 i t hi
  have := h4 0 (by omega)
  rw [Nat.mul_one, Nat.add_zero] at this
  exact ⟨xa, xc, this, g5, g6, g7, g8⟩
end Go.Proofs.Ytjpcebnbkdekkaa.Gh

/- A graph with its sizes, and a list of numbers, among a law's arguments. -/
namespace Go.Proofs.Ytjpcebnbkdekkaa.Gh
open Go.ChangeShapes Go.WideShapes Go.ChangeAt Go.RowKit Go.Joins Go.Deep
set_option linter.unusedVariables false

set_option maxRecDepth 100000 in
theorem open_graph2 {H : Type} {enc : TypeId × Value → H} {W : World} {r : Reach} {b0 : Nat} {v : Value} {d : DataW H} {p : List MemPlace}
    (hv : Value.okWide Try.prog W r b0 25 v) (h : DataW.Trod enc Try.prog W 0 (fun _ => true) true 25 v d p) (hs : Szd Try.prog 25 d) :
    ∃ (g : Gr) (go uo : Option Addr) (gc uc : Nat), v = gvg g go uo gc uc ∧ GH W (fun b => b < W.heap.size) g go uo gc uc ∧ g.nodes.length ≤ 977343669134 ∧ g.outs.length ≤ 17592186044416 := by
  have hC : Try.prog.cellsOf 25 = 3 := by kernel_rfl
  have hN : Try.prog.cellsOf 53 = 16 := by kernel_rfl
  have h3 : Try.prog.cellsOf 3 = 1 := by kernel_rfl
  have hS : Try.prog.cellsOf 23 = 1 := by kernel_rfl
  have hSN : Try.prog.cellsOf 22 = 1 := by kernel_rfl
  obtain ⟨cs, rfl, hsz⟩ := okWide_struct Try.underlying25 hv
  obtain ⟨c0, c1, c2, rfl⟩ := array3 (hsz.trans hC)
  obtain ⟨fuel, hf⟩ := h
  obtain ⟨xs, n, _, hx, hl, hlen, hff⟩ := DataW.trod_struct Try.underlying25 hf
  have hx' := (Prod.mk.inj hx).1
  rw [hx'] at hs
  match xs, hlen with
  | [y0, y1, y2], _ =>
    have t0 := hff 0 _ rfl
    have t1 := hff 1 _ rfl
    have t2 := hff 2 _ rfl
    have s1 := hs.field Try.underlying25 (i := 1) rfl rfl
    have s2 := hs.field Try.underlying25 (i := 2) rfl rfl
    simp only at s1 s2
    simp [Value.cells, h3, hS, hSN] at t0 t1 t2
    obtain ⟨a0, e0, _⟩ := DataW.trod_int Try.underlying3 t0
    obtain ⟨go, gc, L, e1, h1, h2, h2b, hby, hrow⟩ := open_row (⟨⟨0, [], 0, 0, ⟨0, 0, 0, 0, 0⟩, ⟨0, 0, 0, 0, 0, 0, 0⟩⟩⟩ : Inhabited Nd) 16 hN (by omega) Try.underlying22 t1 s1 (NdQ W) (fun m cs' y hm hy hz => node_cells hy hz)
    obtain ⟨uo, uc, ul, e2, f1, f2, f3, f4, f5⟩ := zl_of t2 s2
    have hB : Try.prog.bytesOf 53 = 144 := by kernel_rfl
    rw [hB] at hby
    have hrb := reachBytes_lt
    simp at e0 e1 e2
    subst e0 e1 e2
    refine ⟨⟨a0, L, ul⟩, go, uo, gc, uc, rfl, ⟨⟨fun i d hd => ?_⟩, h1, f5, f1, f2, f3⟩, by show L.length ≤ _; omega, f4⟩
    obtain ⟨b, off, g1, g2, g3⟩ := hrow (by have := (List.getElem?_eq_some_iff.1 hd).1; exact Nat.lt_of_le_of_lt (Nat.zero_le _) this)
    obtain ⟨cs', ⟨fo, fc, rfl, hNA⟩, hl', hc'⟩ := g3 i d hd
    refine ⟨b, off, fo, fc, g1, g2, g2, fun j v hv => ?_, hNA⟩
    have hj : j < 16 := (Array.getElem?_eq_some_iff.1 hv).1
    have := hc' j hj
    rw [Array.getElem?_toList, hv] at this
    rw [Nat.add_assoc]
    exact this
set_option maxRecDepth 100000 in
theorem open_zl {H : Type} {enc : TypeId × Value → H} {W : World} {r : Reach} {b0 : Nat} {v : Value} {d : DataW H} {p : List MemPlace}
    (hv : Value.okWide Try.prog W r b0 23 v) (h : DataW.Trod enc Try.prog W 0 (fun _ => true) true 23 v d p) (hs : Szd Try.prog 23 d) :
    ∃ (ao : Option Addr) (c n : Nat) (l : List Int), v = .slice ao n c ∧ l.length = n ∧ n ≤ c ∧ c ≤ 9223372036854775807 ∧ n ≤ 17592186044416 ∧ ZL W (fun b => b < W.heap.size) ao l := by
  obtain ⟨a0, len0, cap0, rfl⟩ := okWide_slice Try.underlying23 hv
  obtain ⟨fuel, hf⟩ := h
  obtain ⟨ao, c, l, e, h1, h2, h3, h4, h5⟩ := zl_of hf hs
  have e' : Value.slice a0 len0 cap0 = .slice ao l.length c := by simpa [Value.cells] using e
  exact ⟨ao, c, l.length, l, e', rfl, h1, h2, h4, h5⟩
end Go.Proofs.Ytjpcebnbkdekkaa.Gh

/- A graph and a list of numbers among a law's arguments, with what their bulk says. -/
namespace Go.Proofs.Ytjpcebnbkdekkaa.Gh
open Go.ChangeShapes Go.WideShapes Go.ChangeAt Go.RowKit Go.Joins Go.Deep
set_option linter.unusedVariables false

set_option maxRecDepth 100000 in
theorem open_graph3 {H : Type} {enc : TypeId × Value → H} {W : World} {r : Reach} {b0 : Nat} {v : Value} {d : DataW H} {p : List MemPlace}
    (hv : Value.okWide Try.prog W r b0 25 v) (h : DataW.Trod enc Try.prog W 0 (fun _ => true) true 25 v d p) (hs : Szd Try.prog 25 d) :
    ∃ (g : Gr) (go uo : Option Addr) (gc uc : Nat), v = gvg g go uo gc uc ∧ GH W (fun b => b < W.heap.size) g go uo gc uc ∧ g.nodes.length ≤ 977343669134 ∧ g.outs.length ≤ 17592186044416 ∧ g.outs.length ≤ Rows.uptoBulk d := by
  have hC : Try.prog.cellsOf 25 = 3 := by kernel_rfl
  have hN : Try.prog.cellsOf 53 = 16 := by kernel_rfl
  have h3 : Try.prog.cellsOf 3 = 1 := by kernel_rfl
  have hS : Try.prog.cellsOf 23 = 1 := by kernel_rfl
  have hSN : Try.prog.cellsOf 22 = 1 := by kernel_rfl
  obtain ⟨cs, rfl, hsz⟩ := okWide_struct Try.underlying25 hv
  obtain ⟨c0, c1, c2, rfl⟩ := array3 (hsz.trans hC)
  obtain ⟨fuel, hf⟩ := h
  obtain ⟨xs, n, _, hx, hl, hlen, hff⟩ := DataW.trod_struct Try.underlying25 hf
  have hx' := (Prod.mk.inj hx).1
  rw [hx'] at hs
  match xs, hlen with
  | [y0, y1, y2], _ =>
    have t0 := hff 0 _ rfl
    have t1 := hff 1 _ rfl
    have t2 := hff 2 _ rfl
    have s1 := hs.field Try.underlying25 (i := 1) rfl rfl
    have s2 := hs.field Try.underlying25 (i := 2) rfl rfl
    simp only at s1 s2
    simp [Value.cells, h3, hS, hSN] at t0 t1 t2
    obtain ⟨a0, e0, _⟩ := DataW.trod_int Try.underlying3 t0
    obtain ⟨go, gc, L, e1, h1, h2, h2b, hby, hrow⟩ := open_row (⟨⟨0, [], 0, 0, ⟨0, 0, 0, 0, 0⟩, ⟨0, 0, 0, 0, 0, 0, 0⟩⟩⟩ : Inhabited Nd) 16 hN (by omega) Try.underlying22 t1 s1 (NdQ W) (fun m cs' y hm hy hz => node_cells hy hz)
    obtain ⟨uo, uc, ul, e2, f1, f2, f3, f4, f5⟩ := zl_of t2 s2
    have hbu : ul.length ≤ Rows.uptoBulk y2.1 := Fi.rowr_bulk Try.underlying23 (x := y2) (by rw [← e2]; exact t2)
    have hbd : Rows.uptoBulk y2.1 ≤ Rows.uptoBulk d := by rw [hx']; simp only [List.map_cons, List.map_nil, Rows.uptoBulk, Rows.uptoBulkAll]; omega
    have hB : Try.prog.bytesOf 53 = 144 := by kernel_rfl
    rw [hB] at hby
    have hrb := reachBytes_lt
    simp at e0 e1 e2
    subst e0 e1 e2
    refine ⟨⟨a0, L, ul⟩, go, uo, gc, uc, rfl, ⟨⟨fun i d hd => ?_⟩, h1, f5, f1, f2, f3⟩, by show L.length ≤ _; omega, f4, Nat.le_trans hbu hbd⟩
    obtain ⟨b, off, g1, g2, g3⟩ := hrow (by have := (List.getElem?_eq_some_iff.1 hd).1; exact Nat.lt_of_le_of_lt (Nat.zero_le _) this)
    obtain ⟨cs', ⟨fo, fc, rfl, hNA⟩, hl', hc'⟩ := g3 i d hd
    refine ⟨b, off, fo, fc, g1, g2, g2, fun j v hv => ?_, hNA⟩
    have hj : j < 16 := (Array.getElem?_eq_some_iff.1 hv).1
    have := hc' j hj
    rw [Array.getElem?_toList, hv] at this
    rw [Nat.add_assoc]
    exact this
set_option maxRecDepth 100000 in
theorem open_zlb {H : Type} {enc : TypeId × Value → H} {W : World} {r : Reach} {b0 : Nat} {v : Value} {d : DataW H} {p : List MemPlace}
    (hv : Value.okWide Try.prog W r b0 23 v) (h : DataW.Trod enc Try.prog W 0 (fun _ => true) true 23 v d p) (hs : Szd Try.prog 23 d) :
    ∃ (ao : Option Addr) (c n : Nat) (l : List Int), v = .slice ao n c ∧ l.length = n ∧ n ≤ c ∧ c ≤ 9223372036854775807 ∧ n ≤ Rows.uptoBulk d ∧ ZL W (fun b => b < W.heap.size) ao l ∧ (ao = none → c = 0) := by
  obtain ⟨a0, len0, cap0, rfl⟩ := okWide_slice Try.underlying23 hv
  obtain ⟨fuel, hf⟩ := h
  obtain ⟨ao, c, l, e, h1, h2, h3, h4, h5⟩ := zl_of hf hs
  have hb := Fi.rowr_bulk (x := (d, p)) Try.underlying23 (by rw [← e]; exact hf)
  have e' : Value.slice a0 len0 cap0 = .slice ao l.length c := by simpa [Value.cells] using e
  exact ⟨ao, c, l.length, l, e', rfl, h1, h2, hb, h5, h3⟩
theorem blk3 {H : Type} {d0 d1 d2 : DataW H} (hk : Rows.uptoSmall H ([d0, d1, d2] ++ []) = true) : Rows.uptoBulk d0 ≤ 1048576 ∧ Rows.uptoBulk d1 ≤ 1048576 ∧ Rows.uptoBulk d2 < 1048576 := by
  have h : Rows.uptoBulkAll ([d0, d1, d2] ++ []) ≤ 1048576 := of_decide_eq_true hk
  simp only [List.append_nil, Rows.uptoBulkAll] at h
  have h1 := Fi.bulkr_one d0
  omega
end Go.Proofs.Ytjpcebnbkdekkaa.Gh

/- A graph and pieces among a law's arguments, with what their bulk says. -/
namespace Go.Proofs.Ytjpcebnbkdekkaa.Gh
open Go.ChangeShapes Go.WideShapes Go.ChangeAt Go.RowKit Go.Joins Go.Deep
set_option linter.unusedVariables false

set_option maxRecDepth 100000 in
theorem open_graph4 {H : Type} {enc : TypeId × Value → H} {W : World} {r : Reach} {b0 : Nat} {v : Value} {d : DataW H} {p : List MemPlace}
    (hv : Value.okWide Try.prog W r b0 25 v) (h : DataW.Trod enc Try.prog W 0 (fun _ => true) true 25 v d p) (hs : Szd Try.prog 25 d) :
    ∃ (g : Gr) (go uo : Option Addr) (gc uc : Nat), v = gvg g go uo gc uc ∧ GH W (fun b => b < W.heap.size) g go uo gc uc ∧ g.nodes.length ≤ 977343669134 ∧ g.outs.length ≤ 17592186044416 ∧ g.outs.length ≤ Rows.uptoBulk d ∧ gc ≤ 9223372036854775807 := by
  have hC : Try.prog.cellsOf 25 = 3 := by kernel_rfl
  have hN : Try.prog.cellsOf 53 = 16 := by kernel_rfl
  have h3 : Try.prog.cellsOf 3 = 1 := by kernel_rfl
  have hS : Try.prog.cellsOf 23 = 1 := by kernel_rfl
  have hSN : Try.prog.cellsOf 22 = 1 := by kernel_rfl
  obtain ⟨cs, rfl, hsz⟩ := okWide_struct Try.underlying25 hv
  obtain ⟨c0, c1, c2, rfl⟩ := array3 (hsz.trans hC)
  obtain ⟨fuel, hf⟩ := h
  obtain ⟨xs, n, _, hx, hl, hlen, hff⟩ := DataW.trod_struct Try.underlying25 hf
  have hx' := (Prod.mk.inj hx).1
  rw [hx'] at hs
  match xs, hlen with
  | [y0, y1, y2], _ =>
    have t0 := hff 0 _ rfl
    have t1 := hff 1 _ rfl
    have t2 := hff 2 _ rfl
    have s1 := hs.field Try.underlying25 (i := 1) rfl rfl
    have s2 := hs.field Try.underlying25 (i := 2) rfl rfl
    simp only at s1 s2
    simp [Value.cells, h3, hS, hSN] at t0 t1 t2
    obtain ⟨a0, e0, _⟩ := DataW.trod_int Try.underlying3 t0
    obtain ⟨go, gc, L, e1, h1, h2, h2b, hby, hrow⟩ := open_row (⟨⟨0, [], 0, 0, ⟨0, 0, 0, 0, 0⟩, ⟨0, 0, 0, 0, 0, 0, 0⟩⟩⟩ : Inhabited Nd) 16 hN (by omega) Try.underlying22 t1 s1 (NdQ W) (fun m cs' y hm hy hz => node_cells hy hz)
    obtain ⟨uo, uc, ul, e2, f1, f2, f3, f4, f5⟩ := zl_of t2 s2
    have hbu : ul.length ≤ Rows.uptoBulk y2.1 := Fi.rowr_bulk Try.underlying23 (x := y2) (by rw [← e2]; exact t2)
    have hbd : Rows.uptoBulk y2.1 ≤ Rows.uptoBulk d := by rw [hx']; simp only [List.map_cons, List.map_nil, Rows.uptoBulk, Rows.uptoBulkAll]; omega
    have hB : Try.prog.bytesOf 53 = 144 := by kernel_rfl
    rw [hB] at hby
    have hrb := reachBytes_lt
    simp at e0 e1 e2
    subst e0 e1 e2
    refine ⟨⟨a0, L, ul⟩, go, uo, gc, uc, rfl, ⟨⟨fun i d hd => ?_⟩, h1, f5, f1, f2, f3⟩, by show L.length ≤ _; omega, f4, Nat.le_trans hbu hbd, h2⟩
    obtain ⟨b, off, g1, g2, g3⟩ := hrow (by have := (List.getElem?_eq_some_iff.1 hd).1; exact Nat.lt_of_le_of_lt (Nat.zero_le _) this)
    obtain ⟨cs', ⟨fo, fc, rfl, hNA⟩, hl', hc'⟩ := g3 i d hd
    refine ⟨b, off, fo, fc, g1, g2, g2, fun j v hv => ?_, hNA⟩
    have hj : j < 16 := (Array.getElem?_eq_some_iff.1 hv).1
    have := hc' j hj
    rw [Array.getElem?_toList, hv] at this
    rw [Nat.add_assoc]
    exact this
set_option maxRecDepth 100000 in
theorem pieces_of {H : Type} {enc : TypeId × Value → H} {W : World} {fuel : Nat} {cs : List Value} {x : DataW H × List MemPlace}
    (hf : DataW.trod enc Try.prog W 0 (fun _ => true) true fuel 32 cs = some x) :
    ∃ (ao : Option Addr) (c : Nat) (ps : List (List Nat)), cs = [.slice ao ps.length c] ∧ ps.length ≤ c ∧ c ≤ 9223372036854775807 ∧ Fi.PL W W.heap.size ao ps ∧ (ps.map List.length).sum ≤ Rows.uptoBulk x.1 := by
  have hC : Try.prog.cellsOf 38 = 1 := by kernel_rfl
  obtain ⟨ao, cap, L, h0, h1, h2, h2b, h3⟩ := Fi.open_row_b (⟨[]⟩ : Inhabited (List Nat)) 1 hC (by omega) Try.underlying32 hf (fun l cs' y => ∃ xa xc, cs' = [.slice xa l.length xc] ∧ l.length ≤ xc ∧ xc ≤ 9223372036854775807 ∧ (xa = none → xc = 0) ∧ Fi.IL W (fun k => k < W.heap.size) xa l ∧ l.length ≤ Rows.uptoBulk y) (fun m cs' y hm hy => by
    obtain ⟨xa, xc, l, e1, e2, e3, e4, e5⟩ := Fi.floats_of hy
    subst e1
    exact ⟨l, xa, xc, rfl, e2, e3, e4, e5, Fi.rowr_bulk Try.underlying38 hy⟩)
  refine ⟨ao, cap, L, h0, h1, h2, ⟨fun hn => ?_⟩, ?_⟩
  · obtain ⟨b, off, g1, g2, E, _, _, g3⟩ := h3 hn
    refine ⟨b, off, g1, g2, fun i t hi => ?_⟩
    obtain ⟨cs', e', ⟨xa, xc, rfl, g5, g6, g7, g8, _⟩, _, _, h4⟩ := g3 i t hi
    have := h4 0 (by omega)
    rw [Nat.mul_one, Nat.add_zero] at this
    exact ⟨xa, xc, this, g5, g6, g7, g8⟩
  · by_cases hn : 0 < L.length
    · obtain ⟨b, off, g1, g2, E, g3, g4, g5⟩ := h3 hn
      refine Nat.le_trans (Fi.sum_bulk List.length L E g3 (fun i a hi => ?_)) g4
      obtain ⟨cs', e', ⟨xa, xc, _, _, _, _, _, q⟩, q2, _⟩ := g5 i a hi
      exact ⟨e', q2, q⟩
    · have : L = [] := List.eq_nil_of_length_eq_zero (by omega)
      subst this
      exact Nat.zero_le _
set_option maxRecDepth 100000 in
/-- One piece. -/
theorem sounding_of {H : Type} {enc : TypeId × Value → H} {W : World} {fuel : Nat} {cs : List Value} {x : DataW H × List MemPlace}
    (hf : DataW.trod enc Try.prog W 0 (fun _ => true) true fuel 34 cs = some x) :
    ∃ (p : Pc) (ao : Option Addr) (c : Nat), cs = [.slice ao p.ins.length c, .int .i64 p.n, .bool p.rest] ∧ p.ins.length ≤ c ∧ c ≤ 9223372036854775807 ∧ Fi.PL W W.heap.size ao p.ins ∧ (p.ins.map List.length).sum ≤ Rows.uptoBulk x.1 := by
  have h3 : Try.prog.cellsOf 3 = 1 := by kernel_rfl
  have h4 : Try.prog.cellsOf 4 = 1 := by kernel_rfl
  have hS : Try.prog.cellsOf 32 = 1 := by kernel_rfl
  obtain ⟨xs, n, _, hx, hl, hlen, hff⟩ := DataW.trod_struct Try.underlying34 hf
  have hlc : cs.length = 3 := hl.trans (by kernel_rfl)
  match cs, hlc with
  | [c0, c1, c2], _ =>
    have hx' := (Prod.mk.inj hx).1
    match xs, hlen with
    | [y0, y1, y2], _ =>
      have t0 := hff 0 _ rfl
      have t1 := hff 1 _ rfl
      have t2 := hff 2 _ rfl
      simp [h3, h4, hS] at t0 t1 t2
      obtain ⟨ao, c, ps, e0, q1, q2, q3, q4⟩ := pieces_of t0
      obtain ⟨a1, e1, _⟩ := DataW.trod_int Try.underlying3 t1
      obtain ⟨a2, e2, _⟩ := DataW.trod_bool Try.underlying4 t2
      simp at e0 e1 e2
      subst e0 e1 e2
      refine ⟨⟨ps, a1, a2⟩, ao, c, rfl, q1, q2, q3, Nat.le_trans q4 ?_⟩
      rw [hx']; simp only [List.map_cons, List.map_nil, Rows.uptoBulk, Rows.uptoBulkAll]; omega
set_option maxRecDepth 100000 in
theorem open_pcs {H : Type} {enc : TypeId × Value → H} {W : World} {r : Reach} {b0 : Nat} {v : Value} {d : DataW H} {p : List MemPlace}
    (hv : Value.okWide Try.prog W r b0 26 v) (h : DataW.Trod enc Try.prog W 0 (fun _ => true) true 26 v d p) :
    ∃ (ao : Option Addr) (c n : Nat) (ps : List Pc), v = .slice ao n c ∧ ps.length = n ∧ n ≤ c ∧ c ≤ 9223372036854775807 ∧ PcL W W.heap.size ao ps ∧ n ≤ Rows.uptoBulk d ∧ (ps.map (fun p => (p.ins.map List.length).sum)).sum ≤ Rows.uptoBulk d := by
  have hC : Try.prog.cellsOf 34 = 3 := by kernel_rfl
  obtain ⟨a0, len0, cap0, rfl⟩ := okWide_slice Try.underlying26 hv
  obtain ⟨fuel, hf⟩ := h
  obtain ⟨ao, cap, L, h0, h1, h2, h2b, h3⟩ := Fi.open_row_b (⟨⟨[], 0, false⟩⟩ : Inhabited Pc) 3 hC (by omega) Try.underlying26 hf (fun p cs' y => ∃ xa xc, cs' = [.slice xa p.ins.length xc, .int .i64 p.n, .bool p.rest] ∧ p.ins.length ≤ xc ∧ xc ≤ 9223372036854775807 ∧ Fi.PL W W.heap.size xa p.ins ∧ (p.ins.map List.length).sum ≤ Rows.uptoBulk y) (fun m cs' y hm hy => sounding_of hy)
  have e : Value.slice a0 len0 cap0 = .slice ao L.length cap := by simpa [Value.cells] using h0
  have hb := Fi.rowr_bulk (x := (d, p)) Try.underlying26 (by rw [← h0]; exact hf)
  refine ⟨ao, cap, L.length, L, e, rfl, h1, h2, ⟨fun i q hi => ?_⟩, hb, ?_⟩
  · obtain ⟨b, off, g1, g2, E, _, _, g3⟩ := h3 (by have := (List.getElem?_eq_some_iff.1 hi).1; omega)
    obtain ⟨cs', e', ⟨xa, xc, rfl, g5, g6, g7, _⟩, _, _, h4⟩ := g3 i q hi
    have k0 := h4 0 (by omega)
    have k1 := h4 1 (by omega)
    have k2 := h4 2 (by omega)
    exact ⟨b, off, xa, xc, g1, g2, k0, by rw [Nat.add_assoc]; exact k1, by rw [Nat.add_assoc]; exact k2, g5, g6, g7⟩
  · by_cases hn : 0 < L.length
    · obtain ⟨b, off, g1, g2, E, g3, g4, g5⟩ := h3 hn
      refine Nat.le_trans (Fi.sum_bulk (fun p : Pc => (p.ins.map List.length).sum) L E g3 (fun i a hi => ?_)) g4
      obtain ⟨cs', e', ⟨xa, xc, _, _, _, _, q⟩, q2, _⟩ := g5 i a hi
      exact ⟨e', q2, q⟩
    · have : L = [] := List.eq_nil_of_length_eq_zero (by omega)
      subst this
      exact Nat.zero_le _
theorem tst_sum {g : Gr} (hg : 0 < g.ins) : ∀ (pcs : List Pc) (T : Nat), tst g T pcs ≤ T + (pcs.map (fun p => (p.ins.map List.length).sum)).sum
  | [], T => Nat.le_refl _
  | p :: l, T => by
    have h1 := tst_sum hg l (tnx g T p)
    have h2 : tnx g T p ≤ T + (p.ins.map List.length).sum := by
      unfold tnx
      have h3 : t0 T p ≤ T := by unfold t0; split <;> omega
      by_cases e : er g p.ins p.n = 0
      · rw [if_pos e]
        obtain ⟨e1, e2, e3, e4⟩ := er_ok e
        cases hi : p.ins with
        | nil => rw [hi] at e3; simp at e3; omega
        | cons a r =>
          have := e4 a (by rw [hi]; exact List.mem_cons_self)
          simp only [List.map_cons, List.sum_cons]
          omega
      · rw [if_neg e]; omega
    show tst g (tnx g T p) l ≤ _
    simp only [List.map_cons, List.sum_cons]
    omega
theorem sum_take (l : List Nat) (k : Nat) : (l.take k).sum ≤ l.sum := by
  induction l generalizing k with
  | nil => simp
  | cons a l ih =>
    cases k with
    | zero => simp
    | succ k => simp only [List.take_succ_cons, List.sum_cons]; have := ih k; omega
theorem blk2 {H : Type} {d0 d1 : DataW H} (hk : Rows.uptoSmall H ([d0, d1] ++ []) = true) : Rows.uptoBulk d1 ≤ 1048576 := by
  have h : Rows.uptoBulkAll ([d0, d1] ++ []) ≤ 1048576 := of_decide_eq_true hk
  simp only [List.append_nil, Rows.uptoBulkAll] at h
  omega
end Go.Proofs.Ytjpcebnbkdekkaa.Gh
