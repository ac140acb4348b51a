/- A piece among a law's arguments, as the walks ask for it. -/
import Derived.Test.YtaohahahhjkcdaeGreatDoorSG25
import Derived.OpenShut
import Derived.Deep.Slices
import Derived.Deep.Strs
import Derived.Lib.SmallJoins
import Derived.ProofKit
import Derived.SizedLaws
namespace Go.Proofs.YtaohahahhjkcdaeGreatDoor.G
open Go.ChangeShapes Go.WideShapes Go.ChangeAt Go.RowKit Go.Joins Go.Deep
set_option linter.unusedVariables false

theorem add_two (a : Addr) (i j : Nat) : (a.add i).add j = a.add (i + j) := by
  unfold Addr.add
  by_cases h : i = 0 <;> by_cases g : j = 0 <;> simp [h, g, Nat.add_assoc]
theorem add_plain (b off n : Nat) : (⟨b, off, none⟩ : Addr).add n = ⟨b, off + n, none⟩ := by
  unfold Addr.add
  by_cases h : n = 0 <;> simp [h]
/-- All that a datum holds is within reach. -/
def Szd {H : Type} (P : Program) (t : TypeId) (d : DataW H) : Prop := ∀ m ∈ d.weights P t, m ≤ reachBytes
theorem weightsAll_in {H : Type} {P : Program} {e : TypeId} : ∀ {l : List (DataW H)} {d : DataW H}, d ∈ l → ∀ n ∈ d.weights P e, n ∈ DataW.weightsAll P e l
  | d' :: r, d, hd, n, hn => by
    simp only [DataW.weightsAll, List.mem_append]
    rcases List.mem_cons.1 hd with rfl | h
    · exact Or.inl hn
    · exact Or.inr (weightsAll_in h n hn)
theorem Szd.field {H : Type} {P : Program} {t : TypeId} {fs : Array Field} {parts : List (DataW H)} (ht : P.underlying t = some (.struct fs)) (h : Szd P t (.agg parts)) {i : Nat} {f : Field} {y : DataW H} (hf : fs[i]? = some f) (hy : parts[i]? = some y) : Szd P f.type y := fun m hm => h m (by
  simp only [DataW.weights, ht]
  exact DataW.weights_mem_each (j := i) (by rw [List.getElem?_map, Array.getElem?_toList, hf]; rfl) hy m hm)
theorem Szd.elem {H : Type} {P : Program} {t e : TypeId} {elems spare : List (DataW H)} (ht : P.underlying t = some (.slice e)) (h : Szd P t (.slice elems spare)) {y : DataW H} (hy : y ∈ elems) : Szd P e y := fun m hm => h m (by
  simp only [DataW.weights, ht, List.mem_cons, List.mem_append]
  exact Or.inr (Or.inl (weightsAll_in hy m hm)))
theorem Szd.str {H : Type} {P : Program} {t : TypeId} {b : List UInt8} (h : Szd (H := H) P t (.lit (.string b))) : b.length ≤ reachBytes := h _ (by simp [DataW.weights])
/-- A list among a datum's parts, its elements opened by q. -/
theorem open_row {H : Type} {enc : TypeId × Value → H} {W : World} {α : Type} (inh : Inhabited α) {fuel : Nat} {t e : TypeId} {cs : List Value} {x : DataW H × List MemPlace} (k : Nat) (hk : Tryz.prog.cellsOf e = k) (hk0 : 0 < k) (ht : Tryz.prog.underlying t = some (.slice e))
    (h : DataW.trod enc Tryz.prog W 0 (fun _ => true) true fuel t cs = some x) (hs : Szd Tryz.prog t x.1) (q : α → List Value → Prop)
    (hq : ∀ n cs' y, n < fuel → DataW.trod enc Tryz.prog W 0 (fun _ => true) true n e cs' = some y → Szd Tryz.prog e y.1 → ∃ a, q a cs') :
    cs = [.slice none 0 0] ∨ ∃ (ao : Option Addr) (len cap : Nat) (V : Nat → α), cs = [.slice ao len cap] ∧ len ≤ cap ∧ cap ≤ 9223372036854775807 ∧ (0 < len → ∃ b off, ao = some ⟨b, off, none⟩ ∧ b < W.heap.size ∧ ∀ i, i < len → ∃ cs', q (V i) cs' ∧ cs'.length = k ∧ ∀ j, j < k → W.cell? ⟨b, off + (i * k + j), none⟩ = cs'[j]?) := by
  rcases DataW.trod_slice ht h with ⟨h0, _⟩ | ⟨a, len, cap, elems, rest, n2, hn2, h0, hx, _, hlc, hm, hlen, hel, _, _⟩
  · exact Or.inl h0
  · right
    rw [hk] at hel
    rw [hx] at hs
    have each : ∀ i, i < len → ∃ v : α, ∃ cs', q v cs' ∧ cs'.length = k ∧ ∀ j, j < k → W.cell? (a.add (i * k + j)) = cs'[j]? := fun i hi => by
      have key := hel i hi
      rw [List.getElem?_eq_getElem (by omega)] at key
      obtain ⟨cs', g1, g2⟩ := Option.bind_eq_some_iff.1 key
      obtain ⟨v, hv⟩ := hq n2 cs' _ (by omega) g2 (hs.elem ht (List.mem_map.2 ⟨elems[i], List.getElem_mem _, rfl⟩))
      obtain ⟨_, hl, hc⟩ := World.cells?_some g1
      refine ⟨v, cs', hv, hl, fun j hj => ?_⟩
      have := hc j hj
      rw [add_two] at this
      exact this
    obtain ⟨V, hV⟩ := choose_lt (α := α) (p := fun i v => ∃ cs', q v cs' ∧ cs'.length = k ∧ ∀ j, j < k → W.cell? (a.add (i * k + j)) = cs'[j]?) each
    refine ⟨some a, len, cap, V, h0, hlc, by unfold maxLen at hm; omega, fun hn => ?_⟩
    obtain ⟨cs0, _, hl0, hc0⟩ := hV 0 hn
    have hc00 := hc0 0 hk0
    rw [Nat.zero_mul, Nat.zero_add, List.getElem?_eq_getElem (by omega)] at hc00
    have hsp := World.cell?_spot hc00
    have hsp0 : a.spot = none := by simpa [Addr.add] using hsp
    obtain ⟨b, off, sp⟩ := a
    simp only at hsp0
    subst hsp0
    refine ⟨b, off, rfl, ?_, fun i hi => ?_⟩
    · rw [add_plain] at hc00
      exact block_lt_of_cell hc00
    · obtain ⟨cs', h1, h2, h3⟩ := hV i hi
      exact ⟨cs', h1, h2, fun j hj => by have := h3 j hj; rw [add_plain] at this; exact this⟩
set_option maxRecDepth 100000 in
theorem pitch_cells {H : Type} {enc : TypeId × Value → H} {W : World} {n : Nat} {cs : List Value} {x : DataW H × List MemPlace}
    (h : DataW.trod enc Tryz.prog W 0 (fun _ => true) true n 41 cs = some x) : ∃ p : Int × Int × Int, cs = [.int .i64 p.1, .int .i64 p.2.1, .int .i64 p.2.2] := by
  have hC : Tryz.prog.cellsOf 41 = 3 := by kernel_rfl
  have h3 : Tryz.prog.cellsOf 3 = 1 := by kernel_rfl
  obtain ⟨xs, n2, _, _, hl, hxl, hf⟩ := DataW.trod_struct Tryz.underlying41 h
  rw [hC] at hl
  match xs, hxl, cs, hl with
  | [y0, y1, y2], _, [c0, c1, c2], _ =>
    have t0 := hf 0 _ rfl
    have t1 := hf 1 _ rfl
    have t2 := hf 2 _ rfl
    simp [h3] at t0 t1 t2
    obtain ⟨k0, e0, _⟩ := DataW.trod_int Tryz.underlying3 t0
    obtain ⟨k1, e1, _⟩ := DataW.trod_int Tryz.underlying3 t1
    obtain ⟨k2, e2, _⟩ := DataW.trod_int Tryz.underlying3 t2
    simp at e0 e1 e2
    exact ⟨(k0, k1, k2), by rw [e0, e1, e2]⟩
set_option maxRecDepth 100000 in
theorem by_cells {H : Type} {enc : TypeId × Value → H} {W : World} {n : Nat} {cs : List Value} {x : DataW H × List MemPlace}
    (h : DataW.trod enc Tryz.prog W 0 (fun _ => true) true n 59 cs = some x) : ∃ p : Int × Int, cs = [.int .i64 p.1, .int .i64 p.2] := by
  have hC : Tryz.prog.cellsOf 59 = 2 := by kernel_rfl
  have h3 : Tryz.prog.cellsOf 3 = 1 := by kernel_rfl
  obtain ⟨xs, n2, _, _, hl, hxl, hf⟩ := DataW.trod_struct Tryz.underlying59 h
  rw [hC] at hl
  match xs, hxl, cs, hl with
  | [y0, y1], _, [c0, c1], _ =>
    have t0 := hf 0 _ rfl
    have t1 := hf 1 _ rfl
    simp [h3] at t0 t1
    obtain ⟨k0, e0, _⟩ := DataW.trod_int Tryz.underlying3 t0
    obtain ⟨k1, e1, _⟩ := DataW.trod_int Tryz.underlying3 t1
    simp at e0 e1
    exact ⟨(k0, k1), by rw [e0, e1]⟩
theorem str_bound {s : ByteArray} (h : s.data.toList.length ≤ reachBytes) : s.size ≤ 140737488355328 := by
  rw [← Lib.size_eq] at h
  unfold reachBytes at h
  omega
/-- An item and where its pitches and kids lie. -/
def ItQ (W : World) (it : M.It) (cs : List Value) : Prop := ∃ (pa' : Option Addr) (pc' : Nat) (ka' : Option Addr) (kc' : Nat), cs = [.int .i64 it.k, .int .i64 it.s, .slice pa' it.np pc', .int .i64 it.b1, .int .i64 it.b2, .string it.ly, .slice ka' it.n kc'] ∧ it.np ≤ pc' ∧ pc' ≤ 9223372036854775807 ∧ it.n ≤ kc' ∧ kc' ≤ 9223372036854775807 ∧ it.ly.size ≤ 140737488355328 ∧ PS W W.heap.size pa' it.np it.pl it.pa it.po ∧ LL W W.heap.size it ka'
theorem ps_row {W : World} {ao : Option Addr} {len : Nat} {V : Nat → Int × Int × Int} (h : 0 < len → ∃ b off, ao = some ⟨b, off, none⟩ ∧ b < W.heap.size ∧ ∀ i, i < len → ∃ cs' : List Value, cs' = [.int .i64 (V i).1, .int .i64 (V i).2.1, .int .i64 (V i).2.2] ∧ cs'.length = 3 ∧ ∀ j, j < 3 → W.cell? ⟨b, off + (i * 3 + j), none⟩ = cs'[j]?) : PS W W.heap.size ao len (fun i => (V i).1) (fun i => (V i).2.1) (fun i => (V i).2.2) := by
  refine ⟨fun hn => ?_⟩
  obtain ⟨b, off, h1, h2, h3⟩ := h hn
  refine ⟨b, off, h1, h2, fun j hj => ?_, fun j hj => ?_, fun j hj => ?_⟩
  · obtain ⟨cs', rfl, _, h4⟩ := h3 j hj; have := h4 0 (by omega); exact this
  · obtain ⟨cs', rfl, _, h4⟩ := h3 j hj; have := h4 1 (by omega); rw [Nat.add_assoc]; exact this
  · obtain ⟨cs', rfl, _, h4⟩ := h3 j hj; have := h4 2 (by omega); rw [Nat.add_assoc]; exact this
theorem ll_row {W : World} {ao : Option Addr} {len : Nat} {V : Nat → M.It} (k s : Int) (np : Nat) (pl pa po : Nat → Int) (b1 b2 : Int) (ly : ByteArray) (h : 0 < len → ∃ b off, ao = some ⟨b, off, none⟩ ∧ b < W.heap.size ∧ ∀ i, i < len → ∃ cs', ItQ W (V i) cs' ∧ cs'.length = 7 ∧ ∀ j, j < 7 → W.cell? ⟨b, off + (i * 7 + j), none⟩ = cs'[j]?) : LL W W.heap.size (.mk k s np pl pa po b1 b2 ly len V) ao := by
  intro hn
  obtain ⟨b, off, h1, h2, h3⟩ := h hn
  refine ⟨b, off, h1, h2, fun i hi => ?_⟩
  obtain ⟨cs', ⟨pa', pc', ka', kc', rfl, d1, d2, d3, d4, d5, d6, d7⟩, _, h4⟩ := h3 i hi
  have c := fun j hj => h4 j hj
  refine ⟨pa', pc', ka', kc', ?_, ?_, ?_, ?_, ?_, ?_, ?_, d1, d2, d3, d4, d5, d6, d7⟩
  · exact c 0 (by omega)
  · rw [Nat.add_assoc]; exact c 1 (by omega)
  · rw [Nat.add_assoc]; exact c 2 (by omega)
  · rw [Nat.add_assoc]; exact c 3 (by omega)
  · rw [Nat.add_assoc]; exact c 4 (by omega)
  · rw [Nat.add_assoc]; exact c 5 (by omega)
  · rw [Nat.add_assoc]; exact c 6 (by omega)
set_option maxRecDepth 100000 in
theorem item_cells {H : Type} {enc : TypeId × Value → H} {W : World} (N : Nat) : ∀ (fuel : Nat) (cs : List Value) (x : DataW H × List MemPlace), fuel ≤ N → DataW.trod enc Tryz.prog W 0 (fun _ => true) true fuel 61 cs = some x → Szd Tryz.prog 61 x.1 → ∃ it, ItQ W it cs := by
  have hC : Tryz.prog.cellsOf 61 = 7 := by kernel_rfl
  have h3 : Tryz.prog.cellsOf 3 = 1 := by kernel_rfl
  have h9 : Tryz.prog.cellsOf 9 = 1 := by kernel_rfl
  have hI : Tryz.prog.cellsOf 59 = 2 := by kernel_rfl
  have hP : Tryz.prog.cellsOf 41 = 3 := by kernel_rfl
  have hSP : Tryz.prog.cellsOf 57 = 1 := by kernel_rfl
  have hSI : Tryz.prog.cellsOf 32 = 1 := by kernel_rfl
  induction N with
  | zero =>
    intro fuel cs x hN h
    obtain rfl : fuel = 0 := by omega
    simp [DataW.trod] at h
  | succ N ih =>
    intro fuel cs x hN h hs
    obtain ⟨xs, n, hfu, hx, hl, hxl, hf⟩ := DataW.trod_struct Tryz.underlying61 h
    rw [hC] at hl
    rw [hx] at hs
    match xs, hxl, cs, hl with
    | [y0, y1, y2, y3, y4, y5], _, [c0, c1, c2, c3, c4, c5, c6], _ =>
      have t0 := hf 0 _ rfl
      have t1 := hf 1 _ rfl
      have t2 := hf 2 _ rfl
      have t3 := hf 3 _ rfl
      have t4 := hf 4 _ rfl
      have t5 := hf 5 _ rfl
      have s2 := hs.field Tryz.underlying61 (i := 2) rfl rfl
      have s4 := hs.field Tryz.underlying61 (i := 4) rfl rfl
      have s5 := hs.field Tryz.underlying61 (i := 5) rfl rfl
      simp only at s2 s4 s5
      simp [h3, h9, hI, hSP, hSI] at t0 t1 t2 t3 t4 t5
      obtain ⟨k, e0, _⟩ := DataW.trod_int Tryz.underlying3 t0
      obtain ⟨s, e1, _⟩ := DataW.trod_int Tryz.underlying3 t1
      obtain ⟨⟨b1, b2⟩, e3⟩ := by_cells t3
      obtain ⟨ly, e4, e4', _⟩ := DataW.trod_string Tryz.underlying9 t4
      rw [e4'] at s4
      have hly := str_bound s4.str
      simp at e0 e1 e3 e4
      obtain ⟨e3, e3'⟩ := e3
      subst e0 e1 e3 e3' e4
      have inhP : Inhabited (Int × Int × Int) := ⟨(0, 0, 0)⟩
      have inhI : Inhabited M.It := ⟨.mk 0 0 0 (fun _ => 0) (fun _ => 0) (fun _ => 0) 0 0 ⟨#[]⟩ 0 (fun _ => ⟨true, 0, 0, 0, fun _ => 0, fun _ => 0, fun _ => 0, 0, 0, ⟨#[]⟩, 0, fun e => Empty.elim e⟩)⟩
      obtain ⟨pao, np, pc, PV, ep, pl1, pl2, hps⟩ : ∃ (pao : Option Addr) (np pc : Nat) (PV : Nat → Int × Int × Int), c2 = .slice pao np pc ∧ np ≤ pc ∧ pc ≤ 9223372036854775807 ∧ PS W W.heap.size pao np (fun i => (PV i).1) (fun i => (PV i).2.1) (fun i => (PV i).2.2) := by
        rcases open_row inhP 3 hP (by omega) Tryz.underlying57 t2 s2 (fun p cs' => cs' = [.int .i64 p.1, .int .i64 p.2.1, .int .i64 p.2.2]) (fun n cs' y _ hy _ => pitch_cells hy) with h0 | ⟨ao, len, cap, V, h0, h1, h2, h3⟩
        · exact ⟨none, 0, 0, fun _ => (0, 0, 0), by simpa using h0, by omega, by omega, ⟨fun h => by omega⟩⟩
        · exact ⟨ao, len, cap, V, by simpa using h0, h1, h2, ps_row h3⟩
      obtain ⟨kao, nk, kc, KV, ek, kl1, kl2, hll⟩ : ∃ (kao : Option Addr) (nk kc : Nat) (KV : Nat → M.It), c6 = .slice kao nk kc ∧ nk ≤ kc ∧ kc ≤ 9223372036854775807 ∧ LL W W.heap.size (.mk k s np (fun i => (PV i).1) (fun i => (PV i).2.1) (fun i => (PV i).2.2) b1 b2 ly nk KV) kao := by
        rcases open_row inhI 7 hC (by omega) Tryz.underlying32 t5 s5 (ItQ W) (fun m cs' y hm hy hz => ih m cs' y (by omega) hy hz) with h0 | ⟨ao, len, cap, V, h0, h1, h2, h3⟩
        · exact ⟨none, 0, 0, fun _ => .mk 0 0 0 (fun _ => 0) (fun _ => 0) (fun _ => 0) 0 0 ⟨#[]⟩ 0 (fun _ => ⟨true, 0, 0, 0, fun _ => 0, fun _ => 0, fun _ => 0, 0, 0, ⟨#[]⟩, 0, fun e => Empty.elim e⟩), by simpa using h0, by omega, by omega, fun h => by omega⟩
        · exact ⟨ao, len, cap, V, by simpa using h0, h1, h2, ll_row _ _ _ _ _ _ _ _ _ h3⟩
      subst ep ek
      exact ⟨.mk k s np (fun i => (PV i).1) (fun i => (PV i).2.1) (fun i => (PV i).2.2) b1 b2 ly nk KV, pao, pc, kao, kc, rfl, pl1, pl2, kl1, kl2, hly, hps, hll⟩
def BarQ (W : World) (q : Int × Int × M.It) (cs : List Value) : Prop := ∃ (ia : Option Addr) (ic : Nat), cs = [.int .i64 q.1, .int .i64 q.2.1, .slice ia q.2.2.n ic] ∧ q.2.2.n ≤ ic ∧ ic ≤ 9223372036854775807 ∧ LL W W.heap.size q.2.2 ia
def nit : M.It := .mk 0 0 0 (fun _ => 0) (fun _ => 0) (fun _ => 0) 0 0 ⟨#[]⟩ 0 (fun _ => ⟨true, 0, 0, 0, fun _ => 0, fun _ => 0, fun _ => 0, 0, 0, ⟨#[]⟩, 0, fun e => Empty.elim e⟩)
set_option maxRecDepth 100000 in
theorem bar_cells {H : Type} {enc : TypeId × Value → H} {W : World} {fuel : Nat} {cs : List Value} {x : DataW H × List MemPlace} (h : DataW.trod enc Tryz.prog W 0 (fun _ => true) true fuel 34 cs = some x) (hs : Szd Tryz.prog 34 x.1) : ∃ q, BarQ W q cs := by
  have hC : Tryz.prog.cellsOf 34 = 3 := by kernel_rfl
  have h3 : Tryz.prog.cellsOf 3 = 1 := by kernel_rfl
  have hCI : Tryz.prog.cellsOf 61 = 7 := by kernel_rfl
  have hSI : Tryz.prog.cellsOf 32 = 1 := by kernel_rfl
  obtain ⟨xs, n, hfu, hx, hl, hxl, hf⟩ := DataW.trod_struct Tryz.underlying34 h
  rw [hC] at hl
  rw [hx] at hs
  match xs, hxl, cs, hl with
  | [y0, y1, y2], _, [c0, c1, c2], _ =>
    have t0 := hf 0 _ rfl
    have t1 := hf 1 _ rfl
    have t2 := hf 2 _ rfl
    have s2 := hs.field Tryz.underlying34 (i := 2) rfl rfl
    simp only at s2
    simp [h3, hSI] at t0 t1 t2
    obtain ⟨u, e0, _⟩ := DataW.trod_int Tryz.underlying3 t0
    obtain ⟨d, e1, _⟩ := DataW.trod_int Tryz.underlying3 t1
    simp at e0 e1
    subst e0 e1
    rcases open_row (⟨nit⟩ : Inhabited M.It) 7 hCI (by omega) Tryz.underlying32 t2 s2 (ItQ W) (fun m cs' y hm hy hz => item_cells m m cs' y (Nat.le_refl _) hy hz) with h0 | ⟨ao, len, cap, V, h0, h1, h2, h3⟩
    · obtain rfl : c2 = .slice none 0 0 := by simpa using h0
      exact ⟨(u, d, .mk 0 0 0 (fun _ => 0) (fun _ => 0) (fun _ => 0) 0 0 ⟨#[]⟩ 0 (fun _ => ⟨true, 0, 0, 0, fun _ => 0, fun _ => 0, fun _ => 0, 0, 0, ⟨#[]⟩, 0, fun e => Empty.elim e⟩)), none, 0, rfl, by show (0 : Nat) ≤ 0; omega, by omega, fun h => absurd h (by omega)⟩
    · obtain rfl : c2 = .slice ao len cap := by simpa using h0
      exact ⟨(u, d, .mk 0 0 0 (fun _ => 0) (fun _ => 0) (fun _ => 0) 0 0 ⟨#[]⟩ len V), ao, cap, rfl, h1, h2, ll_row _ _ _ _ _ _ _ _ _ h3⟩
theorem bl_row {W : World} {ao : Option Addr} {len : Nat} {V : Nat → Int × Int × M.It} (h : 0 < len → ∃ b off, ao = some ⟨b, off, none⟩ ∧ b < W.heap.size ∧ ∀ i, i < len → ∃ cs', BarQ W (V i) cs' ∧ cs'.length = 3 ∧ ∀ j, j < 3 → W.cell? ⟨b, off + (i * 3 + j), none⟩ = cs'[j]?) : BL W W.heap.size ao len (fun i => (V i).1) (fun i => (V i).2.1) (fun i => (V i).2.2) := by
  refine ⟨fun hn => ?_⟩
  obtain ⟨b, off, h1, h2, h3⟩ := h hn
  refine ⟨b, off, h1, h2, fun i hi => ?_⟩
  obtain ⟨cs', ⟨ia, ic, rfl, d1, d2, d3⟩, _, h4⟩ := h3 i hi
  refine ⟨ia, ic, ?_, ?_, ?_, d1, d2, d3⟩
  · exact h4 0 (by omega)
  · rw [Nat.add_assoc]; exact h4 1 (by omega)
  · rw [Nat.add_assoc]; exact h4 2 (by omega)
/-- A voice: its name, how many bars, and these. -/
def VoQ (W : World) (q : ByteArray × Nat × (Nat → Int × Int × M.It)) (cs : List Value) : Prop := ∃ (ba : Option Addr) (bc : Nat), cs = [.string q.1, .slice ba q.2.1 bc] ∧ q.2.1 ≤ bc ∧ bc ≤ 9223372036854775807 ∧ BL W W.heap.size ba q.2.1 (fun i => (q.2.2 i).1) (fun i => (q.2.2 i).2.1) (fun i => (q.2.2 i).2.2)
set_option maxRecDepth 100000 in
theorem voice_cells {H : Type} {enc : TypeId × Value → H} {W : World} {fuel : Nat} {cs : List Value} {x : DataW H × List MemPlace} (h : DataW.trod enc Tryz.prog W 0 (fun _ => true) true fuel 24 cs = some x) (hs : Szd Tryz.prog 24 x.1) : ∃ q, VoQ W q cs := by
  have hC : Tryz.prog.cellsOf 24 = 2 := by kernel_rfl
  have h9 : Tryz.prog.cellsOf 9 = 1 := by kernel_rfl
  have hCB : Tryz.prog.cellsOf 34 = 3 := by kernel_rfl
  have hSB : Tryz.prog.cellsOf 22 = 1 := by kernel_rfl
  obtain ⟨xs, n, hfu, hx, hl, hxl, hf⟩ := DataW.trod_struct Tryz.underlying24 h
  rw [hC] at hl
  rw [hx] at hs
  have inh : Inhabited (Int × Int × M.It) := ⟨(0, 0, nit)⟩
  match xs, hxl, cs, hl with
  | [y0, y1], _, [c0, c1], _ =>
    have t0 := hf 0 _ rfl
    have t1 := hf 1 _ rfl
    have s1 := hs.field Tryz.underlying24 (i := 1) rfl rfl
    simp only at s1
    simp [h9, hSB] at t0 t1
    obtain ⟨st, e0, _, _⟩ := DataW.trod_string Tryz.underlying9 t0
    simp at e0
    subst e0
    rcases open_row inh 3 hCB (by omega) Tryz.underlying22 t1 s1 (BarQ W) (fun m cs' y hm hy hz => bar_cells hy hz) with h0 | ⟨ao, len, cap, V, h0, h1, h2, h3⟩
    · obtain rfl : c1 = .slice none 0 0 := by simpa using h0
      exact ⟨(st, 0, fun _ => inh.default), none, 0, rfl, by show (0 : Nat) ≤ 0; omega, by omega, ⟨fun h => absurd h (by show ¬ 0 < 0; omega)⟩⟩
    · obtain rfl : c1 = .slice ao len cap := by simpa using h0
      exact ⟨(st, len, V), ao, cap, rfl, h1, h2, bl_row h3⟩
set_option maxRecDepth 100000 in
theorem open_piece {H : Type} {enc : TypeId × Value → H} {W : World} {r : Reach} {b0 : Nat} {v : Value} {d : DataW H} {p : List MemPlace}
    (hv : Value.okWide Tryz.prog W r b0 30 v) (h : DataW.Trod enc Tryz.prog W 0 (fun _ => true) true 30 v d p) (hs : Szd Tryz.prog 30 d) :
    ∃ (ao : Option Addr) (nv vc : Nat) (s : Nat → ByteArray) (n : Nat → Nat) (up dn : Nat → Nat → Int) (t : Nat → Nat → M.It), v = .slice ao nv vc ∧ nv ≤ vc ∧ vc ≤ 9223372036854775807 ∧ VL W W.heap.size ao nv s n up dn t := by
  have hC : Tryz.prog.cellsOf 24 = 2 := by kernel_rfl
  have inh : Inhabited (ByteArray × Nat × (Nat → Int × Int × M.It)) := ⟨(⟨#[]⟩, 0, fun _ => (0, 0, nit))⟩
  obtain ⟨a0, len0, cap0, rfl⟩ := okWide_slice Tryz.underlying30 hv
  obtain ⟨fuel, hf⟩ := h
  rcases open_row inh 2 hC (by omega) Tryz.underlying30 hf hs (VoQ W) (fun m cs' y hm hy hz => voice_cells hy hz) with h0 | ⟨ao, len, cap, V, h0, h1, h2, h3⟩
  · have e : Value.slice a0 len0 cap0 = .slice none 0 0 := by simpa [Value.cells] using h0
    cases e
    exact ⟨none, 0, 0, fun _ => ⟨#[]⟩, fun _ => 0, fun _ _ => 0, fun _ _ => 0, fun _ _ => nit, rfl, by omega, by omega, ⟨fun h => by omega⟩⟩
  · have e : Value.slice a0 len0 cap0 = .slice ao len cap := by simpa [Value.cells] using h0
    cases e
    refine ⟨_, _, _, fun i => (V i).1, fun i => (V i).2.1, fun i j => ((V i).2.2 j).1, fun i j => ((V i).2.2 j).2.1, fun i j => ((V i).2.2 j).2.2, rfl, h1, h2, ⟨fun hn => ?_⟩⟩
    obtain ⟨b, off, g1, g2, g3⟩ := h3 hn
    refine ⟨b, off, g1, g2, fun i hi => ?_⟩
    obtain ⟨cs', ⟨ba, bc, rfl, d1, d2, d3⟩, _, h4⟩ := g3 i hi
    refine ⟨ba, bc, ?_, ?_, d1, d2, d3⟩
    · exact h4 0 (by omega)
    · rw [Nat.add_assoc]; exact h4 1 (by omega)
end Go.Proofs.YtaohahahhjkcdaeGreatDoor.G

/- A voice among a law's arguments, as the walk of ScoreBars asks for it. -/
namespace Go.Proofs.YtaohahahhjkcdaeGreatDoor.G
open Go.ChangeShapes Go.WideShapes Go.ChangeAt Go.RowKit Go.Joins Go.Deep
set_option linter.unusedVariables false

set_option maxRecDepth 100000 in
theorem open_voice {H : Type} {enc : TypeId × Value → H} {W : World} {r : Reach} {b0 : Nat} {v : Value} {d : DataW H} {p : List MemPlace}
    (hv : Value.okWide Tryz.prog W r b0 24 v) (h : DataW.Trod enc Tryz.prog W 0 (fun _ => true) true 24 v d p) (hs : Szd Tryz.prog 24 d) :
    ∃ (s : ByteArray) (ba : Option Addr) (n bc : Nat) (up dn : Nat → Int) (t : Nat → M.It), v = .agg #[.string s, .slice ba n bc] ∧ n ≤ bc ∧ bc ≤ 9223372036854775807 ∧ BL W W.heap.size ba n up dn t := by
  have h' := h
  obtain ⟨c0, c1, y0, y1, m, rfl, _, _, g0, g1⟩ := open_agg2 Tryz.underlying24 (by kernel_rfl) (by kernel_rfl) hv h
  obtain ⟨fuel, hf⟩ := h'
  obtain ⟨q, ba, bc, hcs, h1, h2, h3⟩ := voice_cells hf hs
  have e : c0 = .string q.1 ∧ c1 = .slice ba q.2.1 bc := by simpa [Value.cells] using hcs
  obtain ⟨rfl, rfl⟩ := e
  exact ⟨_, _, _, _, _, _, _, rfl, h1, h2, h3⟩
end Go.Proofs.YtaohahahhjkcdaeGreatDoor.G
