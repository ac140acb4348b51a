/- A row of tones that may be written; copy of tones. -/
import Derived.Test.YtpacfppnmenndaaTkRow
import Derived.Laws.CopyOwn
namespace Go.Proofs.Ytpacfppnmenndaa.Tk
open Go.RowKit Go.Maps Go.Sort Go.Proofs.Ytpacfppnmenndaa.Rg
open Go.Proofs.Ytpacfppnmenndaa.Y (Tn lt okT wr fst cod bfr OkL TL tab tc rows)
set_option linter.unusedVariables false
set_option linter.unusedSimpArgs false

theorem keepF {n : Nat} {w w' : World} {a : Addr} {v : Bool} (h : Below n w w') (hlt : a.block < n) (hc : w.frozen? a = v) : w'.frozen? a = v := by
  rw [← hc]; exact World.frozen?_of_block (h.block a.block hlt)
def fld (y : Tn) (i : Nat) : Value := .int .i64 (if i = 0 then y.t else if i = 1 then y.g else if i = 2 then y.l else if i = 3 then y.a else y.o)
theorem setCells_size (b : Nat) : ∀ (o : Nat) (vs : List Value) (w : World), (w.setCells b o vs).heap.size = w.heap.size
  | _, [], _ => rfl
  | o, v :: r, w => by rw [World.setCells, setCells_size b (o + 1) r]; simp [World.setCell]
theorem setCells_other (b : Nat) : ∀ (o : Nat) (vs : List Value) (w : World) (j : Nat), j ≠ b → (w.setCells b o vs).heap[j]? = w.heap[j]?
  | _, [], _, _, _ => rfl
  | o, v :: r, w, j, h => by rw [World.setCells, setCells_other b (o + 1) r _ j h]; exact Below.heap_setCell _ _ _ _ h
theorem setCells_os (b : Nat) : ∀ (o : Nat) (vs : List Value) (w : World), (w.setCells b o vs).os = w.os
  | _, [], _ => rfl
  | o, v :: r, w => by rw [World.setCells, setCells_os b (o + 1) r]; rfl
theorem setCells_tape (b : Nat) : ∀ (o : Nat) (vs : List Value) (w : World), (w.setCells b o vs).tape = w.tape
  | _, [], _ => rfl
  | o, v :: r, w => by rw [World.setCells, setCells_tape b (o + 1) r]; rfl
theorem setCells_output (b : Nat) : ∀ (o : Nat) (vs : List Value) (w : World), (w.setCells b o vs).output = w.output
  | _, [], _ => rfl
  | o, v :: r, w => by rw [World.setCells, setCells_output b (o + 1) r]; rfl
structure Row (w : World) (mb n : Nat) (Y : Nat → Tn) : Prop where
  lt : mb < w.heap.size
  c : ∀ j i, j < n → i < 5 → w.cell? ⟨mb, j * 5 + i, none⟩ = some (fld (Y j) i)
  f : ∀ j i, j < n → i < 5 → w.frozen? ⟨mb, j * 5 + i, none⟩ = false
theorem Row.keep {w w' : World} {mb n : Nat} {Y : Nat → Tn} (h : Row w mb n Y) (hb : Below w.heap.size w w') : Row w' mb n Y :=
  ⟨by have := hb.size; have := h.lt; omega, fun j i hj hi => keepC hb h.lt (h.c j i hj hi), fun j i hj hi => keepF hb h.lt (h.f j i hj hi)⟩
theorem row_made (w : World) (n : Nat) : Row (w.alloc (.cells (madeCells #[.int .i64 0, .int .i64 0, .int .i64 0, .int .i64 0, .int .i64 0] (n * 5)) 38)) w.heap.size n (fun _ => ⟨0, 0, 0, 0, 0⟩) := by
  have hg : ∀ q, q < n * 5 → (madeCells #[.int .i64 0, .int .i64 0, .int .i64 0, .int .i64 0, .int .i64 0] (n * 5))[q]? = some (Value.int .i64 0) := fun q hq => by
    have hm : q % 5 = 0 ∨ q % 5 = 1 ∨ q % 5 = 2 ∨ q % 5 = 3 ∨ q % 5 = 4 := by omega
    simp only [madeCells, Array.getElem?_map]
    rw [show (Array.range (n * 5))[q]? = some q by simp [hq]]
    rcases hm with e | e | e | e | e <;> simp [e]
  have hz : ∀ i, i < 5 → fld ⟨0, 0, 0, 0, 0⟩ i = .int .i64 0 := fun i hi => by
    unfold fld
    congr 1
    (repeat' split) <;> rfl
  refine ⟨by simp, fun j i hj hi => ?_, fun j i hj hi => ?_⟩
  · have hlt : j * 5 + i < n * 5 := by omega
    rw [hz i hi]
    have := hg _ hlt
    simp [go_sem, this]
  · simp [go_sem]
theorem row_put {w : World} {mb n : Nat} {Y : Nat → Tn} (h : Row w mb n Y) (k : Nat) (hk : k < n) (y : Tn) :
    Row (((((w.setCell ⟨mb, k * 5, none⟩ (.int .i64 y.t)).setCell ⟨mb, k * 5 + 1, none⟩ (.int .i64 y.g)).setCell ⟨mb, k * 5 + 2, none⟩ (.int .i64 y.l)).setCell ⟨mb, k * 5 + 3, none⟩ (.int .i64 y.a)).setCell ⟨mb, k * 5 + 4, none⟩ (.int .i64 y.o)) mb n (fun j => if j = k then y else Y j) := by
  have oth : ∀ (W : World) (a b : Nat) (v : Value), a ≠ b → (W.setCell ⟨mb, a, none⟩ v).cell? ⟨mb, b, none⟩ = W.cell? ⟨mb, b, none⟩ := fun W a b v hab => World.cell?_setCell_other W _ _ v (fun e => hab (congrArg Addr.off e))
  have sam : ∀ (W : World) (a : Nat) (v : Value), (∃ u, W.cell? ⟨mb, a, none⟩ = some u) → (W.setCell ⟨mb, a, none⟩ v).cell? ⟨mb, a, none⟩ = some v := fun W a v ⟨u, hu⟩ => World.cell?_setCell_same W _ v hu
  refine ⟨by simpa [World.setCell] using h.lt, fun j i hj hi => ?_, fun j i hj hi => ?_⟩
  · by_cases e : j = k
    · subst e
      simp only [if_true]
      have h0 := h.c j 0 hj (by omega)
      rw [Nat.add_zero] at h0
      have h1 := h.c j 1 hj (by omega)
      have h2 := h.c j 2 hj (by omega)
      have h3 := h.c j 3 hj (by omega)
      have h4 := h.c j 4 hj (by omega)
      match i, hi with
      | 0, _ =>
        show World.cell? _ ⟨mb, j * 5, none⟩ = _
        rw [oth _ _ _ _ (by omega), oth _ _ _ _ (by omega), oth _ _ _ _ (by omega), oth _ _ _ _ (by omega), sam _ _ _ ⟨_, h0⟩]; rfl
      | 1, _ => rw [oth _ _ _ _ (by omega), oth _ _ _ _ (by omega), oth _ _ _ _ (by omega), sam _ _ _ ⟨_, by rw [oth _ _ _ _ (by omega)]; exact h1⟩]; rfl
      | 2, _ => rw [oth _ _ _ _ (by omega), oth _ _ _ _ (by omega), sam _ _ _ ⟨_, by rw [oth _ _ _ _ (by omega), oth _ _ _ _ (by omega)]; exact h2⟩]; rfl
      | 3, _ => rw [oth _ _ _ _ (by omega), sam _ _ _ ⟨_, by rw [oth _ _ _ _ (by omega), oth _ _ _ _ (by omega), oth _ _ _ _ (by omega)]; exact h3⟩]; rfl
      | 4, _ => rw [sam _ _ _ ⟨_, by rw [oth _ _ _ _ (by omega), oth _ _ _ _ (by omega), oth _ _ _ _ (by omega), oth _ _ _ _ (by omega)]; exact h4⟩]; rfl
    · simp only [e, if_false]
      rw [oth _ _ _ _ (by omega), oth _ _ _ _ (by omega), oth _ _ _ _ (by omega), oth _ _ _ _ (by omega), oth _ _ _ _ (by omega)]
      exact h.c j i hj hi
  · simp only [World.frozen?_setCell]
    exact h.f j i hj hi
theorem Row.TL {w : World} {mb n : Nat} {Y : Nat → Tn} (h : Row w mb n Y) : TL w (some ⟨mb, 0, none⟩) n Y :=
  ⟨fun hn => ⟨mb, 0, rfl, h.lt, fun j hj => by have := h.c j 0 hj (by omega); rw [Nat.add_zero] at this; rw [Nat.zero_add]; exact this,
    fun j hj => by rw [Nat.zero_add]; exact h.c j 1 hj (by omega), fun j hj => by rw [Nat.zero_add]; exact h.c j 2 hj (by omega), fun j hj => by rw [Nat.zero_add]; exact h.c j 3 hj (by omega), fun j hj => by rw [Nat.zero_add]; exact h.c j 4 hj (by omega)⟩⟩
theorem wpList_make_run (w : World) {ops : Array Oper} {rest : List Oper} {o : Oper} {a : Act} {Q : Exit → Act → World → Prop}
    (hg : o.guard = none) (l c : Operand) (t : TypeId) (hop : o.op = Op.makeSlice t l c) (v : Value) (w' : World)
    (hrun : (Instr.makeSlice t (a.eval l) (a.eval c)).run Try.prog w = .ok v w')
    (hK : wpList Try.prog ops Q rest (a.put o.dst v) w') : wpList Try.prog ops Q (o :: rest) a w := by
  refine wpList_plain hg fun K hK' => ?_
  unfold Oper.wp
  simp [execOp, hop, hrun, Result.andThen]
  exact hK' _ _ hK
theorem infoT : (Try.prog.info? 38).map (fun i => (i.zero, i.size, i.bytes)) = some (some (.agg #[.int .i64 0, .int .i64 0, .int .i64 0, .int .i64 0, .int .i64 0]), 5, 40) := by kernel_rfl
theorem info_of {i : Option TypeInfo} {z : Value} {s b : Nat} (h : i.map (fun i => (i.zero, i.size, i.bytes)) = some (some z, s, b)) : ∃ i0, i = some i0 ∧ i0.zero = some z ∧ i0.size = s ∧ i0.bytes = b := by
  cases i with
  | none => cases h
  | some i0 => simp at h; exact ⟨i0, rfl, h.1, h.2.1, h.2.2⟩
theorem make_any (n : Nat) (hn : n ≤ 1024) (W : World) : (Instr.makeSlice 30 (.int .i64 n) (.int .i64 n)).run Try.prog W = .ok (.slice (some ⟨W.heap.size, 0, none⟩) n n) (W.alloc (.cells (madeCells #[.int .i64 0, .int .i64 0, .int .i64 0, .int .i64 0, .int .i64 0] (n * 5)) 38)) := by
  obtain ⟨i0, hi, hz0, hz1, hz2⟩ := info_of infoT
  have := run_make (P := Try.prog) W 30 38 i0 (.agg #[.int .i64 0, .int .i64 0, .int .i64 0, .int .i64 0, .int .i64 0]) Try.underlying30 hi hz0 .i64 .i64 n n (by omega) (Int.le_refl _) (by rw [hz2]; omega) (by omega)
  rw [hz1] at this
  exact this

theorem Row.ext {w : World} {mb n : Nat} {Y Z : Nat → Tn} (h : Row w mb n Y) (e : ∀ j, j < n → Y j = Z j) : Row w mb n Z :=
  ⟨h.lt, fun j i hj hi => by rw [← e j hj]; exact h.c j i hj hi, h.f⟩
/-- Tones laid over a row from place o on. -/
def layT (Y : Nat → Tn) (o : Nat) (M : List Tn) (j : Nat) : Tn := if o ≤ j ∧ j < o + M.length then fn M (j - o) else Y j
theorem lc_fld {M : List Tn} {j i : Nat} (hj : j < M.length) (hi : i < 5) : (lc M)[j * 5 + i]? = some (fld (fn M j) i) := by
  obtain ⟨q0, q1, q2, q3, q4⟩ := lc_get (fn_lt hj)
  match i, hi with
  | 0, _ => exact q0
  | 1, _ => exact q1
  | 2, _ => exact q2
  | 3, _ => exact q3
  | 4, _ => exact q4
theorem Row.copied {w : World} {mb n : Nat} {Y : Nat → Tn} (h : Row w mb n Y) (o : Nat) (M : List Tn) (hf : o + M.length ≤ n) : Row (w.setCells mb (o * 5) (lc M)) mb n (layT Y o M) := by
  have hin : ∀ j, j < (lc M).length → (w.cell? ⟨mb, o * 5 + j, none⟩).isSome = true := fun j hj => by
    rw [lc_len] at hj
    have := h.c (o + j / 5) (j % 5) (by omega) (by omega)
    rw [show (o + j / 5) * 5 + j % 5 = o * 5 + j by omega] at this
    rw [this]; rfl
  have hz : (w.setCells mb (o * 5) (lc M)).heap.size = w.heap.size := setCells_size _ _ _ _
  refine ⟨by rw [hz]; exact h.lt, fun j i hj hi => ?_, fun j i hj hi => by rw [World.frozen?_setCells]; exact h.f j i hj hi⟩
  unfold layT
  by_cases e : o ≤ j ∧ j < o + M.length
  · rw [if_pos e]
    have hl : (j - o) * 5 + i < (lc M).length := by rw [lc_len]; omega
    have := World.cell?_setCells_in mb (lc M) (o * 5) w hin ((j - o) * 5 + i) hl
    rw [show o * 5 + ((j - o) * 5 + i) = j * 5 + i by omega] at this
    rw [this]
    have h2 := lc_fld (M := M) (j := j - o) (i := i) (by omega) hi
    rw [List.getElem?_eq_getElem hl] at h2
    exact h2
  · rw [if_neg e, World.cell?_setCells_out mb (lc M) (o * 5) w ⟨mb, j * 5 + i, none⟩ (fun _ _ => by rw [lc_len]; show j * 5 + i < o * 5 ∨ o * 5 + M.length * 5 ≤ j * 5 + i; omega)]
    exact h.c j i hj hi
theorem copy_run {P : Program} (w : World) (dT sT ty elem : TypeId) (b o dLen dCap : Nat) (a : Addr) (sLen sCap k : Nat) (cs : List Value)
    (hu : P.underlying dT = some (.slice elem)) (hs : (P.info? elem).map (·.size) = some k) (hn : cs.length = Nat.min sLen dLen * k)
    (hsrc : ∀ j v, cs[j]? = some v → w.cell? (a.add j) = some v) (hc : ∀ j, j < cs.length → (w.cell? ⟨b, o + j, none⟩).isSome = true) (hf : ∀ j, j < cs.length → w.frozen? ⟨b, o + j, none⟩ = false) (h1 : ∀ v ∈ cs, v.oneCell' = true) :
    (Builtin.copy_ #[dT, sT] ty #[.slice (some ⟨b, o, none⟩) dLen dCap, .slice (some a) sLen sCap]).run P w = .ok (goInt (Nat.min sLen dLen)) (w.setCells b o cs) := by
  have hl := run_loadCells_list (P := P) w a cs hsrc
  have hst := run_storeCells_cells (P := P) b o cs 0 w (by simpa using hc) (by simpa using hf) h1
  cases hq : P.info? elem with
  | none => simp [hq] at hs
  | some i =>
    have hi : i.size = k := by simpa [hq] using hs
    simp [Builtin.copy_, run_underlying hu, Builtin.lenOf, Builtin.firstCells, sizeOf, typeInfo, hq, hi, ← hn, hl, hst]
theorem copy_none {P : Program} (w : World) (dT sT ty elem : TypeId) (d a : Option Addr) (dLen dCap sLen sCap k : Nat) (hu : P.underlying dT = some (.slice elem)) (hs : (P.info? elem).map (·.size) = some k) (hn : Nat.min sLen dLen = 0) :
    (Builtin.copy_ #[dT, sT] ty #[.slice d dLen dCap, .slice a sLen sCap]).run P w = .ok (goInt 0) w := by
  cases hq : P.info? elem with
  | none => simp [hq] at hs
  | some i =>
    have hl : ∀ (x : Addr), (loadCells x 0).run P w = .ok #[] w := fun x => by simpa using run_loadCells_list (P := P) w x [] (by simp)
    cases d <;> cases a <;> simp [Builtin.copy_, run_underlying hu, Builtin.lenOf, Builtin.firstCells, sizeOf, typeInfo, hq, hn, storeCells, hl]
theorem infoT5 : (Try.prog.info? 38).map (·.size) = some 5 := by kernel_rfl
/-- What a copy of tones into a row of one's own leaves. -/
structure CpW (w w' : World) (mb n off : Nat) (Y : Nat → Tn) (M : List Tn) : Prop where
  r : Row w' mb n (layT Y off M)
  k : ∀ j, j ≠ mb → w'.heap[j]? = w.heap[j]?
  z : w'.heap.size = w.heap.size
  os : w'.os = w.os
  tp : w'.tape = w.tape
  op : w'.output = w.output
theorem CpW.bel {w w' : World} {mb n off : Nat} {Y : Nat → Tn} {M : List Tn} (h : CpW w w' mb n off Y M) {B : Nat} (hB : B ≤ mb) : Below B w w' := ⟨h.os, h.tp, h.op, by rw [h.z]; exact Nat.le_refl _, fun j hj => h.k j (by omega)⟩
theorem copy_ex {w : World} (dp sp : Option Addr) (dLen dCap sLen sCap : Nat) (mb off n : Nat) (Y : Nat → Tn) (hR : Row w mb n Y) (M : List Tn) (hn : M.length = Nat.min sLen dLen)
    (hpos : 0 < M.length → dp = some ⟨mb, off * 5, none⟩ ∧ ∃ b o2, sp = some ⟨b, o2, none⟩ ∧ ∀ j v, (lc M)[j]? = some v → w.cell? ⟨b, o2 + j, none⟩ = some v) (hfit : off + M.length ≤ n) :
    ∃ w', (∀ ty, (Builtin.copy_ #[30, 30] ty #[.slice dp dLen dCap, .slice sp sLen sCap]).run Try.prog w = .ok (goInt M.length) w') ∧ CpW w w' mb n off Y M := by
  by_cases h0 : M.length = 0
  · obtain rfl : M = [] := List.eq_nil_of_length_eq_zero h0
    refine ⟨w, fun ty => ?_, ⟨hR.ext (fun j hj => by unfold layT; rw [if_neg (by simp)]), fun _ _ => rfl, rfl, rfl, rfl, rfl⟩⟩
    exact copy_none (P := Try.prog) w 30 30 ty 38 dp sp dLen dCap sLen sCap 5 Try.underlying30 infoT5 (by simpa using hn.symm)
  · obtain ⟨rfl, b, o2, rfl, hsrc⟩ := hpos (by omega)
    have hadd : ∀ j, (⟨b, o2, none⟩ : Addr).add j = ⟨b, o2 + j, none⟩ := fun j => by unfold Addr.add; by_cases h : j = 0 <;> simp [h]
    have hcell : ∀ j, j < (lc M).length → ∃ q i, q < n ∧ i < 5 ∧ off * 5 + j = q * 5 + i := fun j hj => by
      rw [lc_len] at hj
      exact ⟨off + j / 5, j % 5, by omega, by omega, by omega⟩
    refine ⟨_, fun ty => ?_, ⟨hR.copied off M hfit, fun j hj => setCells_other _ _ _ _ _ hj, setCells_size _ _ _ _, setCells_os _ _ _ _, setCells_tape _ _ _ _, setCells_output _ _ _ _⟩⟩
    rw [hn]
    exact copy_run (P := Try.prog) w 30 30 ty 38 mb (off * 5) dLen dCap ⟨b, o2, none⟩ sLen sCap 5 (lc M) Try.underlying30 infoT5 (by rw [lc_len, hn])
      (fun j v hj => by rw [hadd]; exact hsrc j v hj)
      (fun j hj => by obtain ⟨q, i, k1, k2, k3⟩ := hcell j hj; rw [k3, hR.c q i k1 k2]; rfl)
      (fun j hj => by obtain ⟨q, i, k1, k2, k3⟩ := hcell j hj; rw [k3]; exact hR.f q i k1 k2)
      (fun v hv => by
        unfold lc at hv
        obtain ⟨x, _, hx⟩ := List.mem_flatMap.1 hv
        simp at hx
        rcases hx with rfl | rfl | rfl | rfl | rfl <;> rfl)
/-- A row that is done is a line. -/
theorem Row.ln {w : World} {mb n : Nat} {Y : Nat → Tn} (h : Row w mb n Y) {S : Nat → Prop} (hS : S mb) {L : List Tn} (hl : L.length = n) (he : ∀ j, j < n → Y j = fn L j) : LN w S (some ⟨mb, 0, none⟩) L := ⟨fun _ => by
  refine ⟨mb, 0, rfl, h.lt, hS, fun j x hj => ?_⟩
  have hjn : j < n := by have := (List.getElem?_eq_some_iff.1 hj).1; omega
  have e := he j hjn
  rw [fn_get hj] at e
  simp only [Nat.zero_add]
  rw [← e]
  have h0 := h.c j 0 hjn (by omega)
  rw [Nat.add_zero] at h0
  exact ⟨h0, h.c j 1 hjn (by omega), h.c j 2 hjn (by omega), h.c j 3 hjn (by omega), h.c j 4 hjn (by omega)⟩⟩
/-- What a line's cells are, cell by cell. -/
theorem LN.cells {w : World} {S : Nat → Prop} {ao : Option Addr} {L : List Tn} (h : LN w S ao L) (h0 : 0 < L.length) : ∃ b off, ao = some ⟨b, off, none⟩ ∧ b < w.heap.size ∧ S b ∧ ∀ j v, (lc L)[j]? = some v → w.cell? ⟨b, off + j, none⟩ = some v := by
  obtain ⟨b, off, e, k1, k2, q⟩ := h.at' h0
  refine ⟨b, off, e, k1, k2, fun j v hj => ?_⟩
  have hjl : j < L.length * 5 := by have := (List.getElem?_eq_some_iff.1 hj).1; rw [lc_len] at this; exact this
  obtain ⟨q0, q1, q2, q3, q4⟩ := q (j / 5) _ (fn_lt (by omega))
  have h2 := lc_fld (M := L) (j := j / 5) (i := j % 5) (by omega) (by omega)
  rw [show j / 5 * 5 + j % 5 = j by omega, hj] at h2
  have hm : j % 5 = 0 ∨ j % 5 = 1 ∨ j % 5 = 2 ∨ j % 5 = 3 ∨ j % 5 = 4 := by omega
  cases h2
  rcases hm with e | e | e | e | e
  · rw [e, show off + j = off + j / 5 * 5 by omega]; exact q0
  · rw [e, show off + j = off + j / 5 * 5 + 1 by omega]; exact q1
  · rw [e, show off + j = off + j / 5 * 5 + 2 by omega]; exact q2
  · rw [e, show off + j = off + j / 5 * 5 + 3 by omega]; exact q3
  · rw [e, show off + j = off + j / 5 * 5 + 4 by omega]; exact q4
theorem LN.take {w : World} {S : Nat → Prop} {ao : Option Addr} {L : List Tn} (h : LN w S ao L) (n : Nat) : LN w S ao (L.take n) := ⟨fun hn => by
  obtain ⟨b, off, h1, h2, h3, h4⟩ := h.at' (by rw [List.length_take] at hn; omega)
  refine ⟨b, off, h1, h2, h3, fun j x hj => h4 j x ?_⟩
  have hjn : j < n := by have := (List.getElem?_eq_some_iff.1 hj).1; rw [List.length_take] at this; omega
  rw [List.getElem?_take_of_lt hjn] at hj; exact hj⟩
/-- Where a slice of tones stands from place n on. -/
def frm5 (la : Option Addr) (n c : Nat) : Option Addr := if c = n then la else la.map (fun x => x.add (n * 5))
theorem LN.drop {w : World} {S : Nat → Prop} {ao : Option Addr} {L : List Tn} (h : LN w S ao L) (n c : Nat) (hc : L.length ≤ c) : LN w S (frm5 ao n c) (L.drop n) := ⟨fun hn => by
  rw [List.length_drop] at hn
  obtain ⟨b, off, h1, h2, h3, h4⟩ := h.at' (by omega)
  refine ⟨b, off + n * 5, ?_, h2, h3, fun j x hj => ?_⟩
  · unfold frm5
    rw [if_neg (by omega), h1]
    show some ((⟨b, off, none⟩ : Addr).add (n * 5)) = _
    unfold Addr.add
    by_cases e : n = 0
    · simp [e]
    · have e5 : ¬ n * 5 = 0 := by omega
      simp [e5]
  · rw [List.getElem?_drop] at hj
    have := h4 (n + j) x hj
    rw [show off + n * 5 + j * 5 = off + (n + j) * 5 by omega]; exact this⟩
theorem sizeF5 (w : World) : (Go.sizeOf 38).run Try.prog w = .ok 5 w := by
  simp [Go.sizeOf]
  kernel_rfl
theorem run_to5 (la : Option Addr) (m c n : Nat) (h1 : n ≤ c) (w : World) : (Instr.slice 30 (.slice la m c) none (some (.int .i64 (n : Int))) none).run Try.prog w = .ok (.slice la n c) w := by
  have hu : Try.prog.underlying 30 = some (.slice 38) := Try.underlying30
  unfold Instr.slice
  simp [run_underlying hu, Instr.sliceBounds, run_sliceBound, h1, sizeF5]
  intro _
  exact map_add0 la
theorem run_from5 (la : Option Addr) (m c n : Nat) (h1 : n ≤ m) (w : World) : (Instr.slice 30 (.slice la m c) (some (.int .i64 (n : Int))) none none).run Try.prog w = .ok (.slice (frm5 la n c) (m - n) (c - n)) w := by
  have hu : Try.prog.underlying 30 = some (.slice 38) := Try.underlying30
  unfold Instr.slice frm5
  simp [run_underlying hu, Instr.sliceBounds, run_sliceBound, h1, sizeF5]
end Go.Proofs.Ytpacfppnmenndaa.Tk
