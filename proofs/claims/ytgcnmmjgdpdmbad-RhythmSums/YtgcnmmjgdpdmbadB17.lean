/- What the document's Scaled comes to: a new beat, all shares of kids as many times greater. -/
import Derived.Test.YtgcnmmjgdpdmbadBMath3
import Derived.Test.YtgcnmmjgdpdmbadB12
namespace Go.Proofs.Ytgcnmmjgdpdmbad.F
open Go.RowKit
set_option linter.unusedVariables false
set_option linter.unusedSimpArgs false

/-- A beat as it is read: its kids lie in blocks of which P holds. -/
def LiesP (w : World) (P : Nat → Prop) : M.Bt → Value → Prop
  | ⟨true, _, _, _, _⟩, _ => False
  | ⟨false, k, s, n, kid⟩, v => ∃ ao cap, v = .agg #[.int .i64 k, .int .i64 s, .slice ao n cap] ∧ n ≤ 9223372036854775807 ∧ (0 < n → ∃ b off, ao = some ⟨b, off, none⟩ ∧ P b ∧ ∀ j, j < n → ∃ ao' cap', w.cell? ⟨b, off + j * 3, none⟩ = some (.int .i64 (kid j).k) ∧ w.cell? ⟨b, off + j * 3 + 1, none⟩ = some (.int .i64 (kid j).s) ∧ w.cell? ⟨b, off + j * 3 + 2, none⟩ = some (.slice ao' (kid j).n cap') ∧ LiesP w P (kid j) (.agg #[.int .i64 (kid j).k, .int .i64 (kid j).s, .slice ao' (kid j).n cap']))
theorem LiesP.step {w w' : World} {P P' : Nat → Prop} (hb : ∀ b, P b → w'.heap[b]? = w.heap[b]?) (hP : ∀ b, P b → P' b) (b : M.Bt) : ∀ v, LiesP w P b v → LiesP w' P' b v := by
  induction b using M.Bt.ind with
  | nil => intro v h; exact False.elim h
  | mk k s n kid ih =>
    intro v h
    obtain ⟨ao, cap, h1, h2, h3⟩ := h
    refine ⟨ao, cap, h1, h2, fun hn => ?_⟩
    obtain ⟨b, off, e1, e2, e3⟩ := h3 hn
    refine ⟨b, off, e1, hP b e2, fun j hj => ?_⟩
    obtain ⟨ao', cap', c0, c1, c2, c3⟩ := e3 j hj
    have hc : ∀ i, w'.cell? ⟨b, i, none⟩ = w.cell? ⟨b, i, none⟩ := fun i => World.cell?_of_block (w := w) (hb b e2)
    exact ⟨ao', cap', (hc _).trans c0, (hc _).trans c1, (hc _).trans c2, ih j _ c3⟩
theorem LiesP.lies {w : World} {P : Nat → Prop} {B : Nat} (hP : ∀ b, P b → b < B) (b : M.Bt) : ∀ v, LiesP w P b v → Lies w B b v := by
  induction b using M.Bt.ind with
  | nil => intro v h; exact False.elim h
  | mk k s n kid ih =>
    intro v h
    obtain ⟨ao, cap, h1, h2, h3⟩ := h
    refine ⟨ao, cap, h1, h2, fun hn => ?_⟩
    obtain ⟨b, off, e1, e2, e3⟩ := h3 hn
    refine ⟨b, off, e1, hP b e2, fun j hj => ?_⟩
    obtain ⟨ao', cap', c0, c1, c2, c3⟩ := e3 j hj
    exact ⟨ao', cap', c0, c1, c2, ih j _ c3⟩

theorem infoBt : (Try.prog.info? 24).map (fun i => (i.zero, i.size, i.bytes)) = some (some (.agg #[.int .i64 0, .int .i64 0, .slice none 0 0]), 3, 40) := by kernel_rfl
def kC (b : M.Bt) (f : Option Addr × Nat) : List Value := [.int .i64 b.k, .int .i64 b.s, .slice f.1 b.n f.2]
/-- The cells of the kids that have come. -/
def kL (K : Nat → M.Bt) : List (Option Addr × Nat) → Nat → List Value
  | [], _ => []
  | f :: r, i => kC (K i) f ++ kL K r (i + 1)
theorem kL_app (K : Nat → M.Bt) (l : List (Option Addr × Nat)) (f : Option Addr × Nat) (i : Nat) : kL K (l ++ [f]) i = kL K l i ++ kC (K (i + l.length)) f := by
  induction l generalizing i with
  | nil => simp [kL]
  | cons x l ih => simp only [List.cons_append, kL, ih, List.append_assoc, List.length_cons]; rw [show i + 1 + l.length = i + (l.length + 1) by omega]
theorem kL_get (K : Nat → M.Bt) (l : List (Option Addr × Nat)) (i j c : Nat) (f : Option Addr × Nat) (h : l[j]? = some f) (hc : c < 3) : (kL K l i)[j * 3 + c]? = (kC (K (i + j)) f)[c]? := by
  induction l generalizing i j with
  | nil => simp at h
  | cons x l ih =>
    simp only [kL]
    cases j with
    | zero =>
      simp at h; subst h
      rw [List.getElem?_append_left (by simp [kC]; omega)]
      simp
    | succ j =>
      simp at h
      rw [List.getElem?_append_right (by simp [kC]; omega), show (j + 1) * 3 + c - (kC (K i) x).length = j * 3 + c by simp [kC]; omega, ih (i + 1) j h, show i + 1 + j = i + (j + 1) by omega]

/-- Scaled's own variables, and the kids that have come. -/
structure ScI (w : World) (k s : Int) (K : Nat → M.Bt) (fs : List (Option Addr × Nat)) (xa : Option Addr) (xc : Nat) (wr : World) : Prop where
  b : Below w.heap.size w wr
  r : wr.ownsRow (w.heap.size + 3) 24 3 (.slice xa fs.length xc) fs.length (kL K fs 0)
  c0 : wr.cell? ⟨w.heap.size + 2, 0, none⟩ = some (.int .i64 k)
  c1 : wr.cell? ⟨w.heap.size + 2, 1, none⟩ = some (.int .i64 s)
  c2 : wr.cell? ⟨w.heap.size + 2, 2, none⟩ = some (.slice xa fs.length xc)
  cf : wr.frozen? ⟨w.heap.size + 2, 2, none⟩ = false
  r0 : wr.cell? ⟨w.heap.size + 1, 0, none⟩ = some (.int .i64 0)
  r1 : wr.cell? ⟨w.heap.size + 1, 1, none⟩ = some (.int .i64 0)
  r2 : wr.cell? ⟨w.heap.size + 1, 2, none⟩ = some (.slice none 0 0)
  f0 : wr.frozen? ⟨w.heap.size + 1, 0, none⟩ = false
  f1 : wr.frozen? ⟨w.heap.size + 1, 1, none⟩ = false
  f2 : wr.frozen? ⟨w.heap.size + 1, 2, none⟩ = false
  lz : w.heap.size + 2 < wr.heap.size
  kd : ∀ i f, fs[i]? = some f → LiesP wr (fun b => w.heap.size + 3 ≤ b ∧ b < wr.heap.size ∧ (Value.slice xa fs.length xc).ownBlock ≠ some b) (K i) (.agg #[.int .i64 (K i).k, .int .i64 (K i).s, .slice f.1 (K i).n f.2])

/-- A kid more: it lies in blocks behind those that were there; the row has grown. -/
theorem ScI.more {w wr w6 w7 : World} {k s : Int} {K : Nat → M.Bt} {fs : List (Option Addr × Nat)} {xa xa' : Option Addr} {xc xc' : Nat} {f : Option Addr × Nat} (h : ScI w k s K fs xa xc wr)
    (hw6 : Below wr.heap.size wr w6) (hg : w6.grownBy w7 (Value.slice xa fs.length xc).ownBlock) (hown : w7.ownsRow (w.heap.size + 3) 24 3 (.slice xa' (fs.length + 1) xc') (fs.length + 1) (kL K fs 0 ++ kC (K fs.length) f))
    (hk : (Value.slice xa' (fs.length + 1) xc').ownBlock = (Value.slice xa fs.length xc).ownBlock ∨ ∃ g, (Value.slice xa' (fs.length + 1) xc').ownBlock = some g ∧ w6.heap.size ≤ g)
    (hl : LiesP w6 (fun b => wr.heap.size ≤ b ∧ b < w6.heap.size) (K fs.length) (.agg #[.int .i64 (K fs.length).k, .int .i64 (K fs.length).s, .slice f.1 (K fs.length).n f.2])) :
    ScI w k s K (fs ++ [f]) xa' xc' (w7.setCell ⟨w.heap.size + 2, 2, none⟩ (.slice xa' (fs.length + 1) xc')) := by
  have l1 := h.lz
  have l2 := hw6.size
  have l3 := hg.size
  have ownlt := own_lt h.r
  have ownge := own_block h.r
  have hbz : Below (w.heap.size + 3) w6 w7 := (Below.refl _ _).grown hg (by omega) ownge
  have hbz' : Below (w.heap.size + 3) wr w7 := (hw6.mono (by omega)).trans hbz
  have hln : (fs ++ [f]).length = fs.length + 1 := by simp
  have q := kL_app K fs f 0
  rw [Nat.zero_add] at q
  have blk : ∀ b, w.heap.size + 3 ≤ b → b < w6.heap.size → (Value.slice xa fs.length xc).ownBlock ≠ some b → (w7.setCell ⟨w.heap.size + 2, 2, none⟩ (.slice xa' (fs.length + 1) xc')).heap[b]? = w6.heap[b]? := fun b hb1 hb2 hne => by
    rw [heap_setCell_other _ _ _ _ (by show b ≠ w.heap.size + 2; omega)]
    exact hg.block b hb2 (fun e => hne e.symm)
  have newb : ∀ b, b < w6.heap.size → (Value.slice xa fs.length xc).ownBlock ≠ some b → (Value.slice xa' (fs.length + 1) xc').ownBlock ≠ some b := fun b hb1 hne e => by
    rcases hk with q | ⟨g, q1, q2⟩
    · exact hne (by rw [← q]; exact e)
    · rw [q1] at e; simp only [Option.some.injEq] at e; omega
  rw [← q, ← hln] at hown
  rw [← hln] at newb
  refine ⟨?_, ?_, ?_, ?_, ?_, ?_, ?_, ?_, ?_, ?_, ?_, ?_, ?_, fun i f' hf => ?_⟩
  · exact (h.b.trans (hbz'.mono (by omega))).setCell (p := ⟨w.heap.size + 2, 2, none⟩) (by show w.heap.size ≤ w.heap.size + 2; omega) _
  · rw [← hln]; exact own_put hown (by omega)
  · simp [go_sem, keepC hbz' (show w.heap.size + 2 < w.heap.size + 3 by omega) h.c0]
  · simp [go_sem, keepC hbz' (show w.heap.size + 2 < w.heap.size + 3 by omega) h.c1]
  · rw [hln]; simp [go_sem, keepC hbz' (show w.heap.size + 2 < w.heap.size + 3 by omega) h.c2]
  · simp [go_sem, keepF hbz' (show w.heap.size + 2 < w.heap.size + 3 by omega) h.cf]
  · simp [go_sem, keepC hbz' (show w.heap.size + 1 < w.heap.size + 3 by omega) h.r0]
  · simp [go_sem, keepC hbz' (show w.heap.size + 1 < w.heap.size + 3 by omega) h.r1]
  · simp [go_sem, keepC hbz' (show w.heap.size + 1 < w.heap.size + 3 by omega) h.r2]
  · simp [go_sem, keepF hbz' (show w.heap.size + 1 < w.heap.size + 3 by omega) h.f0]
  · simp [go_sem, keepF hbz' (show w.heap.size + 1 < w.heap.size + 3 by omega) h.f1]
  · simp [go_sem, keepF hbz' (show w.heap.size + 1 < w.heap.size + 3 by omega) h.f2]
  · simp; omega
  · by_cases hi : i < fs.length
    · rw [List.getElem?_append_left hi] at hf
      refine LiesP.step (fun b hb => ?_) (fun b hb => ?_) _ _ (h.kd i f' hf)
      · exact (blk b hb.1 (by omega) hb.2.2).trans (hw6.block b hb.2.1)
      · exact ⟨hb.1, by simp; omega, newb b (by omega) hb.2.2⟩
    · have hi2 : i = fs.length := by
        have := (List.getElem?_eq_some_iff.1 hf).1
        rw [hln] at this; omega
      subst hi2
      rw [List.getElem?_append_right (Nat.le_refl _), Nat.sub_self] at hf
      simp only [List.getElem?_cons_zero, Option.some.injEq] at hf
      subst hf
      refine LiesP.step (fun b hb => ?_) (fun b hb => ?_) _ _ hl
      · exact blk b (by omega) hb.2 (fun e => by have := ownlt b e; omega)
      · exact ⟨by omega, by simp; omega, newb b hb.2 (fun e => by have := ownlt b e; omega)⟩

theorem LiesP.form {w : World} {P : Nat → Prop} {b : M.Bt} {v : Value} (h : LiesP w P b v) : ∃ ao cap, v = .agg #[.int .i64 b.k, .int .i64 b.s, .slice ao b.n cap] := by
  induction b using M.Bt.ind with
  | nil => exact False.elim h
  | mk k s n kid => obtain ⟨ao, cap, h1, _⟩ := h; exact ⟨ao, cap, h1⟩
theorem LiesP.up {w : World} {P : Nat → Prop} {b : M.Bt} {f : Int} {ao : Option Addr} {cap : Nat} (h : LiesP w P b (.agg #[.int .i64 b.k, .int .i64 b.s, .slice ao b.n cap])) : LiesP w P (M.upS f b) (.agg #[.int .i64 (M.upS f b).k, .int .i64 (M.upS f b).s, .slice ao (M.upS f b).n cap]) := by
  induction b using M.Bt.ind with
  | nil => exact False.elim h
  | mk k s n kid =>
    obtain ⟨ao1, cap1, h1, h2, h3⟩ := h
    obtain ⟨rfl, rfl⟩ : ao = ao1 ∧ cap = cap1 := by simpa [M.Bt.k, M.Bt.s, M.Bt.n] using h1
    exact ⟨ao, cap, rfl, h2, h3⟩

/-- What Scaled answers: a beat in new blocks. -/
def ScC (b : M.Bt) : Prop := M.Fine b → ∀ (f : Int) (w : World) (B : Nat) (v : Value), Lies w B b v → B ≤ w.heap.size → 1 ≤ f → f ≤ 1000 →
  Calls Try.prog 8 #[v, .int .i64 f] w fun e w' => ∃ v', e = .returned v' ∧ LiesP w' (fun b => w.heap.size ≤ b ∧ b < w'.heap.size) (M.scl f b) v' ∧ Below w.heap.size w w'

set_option maxRecDepth 20000 in
set_option maxHeartbeats 4000000 in
theorem scaled_mk (k s : Int) (m : Nat) (kid : Nat → M.Bt) (ih : ∀ j, ScC (kid j)) (hF : ∀ j, j < m → M.Fine (kid j)) (hm : m ≤ 4096) (f : Int) (w : World) (B : Nat) (ao : Option Addr) (cap : Nat) (hB : B ≤ w.heap.size) (f1 : 1 ≤ f) (f2 : f ≤ 1000)
    (hk : 0 < m → ∃ b off, ao = some ⟨b, off, none⟩ ∧ b < B ∧ ∀ j, j < m → ∃ ao' cap', w.cell? ⟨b, off + j * 3, none⟩ = some (.int .i64 (kid j).k) ∧ w.cell? ⟨b, off + j * 3 + 1, none⟩ = some (.int .i64 (kid j).s) ∧ w.cell? ⟨b, off + j * 3 + 2, none⟩ = some (.slice ao' (kid j).n cap') ∧ Lies w B (kid j) (.agg #[.int .i64 (kid j).k, .int .i64 (kid j).s, .slice ao' (kid j).n cap'])) :
    Calls Try.prog 8 #[.agg #[.int .i64 k, .int .i64 s, .slice ao m cap], .int .i64 f] w fun e w' => ∃ v', e = .returned v' ∧ LiesP w' (fun b => w.heap.size ≤ b ∧ b < w'.heap.size) (.mk k s m (fun j => M.upS f (M.scl f (kid j)))) v' ∧ Below w.heap.size w w' := by
  obtain ⟨i0, hi, hz0, hz1, hz2⟩ := info_parts infoBt
  have Hk : Hid (0 < m → ∃ b off, ao = some ⟨b, off, none⟩ ∧ b < B ∧ ∀ j, j < m → ∃ ao' cap', w.cell? ⟨b, off + j * 3, none⟩ = some (.int .i64 (kid j).k) ∧ w.cell? ⟨b, off + j * 3 + 1, none⟩ = some (.int .i64 (kid j).s) ∧ w.cell? ⟨b, off + j * 3 + 2, none⟩ = some (.slice ao' (kid j).n cap') ∧ Lies w B (kid j) (.agg #[.int .i64 (kid j).k, .int .i64 (kid j).s, .slice ao' (kid j).n cap'])) := hk
  have HF : Hid (∀ j, j < m → M.Fine (kid j)) := hF
  clear hk hF
  have I0 : ScI w k s (fun j => M.upS f (M.scl f (kid j))) [] none 0 (((w.alloc (Obj.cells #[.int .i64 k, .int .i64 s, .slice ao m cap] 24)).alloc (Obj.cells #[.int .i64 0, .int .i64 0, .slice none 0 0] 24)).alloc (Obj.cells #[.int .i64 k, .int .i64 s, .slice none 0 0] 24)) :=
    ⟨by go_grown, ⟨by simp [kL], .inl ⟨rfl, rfl⟩⟩, by simp [go_sem], by simp [go_sem], by simp [go_sem], by simp [go_sem], by simp [go_sem], by simp [go_sem], by simp [go_sem], by simp [go_sem], by simp [go_sem], by simp [go_sem], by simp, fun i f h => by simp at h⟩
  go_enter Try.func8, Try.ntmps8
  go_wp2_with fail
  go_loopw [17] (fun i wr => ∃ (fs : List (Option Addr × Nat)) (xa : Option Addr) (xc : Nat), i = .int .i64 fs.length ∧ fs.length ≤ m ∧ ScI w k s (fun j => M.upS f (M.scl f (kid j))) fs xa xc wr) (fun i _ => m - (intOf i).toNat)
  case atStart => exact ⟨[], none, 0, rfl, by simp, I0⟩
  case round =>
    obtain ⟨fs, xa, xc, rfl, hj, hI⟩ := hrel
    have lz := hI.lz
    by_cases hlt : fs.length < m
    · obtain ⟨b, off, rfl, hbB, hkk⟩ := Hk.out (by omega)
      obtain ⟨ao', cap', q0, q1, q2, hLj⟩ := hkk fs.length hlt
      have hbw : b < w.heap.size := by omega
      replace q0 := keepC hI.b hbw q0
      replace q1 := keepC hI.b hbw q1
      replace q2 := keepC hI.b hbw q2
      have hLw := Lies.step _ _ hLj (hI.b.mono hB)
      have hFj := HF.out fs.length hlt
      have hC := fun (X : World) (hb : Below wr.heap.size wr X) => ih fs.length hFj f X B _ (Lies.step _ _ hLw (hb.mono (by omega))) (by have := hb.size; omega) f1 f2
      have ks := hFj.share
      have hne : (M.scl f (kid fs.length)).z = false := by rw [M.scl_z]; exact hFj.ne
      have HU : Hid (((fun j => M.upS f (M.scl f (kid j))) fs.length).k = (kid fs.length).k ∧ ((fun j => M.upS f (M.scl f (kid j))) fs.length).s = (kid fs.length).s * f ∧ ((fun j => M.upS f (M.scl f (kid j))) fs.length).n = (kid fs.length).n) := by
        have e1 := M.upS_s f _ hne
        have e2 := M.scl_s f (kid fs.length)
        exact ⟨e1.2.1.trans e2.2.1, by show (M.upS f (M.scl f (kid fs.length))).s = _; rw [e1.1, e2.1], e1.2.2.trans e2.2.2⟩
      have HV : Hid ((M.scl f (kid fs.length)).z = false ∧ (M.scl f (kid fs.length)).k = (kid fs.length).k ∧ (M.scl f (kid fs.length)).s = (kid fs.length).s ∧ (M.scl f (kid fs.length)).n = (kid fs.length).n) := by
        have e2 := M.scl_s f (kid fs.length)
        exact ⟨hne, e2.2.1, e2.1, e2.2.2⟩
      have HI : Hid (ScI w k s (fun j => M.upS f (M.scl f (kid j))) fs xa xc wr) := hI
      have p1 : 1 ≤ (kid fs.length).s * f := M.mul_pos' _ _ ks.1 f1
      have p2 : (kid fs.length).s * f ≤ 65536000 := by
        have := Int.mul_le_mul ks.2 f2 (by omega) (by omega : (0 : Int) ≤ 65536)
        omega
      have c2 := hI.c2
      have cf := hI.cf
      have bz : b < wr.heap.size := by omega
      clear hLj hLw hkk Hk hne hI
      generalize hKk : (kid fs.length).k = kk at *
      generalize hKs : (kid fs.length).s = ss at *
      generalize hKn : (kid fs.length).n = nn at *
      generalize hSc : M.scl f (kid fs.length) = SC at *
      go_wp2_with fail
      refine (hC _ (by go_grown)).mono ?_
      rintro e w5 ⟨v5, rfl, hl5, hb5⟩
      have h05 : Below wr.heap.size wr w5 := Below.trans (by go_grown) (hb5.mono (by simp))
      have z5 := h05.size
      obtain ⟨ao2, cap2, rfl⟩ := hl5.form
      rw [HV.out.2.1, HV.out.2.2.1, HV.out.2.2.2]
      replace c2 := keepC h05 lz c2
      replace cf := keepF h05 lz cf
      have l5 : w.heap.size + 2 < w5.heap.size := by omega
      have own5 : ((w5.alloc (Obj.cells #[.int .i64 kk, .int .i64 (ss * f), .slice ao2 nn cap2] 24)).alloc (Obj.cells #[.int .i64 kk, .int .i64 (ss * f), .slice ao2 nn cap2] 24)).ownsRow (w.heap.size + 3) 24 3 (.slice xa fs.length xc) fs.length (kL (fun j => M.upS f (M.scl f (kid j))) fs 0) := by
        have o1 := own_step HI.out.r (h05.alloc (by omega) (Obj.cells #[.int .i64 kk, .int .i64 (ss * f), .slice ao2 nn cap2] 24))
        exact o1.alloc _
      have hw6 : Below wr.heap.size wr ((w5.alloc (Obj.cells #[.int .i64 kk, .int .i64 (ss * f), .slice ao2 nn cap2] 24)).alloc (Obj.cells #[.int .i64 kk, .int .i64 (ss * f), .slice ao2 nn cap2] 24)) := (h05.alloc (by omega) _).alloc (by simp; omega) _
      have HC : Hid ([.int .i64 kk, .int .i64 (ss * f), .slice ao2 nn cap2] = kC ((fun j => M.upS f (M.scl f (kid j))) fs.length) (ao2, cap2)) := by
        show _ = [_, _, _]
        rw [HU.out.1, HU.out.2.1, HU.out.2.2]
      have hl6 : Hid (LiesP ((w5.alloc (Obj.cells #[.int .i64 kk, .int .i64 (ss * f), .slice ao2 nn cap2] 24)).alloc (Obj.cells #[.int .i64 kk, .int .i64 (ss * f), .slice ao2 nn cap2] 24)) (fun b => wr.heap.size ≤ b ∧ b < ((w5.alloc (Obj.cells #[.int .i64 kk, .int .i64 (ss * f), .slice ao2 nn cap2] 24)).alloc (Obj.cells #[.int .i64 kk, .int .i64 (ss * f), .slice ao2 nn cap2] 24)).heap.size) ((fun j => M.upS f (M.scl f (kid j))) fs.length) (.agg #[.int .i64 ((fun j => M.upS f (M.scl f (kid j))) fs.length).k, .int .i64 ((fun j => M.upS f (M.scl f (kid j))) fs.length).s, .slice (ao2, cap2).1 ((fun j => M.upS f (M.scl f (kid j))) fs.length).n (ao2, cap2).2])) := by
        have u := LiesP.up (f := f) hl5
        rw [← hSc] at u
        refine LiesP.step (fun b hb => ?_) (fun b hb => ?_) _ _ u
        · rw [Below.heap_alloc _ _ _ (by simp; omega), Below.heap_alloc _ _ _ hb.2]
        · have h1 := hb.1
          simp at h1
          exact ⟨by omega, by simp; omega⟩
      clear hb5 hC hl5 HU HV HF
      go_wp2_with (at_builtin; refine wpList_append_keep _ rfl (.tmp 30) (.tmp 32) 22 rfl (w.heap.size + 3) 24 i0 (.agg #[.int .i64 0, .int .i64 0, .slice none 0 0]) 3 40 Try.underlying22 hi hz0 hz1 hz2 rfl (by decide) _ fs.length (kL (fun j => M.upS f (M.scl f (kid j))) fs 0) rfl own5 ⟨w5.heap.size + 1, 0, none⟩ 1 1 [.int .i64 kk, .int .i64 (ss * f), .slice ao2 nn cap2] rfl rfl ?c1 ?c2 ?c3 ?c4 ?c5 (by decide) ?_)
      try (case c1 =>
        intro i u hi
        match i, hi with
        | 0, hi => simp at hi; subst hi; simp [Addr.add, go_sem]
        | 1, hi => simp at hi; subst hi; simp [Addr.add, go_sem]
        | 2, hi => simp at hi; subst hi; simp [Addr.add, go_sem])
      case c2 => first | exact ⟨rfl, rfl, rfl⟩ | (intro u hu; simp at hu; rcases hu with rfl | rfl | rfl <;> rfl)
      case c3 => unfold maxLen; omega
      case c4 => omega
      case c5 => first | omega | (simp; omega)
      intro v' w7 hown' hgrow hkp
      rw [HC.out] at hown'
      obtain ⟨a2, c2', rfl⟩ := own_form hown'
      have hmore : Hid (ScI w k s (fun j => M.upS f (M.scl f (kid j))) (fs ++ [(ao2, cap2)]) a2 c2' (w7.setCell ⟨w.heap.size + 2, 2, none⟩ (.slice a2 (fs.length + 1) c2'))) := HI.out.more hw6 hgrow hown' (by rcases hkp with q | ⟨g, q1, q2⟩; exact .inl q; exact .inr ⟨g, q1, by simpa using q2⟩) hl6.out
      have hbz : Below (w.heap.size + 3) wr w7 := (hw6.mono (by omega)).grown hgrow (by have := hw6.size; omega) (own_block own5)
      have C2 := keepC hbz (show w.heap.size + 2 < w.heap.size + 3 by omega) HI.out.c2
      have F2 := keepF hbz (show w.heap.size + 2 < w.heap.size + 3 by omega) HI.out.cf
      have z7 := hbz.size
      have l7 : w.heap.size + 2 < w7.heap.size := by omega
      clear hgrow hkp own5 hown' hl6 HC hbz hw6 HI
      go_wp2_with fail
      go_roundw
      case rel => exact ⟨fs ++ [(ao2, cap2)], a2, c2', by simp, by simp; omega, hmore.out⟩
      case measure => simp [intOf]; omega
    · obtain rfl : m = fs.length := by omega
      have c0 := hI.c0
      have c1 := hI.c1
      have c2 := hI.c2
      have r0 := hI.r0
      have r1 := hI.r1
      have r2 := hI.r2
      have g0 := hI.f0
      have g1 := hI.f1
      have g2 := hI.f2
      have lz1 : w.heap.size + 1 < wr.heap.size := by omega
      have blk : ∀ b, w.heap.size + 3 ≤ b → (((wr.setCell ⟨w.heap.size + 1, 0, none⟩ (.int .i64 k)).setCell ⟨w.heap.size + 1, 1, none⟩ (.int .i64 s)).setCell ⟨w.heap.size + 1, 2, none⟩ (.slice xa fs.length xc)).heap[b]? = wr.heap[b]? := fun b hb => by
        rw [heap_setCell_other _ _ _ _ (by show b ≠ w.heap.size + 1; omega), heap_setCell_other _ _ _ _ (by show b ≠ w.heap.size + 1; omega), heap_setCell_other _ _ _ _ (by show b ≠ w.heap.size + 1; omega)]
      have HR : Hid (LiesP (((wr.setCell ⟨w.heap.size + 1, 0, none⟩ (.int .i64 k)).setCell ⟨w.heap.size + 1, 1, none⟩ (.int .i64 s)).setCell ⟨w.heap.size + 1, 2, none⟩ (.slice xa fs.length xc)) (fun b => w.heap.size ≤ b ∧ b < (((wr.setCell ⟨w.heap.size + 1, 0, none⟩ (.int .i64 k)).setCell ⟨w.heap.size + 1, 1, none⟩ (.int .i64 s)).setCell ⟨w.heap.size + 1, 2, none⟩ (.slice xa fs.length xc)).heap.size) (.mk k s fs.length (fun j => M.upS f (M.scl f (kid j)))) (.agg #[.int .i64 k, .int .i64 s, .slice xa fs.length xc])) := by
        refine ⟨xa, xc, rfl, by omega, fun h0 => ?_⟩
        obtain ⟨g, cp, hv, d1, d2, d3, d4⟩ := own_cells hI.r h0
        obtain ⟨rfl, rfl⟩ : xa = some ⟨g, 0, none⟩ ∧ xc = cp := by simpa using hv
        refine ⟨g, 0, rfl, ⟨by omega, by simpa using d2⟩, fun j hj => ?_⟩
        obtain ⟨x, hx⟩ : ∃ x, fs[j]? = some x := ⟨fs[j], List.getElem?_eq_getElem hj⟩
        have e0 := kL_get (fun j => M.upS f (M.scl f (kid j))) fs 0 j 0 x hx (by omega)
        have e1 := kL_get (fun j => M.upS f (M.scl f (kid j))) fs 0 j 1 x hx (by omega)
        have e2 := kL_get (fun j => M.upS f (M.scl f (kid j))) fs 0 j 2 x hx (by omega)
        rw [Nat.zero_add] at e0 e1 e2
        have hc : ∀ i, (((wr.setCell ⟨w.heap.size + 1, 0, none⟩ (.int .i64 k)).setCell ⟨w.heap.size + 1, 1, none⟩ (.int .i64 s)).setCell ⟨w.heap.size + 1, 2, none⟩ (.slice (some ⟨g, 0, none⟩) fs.length xc)).cell? ⟨g, i, none⟩ = wr.cell? ⟨g, i, none⟩ := fun i => World.cell?_of_block (w := wr) (blk g d1)
        refine ⟨x.1, x.2, ?_, ?_, ?_, ?_⟩
        · rw [hc, Nat.zero_add]; exact (d4 (j * 3 + 0) (by omega)).trans e0
        · rw [hc, Nat.zero_add]; exact (d4 _ (by omega)).trans e1
        · rw [hc, Nat.zero_add]; exact (d4 _ (by omega)).trans e2
        · exact LiesP.step (fun b hb => blk b hb.1) (fun b hb => ⟨by omega, by simpa using hb.2.1⟩) _ _ (hI.kd j x hx)
      have hbf := ((hI.b.setCell (p := ⟨w.heap.size + 1, 0, none⟩) (by show w.heap.size ≤ w.heap.size + 1; omega) (.int .i64 k)).setCell (p := ⟨w.heap.size + 1, 1, none⟩) (by show w.heap.size ≤ w.heap.size + 1; omega) (.int .i64 s)).setCell (p := ⟨w.heap.size + 1, 2, none⟩) (by show w.heap.size ≤ w.heap.size + 1; omega) (.slice xa fs.length xc)
      clear blk HF Hk
      go_wp2_with fail
      refine bodyPost_ret (v := .agg #[.int .i64 k, .int .i64 s, .slice xa fs.length xc]) (by simp [results, Try.results8, go_sem, r0, r1, r2]) rfl ⟨_, rfl, HR.out, hbf⟩

theorem scaled_any (b : M.Bt) : ScC b := by
  induction b using M.Bt.ind with
  | nil => intro h; exact False.elim h
  | mk k s n kid ih =>
    intro hF f w B v hL hB f1 f2
    obtain ⟨ao, cap, rfl, hn, hk⟩ := hL
    obtain ⟨_, _, h3, _, _, _, _, h8⟩ := hF
    exact scaled_mk k s n kid ih h8 h3 f w B ao cap hB f1 f2 hk
end Go.Proofs.Ytgcnmmjgdpdmbad.F
