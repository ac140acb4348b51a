/- What the program's asGroup makes: a beat in new blocks. -/
import Derived.Test.YtaohahahhjkcdaeGreatDoorSG25
import Derived.Test.YtaohahahhjkcdaeGreatDoorSG22
import Derived.Test.YtaohahahhjkcdaeGreatDoorSG15
namespace Go.Proofs.YtaohahahhjkcdaeGreatDoor.F
open Go.RowKit
set_option linter.unusedVariables false
set_option linter.unusedSimpArgs false

/-- asGroup's own variables, and the kids that have come. -/
structure AgI (w : World) (k s : Int) (K : Nat → M.Bt) (fs : List (Option Addr × Nat)) (xa : Option Addr) (xc : Nat) (wr : World) : Prop where
  b : Below w.heap.size w wr
  r : wr.ownsRow (w.heap.size + 2) 76 3 (.slice xa fs.length xc) fs.length (kL K fs 0)
  c0 : wr.cell? ⟨w.heap.size + 1, 0, none⟩ = some (.int .i64 k)
  c1 : wr.cell? ⟨w.heap.size + 1, 1, none⟩ = some (.int .i64 s)
  c2 : wr.cell? ⟨w.heap.size + 1, 2, none⟩ = some (.slice xa fs.length xc)
  cf : wr.frozen? ⟨w.heap.size + 1, 2, none⟩ = false
  r0 : wr.cell? ⟨w.heap.size, 0, none⟩ = some (.int .i64 0)
  r1 : wr.cell? ⟨w.heap.size, 1, none⟩ = some (.int .i64 0)
  r2 : wr.cell? ⟨w.heap.size, 2, none⟩ = some (.slice none 0 0)
  f0 : wr.frozen? ⟨w.heap.size, 0, none⟩ = false
  f1 : wr.frozen? ⟨w.heap.size, 1, none⟩ = false
  f2 : wr.frozen? ⟨w.heap.size, 2, none⟩ = false
  lz : w.heap.size + 1 < wr.heap.size
  kd : ∀ i f, fs[i]? = some f → LiesP wr (fun b => w.heap.size + 2 ≤ b ∧ b < wr.heap.size ∧ (Value.slice xa fs.length xc).ownBlock ≠ some b) (K i) (.agg #[.int .i64 (K i).k, .int .i64 (K i).s, .slice f.1 (K i).n f.2])

/-- A kid more: it lies in blocks behind those that were there; the row has grown. -/
theorem AgI.more {w wr w6 w7 : World} {k s : Int} {K : Nat → M.Bt} {fs : List (Option Addr × Nat)} {xa xa' : Option Addr} {xc xc' : Nat} {f : Option Addr × Nat} (h : AgI w k s K fs xa xc wr)
    (hw6 : Below wr.heap.size wr w6) (hg : w6.grownBy w7 (Value.slice xa fs.length xc).ownBlock) (hown : w7.ownsRow (w.heap.size + 2) 76 3 (.slice xa' (fs.length + 1) xc') (fs.length + 1) (kL K fs 0 ++ kC (K fs.length) f))
    (hk : (Value.slice xa' (fs.length + 1) xc').ownBlock = (Value.slice xa fs.length xc).ownBlock ∨ ∃ g, (Value.slice xa' (fs.length + 1) xc').ownBlock = some g ∧ w6.heap.size ≤ g)
    (hl : LiesP w6 (fun b => wr.heap.size ≤ b ∧ b < w6.heap.size) (K fs.length) (.agg #[.int .i64 (K fs.length).k, .int .i64 (K fs.length).s, .slice f.1 (K fs.length).n f.2])) :
    AgI w k s K (fs ++ [f]) xa' xc' (w7.setCell ⟨w.heap.size + 1, 2, none⟩ (.slice xa' (fs.length + 1) xc')) := by
  have l1 := h.lz
  have l2 := hw6.size
  have l3 := hg.size
  have ownlt := own_lt h.r
  have ownge := own_block h.r
  have hbz : Below (w.heap.size + 2) w6 w7 := (Below.refl _ _).grown hg (by omega) ownge
  have hbz' : Below (w.heap.size + 2) wr w7 := (hw6.mono (by omega)).trans hbz
  have hln : (fs ++ [f]).length = fs.length + 1 := by simp
  have q := kL_app K fs f 0
  rw [Nat.zero_add] at q
  have blk : ∀ b, w.heap.size + 2 ≤ b → b < w6.heap.size → (Value.slice xa fs.length xc).ownBlock ≠ some b → (w7.setCell ⟨w.heap.size + 1, 2, none⟩ (.slice xa' (fs.length + 1) xc')).heap[b]? = w6.heap[b]? := fun b hb1 hb2 hne => by
    rw [heap_setCell_other _ _ _ _ (by show b ≠ w.heap.size + 1; omega)]
    exact hg.block b hb2 (fun e => hne e.symm)
  have newb : ∀ b, b < w6.heap.size → (Value.slice xa fs.length xc).ownBlock ≠ some b → (Value.slice xa' (fs.length + 1) xc').ownBlock ≠ some b := fun b hb1 hne e => by
    rcases hk with q | ⟨g, q1, q2⟩
    · exact hne (by rw [← q]; exact e)
    · rw [q1] at e; simp only [Option.some.injEq] at e; omega
  rw [← q, ← hln] at hown
  rw [← hln] at newb
  refine ⟨?_, ?_, ?_, ?_, ?_, ?_, ?_, ?_, ?_, ?_, ?_, ?_, ?_, fun i f' hf => ?_⟩
  · exact (h.b.trans (hbz'.mono (by omega))).setCell (p := ⟨w.heap.size + 1, 2, none⟩) (by show w.heap.size ≤ w.heap.size + 1; omega) _
  · rw [← hln]; exact own_put hown (by omega)
  · simp [go_sem, keepC hbz' (show w.heap.size + 1 < w.heap.size + 2 by omega) h.c0]
  · simp [go_sem, keepC hbz' (show w.heap.size + 1 < w.heap.size + 2 by omega) h.c1]
  · rw [hln]; simp [go_sem, keepC hbz' (show w.heap.size + 1 < w.heap.size + 2 by omega) h.c2]
  · simp [go_sem, keepF hbz' (show w.heap.size + 1 < w.heap.size + 2 by omega) h.cf]
  · simp [go_sem, keepC hbz' (show w.heap.size < w.heap.size + 2 by omega) h.r0]
  · simp [go_sem, keepC hbz' (show w.heap.size < w.heap.size + 2 by omega) h.r1]
  · simp [go_sem, keepC hbz' (show w.heap.size < w.heap.size + 2 by omega) h.r2]
  · simp [go_sem, keepF hbz' (show w.heap.size < w.heap.size + 2 by omega) h.f0]
  · simp [go_sem, keepF hbz' (show w.heap.size < w.heap.size + 2 by omega) h.f1]
  · simp [go_sem, keepF hbz' (show w.heap.size < w.heap.size + 2 by omega) h.f2]
  · simp; omega
  · by_cases hi : i < fs.length
    · rw [List.getElem?_append_left hi] at hf
      refine LiesP.step (fun b hb => ?_) (fun b hb => ?_) _ _ (h.kd i f' hf)
      · exact (blk b hb.1 (by omega) hb.2.2).trans (hw6.block b hb.2.1)
      · exact ⟨hb.1, by simp; omega, newb b (by omega) hb.2.2⟩
    · have hi2 : i = fs.length := by
        have := (List.getElem?_eq_some_iff.1 hf).1
        rw [hln] at this; omega
      subst hi2
      rw [List.getElem?_append_right (Nat.le_refl _), Nat.sub_self] at hf
      simp only [List.getElem?_cons_zero, Option.some.injEq] at hf
      subst hf
      refine LiesP.step (fun b hb => ?_) (fun b hb => ?_) _ _ hl
      · exact blk b (by omega) hb.2 (fun e => by have := ownlt b e; omega)
      · exact ⟨by omega, by simp; omega, newb b hb.2 (fun e => by have := ownlt b e; omega)⟩

end Go.Proofs.YtaohahahhjkcdaeGreatDoor.F
