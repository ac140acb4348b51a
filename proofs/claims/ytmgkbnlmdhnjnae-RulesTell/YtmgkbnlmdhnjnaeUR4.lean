/- The document's ended; matrices in memory. -/
import Derived.Test.YtmgkbnlmdhnjnaeUMath9
import Derived.Deep.OwnRows
import Derived.Deep.DeepCutAuto
namespace Go.Proofs.Ytmgkbnlmdhnjnae.U
open Go.RowKit Go.Maps Go.Sort
set_option linter.unusedVariables false
set_option linter.unusedSimpArgs false

theorem rowIs_step {w w' : World} {b : Nat} {t : TypeId} {n : Nat} {f : Nat → Value} (h : w.rowIs b t n f) (hb : Below w.heap.size w w') : w'.rowIs b t n f := h.of_block (hb.block _ h.lt)
theorem row_LI {w : World} {b : Nat} {t : TypeId} {n : Nat} {x : Nat → Int} (h : w.rowIs b t n (fun j => .int .i64 (x j))) : LI w (some ⟨b, 0, none⟩) n x :=
  ⟨fun _ => ⟨b, 0, rfl, h.lt, fun j hj => by rw [Nat.zero_add]; exact h.cell hj⟩⟩

/-- A line that ends with k behind l (s: whether the one ahead of l is the same). -/
def EnQ (w' : World) (b p : Nat) (l : Int) (s : Nat) (k : Int) : Prop := ∃ x, LI w' (some ⟨b, 0, none⟩) (p + 1) x ∧ x p = k ∧ x (p - 1) = l ∧ (1 < p → (x (p - 2) = l ↔ s = 1))
theorem EnQ.of {w' : World} {b p : Nat} {l : Int} {s : Nat} {k u : Int} {f : Nat → Value} (hp : 1 ≤ p) (h : w'.rowIs b 3 (p + 1) f) (h0 : f p = .int .i64 k) (h1 : f (p - 1) = .int .i64 l) (h2 : 1 < p → f (p - 2) = .int .i64 u) (hu : 1 < p → (u = l ↔ s = 1)) (hz : ∀ j, j < p - 2 → f j = .int .i64 0) : EnQ w' b p l s k := by
  refine ⟨fun j => if j = p then k else if j = p - 1 then l else if j = p - 2 then u else 0, row_LI (h.congr (fun j hj => ?_)), by simp, ?_, fun h3 => ?_⟩
  · show f j = _
    by_cases e : j = p
    · rw [if_pos e, e]; exact h0
    · rw [if_neg e]
      by_cases e1 : j = p - 1
      · rw [if_pos e1, e1]; exact h1
      · rw [if_neg e1]
        by_cases e2 : j = p - 2
        · rw [if_pos e2, e2]; exact h2 (by omega)
        · rw [if_neg e2]; exact hz j (by omega)
  · show (if p - 1 = p then k else if p - 1 = p - 1 then l else _) = l
    rw [if_neg (by omega), if_pos rfl]
  · show ((if p - 2 = p then k else if p - 2 = p - 1 then l else if p - 2 = p - 2 then u else 0) = l) ↔ _
    rw [if_neg (by omega), if_neg (by omega), if_pos rfl]
    exact hu h3

set_option maxRecDepth 100000 in
set_option maxHeartbeats 4000000 in
theorem ended_any (p : Nat) (l : Int) (s : Nat) (k : Int) (w : World) (hp : 1 ≤ p) (hp2 : p ≤ 64) (hl : 0 ≤ l) (hl2 : l ≤ 127) (hs : s < 2) :
    Calls Try.prog 57 #[.int .i64 (p : Int), .int .i64 l, .int .i64 (s : Int), .int .i64 k] w fun e w' => e = .returned (.slice (some ⟨w.heap.size, 0, none⟩) (p + 1) (p + 1)) ∧ EnQ w' w.heap.size p l s k ∧ Below w.heap.size w w' := by
  have hmk := run_make_row' (P := Try.prog) 39 3 (.int .i64 0) 8 Try.underlying39 info3 rfl .i64 .i64 (p + 1) (by omega) (by omega)
  have e1 : ((p + 1 : Nat) : Int) = (p : Int) + 1 := by push_cast; rfl
  rw [e1] at hmk
  have w1 : IntKind.i64.wrap ((p : Int) + 1) = (p : Int) + 1 := wid (by omega) (by omega)
  have w2 : IntKind.i64.wrap ((p : Int) - 1) = ((p - 1 : Nat) : Int) := by rw [wid (by omega) (by omega)]; omega
  obtain ⟨W, hW⟩ : ∃ y, y = w.alloc (.cells (madeCells #[.int .i64 0] (p + 1)) 3) := ⟨_, rfl⟩
  have hbW : Below w.heap.size w W := by rw [hW]; go_grown
  have hrow : W.rowIs w.heap.size 3 (p + 1) (fun _ => .int .i64 0) := by rw [hW]; exact World.rowIs_made w _ _ _
  have r1 := hrow.set p (.int .i64 k)
  have r2 := r1.set (p - 1) (.int .i64 l)
  have c0 := hrow.cell (i := p) (by omega)
  have f0 := hrow.frozen p
  have c1 := r1.cell (i := p - 1) (by omega)
  have f1 := r1.frozen (p - 1)
  have sW : w.heap.size < W.heap.size := hrow.lt
  have k1 : ((p - 1 : Nat) : Int) < (p : Int) + 1 := by omega
  have k2 : p - 1 < p + 1 := by omega
  have kp : (p : Int) < (p : Int) + 1 := by omega
  by_cases hp1 : 1 < p
  · have hp1' : (1 : Int) < (p : Int) := by omega
    have w3 : IntKind.i64.wrap ((p : Int) - 2) = ((p - 2 : Nat) : Int) := by rw [wid (by omega) (by omega)]; omega
    have w4 : IntKind.i64.wrap (IntKind.i64.wrap (l - 1) + (s : Int)) = l - 1 + s := by rw [wid (x := l - 1) (by omega) (by omega), wid (by omega) (by omega)]
    have k3 : ((p - 2 : Nat) : Int) < (p : Int) + 1 := by omega
    have k4 : p - 2 < p + 1 := by omega
    have c2 := r2.cell (i := p - 2) (by omega)
    have f2 := r2.frozen (p - 2)
    by_cases hs1 : s = 1
    · subst hs1
      have r3 := r2.set (p - 2) (.int .i64 l)
      have r4 := r3.set (p - 2) (.int .i64 l)
      have c3 := r3.cell (i := p - 2) (by omega)
      have f3 := r3.frozen (p - 2)
      have hQ : Hid (EnQ _ w.heap.size p l 1 k) := EnQ.of (u := l) hp r4 (by (repeat' split); all_goals first | rfl | omega) (by (repeat' split); all_goals first | rfl | omega) (fun _ => by (repeat' split); all_goals first | rfl | omega) (fun _ => by simp) (fun j hj => by (repeat' split); all_goals first | rfl | omega)
      clear r1 r2 r3 r4 hrow
      go_enter Try.func57, Try.ntmps57
      go_upto_region 2 with fail
      rw [← hW]
      clear hW
      go_wp2_with fail
      go_returns
      exact ⟨rfl, hQ.out, (((hbW.setCell (by simp) _).setCell (by simp) _).setCell (by simp) _).setCell (by simp) _⟩
    · have hs0 : s = 0 := by omega
      subst hs0
      have r3 := r2.set (p - 2) (.int .i64 (l - 1))
      have hQ : Hid (EnQ _ w.heap.size p l 0 k) := EnQ.of (u := l - 1) hp r3 (by (repeat' split); all_goals first | rfl | omega) (by (repeat' split); all_goals first | rfl | omega) (fun _ => by (repeat' split); all_goals first | rfl | omega) (fun _ => by omega) (fun j hj => by (repeat' split); all_goals first | rfl | omega)
      clear r1 r2 r3 hrow
      go_enter Try.func57, Try.ntmps57
      go_upto_region 2 with fail
      rw [← hW]
      clear hW
      go_wp2_with fail
      go_returns
      exact ⟨rfl, hQ.out, ((hbW.setCell (by simp) _).setCell (by simp) _).setCell (by simp) _⟩
  · have hp1' : ¬ (1 : Int) < (p : Int) := by omega
    have hQ : Hid (EnQ _ w.heap.size p l s k) := EnQ.of (u := 0) hp r2 (by (repeat' split); all_goals first | rfl | omega) (by (repeat' split); all_goals first | rfl | omega) (fun h => absurd h hp1) (fun h => absurd h hp1) (fun j hj => by omega)
    clear r1 r2 hrow
    go_enter Try.func57, Try.ntmps57
    go_upto_region 2 with fail
    rw [← hW]
    clear hW
    go_wp2_with fail
    go_returns
    exact ⟨rfl, hQ.out, (hbW.setCell (by simp) _).setCell (by simp) _⟩

/-- A matrix of 128 rows of two numbers, one behind the other from block b on. -/
structure Mx (w : World) (b : Nat) (V : Nat → Int) : Prop where
  row : w.rowIs b 39 128 (fun k => .slice (some ⟨b + 1 + k, 0, none⟩) 2 2)
  cells : ∀ k, k < 128 → w.rowIs (b + 1 + k) 3 2 (fun a => .int .i64 (V (2 * k + a)))
theorem Mx.lt {w : World} {b : Nat} {V : Nat → Int} (h : Mx w b V) : b + 128 < w.heap.size := by
  have := (h.cells 127 (by omega)).lt; omega
theorem Mx.step {w w' : World} {b : Nat} {V : Nat → Int} (h : Mx w b V) (hb : Below w.heap.size w w') : Mx w' b V := ⟨rowIs_step h.row hb, fun k hk => rowIs_step (h.cells k hk) hb⟩
theorem Mx.other {w : World} {b : Nat} {V : Nat → Int} (h : Mx w b V) {a : Addr} (ha : a.block < b ∨ b + 128 < a.block) (v : Value) : Mx (w.setCell a v) b V :=
  ⟨h.row.setOther (by omega) v, fun k hk => (h.cells k hk).setOther (by omega) v⟩
theorem Mx.set {w : World} {b : Nat} {V : Nat → Int} (h : Mx w b V) {k a : Nat} (hk : k < 128) (ha : a < 2) (v : Int) : Mx (w.setCell ⟨b + 1 + k, a, none⟩ (.int .i64 v)) b (fun j => if j = 2 * k + a then v else V j) := by
  refine ⟨h.row.setOther (by simp; omega) _, fun k' hk' => ?_⟩
  by_cases e : k' = k
  · subst e
    refine ((h.cells k' hk').set a (.int .i64 v)).congr (fun i hi => ?_)
    show (if i = a then Value.int .i64 v else .int .i64 (V (2 * k' + i))) = .int .i64 (if 2 * k' + i = 2 * k' + a then v else V (2 * k' + i))
    by_cases e2 : i = a
    · rw [if_pos e2, if_pos (by omega)]
    · rw [if_neg e2, if_neg (by omega)]
  · refine ((h.cells k' hk').setOther (by simp; omega) _).congr (fun i hi => ?_)
    show Value.int .i64 (V (2 * k' + i)) = .int .i64 (if 2 * k' + i = 2 * k + a then v else V (2 * k' + i))
    rw [if_neg (by omega)]
theorem Mx.congr {w : World} {b : Nat} {V V' : Nat → Int} (h : Mx w b V) (e : ∀ j, j < 256 → V j = V' j) : Mx w b V' :=
  ⟨h.row, fun k hk => (h.cells k hk).congr (fun i hi => by rw [e _ (by omega)])⟩
/-- While it is made: m rows stand. -/
structure Mp (w : World) (b m : Nat) : Prop where
  row : w.rowIs b 39 128 (fun k => if k < m then .slice (some ⟨b + 1 + k, 0, none⟩) 2 2 else .slice none 0 0)
  cells : ∀ k, k < m → w.rowIs (b + 1 + k) 3 2 (fun a => .int .i64 0)
  sz : w.heap.size = b + 1 + m
theorem Mp.done {w : World} {b : Nat} (h : Mp w b 128) : Mx w b (fun _ => 0) := ⟨h.row.congr (fun k hk => if_pos hk), fun k hk => h.cells k hk⟩
theorem Mp.next {w : World} {b m : Nat} (h : Mp w b m) : Mp ((w.alloc (.cells #[.int .i64 0, .int .i64 0] 3)).setCell ⟨b, m, none⟩ (.slice (some ⟨w.heap.size, 0, none⟩) 2 2)) b (m + 1) := by
  refine ⟨?_, fun k hk => ?_, ?_⟩
  · refine ((h.row.alloc _).set m _).congr (fun k hk => ?_)
    show (if k = m then _ else if k < m then _ else _) = (if k < m + 1 then _ else _)
    by_cases e : k = m
    · rw [if_pos e, if_pos (by omega), h.sz, e]
    · rw [if_neg e]
      by_cases e2 : k < m
      · rw [if_pos e2, if_pos (by omega)]
      · rw [if_neg e2, if_neg (by omega)]
  · by_cases e : k < m
    · exact ((h.cells k e).alloc _).setOther (by simp; omega) _
    · have hk' : b + 1 + k = w.heap.size := by rw [h.sz]; omega
      rw [hk']
      exact (World.rowIs_alloc w #[.int .i64 0, .int .i64 0] 3 (fun _ => .int .i64 0) (fun i hi => by
        match i, hi with
        | 0, _ => rfl
        | 1, _ => rfl)).setOther (by simp; have := h.sz; omega) _
  · simp [h.sz]; omega
end Go.Proofs.Ytmgkbnlmdhnjnae.U
