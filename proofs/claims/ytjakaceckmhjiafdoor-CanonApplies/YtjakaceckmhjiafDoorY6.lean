/- What the functions that make the closures come to; a row of tones that is made and written. -/
import Derived.Test.YtjakaceckmhjiafDoorY5
import Derived.Laws.MakeOwn
namespace Go.Proofs.YtjakaceckmhjiafDoor.Y
open Go.RowKit Go.Sort
set_option linter.unusedVariables false
set_option linter.unusedSimpArgs false

theorem mkfun : ∀ (fn : Fn) (first cap : Array Value) (w : World), (Instr.makeFunc fn first cap).run Tryd.prog w = .ok (.func fn first cap) w := fun _ _ _ _ => rfl

set_option maxHeartbeats 4000000 in
theorem repitching_any (c : Ch) (w : World) :
    Calls Tryd.prog 37 #[.agg #[.bool c.back, .int .i64 c.slow, .bool c.mir, .int .i64 c.xl, .int .i64 c.xa, .int .i64 c.xo, .int .i64 c.s, .int .i64 c.h, .int .i64 c.d]] w fun e w' => ∃ v, e = .returned v ∧ SV w' v c ∧ Below w.heap.size w w' ∧ ∃ fn cp, v = .func fn #[] cp := by
  have hmf := mkfun
  have hsf := fun (a : Addr) (c : Array Value) (w : World) => run_store Tryd.prog w a (.func (.func 49) #[] c) .plain rfl
  have hcb : ∀ os, CB ((w.alloc (Obj.cells #[.bool c.back, .int .i64 c.slow, .bool c.mir, .int .i64 c.xl, .int .i64 c.xa, .int .i64 c.xo, .int .i64 c.s, .int .i64 c.h, .int .i64 c.d] 28)).alloc os) w.heap.size c := fun os =>
    ⟨by simp; omega, by simp [go_sem], by simp [go_sem], by simp [go_sem], by simp [go_sem], by simp [go_sem], by simp [go_sem], by simp [go_sem], by simp [go_sem], by simp [go_sem]⟩
  cases hm : c.mir
  all_goals rw [hm] at hcb
  · go_enter Tryd.func37, Tryd.ntmps37
    go_wp2_with fail
    go_ret
    exact ⟨_, rfl, ⟨w.heap.size, hcb _, .inl ⟨hm, rfl⟩⟩, by go_grown, _, _, rfl⟩
  · go_enter Tryd.func37, Tryd.ntmps37
    go_wp2_with fail
    go_ret
    exact ⟨_, rfl, ⟨w.heap.size, hcb _, .inr ⟨hm, w.heap.size + 1, by simp, by simp [go_sem], rfl⟩⟩, by go_grown, _, _, rfl⟩

/-- The function that changes tones. -/
def CV (w : World) (v : Value) (c : Ch) (E : Int) : Prop := ∃ b1 b2 b3 sv, v = .func (.func 38) #[] #[.pointer (some ⟨b1, 0, none⟩), .pointer (some ⟨b2, 0, none⟩), .pointer (some ⟨b3, 0, none⟩)] ∧ CB w b1 c ∧ b2 < w.heap.size ∧ w.cell? ⟨b2, 0, none⟩ = some (.int .i64 E) ∧ b3 < w.heap.size ∧ w.cell? ⟨b3, 0, none⟩ = some sv ∧ SV w sv c
theorem CV.keep {w w' : World} {v : Value} {c : Ch} {E : Int} (h : CV w v c E) (hb : Below w.heap.size w w') : CV w' v c E := by
  obtain ⟨b1, b2, b3, sv, e, h1, h2, h3, h4, h5, h6⟩ := h
  have := hb.size
  exact ⟨b1, b2, b3, sv, e, h1.keep hb, by omega, keepC hb h2 h3, by omega, keepC hb h4 h5, h6.keep hb⟩

set_option maxHeartbeats 4000000 in
theorem changing_any (c : Ch) (E : Int) (w : World) :
    Calls Tryd.prog 24 #[.agg #[.bool c.back, .int .i64 c.slow, .bool c.mir, .int .i64 c.xl, .int .i64 c.xa, .int .i64 c.xo, .int .i64 c.s, .int .i64 c.h, .int .i64 c.d], .int .i64 E] w fun e w' => ∃ v, e = .returned v ∧ CV w' v c E ∧ Below w.heap.size w w' := by
  have hmf := mkfun
  have hr := repitching_any c
  have hcb : ∀ os, CB ((w.alloc (Obj.cells #[.bool c.back, .int .i64 c.slow, .bool c.mir, .int .i64 c.xl, .int .i64 c.xa, .int .i64 c.xo, .int .i64 c.s, .int .i64 c.h, .int .i64 c.d] 28)).alloc os) w.heap.size c := fun os =>
    ⟨by simp; omega, by simp [go_sem], by simp [go_sem], by simp [go_sem], by simp [go_sem], by simp [go_sem], by simp [go_sem], by simp [go_sem], by simp [go_sem], by simp [go_sem]⟩
  go_enter Tryd.func24, Tryd.ntmps24
  go_wp2_with fail
  refine (hr _).mono ?_
  rintro e w1 ⟨v, rfl, hsv, hb1, fn, cp, rfl⟩
  have hsf := fun (a : Addr) (w : World) => run_store Tryd.prog w a (.func fn #[] cp) .plain rfl
  have z1 := hb1.size
  simp at z1
  have c1 := (hcb _).keep hb1
  have e1 : w1.cell? ⟨w.heap.size + 1, 0, none⟩ = some (.int .i64 E) := keepC hb1 (by simp) (by simp [go_sem])
  have h01 : Below w.heap.size w w1 := Below.trans (by go_grown) (hb1.mono (by simp; omega))
  clear hcb hr
  go_wp2_with fail
  go_ret
  have h12 : Below w1.heap.size w1 (w1.alloc (Obj.cells #[.func fn #[] cp] 65)) := by go_grown
  exact ⟨_, rfl, ⟨w.heap.size, w.heap.size + 1, w1.heap.size, _, rfl, c1.keep h12, by simp; omega, keepC h12 (by omega) e1, by simp, by simp [go_sem], hsv.keep h12⟩, h01.trans (h12.mono (by omega))⟩

/-- A row of tones that may be written. -/
def fld (y : Tn) (i : Nat) : Value := .int .i64 (if i = 0 then y.t else if i = 1 then y.g else if i = 2 then y.l else if i = 3 then y.a else y.o)
structure Row (w : World) (mb n : Nat) (Y : Nat → Tn) : Prop where
  lt : mb < w.heap.size
  c : ∀ j i, j < n → i < 5 → w.cell? ⟨mb, j * 5 + i, none⟩ = some (fld (Y j) i)
  f : ∀ j i, j < n → i < 5 → w.frozen? ⟨mb, j * 5 + i, none⟩ = false
theorem Row.keep {w w' : World} {mb n : Nat} {Y : Nat → Tn} (h : Row w mb n Y) (hb : Below w.heap.size w w') : Row w' mb n Y :=
  ⟨by have := hb.size; have := h.lt; omega, fun j i hj hi => keepC hb h.lt (h.c j i hj hi), fun j i hj hi => keepF hb h.lt (h.f j i hj hi)⟩
theorem row_made (w : World) (n : Nat) : Row (w.alloc (.cells (madeCells #[.int .i64 0, .int .i64 0, .int .i64 0, .int .i64 0, .int .i64 0] (n * 5)) 44)) w.heap.size n (fun _ => ⟨0, 0, 0, 0, 0⟩) := by
  have hg : ∀ q, q < n * 5 → (madeCells #[.int .i64 0, .int .i64 0, .int .i64 0, .int .i64 0, .int .i64 0] (n * 5))[q]? = some (Value.int .i64 0) := fun q hq => by
    have hm : q % 5 = 0 ∨ q % 5 = 1 ∨ q % 5 = 2 ∨ q % 5 = 3 ∨ q % 5 = 4 := by omega
    simp only [madeCells, Array.getElem?_map]
    rw [show (Array.range (n * 5))[q]? = some q by simp [hq]]
    rcases hm with e | e | e | e | e <;> simp [e]
  have hz : ∀ i, i < 5 → fld ⟨0, 0, 0, 0, 0⟩ i = .int .i64 0 := fun i hi => by
    unfold fld
    congr 1
    (repeat' split) <;> rfl
  refine ⟨by simp, fun j i hj hi => ?_, fun j i hj hi => ?_⟩
  · have hlt : j * 5 + i < n * 5 := by omega
    rw [hz i hi]
    have := hg _ hlt
    simp [go_sem, this]
  · simp [go_sem]
theorem row_put {w : World} {mb n : Nat} {Y : Nat → Tn} (h : Row w mb n Y) (k : Nat) (hk : k < n) (y : Tn) :
    Row (((((w.setCell ⟨mb, k * 5, none⟩ (.int .i64 y.t)).setCell ⟨mb, k * 5 + 1, none⟩ (.int .i64 y.g)).setCell ⟨mb, k * 5 + 2, none⟩ (.int .i64 y.l)).setCell ⟨mb, k * 5 + 3, none⟩ (.int .i64 y.a)).setCell ⟨mb, k * 5 + 4, none⟩ (.int .i64 y.o)) mb n (fun j => if j = k then y else Y j) := by
  have oth : ∀ (W : World) (a b : Nat) (v : Value), a ≠ b → (W.setCell ⟨mb, a, none⟩ v).cell? ⟨mb, b, none⟩ = W.cell? ⟨mb, b, none⟩ := fun W a b v hab => World.cell?_setCell_other W _ _ v (fun e => hab (congrArg Addr.off e))
  have sam : ∀ (W : World) (a : Nat) (v : Value), (∃ u, W.cell? ⟨mb, a, none⟩ = some u) → (W.setCell ⟨mb, a, none⟩ v).cell? ⟨mb, a, none⟩ = some v := fun W a v ⟨u, hu⟩ => World.cell?_setCell_same W _ v hu
  refine ⟨by simpa [World.setCell] using h.lt, fun j i hj hi => ?_, fun j i hj hi => ?_⟩
  · by_cases e : j = k
    · subst e
      simp only [if_true]
      have h0 := h.c j 0 hj (by omega)
      rw [Nat.add_zero] at h0
      have h1 := h.c j 1 hj (by omega)
      have h2 := h.c j 2 hj (by omega)
      have h3 := h.c j 3 hj (by omega)
      have h4 := h.c j 4 hj (by omega)
      match i, hi with
      | 0, _ =>
        show World.cell? _ ⟨mb, j * 5, none⟩ = _
        rw [oth _ _ _ _ (by omega), oth _ _ _ _ (by omega), oth _ _ _ _ (by omega), oth _ _ _ _ (by omega), sam _ _ _ ⟨_, h0⟩]; rfl
      | 1, _ => rw [oth _ _ _ _ (by omega), oth _ _ _ _ (by omega), oth _ _ _ _ (by omega), sam _ _ _ ⟨_, by rw [oth _ _ _ _ (by omega)]; exact h1⟩]; rfl
      | 2, _ => rw [oth _ _ _ _ (by omega), oth _ _ _ _ (by omega), sam _ _ _ ⟨_, by rw [oth _ _ _ _ (by omega), oth _ _ _ _ (by omega)]; exact h2⟩]; rfl
      | 3, _ => rw [oth _ _ _ _ (by omega), sam _ _ _ ⟨_, by rw [oth _ _ _ _ (by omega), oth _ _ _ _ (by omega), oth _ _ _ _ (by omega)]; exact h3⟩]; rfl
      | 4, _ => rw [sam _ _ _ ⟨_, by rw [oth _ _ _ _ (by omega), oth _ _ _ _ (by omega), oth _ _ _ _ (by omega), oth _ _ _ _ (by omega)]; exact h4⟩]; rfl
    · simp only [e, if_false]
      rw [oth _ _ _ _ (by omega), oth _ _ _ _ (by omega), oth _ _ _ _ (by omega), oth _ _ _ _ (by omega), oth _ _ _ _ (by omega)]
      exact h.c j i hj hi
  · simp only [World.frozen?_setCell]
    exact h.f j i hj hi
theorem Row.TL {w : World} {mb n : Nat} {Y : Nat → Tn} (h : Row w mb n Y) : TL w (some ⟨mb, 0, none⟩) n Y :=
  ⟨fun hn => ⟨mb, 0, rfl, h.lt, fun j hj => by have := h.c j 0 hj (by omega); rw [Nat.add_zero] at this; rw [Nat.zero_add]; exact this,
    fun j hj => by rw [Nat.zero_add]; exact h.c j 1 hj (by omega), fun j hj => by rw [Nat.zero_add]; exact h.c j 2 hj (by omega), fun j hj => by rw [Nat.zero_add]; exact h.c j 3 hj (by omega), fun j hj => by rw [Nat.zero_add]; exact h.c j 4 hj (by omega)⟩⟩
end Go.Proofs.YtjakaceckmhjiafDoor.Y
