/- Two fractions that came in and two that are kept: what calls and stores leave of them. -/
import Derived.Test.YtnlbkklndlgojaaW11
namespace Go.Proofs.Ytnlbkklndlgojaa
open Go.RowKit

theorem set2_0 (W : World) (n : Nat) (u v o0 o1 : Value) (h0 : W.cell? ⟨n, 0, none⟩ = some o0) (_h1 : W.cell? ⟨n, 1, none⟩ = some o1) : ((W.setCell ⟨n, 0, none⟩ u).setCell ⟨n, 1, none⟩ v).cell? ⟨n, 0, none⟩ = some u := by
  simp [go_sem, h0]
theorem set2_1 (W : World) (n : Nat) (u v o0 o1 : Value) (_h0 : W.cell? ⟨n, 0, none⟩ = some o0) (h1 : W.cell? ⟨n, 1, none⟩ = some o1) : ((W.setCell ⟨n, 0, none⟩ u).setCell ⟨n, 1, none⟩ v).cell? ⟨n, 1, none⟩ = some v := by
  have h : (W.setCell ⟨n, 0, none⟩ u).cell? ⟨n, 1, none⟩ = some o1 := by rw [World.cell?_setCell_other _ _ _ _ (by simp)]; exact h1
  exact World.cell?_setCell_same _ _ _ h
theorem set2_far (W : World) (n m o : Nat) (u v : Value) (h : n ≠ m) : ((W.setCell ⟨n, 0, none⟩ u).setCell ⟨n, 1, none⟩ v).cell? ⟨m, o, none⟩ = W.cell? ⟨m, o, none⟩ := by
  rw [World.cell?_setCell_other _ _ _ _ (fun e => h (congrArg Addr.block e)), World.cell?_setCell_other _ _ _ _ (fun e => h (congrArg Addr.block e))]
theorem set2_fr (W : World) (n m o : Nat) (u v : Value) : ((W.setCell ⟨n, 0, none⟩ u).setCell ⟨n, 1, none⟩ v).frozen? ⟨m, o, none⟩ = W.frozen? ⟨m, o, none⟩ := by
  simp

structure St (w W : World) (n m : Nat) (a b c d : Int) (p q r s : Value) : Prop where
  bel : Below w.heap.size w W
  s0 : w.heap.size + 1 < n
  s1 : n < m
  s2 : m < W.heap.size
  x0 : W.cell? ⟨w.heap.size, 0, none⟩ = some (.int .i64 a)
  x1 : W.cell? ⟨w.heap.size, 1, none⟩ = some (.int .i64 b)
  y0 : W.cell? ⟨w.heap.size + 1, 0, none⟩ = some (.int .i64 c)
  y1 : W.cell? ⟨w.heap.size + 1, 1, none⟩ = some (.int .i64 d)
  p0 : W.cell? ⟨n, 0, none⟩ = some p
  p1 : W.cell? ⟨n, 1, none⟩ = some q
  r0 : W.cell? ⟨m, 0, none⟩ = some r
  r1 : W.cell? ⟨m, 1, none⟩ = some s
  f0 : W.frozen? ⟨n, 0, none⟩ = false
  f1 : W.frozen? ⟨n, 1, none⟩ = false
  g0 : W.frozen? ⟨m, 0, none⟩ = false
  g1 : W.frozen? ⟨m, 1, none⟩ = false

theorem St.step {w W W' : World} {n m : Nat} {a b c d : Int} {p q r s : Value} (h : St w W n m a b c d p q r s) (hb : Below W.heap.size W W') : St w W' n m a b c d p q r s := by
  have z := hb.size
  have z0 := h.s0
  have z1 := h.s1
  have z2 := h.s2
  exact ⟨h.bel.trans (hb.mono (by omega)), h.s0, h.s1, by omega, keepC hb (by omega) h.x0, keepC hb (by omega) h.x1, keepC hb (by omega) h.y0, keepC hb (by omega) h.y1,
    keepC hb (by omega) h.p0, keepC hb (by omega) h.p1, keepC hb (by omega) h.r0, keepC hb (by omega) h.r1, keepF hb (by omega) h.f0, keepF hb (by omega) h.f1, keepF hb (by omega) h.g0, keepF hb (by omega) h.g1⟩

theorem St.setA {w W : World} {n m : Nat} {a b c d : Int} {p q r s : Value} (h : St w W n m a b c d p q r s) (u v : Value) : St w ((W.setCell ⟨n, 0, none⟩ u).setCell ⟨n, 1, none⟩ v) n m a b c d u v r s := by
  have z0 := h.s0
  have z1 := h.s1
  have z2 := h.s2
  exact ⟨(h.bel.setCell (by simp; omega) _).setCell (by simp; omega) _, h.s0, h.s1, by simpa using h.s2,
    by rw [set2_far _ _ _ _ _ _ (by omega)]; exact h.x0, by rw [set2_far _ _ _ _ _ _ (by omega)]; exact h.x1, by rw [set2_far _ _ _ _ _ _ (by omega)]; exact h.y0, by rw [set2_far _ _ _ _ _ _ (by omega)]; exact h.y1,
    set2_0 _ _ _ _ _ _ h.p0 h.p1, set2_1 _ _ _ _ _ _ h.p0 h.p1, by rw [set2_far _ _ _ _ _ _ (by omega)]; exact h.r0, by rw [set2_far _ _ _ _ _ _ (by omega)]; exact h.r1,
    by rw [set2_fr]; exact h.f0, by rw [set2_fr]; exact h.f1, by rw [set2_fr]; exact h.g0, by rw [set2_fr]; exact h.g1⟩

theorem St.setB {w W : World} {n m : Nat} {a b c d : Int} {p q r s : Value} (h : St w W n m a b c d p q r s) (u v : Value) : St w ((W.setCell ⟨m, 0, none⟩ u).setCell ⟨m, 1, none⟩ v) n m a b c d p q u v := by
  have z0 := h.s0
  have z1 := h.s1
  have z2 := h.s2
  exact ⟨(h.bel.setCell (by simp; omega) _).setCell (by simp; omega) _, h.s0, h.s1, by simpa using h.s2,
    by rw [set2_far _ _ _ _ _ _ (by omega)]; exact h.x0, by rw [set2_far _ _ _ _ _ _ (by omega)]; exact h.x1, by rw [set2_far _ _ _ _ _ _ (by omega)]; exact h.y0, by rw [set2_far _ _ _ _ _ _ (by omega)]; exact h.y1,
    by rw [set2_far _ _ _ _ _ _ (by omega)]; exact h.p0, by rw [set2_far _ _ _ _ _ _ (by omega)]; exact h.p1, set2_0 _ _ _ _ _ _ h.r0 h.r1, set2_1 _ _ _ _ _ _ h.r0 h.r1,
    by rw [set2_fr]; exact h.f0, by rw [set2_fr]; exact h.f1, by rw [set2_fr]; exact h.g0, by rw [set2_fr]; exact h.g1⟩

theorem St.mk2 {w w1 w2 : World} {a b c d : Int} {p q r s : Value}
    (hb1 : Below ((w.alloc (.cells #[.int .i64 a, .int .i64 b] 23)).alloc (.cells #[.int .i64 c, .int .i64 d] 23)).heap.size ((w.alloc (.cells #[.int .i64 a, .int .i64 b] 23)).alloc (.cells #[.int .i64 c, .int .i64 d] 23)) w1)
    (hb2 : Below (w1.alloc (.cells #[p, q] 23)).heap.size (w1.alloc (.cells #[p, q] 23)) w2) :
    St w (w2.alloc (.cells #[r, s] 23)) w1.heap.size w2.heap.size a b c d p q r s := by
  have z1 := hb1.size
  have z2 := hb2.size
  simp at z1 z2
  have hw1 : Below w.heap.size w w1 := Below.trans (by go_grown) (hb1.mono (by go_size))
  have hw12 : Below w1.heap.size w1 (w2.alloc (.cells #[r, s] 23)) := (Below.trans (by go_grown) (hb2.mono (by go_size))).alloc (by go_size) _
  have hw2 : Below (w1.heap.size + 1) (w1.alloc (.cells #[p, q] 23)) (w2.alloc (.cells #[r, s] 23)) := (hb2.mono (by go_size)).alloc (by go_size) _
  exact ⟨hw1.trans (hw12.mono (by omega)), by omega, by omega, by simp,
    keepC hw12 (by omega) (keepC hb1 (by go_size) (by simp [go_sem])), keepC hw12 (by omega) (keepC hb1 (by go_size) (by simp [go_sem])),
    keepC hw12 (by omega) (keepC hb1 (by go_size) (by simp [go_sem])), keepC hw12 (by omega) (keepC hb1 (by go_size) (by simp [go_sem])),
    keepC hw2 (by omega) (by simp), keepC hw2 (by omega) (by simp), by simp, by simp, keepF hw2 (by omega) (by simp), keepF hw2 (by omega) (by simp), by simp, by simp⟩
end Go.Proofs.Ytnlbkklndlgojaa
