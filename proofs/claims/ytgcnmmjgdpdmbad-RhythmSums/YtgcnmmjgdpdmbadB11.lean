/- What share keeps from kid to kid: the spans that have come, its own variables, all else. -/
import Derived.Test.YtgcnmmjgdpdmbadB9
import Derived.Test.YtgcnmmjgdpdmbadB4
import Derived.Test.YtgcnmmjgdpdmbadBMath4
namespace Go.Proofs.Ytgcnmmjgdpdmbad.F
open Go.RowKit
set_option linter.unusedVariables false
set_option linter.unusedSimpArgs false

theorem own_else {w : World} {base : Nat} {e : TypeId} {size : Nat} {v : Value} {n : Nat} {xs : List Value} {b i : Nat} {u : Value} (h : w.ownsRow base e size v n xs) (hne : v.ownBlock ≠ some b) : (w.setCell ⟨b, i, none⟩ u).ownsRow base e size v n xs := by
  refine ⟨by simpa using h.1, ?_⟩
  rcases h.2 with hn | ⟨g, cap, cur, rfl, h1, h2, rest⟩
  · exact .inl hn
  · refine .inr ⟨g, cap, cur, rfl, h1, ?_, rest⟩
    rw [heap_setCell_other w ⟨b, i, none⟩ g u (by show g ≠ b; intro e; exact hne (by rw [← e]; rfl))]; exact h2

structure ShI (w : World) (po B za : Nat) (a L : M.Fr) (out : List M.Sp) (wr : World) : Prop where
  b : Below B w wr
  o : OutAt wr po out
  kp : Keeps w po wr
  s2 : wr.cell? ⟨w.heap.size + 1, 2, none⟩ = some (.int .i64 L.1)
  s3 : wr.cell? ⟨w.heap.size + 1, 3, none⟩ = some (.int .i64 L.2)
  a0 : wr.cell? ⟨za, 0, none⟩ = some (.int .i64 a.1)
  a1 : wr.cell? ⟨za, 1, none⟩ = some (.int .i64 a.2)
  f0 : wr.frozen? ⟨za, 0, none⟩ = false
  f1 : wr.frozen? ⟨za, 1, none⟩ = false
  lz : za < wr.heap.size
  zz : w.heap.size + 1 < za
  pw : po < w.heap.size
  bp : B ≤ po
  nb : ∀ v k, wr.cell? ⟨po, 0, none⟩ = some v → v.ownBlock = some k → k < w.heap.size ∨ za < k

theorem ShI.below {w wr W : World} {po B za : Nat} {a L : M.Fr} {out : List M.Sp} (h : ShI w po B za a L out wr) (hb : Below wr.heap.size wr W) : ShI w po B za a L out W := by
  obtain ⟨v, hv, _⟩ := h.o.v
  have l1 := h.lz; have l2 := h.zz; have l3 := h.pw; have l4 := h.bp; have l5 := hb.size
  refine ⟨h.b.trans (hb.mono (by omega)), h.o.step hb, Keeps.trans h.kp (Keeps.below hb h.o.lt) hv, keepC hb (by omega) h.s2, keepC hb (by omega) h.s3, keepC hb l1 h.a0, keepC hb l1 h.a1, keepF hb l1 h.f0, keepF hb l1 h.f1, by omega, l2, l3, l4, fun v' k hc hk => ?_⟩
  have := keepC hb h.o.lt hv
  rw [this] at hc; simp only [Option.some.injEq] at hc; subst hc
  exact h.nb v k hv hk

theorem ShI.share {w W w' : World} {po B za : Nat} {a L : M.Fr} {out o : List M.Sp} (h : ShI w po B za a L out W) (hO : OutAt w' po o) (hK : Keeps W po w') (hB : Below B W w') : ShI w po B za a L o w' := by
  obtain ⟨v, hv, _⟩ := h.o.v
  have l1 := h.lz; have l2 := h.zz; have l3 := h.pw; have l4 := h.bp; have l5 := hK.size
  have q1 : w'.heap[za]? = W.heap[za]? := hK.blk v za hv l1 (by omega) (fun e => by rcases h.nb v za hv e with q | q <;> omega)
  have q2 : w'.heap[w.heap.size + 1]? = W.heap[w.heap.size + 1]? := hK.blk v _ hv (by omega) (by omega) (fun e => by rcases h.nb v _ hv e with q | q <;> omega)
  have c1 : ∀ i, w'.cell? ⟨za, i, none⟩ = W.cell? ⟨za, i, none⟩ := fun i => World.cell?_of_block (w := W) q1
  have c2 : ∀ i, w'.cell? ⟨w.heap.size + 1, i, none⟩ = W.cell? ⟨w.heap.size + 1, i, none⟩ := fun i => World.cell?_of_block (w := W) q2
  have c3 : ∀ i, w'.frozen? ⟨za, i, none⟩ = W.frozen? ⟨za, i, none⟩ := fun i => World.frozen?_of_block (w := W) q1
  refine ⟨h.b.trans hB, hO, Keeps.trans h.kp hK hv, (c2 2).trans h.s2, (c2 3).trans h.s3, (c1 0).trans h.a0, (c1 1).trans h.a1, (c3 0).trans h.f0, (c3 1).trans h.f1, by omega, l2, l3, l4, fun v' k hc hk => ?_⟩
  rcases hK.row v v' k hv hc hk with q | q
  · exact h.nb v k hv q
  · exact .inr (by omega)

theorem ShI.put {w W : World} {po B za : Nat} {a a' L : M.Fr} {out : List M.Sp} (h : ShI w po B za a L out W) : ShI w po B za a' L out ((W.setCell ⟨za, 0, none⟩ (.int .i64 a'.1)).setCell ⟨za, 1, none⟩ (.int .i64 a'.2)) := by
  obtain ⟨v, hv, hown⟩ := h.o.v
  have l1 := h.lz; have l2 := h.zz; have l3 := h.pw; have l4 := h.bp
  have hne : v.ownBlock ≠ some za := fun e => by rcases h.nb v za hv e with q | q <;> omega
  have hpz : po ≠ za := by omega
  have hsz : w.heap.size + 1 ≠ za := by omega
  have hc : ((W.setCell ⟨za, 0, none⟩ (.int .i64 a'.1)).setCell ⟨za, 1, none⟩ (.int .i64 a'.2)).cell? ⟨po, 0, none⟩ = some v := by simp [go_sem, hv, hpz, Ne.symm hpz]
  refine ⟨(h.b.setCell (p := ⟨za, 0, none⟩) (by show B ≤ za; omega) _).setCell (p := ⟨za, 1, none⟩) (by show B ≤ za; omega) _, ⟨by simpa using h.o.lt, by simp [go_sem, h.o.fz], v, hc, own_else (own_else hown hne) hne⟩, ⟨by simpa using h.kp.size, fun v0 b h0 hb hne0 ho => ?_, fun v0 v' k h0 h' hk => ?_⟩, by simp [go_sem, h.s2, hsz, Ne.symm hsz], by simp [go_sem, h.s3, hsz, Ne.symm hsz], by simp [go_sem, h.a0], by simp [go_sem, h.a1], by simp [go_sem, h.f0], by simp [go_sem, h.f1], by simpa using l1, l2, l3, l4, fun v' k h' hk => ?_⟩
  · rw [heap_setCell_other _ _ _ _ (by show b ≠ za; omega), heap_setCell_other _ _ _ _ (by show b ≠ za; omega)]
    exact h.kp.blk v0 b h0 hb hne0 ho
  · rw [hc] at h'; simp only [Option.some.injEq] at h'; subst h'
    exact h.kp.row v0 v k h0 hv hk
  · rw [hc] at h'; simp only [Option.some.injEq] at h'; subst h'
    exact h.nb v k hv hk

/-- What share answers. -/
def ShC (b : M.Bt) : Prop := M.Fine b → ∀ (a L : M.Fr) (sb : Bool) (out : List M.Sp) (w : World) (po B : Nat) (v : Value), Lies w B b v → B ≤ po → OutAt w po out → out.length + M.cnt b ≤ 4097 → M.OutOk out → M.Ok a → M.Ok L →
  Calls Try.prog 17 #[v, .agg #[.int .i64 a.1, .int .i64 a.2, .int .i64 L.1, .int .i64 L.2, .bool sb], .func (.func 15) #[] #[.pointer (some ⟨po, 0, none⟩)]] w fun e w' => e = .returned (.int .i64 (M.aE (M.sh b a L out))) ∧ (∀ o, M.sh b a L out = some o → OutAt w' po o ∧ Keeps w po w') ∧ Below B w w'
end Go.Proofs.Ytgcnmmjgdpdmbad.F
