/- What Encode comes to, at every list. -/
import Derived.Test.YtdlcnbfiklbiiaaCo6
import Derived.Laws.BytesArg
namespace Go.Proofs.Ytdlcnbfiklbiiaa.Co
open Go.RowKit Go.Maps Go.Sort Go.Shelf
set_option linter.unusedVariables false
set_option linter.unusedSimpArgs false
attribute [local go_sem] Oper.semAt_some

theorem chunk_stops (F : Fence) (n : Nat) (h7 : F.fn 54) (hro : F.round = none) (hn : 1 ≤ n) (b : Nat) (la : Option Addr) (len c N : Nat) (hN : N = (len + 255) / 256) (hlc : len ≤ c) (hc : c ≤ 9223372036854775807) (hlm : len ≤ 1048576) (w : World)
    (hB0 : w.cell? ⟨b, 0, none⟩ = some (.slice la len c)) (hB1 : w.cell? ⟨b + 1, 0, none⟩ = some (.int .i64 256)) :
    SeqStopsK F n Try.prog 54 #[.pointer (some ⟨b, 0, none⟩), .pointer (some ⟨b + 1, 0, none⟩)] (fun x : {j : Nat // j < N} => #[cs la len c x.1]) (Bx b) (fun ys => ys.map (·.1) = List.range N) (fun _ => True) N w := fun l J Jx W hW hJ hJx hY h0 => by
  have hb0 := lt_cell hB0
  have hb1 := lt_cell hB1
  refine (iter_in F n h7 hro hn l b la len c N hN hlc hc hlm J Jx (fun s W hs => hJ s W W.drew none hs ⟨rfl, rfl, rfl, Nat.le_refl _, fun _ _ _ => rfl⟩ (fun r e => by cases e)) hY W
    ((World.cell?_of_block (w := w) (w' := W) (a := ⟨b, 0, none⟩) (hW.block b hb0)).trans hB0) ((World.cell?_of_block (w := w) (w' := W) (a := ⟨b + 1, 0, none⟩) (hW.block _ hb1)).trans hB1) h0).mono ?_
  rintro e W' ⟨he, ⟨ys, h1, h2⟩ | ⟨pre, h1⟩⟩
  · exact ⟨he, .inl ⟨ys, h1, h2⟩⟩
  · exact ⟨he, .inr ⟨pre, trivial, h1⟩⟩
/-- A writer's methods turn nothing that is no cells. -/
theorem WK.keeps {p B : Nat} {bs : List Nat} {w w' : World} (hW : WB w p bs) (hK : WK p w w') (hp : p < B) : KeepsFrom B w w' := by
  refine ⟨hK.bel.size, fun k o hB hk ho => ?_⟩
  have hlt : k < w.heap.size := (Array.getElem?_eq_some_iff.1 hk).1
  obtain ⟨v, h0, h1⟩ := hW.ex
  rw [hK.blk k hlt (by omega) ?_]
  · exact hk
  · rw [cv_is h0]
    intro e
    rcases h1.2 with ⟨q1, q2⟩ | ⟨g, cap, cur, q1, q2, q3, _⟩
    · rw [q1] at e; cases e
    · rw [q1] at e
      have e2 : k = g := Option.some.inj (show some k = some g from e)
      rw [e2, q3] at hk
      cases hk
      cases ho
theorem WB.grown {w w' : World} {p B : Nat} {bs : List Nat} {row : Option Nat} (h : WB w p bs) (hp : p < B) (hg : w.grownBy w' row) (hr : ∀ r, row = some r → B ≤ r ∧ ∃ o : Obj, w.heap[r]? = some o ∧ o.isCells = false) : WB w' p bs := by
  obtain ⟨v, h0, h1⟩ := h.ex
  have hpl := lt_cell h0
  have e : w'.heap[p]? = w.heap[p]? := hg.block p hpl (fun q => by have := (hr p q.symm).1; omega)
  have e2 : ∀ k, v.ownBlock = some k → w'.heap[k]? = w.heap[k]? := fun k hk => by
    refine hg.block k (own_lt h1 k hk) (fun q => ?_)
    obtain ⟨_, o, ho, hc⟩ := hr k q.symm
    rcases h1.2 with ⟨q1, q2⟩ | ⟨g, cap, cur, q1, q2, q3, _⟩
    · rw [q1] at hk; cases hk
    · rw [q1] at hk
      have e2 : g = k := Option.some.inj (show some g = some k from hk)
      rw [← e2, q3] at ho
      cases ho
      cases hc
  exact ⟨⟨v, (World.cell?_of_block (w := w) (w' := w') (a := ⟨p, 0, none⟩) e).trans h0, own_step h1 e2⟩, (World.cell?_of_block (w := w) (w' := w') (a := ⟨p, 1, none⟩) e).trans h.c1, (World.frozen?_of_block (w := w) (w' := w') (a := ⟨p, 0, none⟩) e).trans h.f0, (World.frozen?_of_block (w := w) (w' := w') (a := ⟨p, 1, none⟩) e).trans h.f1, h.bl⟩
theorem Off.grown {w w' : World} {p B b : Nat} {row : Option Nat} (h : Off w p b) (hpl : p < w.heap.size) (hp : p < B) (hg : w.grownBy w' row) (hr : ∀ r, row = some r → B ≤ r ∧ ∃ o : Obj, w.heap[r]? = some o ∧ o.isCells = false) : Off w' p b := by
  refine ⟨by have := hg.size; have := h.1; omega, h.2.1, ?_⟩
  have e : w'.heap[p]? = w.heap[p]? := hg.block p hpl (fun q => by have := (hr p q.symm).1; omega)
  unfold cv
  rw [World.cell?_of_block (w := w) (w' := w') (a := ⟨p, 0, none⟩) e]
  exact h.2.2
/-- Bytes as a text. -/
def bt (l : List Nat) : ByteArray := strOfNums (l.map fun n : Nat => (n : Int))
theorem WB.conv {w : World} {p : Nat} {bs : List Nat} (h : WB w p bs) : ∃ a c, w.cell? ⟨p, 0, none⟩ = some (.slice a (pk bs).length c) ∧ (convert 61 9 (.slice a (pk bs).length c)).run Try.prog w = .ok (.string (bt (pk bs))) w := by
  obtain ⟨v, h0, h1⟩ := h.ex
  rcases h1.2 with ⟨q1, q2⟩ | ⟨g, cap, cur, q1, q2, q3, q4, q5, q6, q7⟩
  · refine ⟨none, 0, ?_, ?_⟩
    · rw [h0, q1, q2]
    · have e : pk bs = [] := List.eq_nil_of_length_eq_zero q2
      rw [e]
      have := run_convert_bytes_nil (P := Try.prog) w 61 5 Try.underlying61 Try.underlying5 0 0 9 Try.underlying9
      exact this
  · refine ⟨some ⟨g, 0, none⟩, cap, by rw [h0, q1], ?_⟩
    refine run_convert_bytes_arg (P := Try.prog) w 61 5 Try.underlying61 Try.underlying5 g 0 (pk bs).length cap ((pk bs).map fun n : Nat => (n : Int)) (by simp) (fun i hi => ?_) 9 Try.underlying9
    subst q1
    have hc := World.ownsRow.cellAt h1 i (by omega)
    rw [Nat.zero_add, hc]
    simp [bc, List.getD, hi]
end Go.Proofs.Ytdlcnbfiklbiiaa.Co
