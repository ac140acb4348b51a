/- A line in memory; what the program's Wrong and End come to. -/
import Derived.Test.YtpacfppnmenndaaY1
import Derived.OwnWalk
namespace Go.Proofs.Ytpacfppnmenndaa.Y
open Go.RowKit Go.Sort
set_option linter.unusedVariables false
set_option linter.unusedSimpArgs false

/-- A line lies there: five numbers a tone. -/
structure TL (w : World) (ao : Option Addr) (n : Nat) (T : Nat → Tn) : Prop where
  at' : 0 < n → ∃ b off, ao = some ⟨b, off, none⟩ ∧ b < w.heap.size ∧ (∀ j, j < n → w.cell? ⟨b, off + j * 5, none⟩ = some (.int .i64 (T j).t)) ∧ (∀ j, j < n → w.cell? ⟨b, off + j * 5 + 1, none⟩ = some (.int .i64 (T j).g)) ∧ (∀ j, j < n → w.cell? ⟨b, off + j * 5 + 2, none⟩ = some (.int .i64 (T j).l)) ∧ (∀ j, j < n → w.cell? ⟨b, off + j * 5 + 3, none⟩ = some (.int .i64 (T j).a)) ∧ (∀ j, j < n → w.cell? ⟨b, off + j * 5 + 4, none⟩ = some (.int .i64 (T j).o))
theorem TL.step {w w' : World} {ao : Option Addr} {n : Nat} {T : Nat → Tn} (h : TL w ao n T) {B : Nat} (hb : Below B w w') (hB : ∀ b off, ao = some ⟨b, off, none⟩ → b < B) : TL w' ao n T :=
  ⟨fun hn => by
    obtain ⟨b, off, e, hlt, c0, c1, c2, c3, c4⟩ := h.at' hn
    have := hB b off e
    exact ⟨b, off, e, by have := hb.size; omega, fun j hj => keepC hb this (c0 j hj), fun j hj => keepC hb this (c1 j hj), fun j hj => keepC hb this (c2 j hj), fun j hj => keepC hb this (c3 j hj), fun j hj => keepC hb this (c4 j hj)⟩⟩
theorem TL.keep {w w' : World} {ao : Option Addr} {n : Nat} {T : Nat → Tn} (h : TL w ao n T) (hb : Below w.heap.size w w') : TL w' ao n T :=
  ⟨fun hn => by
    obtain ⟨b, off, e, hlt, c0, c1, c2, c3, c4⟩ := h.at' hn
    exact ⟨b, off, e, by have := hb.size; omega, fun j hj => keepC hb hlt (c0 j hj), fun j hj => keepC hb hlt (c1 j hj), fun j hj => keepC hb hlt (c2 j hj), fun j hj => keepC hb hlt (c3 j hj), fun j hj => keepC hb hlt (c4 j hj)⟩⟩
theorem TL.ext {w : World} {ao : Option Addr} {n : Nat} {T U : Nat → Tn} (h : TL w ao n T) (e : ∀ j, j < n → T j = U j) : TL w ao n U :=
  ⟨fun hn => by
    obtain ⟨b, off, e1, hlt, c0, c1, c2, c3, c4⟩ := h.at' hn
    exact ⟨b, off, e1, hlt, fun j hj => by rw [← e j hj]; exact c0 j hj, fun j hj => by rw [← e j hj]; exact c1 j hj, fun j hj => by rw [← e j hj]; exact c2 j hj, fun j hj => by rw [← e j hj]; exact c3 j hj, fun j hj => by rw [← e j hj]; exact c4 j hj⟩⟩

end Go.Proofs.Ytpacfppnmenndaa.Y
