/- The answers of Check and Find are one. -/
import Derived.Test.YtmgkbnlmdhnjnaeUMath5
namespace Go.Proofs.Ytmgkbnlmdhnjnae.U
set_option linter.unusedVariables false

theorem CkQ.unique {f : Nat → Int} {n : Nat} {W I W' I' : Int} (h : CkQ f n W I) (h' : CkQ f n W' I') : W = W' ∧ I = I' := by
  rcases h with ⟨a1, a2, a3⟩ | ⟨i, a1, a2, a3, a4, a5⟩ <;> rcases h' with ⟨b1, b2, b3⟩ | ⟨j, b1, b2, b3, b4, b5⟩
  · exact ⟨by rw [a1, b1], by rw [a2, b2]⟩
  · exact absurd (a3 j b1) b4
  · exact absurd (b3 i a1) a4
  · have e : i = j := by
      rcases Nat.lt_trichotomy i j with h | h | h
      · exact absurd (b5 i h) a4
      · exact h
      · exact absurd (a5 j h) b4
    subst e
    exact ⟨by rw [a3, b3], by rw [a2, b2]⟩
theorem CkR.unique {r : M.Ru} {g : Nat → Int} {n : Nat} {x : Nat → Int} {l : Nat} {W I E W' I' E' : Int} (h : CkR r g n x l W I E) (h' : CkR r g n x l W' I' E') : W = W' ∧ I = I' ∧ E = E' := by
  rcases h with ⟨a0, a1, a2, a3⟩ | ⟨a0, a1, a2, a3, a4⟩ | ⟨a0, a1, a2, a3, a4, a5⟩ | ⟨a0, a1, a2, a3, a4⟩ <;>
    rcases h' with ⟨b0, b1, b2, b3⟩ | ⟨b0, b1, b2, b3, b4⟩ | ⟨b0, b1, b2, b3, b4, b5⟩ | ⟨b0, b1, b2, b3, b4⟩
  · exact ⟨by rw [a1, b1], by rw [a2, b2], by rw [a3, b3]⟩
  · exact absurd b0 a0
  · exact absurd b0 a0
  · exact absurd b0 a0
  · exact absurd a0 b0
  · exact ⟨by rw [a2, b2], by rw [a3, b3], by rw [a4, b4]⟩
  · exact absurd b1 a1
  · exact absurd b1 a1
  · exact absurd a0 b0
  · exact absurd a1 b1
  · exact ⟨by rw [a3, b3], by rw [a4, b4], by rw [a5, b5]⟩
  · rw [b2] at a2; cases a2
  · exact absurd a0 b0
  · exact absurd a1 b1
  · rw [b2] at a2; cases a2
  · have := a4.unique b4
    exact ⟨this.1, this.2, by rw [a3, b3]⟩
theorem FnR.unique {r : M.Ru} {g : Nat → Int} {n : Nat} {x y : Nat → Int} {m m' : Nat} {E E' : Int} (h : FnR r g n x m E) (h' : FnR r g n y m' E') : E' = E ∧ m' = m ∧ ∀ i, i < m → x i = y i := by
  rcases h with ⟨a0, a1, a2⟩ | ⟨a0, a1, a2, a3⟩ | ⟨a0, a1, a2, a3⟩ <;> rcases h' with ⟨b0, b1, b2⟩ | ⟨b0, b1, b2, b3⟩ | ⟨b0, b1, b2, b3⟩
  · exact ⟨by rw [a2, b2], by rw [a1, b1], fun i hi => by omega⟩
  · exact absurd b0 a0
  · exact absurd b0 a0
  · exact absurd a0 b0
  · exact ⟨by rw [a2, b2], by rw [a1, b1], fun i hi => by omega⟩
  · have := (FQ.fine b3).all (M.wr_zero a0).2.2.2
    rw [a3] at this; omega
  · exact absurd a0 b0
  · have := (FQ.fine a3).all (M.wr_zero a0).2.2.2
    rw [b3] at this; omega
  · exact ⟨by rw [a2, b2], by rw [a1, b1], fun i hi => FQ.unique (M.wr_zero a0).2.2.2 a3 b3 i (by omega)⟩
end Go.Proofs.Ytmgkbnlmdhnjnae.U
