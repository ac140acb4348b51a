/- Where all is moved as far, the answers are as they were. -/
import Derived.Test.YtmgkbnlmdhnjnaeUMath6
namespace Go.Proofs.Ytmgkbnlmdhnjnae.U
set_option linter.unusedVariables false

def M.mvr (r : M.Ru) (b : Nat) (H : Int) : M.Ru := ⟨r.low + b, H, r.above, r.leap, M.cls r.classes b 12⟩
def M.mvg (g : Nat → Int) (b : Nat) : Nat → Int := fun i => g i + b
theorem Mv.answers {r : M.Ru} {g : Nat → Int} {n b : Nat} {H : Int} (hb : b ≤ 127) (l0 : 0 ≤ r.low) (lh : r.low ≤ r.high) (hH : H ≤ 127) (hH2 : H = r.high + b ∨ (H < 0 ∧ 127 < r.high)) (c0 : 0 ≤ r.classes) (cm : r.classes ≤ 4095) (hg : ∀ i, i < n → 0 ≤ g i ∧ g i ≤ 127 - b) :
    M.wr (M.mvr r b H) (M.mvg g b) n = M.wr r g n ∧ M.cn (M.mvr r b H) (M.mvg g b) n = M.cn r g n ∧
    ∀ x m E y m' E', FnR r g n x m E → FnR (M.mvr r b H) (M.mvg g b) n y m' E' → E' = E ∧ m' = m ∧ ∀ i, i < m → y i = x i + b ∧ 0 ≤ x i ∧ x i ≤ 127 := by
  have hk1 : M.ks g n = true := M.ks_iff.2 fun j hj => by have := hg j hj; omega
  have hk2 : M.ks (M.mvg g b) n = true := M.ks_iff.2 fun j hj => by have := hg j hj; unfold M.mvg; omega
  have hcl := (M.cls_any r.classes b 0 (by omega)).1
  have hok : (M.mvr r b H).Ok ↔ r.Ok := by
    constructor
    · intro h
      have a1 := h.lh
      have a2 := h.lp
      simp only [M.mvr] at a1 a2
      exact ⟨l0, lh, by omega, a2, c0, cm⟩
    · intro h
      have a1 := h.hm
      have a2 := h.lp
      exact ⟨by simp only [M.mvr]; omega, by simp only [M.mvr]; omega, hH, a2, hcl.1, hcl.2⟩
  have hwr : M.wr (M.mvr r b H) (M.mvg g b) n = M.wr r g n := by
    by_cases c1 : n = 0 ∨ 64 < n
    · rw [M.wr_many c1, M.wr_many c1]
    · by_cases c2 : r.Ok
      · rw [M.wr_ok c1 ⟨hk2, hok.2 c2⟩, M.wr_ok c1 ⟨hk1, c2⟩]
      · rw [M.wr_range c1 (fun h => c2 (hok.1 h.2)), M.wr_range c1 (fun h => c2 h.2)]
  have hmv : M.wr r g n = 0 → Mv r (M.mvr r b H) g (M.mvg g b) n b ∧ 1 ≤ n := fun h => by
    obtain ⟨h1, h2, h3, h4⟩ := M.wr_zero h
    refine ⟨⟨h4, hok.2 h4, rfl, ?_, rfl, rfl, fun k hk => M.bit_mv _ _ k hk, fun i hi => rfl⟩, h1⟩
    show H = _
    have := h4.hm
    omega
  refine ⟨hwr, ?_, ?_⟩
  · by_cases h : M.wr r g n = 0
    · have h' := hwr.trans h
      obtain ⟨h1, h2⟩ := hmv h
      unfold M.cn
      rw [if_pos h, if_pos h', h1.all h2]
    · have h' : ¬ M.wr (M.mvr r b H) (M.mvg g b) n = 0 := by rw [hwr]; exact h
      unfold M.cn
      rw [if_neg h, if_neg h']
  · intro x m E y m' E' hx hy
    by_cases h : M.wr r g n = 0
    · obtain ⟨h1, h2⟩ := hmv h
      have hall := h1.all h2
      rcases hx with ⟨a, _⟩ | ⟨_, a1, a2, a3⟩ | ⟨_, a1, a2, a3⟩
      · exact absurd h a
      · rcases hy with ⟨a, _⟩ | ⟨_, b1, b2, b3⟩ | ⟨_, b1, b2, b3⟩
        · rw [hwr] at a; exact absurd h a
        · exact ⟨by omega, by omega, fun i hi => by omega⟩
        · have := (FQ.fine b3).all h1.ok'
          rw [hall, a3] at this; omega
      · rcases hy with ⟨a, _⟩ | ⟨_, b1, b2, b3⟩ | ⟨_, b1, b2, b3⟩
        · rw [hwr] at a; exact absurd h a
        · have := (FQ.fine a3).all h1.ok
          rw [← hall, b3] at this; omega
        · refine ⟨by omega, by omega, fun i hi => ?_⟩
          have e := FQ.unique h1.ok' b3 (h1.fq a3) i (by omega)
          have k := M.ks_iff.1 (FQ.keys h1.ok a3) i (by omega)
          exact ⟨e, k.1, k.2⟩
    · rcases hx with ⟨_, a1, a2⟩ | ⟨a, _⟩ | ⟨a, _⟩
      · rcases hy with ⟨_, b1, b2⟩ | ⟨a, _⟩ | ⟨a, _⟩
        · rw [hwr] at b2
          exact ⟨by omega, by omega, fun i hi => by omega⟩
        · rw [hwr] at a; exact absurd a h
        · rw [hwr] at a; exact absurd a h
      · exact absurd a h
      · exact absurd a h
end Go.Proofs.Ytmgkbnlmdhnjnae.U
