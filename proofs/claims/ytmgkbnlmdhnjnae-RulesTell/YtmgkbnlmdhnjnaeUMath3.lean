/- How many ways go on from a state: at most 'top'. -/
import Derived.Test.YtmgkbnlmdhnjnaeU9
namespace Go.Proofs.Ytmgkbnlmdhnjnae.U.M
set_option linter.unusedVariables false

/-- The ways to the end, d keys being left (at most 'top'). -/
def ct (r : Ru) (g : Nat → Int) (n : Nat) : Nat → Int → Bool → Int
  | 0 => fun _ _ => 1
  | d + 1 => fun pk pa => wy (vs r g n (n - (d + 1)) (ct r g n d)) (fo r g (n - (d + 1)) pk pa)
theorem wy_bd {V : Int → Bool → Option Int} {F : Int → Bool → Bool} (h : ∀ k a c, V k a = some c → 0 ≤ c) : 0 ≤ wy V F ∧ wy V F ≤ 1000000000 := by
  have := wl_bd (V := V) (F := F) (L := fun _ _ => false) h
  rw [wl_end (fun _ _ => rfl)] at this
  exact this
theorem ct_bd (r : Ru) (g : Nat → Int) (n d : Nat) (k : Int) (a : Bool) : 0 ≤ ct r g n d k a ∧ ct r g n d k a ≤ 1000000000 := by
  cases d with
  | zero => simp [ct]
  | succ d =>
    refine wy_bd fun k a c h => ?_
    unfold vs at h
    split at h
    · rename_i hc; cases h; omega
    · cases h
theorem ba_keys {r : Ru} (hr : r.Ok) {g : Nat → Int} {n i : Nat} {k : Int} (h : ba r g n i k = 0) : r.low ≤ k ∧ k ≤ r.high := by
  constructor
  · by_cases e : k < r.low
    · rw [ba_range (Or.inl e)] at h; cases h
    · omega
  · by_cases e : r.high < k
    · rw [ba_range (Or.inr (Or.inl e))] at h; cases h
    · omega
theorem vs_bd {r : Ru} (hr : r.Ok) {g : Nat → Int} {n i d : Nat} (k : Int) (a : Bool) (c : Int) (h : vs r g n i (ct r g n d) k a = some c) : 0 ≤ k ∧ k ≤ 127 ∧ 0 ≤ c ∧ c ≤ 1000000000 := by
  unfold vs at h
  split at h
  · rename_i hc
    cases h
    have h1 := ba_keys hr hc.1
    have h2 := ct_bd r g n d k a
    have h3 := hr.l0
    have h4 := hr.hm
    omega
  · cases h
theorem ct_step (r : Ru) (g : Nat → Int) (n i : Nat) (hi : i < n) (pk : Int) (pa : Bool) : ct r g n (n - i) pk pa = wy (vs r g n i (ct r g n (n - (i + 1)))) (fo r g i pk pa) := by
  obtain ⟨d, hd⟩ : ∃ d, n - i = d + 1 := ⟨n - i - 1, by omega⟩
  have e1 : n - (d + 1) = i := by omega
  have e2 : n - (i + 1) = d := by omega
  rw [hd, e2, ct, e1]
end Go.Proofs.Ytmgkbnlmdhnjnae.U.M
