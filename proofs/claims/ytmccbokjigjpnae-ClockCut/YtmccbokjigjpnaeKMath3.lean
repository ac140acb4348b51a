/- Plain facts on clocks: what is told, in one word each. -/
import Derived.Test.YtmccbokjigjpnaeKMath
namespace Go.Proofs.Ytmccbokjigjpnae.K.M
/-- What is wrong with a rate. -/
def rte (k : Bool) (u d : Int) : Int := if k = false then 2 else if u ≤ 0 ∨ 4096 < u ∨ 4096 < d then 3 else 0
theorem rte_form {u d : Int} : rte false u d = 2 := rfl
theorem rte_range {u d : Int} (h : u ≤ 0 ∨ 4096 < u ∨ 4096 < d) : rte true u d = 3 := by unfold rte; rw [if_neg (by simp), if_pos h]
theorem rte_yes {u d : Int} (h : ¬ (u ≤ 0 ∨ 4096 < u ∨ 4096 < d)) : rte true u d = 0 := by unfold rte; rw [if_neg (by simp), if_neg h]
theorem rte_zero {k : Bool} {u d : Int} (h : rte k u d = 0) : k = true ∧ 0 < u ∧ u ≤ 4096 ∧ d ≤ 4096 := by
  unfold rte at h
  split at h
  · omega
  · rename_i e
    split at h
    · omega
    · cases k
      · exact absurd rfl e
      · exact ⟨rfl, by omega, by omega, by omega⟩
/-- What is wrong with marks and a tick. -/
def te (A P : Nat → Int) (n : Nat) (t : Int) : Int := if wr A P n ≠ 0 then wr A P n else if t < 0 ∨ 1048576 < t then 3 else 0
def tv (A P : Nat → Int) (R : Nat → Bool) (n : Nat) (t : Int) : Int := if te A P n t = 0 then tw A P R n n t else 0
def pe (A P : Nat → Int) (n : Nat) (t : Int) (k : Bool) (u d : Int) : Int := if te A P n t ≠ 0 then te A P n t else rte k u d
def pv (A P : Nat → Int) (R : Nat → Bool) (n : Nat) (t : Int) (k : Bool) (u d : Int) : Int := if pe A P n t k u d = 0 then sm A P R n u d t else 0
variable {A P : Nat → Int} {R : Nat → Bool} {n : Nat}
theorem te_wrong {t : Int} (h : wr A P n ≠ 0) : te A P n t = wr A P n ∧ tv A P R n t = 0 := by
  have e : te A P n t = wr A P n := by unfold te; rw [if_pos h]
  exact ⟨e, by unfold tv; rw [if_neg (by rw [e]; exact h)]⟩
theorem te_range {t : Int} (h : wr A P n = 0) (ht : t < 0 ∨ 1048576 < t) : te A P n t = 3 ∧ tv A P R n t = 0 := by
  have e : te A P n t = 3 := by unfold te; rw [if_neg (by omega), if_pos ht]
  exact ⟨e, by unfold tv; rw [if_neg (by omega)]⟩
theorem te_yes {t : Int} (h : wr A P n = 0) (ht : ¬ (t < 0 ∨ 1048576 < t)) : te A P n t = 0 ∧ tv A P R n t = tw A P R n n t := by
  have e : te A P n t = 0 := by unfold te; rw [if_neg (by omega), if_neg ht]
  exact ⟨e, by unfold tv; rw [if_pos e]⟩
theorem te_zero {t : Int} (h : te A P n t = 0) : wr A P n = 0 ∧ 0 ≤ t ∧ t ≤ 1048576 := by
  unfold te at h
  split at h
  · rename_i e; exact absurd h e
  · split at h
    · omega
    · exact ⟨by omega, by omega, by omega⟩
theorem pe_te {t u d : Int} {k : Bool} (h : te A P n t ≠ 0) : pe A P n t k u d = te A P n t ∧ pv A P R n t k u d = 0 := by
  have e : pe A P n t k u d = te A P n t := by unfold pe; rw [if_pos h]
  exact ⟨e, by unfold pv; rw [if_neg (by rw [e]; exact h)]⟩
theorem pe_rte {t u d : Int} {k : Bool} (h : te A P n t = 0) (h2 : rte k u d ≠ 0) : pe A P n t k u d = rte k u d ∧ pv A P R n t k u d = 0 := by
  have e : pe A P n t k u d = rte k u d := by unfold pe; rw [if_neg (by omega)]
  exact ⟨e, by unfold pv; rw [if_neg (by rw [e]; exact h2)]⟩
theorem pe_yes {t u d : Int} {k : Bool} (h : te A P n t = 0) (h2 : rte k u d = 0) : pe A P n t k u d = 0 ∧ pv A P R n t k u d = sm A P R n u d t := by
  have e : pe A P n t k u d = 0 := by unfold pe; rw [if_neg (by omega), h2]
  exact ⟨e, by unfold pv; rw [if_pos e]⟩
theorem sm_bd (h : Rt A P n) {t u d : Int} (t1 : 0 ≤ t) (t2 : t ≤ 1048576) (u1 : 0 < u) (u2 : u ≤ 4096) (d1 : 0 < d) : 0 ≤ tw A P R n n t * u ∧ tw A P R n n t * u ≤ 562949953421312 ∧ 0 ≤ sm A P R n u d t ∧ sm A P R n u d t ≤ 562949953421312 := by
  obtain ⟨a, b⟩ := h.tw_all (R := R) t t1 n (by omega)
  have h1 : 0 ≤ tw A P R n n t * u := Int.mul_nonneg a (by omega)
  have h2 : tw A P R n n t * u ≤ 137438953472 * 4096 := Int.mul_le_mul (by omega) u2 (by omega) (by omega)
  refine ⟨h1, by omega, Int.ediv_nonneg h1 (by omega), ?_⟩
  have := Int.ediv_le_self d h1
  unfold sm; omega
end Go.Proofs.Ytmccbokjigjpnae.K.M
