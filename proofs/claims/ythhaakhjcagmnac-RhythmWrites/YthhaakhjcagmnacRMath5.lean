/- Plain facts on the document's loops: powers of two, sums of dots, halves of parts. -/
import Derived.Test.YthhaakhjcagmnacRMath3
namespace Go.Proofs.Ythhaakhjcagmnac.F.M

def pw (k : Nat) : Int := 2 ^ k
theorem pw_zero : pw 0 = 1 := rfl
theorem pw_succ (k : Nat) : pw (k + 1) = 2 * pw k := by unfold pw; rw [Int.pow_succ, Int.mul_comm]
theorem pw_bd (k : Nat) (h : k ≤ 13) : 1 ≤ pw k ∧ pw k ≤ 8192 := by
  have h1 : pw k ≤ 2 ^ 13 := pow_le k 13 h
  have h2 : (0 : Int) < 2 ^ k := Int.pow_pos (by omega)
  unfold pw at *; omega
theorem pw_pt (H : Int) (h1 : 1 ≤ H) (h2 : H ≤ 10) : pw (10 - H).toNat = pt H := by
  unfold pw pt
  rw [show (10 - H).toNat = 10 - H.toNat by omega]
  simp

/-- What the sum is ahead of dot k. -/
def sU (k : Nat) : Int := if k = 0 then 0 else LU (k - 1)
def sD (h k : Nat) : Int := if k = 0 then 1 else LD h (k - 1)
theorem s_all : allHD (fun h k => ok (sU k) (sD h k) && ok 1 (pw (h + k)) && decide (-8192 ≤ sU k ∧ sU k ≤ 8192 ∧ 1 ≤ sD h k ∧ sD h k ≤ 8192 ∧ up (sU k * pw (h + k) + 1 * sD h k) (sD h k * pw (h + k)) = sU (k + 1) ∧ dn (sU k * pw (h + k) + 1 * sD h k) (sD h k * pw (h + k)) = sD h (k + 1))) = true := by decide +kernel
theorem s_step (h k : Nat) (hh : h ≤ 10) (hk : k ≤ 3) : ok (sU k) (sD h k) = true ∧ ok 1 (pw (h + k)) = true ∧ -8192 ≤ sU k ∧ sU k ≤ 8192 ∧ 1 ≤ sD h k ∧ sD h k ≤ 8192 ∧ up (sU k * pw (h + k) + 1 * sD h k) (sD h k * pw (h + k)) = sU (k + 1) ∧ dn (sU k * pw (h + k) + 1 * sD h k) (sD h k * pw (h + k)) = sD h (k + 1) := by
  have := of_allHD _ s_all h k hh hk
  simp only [Bool.and_eq_true, decide_eq_true_eq] at this
  exact ⟨this.1.1, this.1.2, this.2⟩
theorem s_end (h d : Nat) : sU (d + 1) = LU d ∧ sD h (d + 1) = LD h d := ⟨rfl, rfl⟩

theorem out_one (r j : Nat) (X H : Int) (h : OutI r j X H) : OutI r j X 1 := by
  obtain ⟨l, hn, h1, h2, h3, h4, h5, h6, h7, h8⟩ := h
  exact ⟨l, 1, h1, rfl, by omega, by omega, by omega, h6, h7, h8⟩

/-- Within the document's round: the part that came last. -/
def InJ (r j : Nat) (H X part d : Int) : Prop := InI r j H X (part / 2) d ∧ X < part ∧ ∃ m : Nat, part = 2 ^ m
theorem inj_start (r j : Nat) (X H : Int) (h : OutI r j X H) (h0 : 0 < X) (hp : pt H ≤ X) : InJ r j H (X - pt H) (pt H) 0 := by
  obtain ⟨g1, g2, g3, g4, g5⟩ := out_go r j X H h h0
  obtain ⟨l, hn, rfl, rfl, h3, h4, h5, h6, h7, h8⟩ := h
  refine ⟨g5 hp, ?_, ⟨10 - hn, by unfold pt; simp⟩⟩
  have e1 : pt hn = ((2 ^ (10 - hn) : Nat) : Int) := by unfold pt; simp
  have e2 : 2 ^ (11 - hn) = 2 * 2 ^ (10 - hn) := by rw [show 11 - hn = (10 - hn) + 1 by omega, Nat.pow_succ, Nat.mul_comm]
  rw [e1]; omega
theorem inj_bd (r j : Nat) (H X part d : Int) (h : InJ r j H X part d) : 0 ≤ X ∧ 0 ≤ d ∧ d ≤ 3 ∧ 1 ≤ H ∧ H ≤ 10 := by
  obtain ⟨h1, _⟩ := h
  have := in_bd r j H X _ d h1
  omega
theorem inj_step (r j : Nat) (H X part d : Int) (h : InJ r j H X part d) (h1 : d < 3) (h2 : 1 < part) (h3 : part / 2 ≤ X) : InJ r j H (X - part / 2) (part / 2) (d + 1) := by
  obtain ⟨g1, g2, m, rfl⟩ := h
  cases m with
  | zero => simp at h2
  | succ m =>
    have e : (2 : Int) ^ (m + 1) / 2 = 2 ^ m := by rw [Int.pow_succ]; exact Int.mul_ediv_cancel _ (by omega)
    have p : (0 : Int) < 2 ^ m := Int.pow_pos (by omega)
    refine ⟨in_step r j H X _ d g1 (by rw [e] at h3; omega) h3 h1, ?_, m, e⟩
    rw [e]; rw [Int.pow_succ] at g2; omega
theorem inj_end (r j : Nat) (H X part d : Int) (h : InJ r j H X part d) (hc : ¬ (d < 3 ∧ 1 < part ∧ part / 2 ≤ X)) : OutI r (j + 1) X 1 ∧ ∃ hn dd : Nat, H = hn ∧ d = dd ∧ (tl r)[j]? = some (hn, dd) := by
  obtain ⟨g1, g2, m, hm⟩ := h
  have p : (0 : Int) < 2 ^ m := Int.pow_pos (by omega)
  have b := in_bd r j H X _ d g1
  have := in_end r j H X _ d g1 (by intro ⟨x1, x2, x3⟩; exact hc ⟨x3, by omega, x2⟩)
  exact ⟨out_one _ _ _ _ this.1, this.2⟩
end Go.Proofs.Ythhaakhjcagmnac.F.M
