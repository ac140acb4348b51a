/- The order of fractions: how it goes with floors and with sums. -/
import Derived.Test.YtnlbkklndlgojaaMath3
namespace Go.Proofs.Ytnlbkklndlgojaa.M

theorem ok_one (n : Int) (h1 : -1073741824 ≤ n) (h2 : n ≤ 1073741824) : ok n 1 = true := by
  unfold ok
  have : Int.gcd n 1 = 1 := Int.gcd_one_right n
  simp only [decide_eq_true_eq]
  omega

theorem sg_bd (x y : Int) : -1 ≤ sg x y ∧ sg x y ≤ 1 := by
  unfold sg; split
  · omega
  · split <;> omega

theorem sg_swap (x y : Int) : sg x y = -sg y x := by
  rcases Int.lt_trichotomy x y with h | h | h
  · rw [sg_lt x y h, sg_gt y x h]
  · rw [sg_eq x y h, sg_eq y x h.symm]; rfl
  · rw [sg_gt x y h, sg_lt y x h]; rfl

theorem sg_zero (x y : Int) : sg x y = 0 ↔ x = y := by
  rcases Int.lt_trichotomy x y with h | h | h
  · rw [sg_lt x y h]; omega
  · rw [sg_eq x y h]; omega
  · rw [sg_gt x y h]; omega

theorem sg_mul (k x y : Int) (hk : 1 ≤ k) : sg (k * x) (k * y) = sg x y := by
  rcases Int.lt_trichotomy x y with h | h | h
  · rw [sg_lt x y h, sg_lt _ _ (Int.mul_lt_mul_of_pos_left h (by omega))]
  · rw [sg_eq x y h, sg_eq _ _ (by rw [h])]
  · rw [sg_gt x y h, sg_gt _ _ (Int.mul_lt_mul_of_pos_left h (by omega))]

theorem sg_add (t x y : Int) : sg (x + t) (y + t) = sg x y := by
  rcases Int.lt_trichotomy x y with h | h | h
  · rw [sg_lt x y h, sg_lt _ _ (by omega)]
  · rw [sg_eq x y h, sg_eq _ _ (by omega)]
  · rw [sg_gt x y h, sg_gt _ _ (by omega)]

/-- Two fractions that are right: they are neither more nor less just if they are one. -/
theorem sg_same (a b c d : Int) (h1 : ok a b = true) (h2 : ok c d = true) : (sg (a * d) (c * b) == 0) = ((a == c) && (b == d)) := by
  obtain ⟨_, _, b1, _, g1⟩ := ok_yes _ _ h1
  obtain ⟨_, _, d1, _, g2⟩ := ok_yes _ _ h2
  by_cases h : a * d = c * b
  · obtain ⟨e1, e2⟩ := lowest_one a b c d b1 d1 g1 g2 h
    subst e1 e2
    rw [sg_eq _ _ rfl]; simp
  · have hne : (sg (a * d) (c * b) == 0) = false := by
      rw [beq_eq_false_iff_ne]; intro e; exact h ((sg_zero _ _).1 e)
    rw [hne]
    symm
    rw [Bool.and_eq_false_iff]
    by_cases ha : a = c
    · right
      rw [beq_eq_false_iff_ne]
      intro hb
      subst ha hb
      exact h rfl
    · left
      simpa using ha

theorem floor_le (a b : Int) (h : ok a b = true) : sg (a / b * b) (a * 1) ≤ 0 := by
  obtain ⟨_, _, b1, _, _⟩ := ok_yes _ _ h
  have := (div_lo a b b1).1
  rw [Int.mul_one]
  rcases Int.lt_or_le (a / b * b) a with k | k
  · rw [sg_lt _ _ k]; omega
  · rw [sg_eq _ _ (by omega)]; omega

theorem floor_gt (a b : Int) (h : ok a b = true) : sg ((a / b + 1) * b) (a * 1) = 1 := by
  obtain ⟨_, _, b1, _, _⟩ := ok_yes _ _ h
  have := (div_lo a b b1).2
  rw [Int.mul_one]
  exact sg_gt _ _ this

/-- In lowest terms the order is what it was. -/
theorem sg_low (u v s t : Int) (hv : 1 ≤ v) (ht : 1 ≤ t) : sg (lu u v * ld s t) (lu s t * ld u v) = sg (u * t) (s * v) := by
  have h1 := lu_mul u v
  have h2 := ld_mul u v
  have h3 := lu_mul s t
  have h4 := ld_mul s t
  have p1 := gi_pos u v hv
  have p2 := gi_pos s t ht
  have e1 : u * t = (gi u v * gi s t) * (lu u v * ld s t) := by
    conv => lhs; rw [← h1, ← h4]
    ac_rfl
  have e2 : s * v = (gi u v * gi s t) * (lu s t * ld u v) := by
    conv => lhs; rw [← h3, ← h2]
    ac_rfl
  rw [e1, e2, sg_mul _ _ _ (mul_pos' _ _ p1 p2)]

/-- What is added to both keeps their order. -/
theorem sg_sums (a b c d e f : Int) (b1 : 1 ≤ b) (d1 : 1 ≤ d) (f1 : 1 ≤ f) :
    sg (lu (a * f + e * b) (b * f) * ld (c * f + e * d) (d * f)) (lu (c * f + e * d) (d * f) * ld (a * f + e * b) (b * f)) = sg (a * d) (c * b) := by
  rw [sg_low _ _ _ _ (mul_pos' _ _ b1 f1) (mul_pos' _ _ d1 f1)]
  have e1 : (a * f + e * b) * (d * f) = (f * f) * (a * d) + e * b * d * f := by
    rw [Int.add_mul]
    congr 1 <;> ac_rfl
  have e2 : (c * f + e * d) * (b * f) = (f * f) * (c * b) + e * b * d * f := by
    rw [Int.add_mul]
    congr 1 <;> ac_rfl
  rw [e1, e2, sg_add, sg_mul _ _ _ (mul_pos' _ _ f1 f1)]

/-- What a reckoning of right fractions tells, if it tells something. -/
theorem r_yes (u v : Int) (hv : 1 ≤ v) (h : rE true u v = 0) : rU true u v = lu u v ∧ rD true u v = ld u v ∧ ok (lu u v) (ld u v) = true := by
  have e1 : rU true u v = up u v := mu_yes _ _ hv
  have e2 : rD true u v = dn u v := md_yes _ _ hv
  have e3 : rE true u v = er u v := me_yes _ _ hv
  rw [e3] at h
  cases hb : bd (lu u v) (ld u v)
  · rw [er_no _ _ hb] at h; omega
  · rw [e1, e2, up_yes _ _ hb, dn_yes _ _ hb]
    exact ⟨rfl, rfl, ok_of u v hv hb⟩

theorem r_no (u v : Int) (hv : 1 ≤ v) (h : rE true u v ≠ 0) : rU true u v = 0 ∧ rD true u v = 0 ∧ rE true u v = 4 ∧ bd (lu u v) (ld u v) = false := by
  have e1 : rU true u v = up u v := mu_yes _ _ hv
  have e2 : rD true u v = dn u v := md_yes _ _ hv
  have e3 : rE true u v = er u v := me_yes _ _ hv
  rw [e3] at h ⊢
  cases hb : bd (lu u v) (ld u v)
  · rw [e1, e2, up_no _ _ hb, dn_no _ _ hb, er_no _ _ hb]; exact ⟨rfl, rfl, rfl, rfl⟩
  · rw [er_yes _ _ hb] at h; exact absurd rfl h

end Go.Proofs.Ytnlbkklndlgojaa.M
