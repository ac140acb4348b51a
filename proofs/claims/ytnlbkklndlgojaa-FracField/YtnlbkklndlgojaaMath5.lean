/- Fractions are a field, as far as what comes out is told. -/
import Derived.Test.YtnlbkklndlgojaaMath4
namespace Go.Proofs.Ytnlbkklndlgojaa.M

/-- What stands above in a sum (p) or a product. -/
def uv (p : Bool) (a b c d : Int) : Int := if p = true then a * d + c * b else a * c
theorem uv_t (a b c d : Int) : uv true a b c d = a * d + c * b := rfl
theorem uv_f (a b c d : Int) : uv false a b c d = a * c := rfl
def tU (p : Bool) (a b c d : Int) : Int := rU (ok a b && ok c d) (uv p a b c d) (b * d)
def tD (p : Bool) (a b c d : Int) : Int := rD (ok a b && ok c d) (uv p a b c d) (b * d)
def tB (p : Bool) (a b c d : Int) : Bool := rE (ok a b && ok c d) (uv p a b c d) (b * d) == 0

theorem tt_k (p : Bool) (a b c d : Int) (h : tB p a b c d = true) : ok a b = true ∧ ok c d = true := by
  unfold tB at h
  cases k1 : ok a b <;> cases k2 : ok c d <;> simp [k1, k2, rE] at h ⊢

theorem tt_yes (p : Bool) (a b c d : Int) (h : tB p a b c d = true) : tU p a b c d = lu (uv p a b c d) (b * d) ∧ tD p a b c d = ld (uv p a b c d) (b * d) ∧ ok (tU p a b c d) (tD p a b c d) = true := by
  obtain ⟨k1, k2⟩ := tt_k p a b c d h
  have hv : 1 ≤ b * d := mul_pos' b d (ok_yes _ _ k1).2.2.1 (ok_yes _ _ k2).2.2.1
  unfold tB at h
  unfold tU tD
  rw [k1, k2] at h ⊢
  obtain ⟨e1, e2, e3⟩ := r_yes (uv p a b c d) (b * d) hv (by simpa using h)
  rw [show (true && true) = true from rfl, e1, e2]
  exact ⟨rfl, rfl, e3⟩

theorem tt_no (p : Bool) (a b c d : Int) (h : tB p a b c d = false) : tU p a b c d = 0 ∧ tD p a b c d = 0 := by
  unfold tB at h
  unfold tU tD
  cases k : (ok a b && ok c d)
  · exact ⟨rfl, rfl⟩
  · rw [k] at h
    obtain ⟨k1, k2⟩ : ok a b = true ∧ ok c d = true := by simpa using k
    have hv : 1 ≤ b * d := mul_pos' b d (ok_yes _ _ k1).2.2.1 (ok_yes _ _ k2).2.2.1
    obtain ⟨e1, e2, _⟩ := r_no (uv p a b c d) (b * d) hv (by simpa using h)
    exact ⟨e1, e2⟩

theorem tt_bd (p : Bool) (a b c d : Int) : -1073741824 ≤ tU p a b c d ∧ tU p a b c d ≤ 1073741824 ∧ 0 ≤ tD p a b c d ∧ tD p a b c d ≤ 1073741824 := by
  cases h : tB p a b c d
  · obtain ⟨e1, e2⟩ := tt_no p a b c d h
    omega
  · have := ok_yes _ _ (tt_yes p a b c d h).2.2
    omega

theorem tt_val (p : Bool) (a b c d : Int) (h : tB p a b c d = true) : tU p a b c d * (b * d) = uv p a b c d * tD p a b c d ∧ 1 ≤ tD p a b c d := by
  obtain ⟨k1, k2⟩ := tt_k p a b c d h
  have hv : 1 ≤ b * d := mul_pos' b d (ok_yes _ _ k1).2.2.1 (ok_yes _ _ k2).2.2.1
  obtain ⟨e1, e2, _⟩ := tt_yes p a b c d h
  rw [e1, e2]
  refine ⟨?_, ld_pos _ _ hv⟩
  have h1 := lu_mul (uv p a b c d) (b * d)
  have h2 := ld_mul (uv p a b c d) (b * d)
  generalize gi (uv p a b c d) (b * d) = g at *
  generalize lu (uv p a b c d) (b * d) = x at *
  generalize ld (uv p a b c d) (b * d) = y at *
  rw [← h1, ← h2]
  ac_rfl

theorem tt_congr (p q : Bool) (a b c d a' b' c' d' : Int) (k1 : ok a b = true) (k2 : ok c d = true) (k3 : ok a' b' = true) (k4 : ok c' d' = true)
    (h : uv p a b c d * (b' * d') = uv q a' b' c' d' * (b * d)) :
    tU p a b c d = tU q a' b' c' d' ∧ tD p a b c d = tD q a' b' c' d' ∧ tB p a b c d = tB q a' b' c' d' := by
  have hv : 1 ≤ b * d := mul_pos' b d (ok_yes _ _ k1).2.2.1 (ok_yes _ _ k2).2.2.1
  have hw : 1 ≤ b' * d' := mul_pos' b' d' (ok_yes _ _ k3).2.2.1 (ok_yes _ _ k4).2.2.1
  obtain ⟨e1, e2, e3⟩ := er_congr _ _ _ _ hv hw h
  unfold tU tD tB
  rw [k1, k2, k3, k4, show (true && true) = true from rfl]
  have f1 : ∀ u v, 1 ≤ v → rU true u v = up u v := fun u v h => mu_yes u v h
  have f2 : ∀ u v, 1 ≤ v → rD true u v = dn u v := fun u v h => md_yes u v h
  have f3 : ∀ u v, 1 ≤ v → rE true u v = er u v := fun u v h => me_yes u v h
  rw [f1 _ _ hv, f1 _ _ hw, f2 _ _ hv, f2 _ _ hw, f3 _ _ hv, f3 _ _ hw, e1, e2, e3]
  exact ⟨rfl, rfl, rfl⟩

theorem tt_comm (p : Bool) (a b c d : Int) : tU p c d a b = tU p a b c d ∧ tD p c d a b = tD p a b c d ∧ tB p c d a b = tB p a b c d := by
  have h : uv p c d a b = uv p a b c d := by
    cases p
    · rw [uv_f, uv_f, Int.mul_comm]
    · rw [uv_t, uv_t, Int.add_comm]
  unfold tU tD tB
  rw [h, Bool.and_comm, Int.mul_comm d b]
  exact ⟨rfl, rfl, rfl⟩

theorem cancel (k x y : Int) (hk : 1 ≤ k) (h : k * x = k * y) : x = y := Int.eq_of_mul_eq_mul_left (by omega) h

theorem as_f (a b c d e f p1 q1 p2 q2 : Int) (hd : 1 ≤ d) (h1 : p1 * (b * d) = a * c * q1) (h2 : p2 * (d * f) = c * e * q2) : p1 * e * (b * q2) = a * p2 * (q1 * f) := by
  apply cancel d _ _ hd
  have e1 : d * (p1 * e * (b * q2)) = p1 * (b * d) * (e * q2) := by ac_rfl
  have e2 : d * (a * p2 * (q1 * f)) = p2 * (d * f) * (a * q1) := by ac_rfl
  rw [e1, e2, h1, h2]
  ac_rfl

theorem as_t (a b c d e f p1 q1 p2 q2 : Int) (hd : 1 ≤ d) (h1 : p1 * (b * d) = (a * d + c * b) * q1) (h2 : p2 * (d * f) = (c * f + e * d) * q2) : (p1 * f + e * q1) * (b * q2) = (a * q2 + p2 * b) * (q1 * f) := by
  apply cancel d _ _ hd
  have e1 : d * ((p1 * f + e * q1) * (b * q2)) = p1 * (b * d) * (f * q2) + e * q1 * b * q2 * d := by
    rw [Int.add_mul, Int.mul_add]
    congr 1 <;> ac_rfl
  have e2 : d * ((a * q2 + p2 * b) * (q1 * f)) = a * q2 * q1 * f * d + p2 * (d * f) * (b * q1) := by
    rw [Int.add_mul, Int.mul_add]
    congr 1 <;> ac_rfl
  rw [e1, e2, h1, h2]
  simp only [Int.add_mul]
  have g1 : a * d * q1 * (f * q2) = a * q2 * q1 * f * d := by ac_rfl
  have g2 : c * b * q1 * (f * q2) = c * f * q2 * (b * q1) := by ac_rfl
  have g3 : e * q1 * b * q2 * d = e * d * q2 * (b * q1) := by ac_rfl
  omega

theorem tt_assoc (p : Bool) (a b c d e f : Int) (h1 : tB p a b c d = true) (h2 : tB p c d e f = true) :
    tU p (tU p a b c d) (tD p a b c d) e f = tU p a b (tU p c d e f) (tD p c d e f) ∧ tD p (tU p a b c d) (tD p a b c d) e f = tD p a b (tU p c d e f) (tD p c d e f) ∧ tB p (tU p a b c d) (tD p a b c d) e f = tB p a b (tU p c d e f) (tD p c d e f) := by
  obtain ⟨k1, k2⟩ := tt_k _ _ _ _ _ h1
  obtain ⟨_, k3⟩ := tt_k _ _ _ _ _ h2
  have hd := (ok_yes _ _ k2).2.2.1
  obtain ⟨v1, _⟩ := tt_val _ _ _ _ _ h1
  obtain ⟨v2, _⟩ := tt_val _ _ _ _ _ h2
  apply tt_congr p p _ _ _ _ _ _ _ _ (tt_yes _ _ _ _ _ h1).2.2 k3 k1 (tt_yes _ _ _ _ _ h2).2.2
  cases p
  · exact as_f a b c d e f _ _ _ _ hd v1 v2
  · exact as_t a b c d e f _ _ _ _ hd v1 v2

theorem di (a b c d e f s t u1 v1 u2 v2 : Int) (hd : 1 ≤ d) (hf : 1 ≤ f) (h : s * (d * f) = (c * f + e * d) * t) (h1 : u1 * (b * d) = a * c * v1) (h2 : u2 * (b * f) = a * e * v2) : a * s * (v1 * v2) = (u1 * v2 + u2 * v1) * (b * t) := by
  apply cancel (d * f) _ _ (mul_pos' d f hd hf)
  have e1 : d * f * (a * s * (v1 * v2)) = s * (d * f) * (a * v1 * v2) := by ac_rfl
  have e2 : d * f * ((u1 * v2 + u2 * v1) * (b * t)) = u1 * (b * d) * (v2 * f * t) + u2 * (b * f) * (v1 * d * t) := by
    rw [Int.add_mul, Int.mul_add]
    congr 1 <;> ac_rfl
  rw [e1, e2, h, h1, h2]
  simp only [Int.add_mul]
  congr 1 <;> ac_rfl

theorem tt_dist (a b c d e f : Int) (h : tB true c d e f = true) (h1 : tB false a b c d = true) (h2 : tB false a b e f = true) :
    tU true (tU false a b c d) (tD false a b c d) (tU false a b e f) (tD false a b e f) = tU false a b (tU true c d e f) (tD true c d e f) ∧ tD true (tU false a b c d) (tD false a b c d) (tU false a b e f) (tD false a b e f) = tD false a b (tU true c d e f) (tD true c d e f) ∧ tB true (tU false a b c d) (tD false a b c d) (tU false a b e f) (tD false a b e f) = tB false a b (tU true c d e f) (tD true c d e f) := by
  obtain ⟨k1, k2⟩ := tt_k _ _ _ _ _ h1
  obtain ⟨_, k3⟩ := tt_k _ _ _ _ _ h2
  obtain ⟨v, _⟩ := tt_val _ _ _ _ _ h
  obtain ⟨v1, _⟩ := tt_val _ _ _ _ _ h1
  obtain ⟨v2, _⟩ := tt_val _ _ _ _ _ h2
  apply tt_congr true false _ _ _ _ _ _ _ _ (tt_yes _ _ _ _ _ h1).2.2 (tt_yes _ _ _ _ _ h2).2.2 k1 (tt_yes _ _ _ _ _ h).2.2
  exact (di a b c d e f _ _ _ _ _ _ (ok_yes _ _ k2).2.2.1 (ok_yes _ _ k3).2.2.1 v v1 v2).symm

/-- What comes back: a sum or product that is a right fraction already. -/
theorem tt_is (p : Bool) (a b c d x y : Int) (k1 : ok a b = true) (k2 : ok c d = true) (k3 : ok x y = true) (h : uv p a b c d * y = x * (b * d)) :
    tU p a b c d = x ∧ tD p a b c d = y ∧ tB p a b c d = true := by
  obtain ⟨x1, x2, y1, y2, g⟩ := ok_yes _ _ k3
  have hv : 1 ≤ b * d := mul_pos' b d (ok_yes _ _ k1).2.2.1 (ok_yes _ _ k2).2.2.1
  obtain ⟨e1, e2⟩ := low_is _ _ _ _ hv y1 g h
  have hb : bd (lu (uv p a b c d) (b * d)) (ld (uv p a b c d) (b * d)) = true := by
    rw [e1, e2]; unfold bd; simp only [decide_eq_true_eq]; omega
  unfold tU tD tB
  rw [k1, k2, show (true && true) = true from rfl]
  have f1 : ∀ u v, 1 ≤ v → rU true u v = up u v := fun u v h => mu_yes u v h
  have f2 : ∀ u v, 1 ≤ v → rD true u v = dn u v := fun u v h => md_yes u v h
  have f3 : ∀ u v, 1 ≤ v → rE true u v = er u v := fun u v h => me_yes u v h
  rw [f1 _ _ hv, f2 _ _ hv, f3 _ _ hv, up_yes _ _ hb, dn_yes _ _ hb, er_yes _ _ hb, e1, e2]
  exact ⟨rfl, rfl, rfl⟩

theorem r_of (k : Bool) (u v : Int) (h : rE k u v = 0) : k = true ∧ 1 ≤ v := by
  cases k
  · have e : rE false u v = 2 := rfl
    rw [e] at h; omega
  · refine ⟨rfl, ?_⟩
    rcases Int.lt_or_le v 1 with hv | hv
    · have e : rE true u v = 3 := me_no _ _ hv
      rw [e] at h; omega
    · exact hv

theorem r_val (u v : Int) (hv : 1 ≤ v) (h : rE true u v = 0) : rU true u v * v = u * rD true u v ∧ ok (rU true u v) (rD true u v) = true := by
  obtain ⟨e1, e2, e3⟩ := r_yes u v hv h
  rw [e1, e2]
  refine ⟨?_, e3⟩
  have h1 := lu_mul u v
  have h2 := ld_mul u v
  generalize gi u v = g at *
  generalize lu u v = x at *
  generalize ld u v = y at *
  rw [← h1, ← h2]
  ac_rfl

theorem over_back (a b c d : Int) (h : rE (ok a b && ok c d) (qU a d c) (qD b c) = 0) :
    tU false (rU (ok a b && ok c d) (qU a d c) (qD b c)) (rD (ok a b && ok c d) (qU a d c) (qD b c)) c d = a ∧ tD false (rU (ok a b && ok c d) (qU a d c) (qD b c)) (rD (ok a b && ok c d) (qU a d c) (qD b c)) c d = b ∧ tB false (rU (ok a b && ok c d) (qU a d c) (qD b c)) (rD (ok a b && ok c d) (qU a d c) (qD b c)) c d = true := by
  obtain ⟨k, hv⟩ := r_of _ _ _ h
  obtain ⟨k1, k2⟩ : ok a b = true ∧ ok c d = true := by simpa using k
  rw [k] at h ⊢
  obtain ⟨v, o⟩ := r_val _ _ hv h
  apply tt_is false _ _ c d a b o k2 k1
  rw [uv_f]
  generalize rU true (qU a d c) (qD b c) = x at *
  generalize rD true (qU a d c) (qD b c) = y at *
  have e : x * (b * c) = a * d * y := by
    unfold qU qD at v
    by_cases hc : c < 0
    · rw [if_pos hc, if_pos hc, Int.mul_neg, Int.neg_mul] at v; omega
    · rw [if_neg hc, if_neg hc] at v; exact v
  have e1 : x * c * b = x * (b * c) := by ac_rfl
  rw [e1, e]
  ac_rfl

theorem minus_back (a b c d : Int) (h : rE (ok a b && ok c d) (a * d - c * b) (b * d) = 0) :
    tU true (rU (ok a b && ok c d) (a * d - c * b) (b * d)) (rD (ok a b && ok c d) (a * d - c * b) (b * d)) c d = a ∧ tD true (rU (ok a b && ok c d) (a * d - c * b) (b * d)) (rD (ok a b && ok c d) (a * d - c * b) (b * d)) c d = b ∧ tB true (rU (ok a b && ok c d) (a * d - c * b) (b * d)) (rD (ok a b && ok c d) (a * d - c * b) (b * d)) c d = true := by
  obtain ⟨k, hv⟩ := r_of _ _ _ h
  obtain ⟨k1, k2⟩ : ok a b = true ∧ ok c d = true := by simpa using k
  rw [k] at h ⊢
  obtain ⟨v, o⟩ := r_val _ _ hv h
  apply tt_is true _ _ c d a b o k2 k1
  rw [uv_t]
  generalize rU true (a * d - c * b) (b * d) = x at *
  generalize rD true (a * d - c * b) (b * d) = y at *
  rw [Int.sub_mul] at v
  rw [Int.add_mul]
  have e1 : x * d * b = x * (b * d) := by ac_rfl
  have e2 : c * y * b = c * b * y := by ac_rfl
  have e3 : a * (y * d) = a * d * y := by ac_rfl
  omega

theorem r_bd (k : Bool) (u v : Int) : -1073741824 ≤ rU k u v ∧ rU k u v ≤ 1073741824 ∧ 0 ≤ rD k u v ∧ rD k u v ≤ 1073741824 := by
  cases k
  · have e1 : rU false u v = 0 := rfl
    have e2 : rD false u v = 0 := rfl
    omega
  · rcases Int.lt_or_le v 1 with hv | hv
    · have e1 : rU true u v = 0 := mu_no _ _ hv
      have e2 : rD true u v = 0 := md_no _ _ hv
      omega
    · by_cases h : rE true u v = 0
      · have := ok_yes _ _ (r_val u v hv h).2
        omega
      · obtain ⟨e1, e2, _⟩ := r_no u v hv h
        omega

end Go.Proofs.Ytnlbkklndlgojaa.M
