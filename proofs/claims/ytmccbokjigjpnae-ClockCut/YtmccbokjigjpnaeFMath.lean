/- Plain facts on greatest divisors and on fractions in lowest terms, without any Go text. -/
namespace Go.Proofs.Ytmccbokjigjpnae.F.M

theorem gcd_tmod (a b : Int) : Int.gcd b (a.tmod b) = Int.gcd a b := by
  rw [Int.tmod_def, Int.gcd_sub_mul_left_right, Int.gcd_comm]

theorem gcd_sub_l (a b : Int) : Int.gcd (a - b) b = Int.gcd a b := by
  rw [Int.gcd_sub_self_left]

theorem gcd_sub_r (a b : Int) : Int.gcd a (b - a) = Int.gcd a b := by
  rw [Int.gcd_sub_self_right]

theorem gcd_two (a b : Int) : Int.gcd (2 * a) (2 * b) = 2 * Int.gcd a b := by
  rw [Int.gcd_mul_left]; rfl

theorem cop_two (b : Int) (h : b % 2 = 1) : Nat.Coprime b.natAbs 2 := by
  unfold Nat.Coprime
  have h1 : b.natAbs % 2 = 1 := by omega
  rw [Nat.gcd_comm, Nat.gcd_rec, h1]; rfl

theorem gcd_half_l (a b : Int) (h : b % 2 = 1) : Int.gcd (2 * a) b = Int.gcd a b := by
  have hc := cop_two b h
  rw [Int.gcd_eq_natAbs_gcd_natAbs, Int.gcd_eq_natAbs_gcd_natAbs, Int.natAbs_mul]
  exact Nat.Coprime.gcd_mul_left_cancel _ hc.symm

theorem gcd_half_r (a b : Int) (h : a % 2 = 1) : Int.gcd a (2 * b) = Int.gcd a b := by
  rw [Int.gcd_comm, gcd_half_l b a h, Int.gcd_comm]

theorem tmod_bd (x y : Int) (hy : y ≠ 0) : (x.tmod y).natAbs < y.natAbs := by
  rw [Int.natAbs_tmod]
  exact Nat.mod_lt _ (by omega)

/-- The greatest part. -/
def most : Int := 1073741824

/-- A fraction that is written as it must be. -/
def ok (u d : Int) : Bool := decide (-1073741824 ≤ u ∧ u ≤ 1073741824 ∧ 1 ≤ d ∧ d ≤ 1073741824 ∧ Int.gcd u d = 1)

/-- Within the bounds. -/
def bd (u d : Int) : Bool := decide (-1073741824 ≤ u ∧ u ≤ 1073741824 ∧ 1 ≤ d ∧ d ≤ 1073741824)

def gi (u d : Int) : Int := (Int.gcd u d : Nat)
def lu (u d : Int) : Int := u.tdiv (gi u d)
def ld (u d : Int) : Int := d / (gi u d)
/-- What lowest terms tell: the parts and what is wrong. -/
def up (u d : Int) : Int := if bd (lu u d) (ld u d) = true then lu u d else 0
def dn (u d : Int) : Int := if bd (lu u d) (ld u d) = true then ld u d else 0
def er (u d : Int) : Int := if bd (lu u d) (ld u d) = true then 0 else 4

theorem gi_pos (u d : Int) (h : 1 ≤ d) : 1 ≤ gi u d := by
  unfold gi
  have := Int.gcd_pos_of_ne_zero_right u (b := d) (by omega)
  omega

theorem gi_le (u d : Int) (h : 1 ≤ d) : gi u d ≤ d := by
  unfold gi
  exact Int.gcd_le_right u (by omega)

theorem gi_dvd_l (u d : Int) : gi u d ∣ u := Int.gcd_dvd_left u d
theorem gi_dvd_r (u d : Int) : gi u d ∣ d := Int.gcd_dvd_right u d

theorem lu_mul (u d : Int) : gi u d * lu u d = u := Int.mul_tdiv_cancel' (gi_dvd_l u d)
theorem ld_mul (u d : Int) : gi u d * ld u d = d := Int.mul_ediv_cancel' (gi_dvd_r u d)

theorem cop (u d : Int) (h : 1 ≤ d) : Int.gcd (lu u d) (ld u d) = 1 := by
  have h1 : Int.gcd (gi u d * lu u d) (gi u d * ld u d) = Int.gcd u d := by rw [lu_mul, ld_mul]
  rw [Int.gcd_mul_left] at h1
  have h2 := gi_pos u d h
  have h3 : (gi u d).natAbs = Int.gcd u d := by unfold gi; simp
  rw [h3] at h1
  have h4 : 0 < Int.gcd u d := by unfold gi at h2; omega
  exact Nat.eq_of_mul_eq_mul_left h4 (by omega)

theorem ld_pos (u d : Int) (h : 1 ≤ d) : 1 ≤ ld u d := by
  have h1 := ld_mul u d
  have h2 := gi_pos u d h
  rcases Int.lt_or_le 0 (ld u d) with h3 | h3
  · omega
  · exfalso
    have : gi u d * ld u d ≤ 0 := Int.mul_nonpos_of_nonneg_of_nonpos (by omega) h3
    omega

theorem ok_of (u d : Int) (h : 1 ≤ d) (hb : bd (lu u d) (ld u d) = true) : ok (lu u d) (ld u d) = true := by
  unfold ok; unfold bd at hb
  have := cop u d h
  simp at hb ⊢
  omega

theorem dvd_cop (b a d : Int) (h : Int.gcd a b = 1) (hd : b ∣ a * d) : b ∣ d := by
  rw [← Int.natAbs_dvd_natAbs] at hd ⊢
  rw [Int.natAbs_mul] at hd
  refine Nat.Coprime.dvd_of_dvd_mul_left ?_ hd
  rw [Int.gcd_comm] at h
  exact h

theorem ok_no (u d : Int) (h : bd u d = false) : ok u d = false := by
  unfold bd at h; unfold ok
  simp only [decide_eq_false_iff_not] at *
  omega
theorem bd_yes (u d : Int) (h : bd u d = true) : -1073741824 ≤ u ∧ u ≤ 1073741824 ∧ 1 ≤ d ∧ d ≤ 1073741824 := by
  unfold bd at h; exact of_decide_eq_true h
theorem bd_no (u d : Int) (h : bd u d = false) : ¬ (-1073741824 ≤ u ∧ u ≤ 1073741824 ∧ 1 ≤ d ∧ d ≤ 1073741824) := by
  unfold bd at h; exact of_decide_eq_false h
theorem ok_bd (u d : Int) (h : bd u d = true) : ok u d = (gi u d == 1) := by
  have hb := bd_yes u d h
  unfold ok gi
  by_cases c : Int.gcd u d = 1
  · rw [c]; simp; omega
  · have h2 : (((Int.gcd u d : Nat) : Int) == 1) = false := by simp; omega
    rw [h2]; simp; omega
theorem ok_yes (u d : Int) (h : ok u d = true) : -1073741824 ≤ u ∧ u ≤ 1073741824 ∧ 1 ≤ d ∧ d ≤ 1073741824 ∧ Int.gcd u d = 1 := by
  unfold ok at h; exact of_decide_eq_true h
theorem ok_gi (u d : Int) (h : ok u d = true) : gi u d = 1 := by
  have := ok_yes u d h
  unfold gi; omega

/-- 'g' is 'h', doubled t times. -/
def P2 (t : Nat) (g h : Int) : Prop := g = 2 ^ t * h
theorem p2_0 (g : Int) : P2 0 g g := by unfold P2; omega
theorem p2_eq (g h : Int) (p : P2 0 g h) : g = h := by unfold P2 at p; omega
theorem p2_step (t : Nat) (g h : Int) (p : P2 t g (2 * h)) : P2 (t + 1) g h := by
  unfold P2 at *; rw [p, Int.pow_succ, Int.mul_assoc]
theorem p2_up (t : Nat) (g h : Int) (p : P2 (t + 1) g h) : P2 t g (2 * h) := by
  unfold P2 at *; rw [p, Int.pow_succ, Int.mul_assoc]
theorem p2_le (t : Nat) (g h : Int) (p : P2 t g h) (h1 : 1 ≤ h) : h ≤ g := by
  unfold P2 at p
  have h2 : (1 : Int) ≤ 2 ^ t := by
    have : (0 : Int) < 2 ^ t := Int.pow_pos (by omega)
    omega
  have h3 : 0 ≤ (2 ^ t - 1) * h := Int.mul_nonneg (by omega) (by omega)
  rw [Int.sub_mul] at h3
  omega

theorem gi_both (x y : Int) (hx : x % 2 = 0) (hy : y % 2 = 0) : gi x y = 2 * gi (x / 2) (y / 2) := by
  have := gcd_two (x / 2) (y / 2)
  rw [show 2 * (x / 2) = x by omega, show 2 * (y / 2) = y by omega] at this
  unfold gi; rw [this]; omega
theorem gi_l (x y : Int) (hx : x % 2 = 0) (hy : y % 2 = 1) : gi x y = gi (x / 2) y := by
  have := gcd_half_l (x / 2) y hy
  rw [show 2 * (x / 2) = x by omega] at this
  unfold gi; rw [this]
theorem gi_r (x y : Int) (hx : x % 2 = 1) (hy : y % 2 = 0) : gi x y = gi x (y / 2) := by
  have := gcd_half_r x (y / 2) hx
  rw [show 2 * (y / 2) = y by omega] at this
  unfold gi; rw [this]
theorem gi_sl (x y : Int) : gi x y = gi (x - y) y := by unfold gi; rw [gcd_sub_l]
theorem gi_sr (x y : Int) : gi x y = gi x (y - x) := by unfold gi; rw [gcd_sub_r]
theorem gi_self (x : Int) (h : 1 ≤ x) : gi x x = x := by unfold gi; rw [Int.gcd_self]; omega
theorem gi_abs (x y : Int) : gi (x.natAbs : Nat) y = gi x y := by unfold gi; simp [Int.gcd_eq_natAbs_gcd_natAbs]

/-- Two fractions in lowest terms that are one number are one. -/
theorem lowest_one (a b c d : Int) (hb : 1 ≤ b) (hd : 1 ≤ d) (h1 : Int.gcd a b = 1) (h2 : Int.gcd c d = 1) (h : a * d = c * b) : a = c ∧ b = d := by
  have hbd : b ∣ d := by
    have : b ∣ a * d := ⟨c, by rw [h, Int.mul_comm]⟩
    exact dvd_cop b a d h1 this
  have hdb : d ∣ b := by
    have : d ∣ c * b := ⟨a, by rw [← h, Int.mul_comm]⟩
    exact dvd_cop d c b h2 this
  have e : b = d := Int.dvd_antisymm (by omega) (by omega) hbd hdb
  subst e
  exact ⟨Int.eq_of_mul_eq_mul_right (by omega) h, rfl⟩

/-- Lowest terms hang on the number alone. -/
theorem low_congr (a b c d : Int) (hb : 1 ≤ b) (hd : 1 ≤ d) (h : a * d = c * b) : lu a b = lu c d ∧ ld a b = ld c d := by
  apply lowest_one _ _ _ _ (ld_pos a b hb) (ld_pos c d hd) (cop a b hb) (cop c d hd)
  have h1 := lu_mul a b
  have h2 := ld_mul a b
  have h3 := lu_mul c d
  have h4 := ld_mul c d
  have p1 := gi_pos a b hb
  have p2 := gi_pos c d hd
  generalize lu a b = x at *
  generalize ld a b = y at *
  generalize lu c d = z at *
  generalize ld c d = t at *
  generalize gi a b = g at *
  generalize gi c d = k at *
  subst h1 h2 h3 h4
  have e : (g * k) * (x * t) = (g * k) * (z * y) := by
    have : g * x * (k * t) = g * k * (x * t) := by ac_rfl
    have : k * z * (g * y) = g * k * (z * y) := by ac_rfl
    omega
  have hgk : g * k ≠ 0 := Int.mul_ne_zero (by omega) (by omega)
  exact Int.eq_of_mul_eq_mul_left hgk e

theorem er_congr (a b c d : Int) (hb : 1 ≤ b) (hd : 1 ≤ d) (h : a * d = c * b) : up a b = up c d ∧ dn a b = dn c d ∧ er a b = er c d := by
  obtain ⟨h1, h2⟩ := low_congr a b c d hb hd h
  unfold up dn er
  rw [h1, h2]
  exact ⟨rfl, rfl, rfl⟩


theorem lu_one (x y : Int) (h : Int.gcd x y = 1) : lu x y = x := by unfold lu gi; rw [h]; simp
theorem ld_one (x y : Int) (h : Int.gcd x y = 1) : ld x y = y := by unfold ld gi; rw [h]; simp

theorem low_is (u d x y : Int) (hd : 1 ≤ d) (hy : 1 ≤ y) (hg : Int.gcd x y = 1) (h : u * y = x * d) : lu u d = x ∧ ld u d = y := by
  have := low_congr u d x y hd hy h
  rw [lu_one x y hg, ld_one x y hg] at this
  exact this

theorem gcd_pow (k : Nat) (y : Int) (h : y % 2 = 1) : Int.gcd (2 ^ k) y = 1 := by
  induction k with
  | zero => simp
  | succ n ih => rw [Int.pow_succ, Int.mul_comm, gcd_half_l _ _ h]; exact ih

/-- The least number that there is, and what it stands over, halved as often as both can be. -/
def MQ (d x y : Int) : Prop := ∃ t : Nat, t ≤ 62 ∧ x = -(2 ^ (63 - t)) ∧ d = y * 2 ^ t

theorem mq_start (d x : Int) (h : x = -9223372036854775808) : MQ d x d := ⟨0, by omega, by rw [h]; rfl, by simp⟩

theorem pow_le (k n : Nat) (h : k ≤ n) : (2 : Int) ^ k ≤ 2 ^ n := by
  obtain ⟨m, rfl⟩ : ∃ m, n = k + m := ⟨n - k, by omega⟩
  rw [Int.pow_add]
  have h1 : (0 : Int) < 2 ^ k := Int.pow_pos (by omega)
  have h2 : (0 : Int) < 2 ^ m := Int.pow_pos (by omega)
  have h3 : 0 ≤ 2 ^ k * ((2 : Int) ^ m - 1) := Int.mul_nonneg (by omega) (by omega)
  rw [Int.mul_sub] at h3
  omega

theorem mq_bd (d x y : Int) (h : MQ d x y) : -9223372036854775808 ≤ x ∧ x ≤ -2 := by
  obtain ⟨t, ht, hx, _⟩ := h
  have h1 := pow_le (63 - t) 63 (by omega)
  have h2 := pow_le 1 (63 - t) (by omega)
  have h3 : (2 : Int) ^ 63 = 9223372036854775808 := by decide
  have h4 : (2 : Int) ^ 1 = 2 := by decide
  omega

theorem mq_step (d x y : Int) (h : MQ d x y) (hd : d ≤ 9223372036854775807) (hy : 2 ≤ y) (he : y % 2 = 0) : MQ d (x.tdiv 2) (y / 2) := by
  obtain ⟨t, ht, hx, hdy⟩ := h
  have hlt : t + 1 ≤ 62 := by
    rcases Nat.lt_or_ge t 62 with h | h
    · omega
    · exfalso
      have e : t = 62 := by omega
      subst e
      have h3 : (2 : Int) ^ 62 = 4611686018427387904 := by decide
      rw [h3] at hdy
      omega
  refine ⟨t + 1, hlt, ?_, ?_⟩
  · rw [hx, Int.neg_tdiv]
    have : (2 : Int) ^ (63 - t) = 2 ^ (63 - (t + 1)) * 2 := by
      rw [← Int.pow_succ]
      congr 1
      omega
    rw [this, Int.mul_tdiv_cancel _ (by omega)]
  · rw [Int.pow_succ]
    have e : y = 2 * (y / 2) := by omega
    rw [hdy]
    generalize y / 2 = z at *
    subst e
    rw [Int.mul_comm (2 ^ t) 2, ← Int.mul_assoc, Int.mul_comm z 2]

theorem mq_end (d x y u : Int) (h : MQ d x y) (hu : u = -9223372036854775808) (hd : 1 ≤ d) (hy : 1 ≤ y) (ho : y % 2 = 1) : lu u d = x ∧ ld u d = y := by
  obtain ⟨t, ht, hx, hdy⟩ := h
  apply low_is u d x y hd hy
  · rw [hx, Int.neg_gcd]; exact gcd_pow _ _ ho
  · have h3 : (2 : Int) ^ 63 = 9223372036854775808 := by decide
    have h4 : (2 : Int) ^ 63 = 2 ^ (63 - t) * 2 ^ t := by rw [← Int.pow_add]; congr 1; omega
    rw [hu, hx, hdy, ← h3, h4]
    generalize (2 : Int) ^ (63 - t) = p
    generalize (2 : Int) ^ t = q
    rw [Int.neg_mul, Int.neg_mul]
    congr 1
    ac_rfl

/-- What Make tells. -/
def mu (u d : Int) : Int := if d < 1 then 0 else up u d
def md (u d : Int) : Int := if d < 1 then 0 else dn u d
def me (u d : Int) : Int := if d < 1 then 3 else er u d
theorem mu_no (u d : Int) (h : d < 1) : mu u d = 0 := if_pos h
theorem md_no (u d : Int) (h : d < 1) : md u d = 0 := if_pos h
theorem me_no (u d : Int) (h : d < 1) : me u d = 3 := if_pos h
theorem mu_yes (u d : Int) (h : 1 ≤ d) : mu u d = up u d := if_neg (by omega)
theorem md_yes (u d : Int) (h : 1 ≤ d) : md u d = dn u d := if_neg (by omega)
theorem me_yes (u d : Int) (h : 1 ≤ d) : me u d = er u d := if_neg (by omega)
theorem up_yes (u d : Int) (h : bd (lu u d) (ld u d) = true) : up u d = lu u d := if_pos h
theorem dn_yes (u d : Int) (h : bd (lu u d) (ld u d) = true) : dn u d = ld u d := if_pos h
theorem er_yes (u d : Int) (h : bd (lu u d) (ld u d) = true) : er u d = 0 := if_pos h
theorem up_no (u d : Int) (h : bd (lu u d) (ld u d) = false) : up u d = 0 := if_neg (by simp [h])
theorem dn_no (u d : Int) (h : bd (lu u d) (ld u d) = false) : dn u d = 0 := if_neg (by simp [h])
theorem er_no (u d : Int) (h : bd (lu u d) (ld u d) = false) : er u d = 4 := if_neg (by simp [h])


/-- What Floor tells. -/
def fl (u d : Int) : Int := if ok u d = true then u / d else 0
def fe (u d : Int) : Int := if ok u d = true then 0 else 2
theorem fl_no (u d : Int) (h : ok u d = false) : fl u d = 0 := if_neg (by simp [h])
theorem fe_no (u d : Int) (h : ok u d = false) : fe u d = 2 := if_neg (by simp [h])
theorem fl_yes (u d : Int) (h : ok u d = true) : fl u d = u / d := if_pos h
theorem fe_yes (u d : Int) (h : ok u d = true) : fe u d = 0 := if_pos h

theorem neg_div (u d : Int) (hu : u < 0) (hd : 1 ≤ d) : (u.tmod d < 0 ∧ u.tdiv d - 1 = u / d) ∨ (u.tmod d = 0 ∧ u.tdiv d = u / d) := by
  have h1 := Int.mul_tdiv_add_tmod u d
  have h2 : u.tmod d ≤ 0 := by
    have := Int.tmod_nonneg d (a := -u) (by omega)
    rw [Int.neg_tmod] at this
    omega
  have h3 : -d < u.tmod d := by
    have := Int.tmod_lt_of_pos (-u) (b := d) (by omega)
    rw [Int.neg_tmod] at this
    omega
  have h4 := Int.mul_ediv_add_emod u d
  have h5 := Int.emod_nonneg u (b := d) (by omega)
  have h6 := Int.emod_lt_of_pos u (b := d) (by omega)
  generalize u.tdiv d = p at *
  generalize u.tmod d = q at *
  generalize u / d = r at *
  generalize u % d = s at *
  have e : d * (p - r) = s - q := by rw [Int.mul_sub]; omega
  rcases Int.lt_trichotomy (p - r) 1 with h | h | h
  · rcases Int.lt_trichotomy (p - r) 0 with k | k | k
    · exfalso
      have := Int.mul_nonneg (a := d) (b := -1 - (p - r)) (by omega) (by omega)
      rw [Int.mul_sub, e] at this
      omega
    · right; rw [k] at e; omega
    · omega
  · left; rw [h] at e; omega
  · exfalso
    have := Int.mul_nonneg (a := d) (b := (p - r) - 2) (by omega) (by omega)
    rw [Int.mul_sub, e] at this
    omega

theorem div_lo (u d : Int) (hd : 1 ≤ d) : u / d * d ≤ u ∧ u < (u / d + 1) * d := by
  have h4 := Int.mul_ediv_add_emod u d
  have h5 := Int.emod_nonneg u (b := d) (by omega)
  have h6 := Int.emod_lt_of_pos u (b := d) (by omega)
  rw [Int.add_mul, Int.mul_comm]
  omega

end Go.Proofs.Ytmccbokjigjpnae.F.M
