/- Plain numbers: pitches and intervals as places on two lines (steps and half tones). -/

namespace Go.Proofs.YtaohahahhjkcdaeGreatDoor.M

def rt (l a o : Int) : Bool := decide (0 ≤ l ∧ l ≤ 6 ∧ -3 ≤ a ∧ a ≤ 3 ∧ -12 ≤ o ∧ o ≤ 12)
def ab (l : Int) : Int := if l = 0 then 0 else if l = 1 then 2 else if l = 2 then 4 else if l = 3 then 5 else if l = 4 then 7 else if l = 5 then 9 else 11
def st (l o : Int) : Int := 7 * o + l
def hv (l a o : Int) : Int := 12 * o + ab l + a
def wh (s : Int) : Int := 12 * (s / 7) + ab (s % 7)
def inb (s h : Int) : Bool := decide (-200 ≤ s ∧ s ≤ 200 ∧ -4096 ≤ h ∧ h ≤ 4096)

theorem rt_yes {l a o : Int} (h : rt l a o = true) : 0 ≤ l ∧ l ≤ 6 ∧ -3 ≤ a ∧ a ≤ 3 ∧ -12 ≤ o ∧ o ≤ 12 := of_decide_eq_true h
theorem rt_no {l a o : Int} (h : rt l a o = false) : ¬ (0 ≤ l ∧ l ≤ 6 ∧ -3 ≤ a ∧ a ≤ 3 ∧ -12 ≤ o ∧ o ≤ 12) := of_decide_eq_false h
theorem rt_mk {l a o : Int} (h : 0 ≤ l ∧ l ≤ 6 ∧ -3 ≤ a ∧ a ≤ 3 ∧ -12 ≤ o ∧ o ≤ 12) : rt l a o = true := decide_eq_true h
theorem rt_mkn {l a o : Int} (h : ¬ (0 ≤ l ∧ l ≤ 6 ∧ -3 ≤ a ∧ a ≤ 3 ∧ -12 ≤ o ∧ o ≤ 12)) : rt l a o = false := decide_eq_false h
theorem inb_yes {s h : Int} (e : inb s h = true) : -200 ≤ s ∧ s ≤ 200 ∧ -4096 ≤ h ∧ h ≤ 4096 := of_decide_eq_true e
theorem inb_no {s h : Int} (e : inb s h = false) : ¬ (-200 ≤ s ∧ s ≤ 200 ∧ -4096 ≤ h ∧ h ≤ 4096) := of_decide_eq_false e
theorem inb_mk {s h : Int} (e : -200 ≤ s ∧ s ≤ 200 ∧ -4096 ≤ h ∧ h ≤ 4096) : inb s h = true := decide_eq_true e
theorem inb_mkn {s h : Int} (e : ¬ (-200 ≤ s ∧ s ≤ 200 ∧ -4096 ≤ h ∧ h ≤ 4096)) : inb s h = false := decide_eq_false e

theorem ab_bd (l : Int) : 0 ≤ ab l ∧ ab l ≤ 11 := by unfold ab; repeat' split <;> try omega
theorem mod7 (s : Int) : s % 7 = 0 ∨ s % 7 = 1 ∨ s % 7 = 2 ∨ s % 7 = 3 ∨ s % 7 = 4 ∨ s % 7 = 5 ∨ s % 7 = 6 := by omega
theorem wh_bd (s : Int) : 12 * (s / 7) ≤ wh s ∧ wh s ≤ 12 * (s / 7) + 11 := by unfold wh; have := ab_bd (s % 7); omega
theorem wh_0 : wh 0 = 0 := rfl
/-- One step more. -/
theorem wh_up (s : Int) : wh (s + 1) = wh s + (if s % 7 = 2 ∨ s % 7 = 6 then 1 else 2) := by
  unfold wh
  rcases mod7 s with h | h | h | h | h | h | h
  all_goals
    have h2 : (s + 1) / 7 = (if s % 7 = 6 then s / 7 + 1 else s / 7) := by split <;> omega
    have h3 : (s + 1) % 7 = (if s % 7 = 6 then 0 else s % 7 + 1) := by split <;> omega
    rw [h2, h3, h]
    simp [ab]
    try omega

theorem st_letter (l o : Int) (h1 : 0 ≤ l) (h2 : l ≤ 6) : st l o % 7 = l := by unfold st; omega
theorem st_octave (l o : Int) (h1 : 0 ≤ l) (h2 : l ≤ 6) : st l o / 7 = o := by unfold st; omega
theorem wh_st (l o : Int) (h1 : 0 ≤ l) (h2 : l ≤ 6) : wh (st l o) = 12 * o + ab l := by unfold wh; rw [st_letter l o h1 h2, st_octave l o h1 h2]
theorem hv_wh (l a o : Int) (h1 : 0 ≤ l) (h2 : l ≤ 6) : hv l a o = wh (st l o) + a := by rw [wh_st l o h1 h2]; rfl
theorem st_at (s : Int) : st (s % 7) (s / 7) = s := by unfold st; omega
theorem hv_at (s a : Int) : hv (s % 7) a (s / 7) = wh s + a := rfl

/-- What the pitch at a place is right for. -/
def onB (s h : Int) : Bool := decide (-84 ≤ s ∧ s ≤ 90 ∧ -3 ≤ h - wh s ∧ h - wh s ≤ 3)
theorem on_yes {s h : Int} (e : onB s h = true) : -84 ≤ s ∧ s ≤ 90 ∧ -3 ≤ h - wh s ∧ h - wh s ≤ 3 := of_decide_eq_true e
theorem on_no {s h : Int} (e : onB s h = false) : ¬ (-84 ≤ s ∧ s ≤ 90 ∧ -3 ≤ h - wh s ∧ h - wh s ≤ 3) := of_decide_eq_false e
theorem on_mk {s h : Int} (e : -84 ≤ s ∧ s ≤ 90 ∧ -3 ≤ h - wh s ∧ h - wh s ≤ 3) : onB s h = true := decide_eq_true e
theorem rt_on (s h : Int) : rt (s % 7) (h - wh s) (s / 7) = onB s h := by
  unfold rt onB; rw [decide_eq_decide]; omega
theorem on_rt {l a o : Int} (e : rt l a o = true) : onB (st l o) (hv l a o) = true := by
  have h := rt_yes e
  rw [← rt_on, st_letter _ _ h.1 h.2.1, st_octave _ _ h.1 h.2.1, hv_wh _ _ _ h.1 h.2.1, show wh (st l o) + a - wh (st l o) = a by omega]; exact e
theorem on_bd {s h : Int} (e : onB s h = true) : -84 ≤ s ∧ s ≤ 90 ∧ -147 ≤ h ∧ h ≤ 158 := by
  have h1 := on_yes e; have := wh_bd s; omega
theorem hv_bd {l a o : Int} (e : rt l a o = true) : -84 ≤ st l o ∧ st l o ≤ 90 ∧ -147 ≤ hv l a o ∧ hv l a o ≤ 158 := on_bd (on_rt e)

/-- The three parts of the pitch at a place, or noughts. -/
def pl (s h : Int) : Int := if onB s h = true then s % 7 else 0
def pa (s h : Int) : Int := if onB s h = true then h - wh s else 0
def po (s h : Int) : Int := if onB s h = true then s / 7 else 0
theorem pl_yes {s h : Int} (e : onB s h = true) : pl s h = s % 7 := by unfold pl; rw [if_pos e]
theorem pa_yes {s h : Int} (e : onB s h = true) : pa s h = h - wh s := by unfold pa; rw [if_pos e]
theorem po_yes {s h : Int} (e : onB s h = true) : po s h = s / 7 := by unfold po; rw [if_pos e]
theorem rt_pl {s h : Int} (e : onB s h = true) : rt (pl s h) (pa s h) (po s h) = true := by rw [pl_yes e, pa_yes e, po_yes e, rt_on]; exact e
theorem st_pl {s h : Int} (e : onB s h = true) : st (pl s h) (po s h) = s := by rw [pl_yes e, po_yes e, st_at]
theorem hv_pl {s h : Int} (e : onB s h = true) : hv (pl s h) (pa s h) (po s h) = h := by rw [pl_yes e, pa_yes e, po_yes e, hv_at]; omega
theorem pl_st {l a o : Int} (e : rt l a o = true) : pl (st l o) (hv l a o) = l := by
  have h := rt_yes e; rw [pl_yes (on_rt e), st_letter _ _ h.1 h.2.1]
theorem po_st {l a o : Int} (e : rt l a o = true) : po (st l o) (hv l a o) = o := by
  have h := rt_yes e; rw [po_yes (on_rt e), st_octave _ _ h.1 h.2.1]
theorem pa_st {l a o : Int} (e : rt l a o = true) : pa (st l o) (hv l a o) = a := by
  have h := rt_yes e; rw [pa_yes (on_rt e), hv_wh _ _ _ h.1 h.2.1]; omega

def wi (n m : Int) : Bool := decide (-m ≤ n ∧ n ≤ m)
theorem rt_wi (l a o : Int) : rt l a o = (decide (0 ≤ l) && decide (l < 7) && wi a 3 && wi o 12) := by
  unfold rt wi; rw [Bool.eq_iff_iff]; simp; omega
theorem inb_wi (s h : Int) : inb s h = (wi s 200 && wi h 4096) := by
  unfold inb wi; rw [Bool.eq_iff_iff]; simp; omega
theorem tmod7_bd (s : Int) : -7 < s.tmod 7 ∧ s.tmod 7 < 7 := by
  have h1 := Int.lt_tmod_of_pos s (b := 7) (by omega)
  have h2 := Int.tmod_lt_of_pos s (b := 7) (by omega)
  omega
theorem letter7 (s : Int) : (s.tmod 7 + 7) % 7 = s % 7 := by
  have h := Int.tmod_add_mul_tdiv s 7
  omega
theorem octave7 (s : Int) : (s - s % 7).tdiv 7 = s / 7 := by
  have h : s - s % 7 = s / 7 * 7 := by omega
  rw [h, Int.mul_tdiv_cancel _ (by omega)]

/-- Key. -/
def kn (l a o : Int) : Int := if rt l a o = true then hv l a o + 12 else 0
def ke (l a o : Int) : Int := if rt l a o = true then 0 else 2
theorem kn_yes {l a o : Int} (e : rt l a o = true) : kn l a o = hv l a o + 12 := by unfold kn; rw [if_pos e]
theorem kn_no {l a o : Int} (e : rt l a o = false) : kn l a o = 0 := by unfold kn; rw [if_neg (by rw [e]; decide)]
theorem ke_yes {l a o : Int} (e : rt l a o = true) : ke l a o = 0 := by unfold ke; rw [if_pos e]
theorem ke_no {l a o : Int} (e : rt l a o = false) : ke l a o = 2 := by unfold ke; rw [if_neg (by rw [e]; decide)]

/-- Between: both are right. -/
def bk (l a o l' a' o' : Int) : Bool := rt l a o && rt l' a' o'
theorem bk_yes {l a o l' a' o' : Int} (e : bk l a o l' a' o' = true) : rt l a o = true ∧ rt l' a' o' = true := by unfold bk at e; simpa using e
def bs (l a o l' a' o' : Int) : Int := if bk l a o l' a' o' = true then st l' o' - st l o else 0
theorem bs_yes {l a o l' a' o' : Int} (e : bk l a o l' a' o' = true) : bs l a o l' a' o' = st l' o' - st l o := by unfold bs; rw [if_pos e]
theorem bs_no {l a o l' a' o' : Int} (e : bk l a o l' a' o' = false) : bs l a o l' a' o' = 0 := by unfold bs; rw [if_neg (by rw [e]; decide)]
def bh (l a o l' a' o' : Int) : Int := if bk l a o l' a' o' = true then hv l' a' o' - hv l a o else 0
theorem bh_yes {l a o l' a' o' : Int} (e : bk l a o l' a' o' = true) : bh l a o l' a' o' = hv l' a' o' - hv l a o := by unfold bh; rw [if_pos e]
theorem bh_no {l a o l' a' o' : Int} (e : bk l a o l' a' o' = false) : bh l a o l' a' o' = 0 := by unfold bh; rw [if_neg (by rw [e]; decide)]
def be (l a o l' a' o' : Int) : Int := if bk l a o l' a' o' = true then 0 else 2
theorem be_yes {l a o l' a' o' : Int} (e : bk l a o l' a' o' = true) : be l a o l' a' o' = 0 := by unfold be; rw [if_pos e]
theorem be_no {l a o l' a' o' : Int} (e : bk l a o l' a' o' = false) : be l a o l' a' o' = 2 := by unfold be; rw [if_neg (by rw [e]; decide)]

/-- Move: there is such a pitch. -/
def mk (l a o s h : Int) : Bool := rt l a o && (inb s h && onB (st l o + s) (hv l a o + h))
theorem mk_yes {l a o s h : Int} (e : mk l a o s h = true) : rt l a o = true ∧ inb s h = true ∧ onB (st l o + s) (hv l a o + h) = true := by unfold mk at e; simpa using e
def ml (l a o s h : Int) : Int := if mk l a o s h = true then pl (st l o + s) (hv l a o + h) else 0
theorem ml_yes {l a o s h : Int} (e : mk l a o s h = true) : ml l a o s h = pl (st l o + s) (hv l a o + h) := by unfold ml; rw [if_pos e]
theorem ml_no {l a o s h : Int} (e : mk l a o s h = false) : ml l a o s h = 0 := by unfold ml; rw [if_neg (by rw [e]; decide)]
def ma (l a o s h : Int) : Int := if mk l a o s h = true then pa (st l o + s) (hv l a o + h) else 0
theorem ma_yes {l a o s h : Int} (e : mk l a o s h = true) : ma l a o s h = pa (st l o + s) (hv l a o + h) := by unfold ma; rw [if_pos e]
theorem ma_no {l a o s h : Int} (e : mk l a o s h = false) : ma l a o s h = 0 := by unfold ma; rw [if_neg (by rw [e]; decide)]
def mo (l a o s h : Int) : Int := if mk l a o s h = true then po (st l o + s) (hv l a o + h) else 0
theorem mo_yes {l a o s h : Int} (e : mk l a o s h = true) : mo l a o s h = po (st l o + s) (hv l a o + h) := by unfold mo; rw [if_pos e]
theorem mo_no {l a o s h : Int} (e : mk l a o s h = false) : mo l a o s h = 0 := by unfold mo; rw [if_neg (by rw [e]; decide)]
def me (l a o s h : Int) : Int := if mk l a o s h = true then 0 else if rt l a o = true then 3 else 2
theorem me_yes {l a o s h : Int} (e : mk l a o s h = true) : me l a o s h = 0 := by unfold me; rw [if_pos e]
theorem me_no {l a o s h : Int} (e : mk l a o s h = false) (r : rt l a o = true) : me l a o s h = 3 := by unfold me; rw [if_neg (by rw [e]; decide), if_pos r]
theorem me_form {l a o s h : Int} (r : rt l a o = false) : me l a o s h = 2 := by unfold me mk; rw [r]; simp
theorem mk_form {l a o s h : Int} (r : rt l a o = false) : mk l a o s h = false := by unfold mk; rw [r]; simp
theorem mk_range {l a o s h : Int} (r : inb s h = false) : mk l a o s h = false := by unfold mk; rw [r]; simp
theorem mk_on {l a o s h : Int} (r : rt l a o = true) (i : inb s h = true) : mk l a o s h = onB (st l o + s) (hv l a o + h) := by unfold mk; rw [r, i]; simp
/-- Sum. -/
def sk (s h s' h' : Int) : Bool := (inb s h && inb s' h') && inb (s + s') (h + h')
def ss (s h s' h' : Int) : Int := if sk s h s' h' = true then s + s' else 0
theorem ss_yes {s h s' h' : Int} (e : sk s h s' h' = true) : ss s h s' h' = s + s' := by unfold ss; rw [if_pos e]
theorem ss_no {s h s' h' : Int} (e : sk s h s' h' = false) : ss s h s' h' = 0 := by unfold ss; rw [if_neg (by rw [e]; decide)]
def sh (s h s' h' : Int) : Int := if sk s h s' h' = true then h + h' else 0
theorem sh_yes {s h s' h' : Int} (e : sk s h s' h' = true) : sh s h s' h' = h + h' := by unfold sh; rw [if_pos e]
theorem sh_no {s h s' h' : Int} (e : sk s h s' h' = false) : sh s h s' h' = 0 := by unfold sh; rw [if_neg (by rw [e]; decide)]
def se (s h s' h' : Int) : Int := if sk s h s' h' = true then 0 else 3
theorem se_yes {s h s' h' : Int} (e : sk s h s' h' = true) : se s h s' h' = 0 := by unfold se; rw [if_pos e]
theorem se_no {s h s' h' : Int} (e : sk s h s' h' = false) : se s h s' h' = 3 := by unfold se; rw [if_neg (by rw [e]; decide)]

/-- Mirror. -/
def rl (l a o l' a' o' : Int) : Int := if bk l a o l' a' o' = true then ml l' a' o' (st l' o' - st l o) (hv l' a' o' - hv l a o) else 0
theorem rl_yes {l a o l' a' o' : Int} (e : bk l a o l' a' o' = true) : rl l a o l' a' o' = ml l' a' o' (st l' o' - st l o) (hv l' a' o' - hv l a o) := by unfold rl; rw [if_pos e]
theorem rl_no {l a o l' a' o' : Int} (e : bk l a o l' a' o' = false) : rl l a o l' a' o' = 0 := by unfold rl; rw [if_neg (by rw [e]; decide)]
def ra (l a o l' a' o' : Int) : Int := if bk l a o l' a' o' = true then ma l' a' o' (st l' o' - st l o) (hv l' a' o' - hv l a o) else 0
theorem ra_yes {l a o l' a' o' : Int} (e : bk l a o l' a' o' = true) : ra l a o l' a' o' = ma l' a' o' (st l' o' - st l o) (hv l' a' o' - hv l a o) := by unfold ra; rw [if_pos e]
theorem ra_no {l a o l' a' o' : Int} (e : bk l a o l' a' o' = false) : ra l a o l' a' o' = 0 := by unfold ra; rw [if_neg (by rw [e]; decide)]
def ro (l a o l' a' o' : Int) : Int := if bk l a o l' a' o' = true then mo l' a' o' (st l' o' - st l o) (hv l' a' o' - hv l a o) else 0
theorem ro_yes {l a o l' a' o' : Int} (e : bk l a o l' a' o' = true) : ro l a o l' a' o' = mo l' a' o' (st l' o' - st l o) (hv l' a' o' - hv l a o) := by unfold ro; rw [if_pos e]
theorem ro_no {l a o l' a' o' : Int} (e : bk l a o l' a' o' = false) : ro l a o l' a' o' = 0 := by unfold ro; rw [if_neg (by rw [e]; decide)]
def re (l a o l' a' o' : Int) : Int := if bk l a o l' a' o' = true then me l' a' o' (st l' o' - st l o) (hv l' a' o' - hv l a o) else 2
theorem re_yes {l a o l' a' o' : Int} (e : bk l a o l' a' o' = true) : re l a o l' a' o' = me l' a' o' (st l' o' - st l o) (hv l' a' o' - hv l a o) := by unfold re; rw [if_pos e]
theorem re_no {l a o l' a' o' : Int} (e : bk l a o l' a' o' = false) : re l a o l' a' o' = 2 := by unfold re; rw [if_neg (by rw [e]; decide)]

end Go.Proofs.YtaohahahhjkcdaeGreatDoor.M

/- Plain facts on greatest divisors and on fractions in lowest terms, without any Go text. -/
namespace Go.Proofs.YtaohahahhjkcdaeGreatDoor.F.M

theorem gcd_tmod (a b : Int) : Int.gcd b (a.tmod b) = Int.gcd a b := by
  rw [Int.tmod_def, Int.gcd_sub_mul_left_right, Int.gcd_comm]

theorem gcd_sub_l (a b : Int) : Int.gcd (a - b) b = Int.gcd a b := by
  rw [Int.gcd_sub_self_left]

theorem gcd_sub_r (a b : Int) : Int.gcd a (b - a) = Int.gcd a b := by
  rw [Int.gcd_sub_self_right]

theorem gcd_two (a b : Int) : Int.gcd (2 * a) (2 * b) = 2 * Int.gcd a b := by
  rw [Int.gcd_mul_left]; rfl

theorem cop_two (b : Int) (h : b % 2 = 1) : Nat.Coprime b.natAbs 2 := by
  unfold Nat.Coprime
  have h1 : b.natAbs % 2 = 1 := by omega
  rw [Nat.gcd_comm, Nat.gcd_rec, h1]; rfl

theorem gcd_half_l (a b : Int) (h : b % 2 = 1) : Int.gcd (2 * a) b = Int.gcd a b := by
  have hc := cop_two b h
  rw [Int.gcd_eq_natAbs_gcd_natAbs, Int.gcd_eq_natAbs_gcd_natAbs, Int.natAbs_mul]
  exact Nat.Coprime.gcd_mul_left_cancel _ hc.symm

theorem gcd_half_r (a b : Int) (h : a % 2 = 1) : Int.gcd a (2 * b) = Int.gcd a b := by
  rw [Int.gcd_comm, gcd_half_l b a h, Int.gcd_comm]

theorem tmod_bd (x y : Int) (hy : y ≠ 0) : (x.tmod y).natAbs < y.natAbs := by
  rw [Int.natAbs_tmod]
  exact Nat.mod_lt _ (by omega)

/-- The greatest part. -/
def most : Int := 1073741824

/-- A fraction that is written as it must be. -/
def ok (u d : Int) : Bool := decide (-1073741824 ≤ u ∧ u ≤ 1073741824 ∧ 1 ≤ d ∧ d ≤ 1073741824 ∧ Int.gcd u d = 1)

/-- Within the bounds. -/
def bd (u d : Int) : Bool := decide (-1073741824 ≤ u ∧ u ≤ 1073741824 ∧ 1 ≤ d ∧ d ≤ 1073741824)

def gi (u d : Int) : Int := (Int.gcd u d : Nat)
def lu (u d : Int) : Int := u.tdiv (gi u d)
def ld (u d : Int) : Int := d / (gi u d)
/-- What lowest terms tell: the parts and what is wrong. -/
def up (u d : Int) : Int := if bd (lu u d) (ld u d) = true then lu u d else 0
def dn (u d : Int) : Int := if bd (lu u d) (ld u d) = true then ld u d else 0
def er (u d : Int) : Int := if bd (lu u d) (ld u d) = true then 0 else 4

theorem gi_pos (u d : Int) (h : 1 ≤ d) : 1 ≤ gi u d := by
  unfold gi
  have := Int.gcd_pos_of_ne_zero_right u (b := d) (by omega)
  omega

theorem gi_le (u d : Int) (h : 1 ≤ d) : gi u d ≤ d := by
  unfold gi
  exact Int.gcd_le_right u (by omega)

theorem gi_dvd_l (u d : Int) : gi u d ∣ u := Int.gcd_dvd_left u d
theorem gi_dvd_r (u d : Int) : gi u d ∣ d := Int.gcd_dvd_right u d

theorem lu_mul (u d : Int) : gi u d * lu u d = u := Int.mul_tdiv_cancel' (gi_dvd_l u d)
theorem ld_mul (u d : Int) : gi u d * ld u d = d := Int.mul_ediv_cancel' (gi_dvd_r u d)

theorem cop (u d : Int) (h : 1 ≤ d) : Int.gcd (lu u d) (ld u d) = 1 := by
  have h1 : Int.gcd (gi u d * lu u d) (gi u d * ld u d) = Int.gcd u d := by rw [lu_mul, ld_mul]
  rw [Int.gcd_mul_left] at h1
  have h2 := gi_pos u d h
  have h3 : (gi u d).natAbs = Int.gcd u d := by unfold gi; simp
  rw [h3] at h1
  have h4 : 0 < Int.gcd u d := by unfold gi at h2; omega
  exact Nat.eq_of_mul_eq_mul_left h4 (by omega)

theorem ld_pos (u d : Int) (h : 1 ≤ d) : 1 ≤ ld u d := by
  have h1 := ld_mul u d
  have h2 := gi_pos u d h
  rcases Int.lt_or_le 0 (ld u d) with h3 | h3
  · omega
  · exfalso
    have : gi u d * ld u d ≤ 0 := Int.mul_nonpos_of_nonneg_of_nonpos (by omega) h3
    omega

theorem ok_of (u d : Int) (h : 1 ≤ d) (hb : bd (lu u d) (ld u d) = true) : ok (lu u d) (ld u d) = true := by
  unfold ok; unfold bd at hb
  have := cop u d h
  simp at hb ⊢
  omega

theorem dvd_cop (b a d : Int) (h : Int.gcd a b = 1) (hd : b ∣ a * d) : b ∣ d := by
  rw [← Int.natAbs_dvd_natAbs] at hd ⊢
  rw [Int.natAbs_mul] at hd
  refine Nat.Coprime.dvd_of_dvd_mul_left ?_ hd
  rw [Int.gcd_comm] at h
  exact h

theorem ok_no (u d : Int) (h : bd u d = false) : ok u d = false := by
  unfold bd at h; unfold ok
  simp only [decide_eq_false_iff_not] at *
  omega
theorem bd_yes (u d : Int) (h : bd u d = true) : -1073741824 ≤ u ∧ u ≤ 1073741824 ∧ 1 ≤ d ∧ d ≤ 1073741824 := by
  unfold bd at h; exact of_decide_eq_true h
theorem bd_no (u d : Int) (h : bd u d = false) : ¬ (-1073741824 ≤ u ∧ u ≤ 1073741824 ∧ 1 ≤ d ∧ d ≤ 1073741824) := by
  unfold bd at h; exact of_decide_eq_false h
theorem ok_bd (u d : Int) (h : bd u d = true) : ok u d = (gi u d == 1) := by
  have hb := bd_yes u d h
  unfold ok gi
  by_cases c : Int.gcd u d = 1
  · rw [c]; simp; omega
  · have h2 : (((Int.gcd u d : Nat) : Int) == 1) = false := by simp; omega
    rw [h2]; simp; omega
theorem ok_yes (u d : Int) (h : ok u d = true) : -1073741824 ≤ u ∧ u ≤ 1073741824 ∧ 1 ≤ d ∧ d ≤ 1073741824 ∧ Int.gcd u d = 1 := by
  unfold ok at h; exact of_decide_eq_true h
theorem ok_gi (u d : Int) (h : ok u d = true) : gi u d = 1 := by
  have := ok_yes u d h
  unfold gi; omega

/-- 'g' is 'h', doubled t times. -/
def P2 (t : Nat) (g h : Int) : Prop := g = 2 ^ t * h
theorem p2_0 (g : Int) : P2 0 g g := by unfold P2; omega
theorem p2_eq (g h : Int) (p : P2 0 g h) : g = h := by unfold P2 at p; omega
theorem p2_step (t : Nat) (g h : Int) (p : P2 t g (2 * h)) : P2 (t + 1) g h := by
  unfold P2 at *; rw [p, Int.pow_succ, Int.mul_assoc]
theorem p2_up (t : Nat) (g h : Int) (p : P2 (t + 1) g h) : P2 t g (2 * h) := by
  unfold P2 at *; rw [p, Int.pow_succ, Int.mul_assoc]
theorem p2_le (t : Nat) (g h : Int) (p : P2 t g h) (h1 : 1 ≤ h) : h ≤ g := by
  unfold P2 at p
  have h2 : (1 : Int) ≤ 2 ^ t := by
    have : (0 : Int) < 2 ^ t := Int.pow_pos (by omega)
    omega
  have h3 : 0 ≤ (2 ^ t - 1) * h := Int.mul_nonneg (by omega) (by omega)
  rw [Int.sub_mul] at h3
  omega

theorem gi_both (x y : Int) (hx : x % 2 = 0) (hy : y % 2 = 0) : gi x y = 2 * gi (x / 2) (y / 2) := by
  have := gcd_two (x / 2) (y / 2)
  rw [show 2 * (x / 2) = x by omega, show 2 * (y / 2) = y by omega] at this
  unfold gi; rw [this]; omega
theorem gi_l (x y : Int) (hx : x % 2 = 0) (hy : y % 2 = 1) : gi x y = gi (x / 2) y := by
  have := gcd_half_l (x / 2) y hy
  rw [show 2 * (x / 2) = x by omega] at this
  unfold gi; rw [this]
theorem gi_r (x y : Int) (hx : x % 2 = 1) (hy : y % 2 = 0) : gi x y = gi x (y / 2) := by
  have := gcd_half_r x (y / 2) hx
  rw [show 2 * (y / 2) = y by omega] at this
  unfold gi; rw [this]
theorem gi_sl (x y : Int) : gi x y = gi (x - y) y := by unfold gi; rw [gcd_sub_l]
theorem gi_sr (x y : Int) : gi x y = gi x (y - x) := by unfold gi; rw [gcd_sub_r]
theorem gi_self (x : Int) (h : 1 ≤ x) : gi x x = x := by unfold gi; rw [Int.gcd_self]; omega
theorem gi_abs (x y : Int) : gi (x.natAbs : Nat) y = gi x y := by unfold gi; simp [Int.gcd_eq_natAbs_gcd_natAbs]

/-- Two fractions in lowest terms that are one number are one. -/
theorem lowest_one (a b c d : Int) (hb : 1 ≤ b) (hd : 1 ≤ d) (h1 : Int.gcd a b = 1) (h2 : Int.gcd c d = 1) (h : a * d = c * b) : a = c ∧ b = d := by
  have hbd : b ∣ d := by
    have : b ∣ a * d := ⟨c, by rw [h, Int.mul_comm]⟩
    exact dvd_cop b a d h1 this
  have hdb : d ∣ b := by
    have : d ∣ c * b := ⟨a, by rw [← h, Int.mul_comm]⟩
    exact dvd_cop d c b h2 this
  have e : b = d := Int.dvd_antisymm (by omega) (by omega) hbd hdb
  subst e
  exact ⟨Int.eq_of_mul_eq_mul_right (by omega) h, rfl⟩

/-- Lowest terms hang on the number alone. -/
theorem low_congr (a b c d : Int) (hb : 1 ≤ b) (hd : 1 ≤ d) (h : a * d = c * b) : lu a b = lu c d ∧ ld a b = ld c d := by
  apply lowest_one _ _ _ _ (ld_pos a b hb) (ld_pos c d hd) (cop a b hb) (cop c d hd)
  have h1 := lu_mul a b
  have h2 := ld_mul a b
  have h3 := lu_mul c d
  have h4 := ld_mul c d
  have p1 := gi_pos a b hb
  have p2 := gi_pos c d hd
  generalize lu a b = x at *
  generalize ld a b = y at *
  generalize lu c d = z at *
  generalize ld c d = t at *
  generalize gi a b = g at *
  generalize gi c d = k at *
  subst h1 h2 h3 h4
  have e : (g * k) * (x * t) = (g * k) * (z * y) := by
    have : g * x * (k * t) = g * k * (x * t) := by ac_rfl
    have : k * z * (g * y) = g * k * (z * y) := by ac_rfl
    omega
  have hgk : g * k ≠ 0 := Int.mul_ne_zero (by omega) (by omega)
  exact Int.eq_of_mul_eq_mul_left hgk e

theorem er_congr (a b c d : Int) (hb : 1 ≤ b) (hd : 1 ≤ d) (h : a * d = c * b) : up a b = up c d ∧ dn a b = dn c d ∧ er a b = er c d := by
  obtain ⟨h1, h2⟩ := low_congr a b c d hb hd h
  unfold up dn er
  rw [h1, h2]
  exact ⟨rfl, rfl, rfl⟩


theorem lu_one (x y : Int) (h : Int.gcd x y = 1) : lu x y = x := by unfold lu gi; rw [h]; simp
theorem ld_one (x y : Int) (h : Int.gcd x y = 1) : ld x y = y := by unfold ld gi; rw [h]; simp

theorem low_is (u d x y : Int) (hd : 1 ≤ d) (hy : 1 ≤ y) (hg : Int.gcd x y = 1) (h : u * y = x * d) : lu u d = x ∧ ld u d = y := by
  have := low_congr u d x y hd hy h
  rw [lu_one x y hg, ld_one x y hg] at this
  exact this

theorem gcd_pow (k : Nat) (y : Int) (h : y % 2 = 1) : Int.gcd (2 ^ k) y = 1 := by
  induction k with
  | zero => simp
  | succ n ih => rw [Int.pow_succ, Int.mul_comm, gcd_half_l _ _ h]; exact ih

/-- The least number that there is, and what it stands over, halved as often as both can be. -/
def MQ (d x y : Int) : Prop := ∃ t : Nat, t ≤ 62 ∧ x = -(2 ^ (63 - t)) ∧ d = y * 2 ^ t

theorem mq_start (d x : Int) (h : x = -9223372036854775808) : MQ d x d := ⟨0, by omega, by rw [h]; rfl, by simp⟩

theorem pow_le (k n : Nat) (h : k ≤ n) : (2 : Int) ^ k ≤ 2 ^ n := by
  obtain ⟨m, rfl⟩ : ∃ m, n = k + m := ⟨n - k, by omega⟩
  rw [Int.pow_add]
  have h1 : (0 : Int) < 2 ^ k := Int.pow_pos (by omega)
  have h2 : (0 : Int) < 2 ^ m := Int.pow_pos (by omega)
  have h3 : 0 ≤ 2 ^ k * ((2 : Int) ^ m - 1) := Int.mul_nonneg (by omega) (by omega)
  rw [Int.mul_sub] at h3
  omega

theorem mq_bd (d x y : Int) (h : MQ d x y) : -9223372036854775808 ≤ x ∧ x ≤ -2 := by
  obtain ⟨t, ht, hx, _⟩ := h
  have h1 := pow_le (63 - t) 63 (by omega)
  have h2 := pow_le 1 (63 - t) (by omega)
  have h3 : (2 : Int) ^ 63 = 9223372036854775808 := by decide
  have h4 : (2 : Int) ^ 1 = 2 := by decide
  omega

theorem mq_step (d x y : Int) (h : MQ d x y) (hd : d ≤ 9223372036854775807) (hy : 2 ≤ y) (he : y % 2 = 0) : MQ d (x.tdiv 2) (y / 2) := by
  obtain ⟨t, ht, hx, hdy⟩ := h
  have hlt : t + 1 ≤ 62 := by
    rcases Nat.lt_or_ge t 62 with h | h
    · omega
    · exfalso
      have e : t = 62 := by omega
      subst e
      have h3 : (2 : Int) ^ 62 = 4611686018427387904 := by decide
      rw [h3] at hdy
      omega
  refine ⟨t + 1, hlt, ?_, ?_⟩
  · rw [hx, Int.neg_tdiv]
    have : (2 : Int) ^ (63 - t) = 2 ^ (63 - (t + 1)) * 2 := by
      rw [← Int.pow_succ]
      congr 1
      omega
    rw [this, Int.mul_tdiv_cancel _ (by omega)]
  · rw [Int.pow_succ]
    have e : y = 2 * (y / 2) := by omega
    rw [hdy]
    generalize y / 2 = z at *
    subst e
    rw [Int.mul_comm (2 ^ t) 2, ← Int.mul_assoc, Int.mul_comm z 2]

theorem mq_end (d x y u : Int) (h : MQ d x y) (hu : u = -9223372036854775808) (hd : 1 ≤ d) (hy : 1 ≤ y) (ho : y % 2 = 1) : lu u d = x ∧ ld u d = y := by
  obtain ⟨t, ht, hx, hdy⟩ := h
  apply low_is u d x y hd hy
  · rw [hx, Int.neg_gcd]; exact gcd_pow _ _ ho
  · have h3 : (2 : Int) ^ 63 = 9223372036854775808 := by decide
    have h4 : (2 : Int) ^ 63 = 2 ^ (63 - t) * 2 ^ t := by rw [← Int.pow_add]; congr 1; omega
    rw [hu, hx, hdy, ← h3, h4]
    generalize (2 : Int) ^ (63 - t) = p
    generalize (2 : Int) ^ t = q
    rw [Int.neg_mul, Int.neg_mul]
    congr 1
    ac_rfl

/-- What Make tells. -/
def mu (u d : Int) : Int := if d < 1 then 0 else up u d
def md (u d : Int) : Int := if d < 1 then 0 else dn u d
def me (u d : Int) : Int := if d < 1 then 3 else er u d
theorem mu_no (u d : Int) (h : d < 1) : mu u d = 0 := if_pos h
theorem md_no (u d : Int) (h : d < 1) : md u d = 0 := if_pos h
theorem me_no (u d : Int) (h : d < 1) : me u d = 3 := if_pos h
theorem mu_yes (u d : Int) (h : 1 ≤ d) : mu u d = up u d := if_neg (by omega)
theorem md_yes (u d : Int) (h : 1 ≤ d) : md u d = dn u d := if_neg (by omega)
theorem me_yes (u d : Int) (h : 1 ≤ d) : me u d = er u d := if_neg (by omega)
theorem up_yes (u d : Int) (h : bd (lu u d) (ld u d) = true) : up u d = lu u d := if_pos h
theorem dn_yes (u d : Int) (h : bd (lu u d) (ld u d) = true) : dn u d = ld u d := if_pos h
theorem er_yes (u d : Int) (h : bd (lu u d) (ld u d) = true) : er u d = 0 := if_pos h
theorem up_no (u d : Int) (h : bd (lu u d) (ld u d) = false) : up u d = 0 := if_neg (by simp [h])
theorem dn_no (u d : Int) (h : bd (lu u d) (ld u d) = false) : dn u d = 0 := if_neg (by simp [h])
theorem er_no (u d : Int) (h : bd (lu u d) (ld u d) = false) : er u d = 4 := if_neg (by simp [h])


/-- What Floor tells. -/
def fl (u d : Int) : Int := if ok u d = true then u / d else 0
def fe (u d : Int) : Int := if ok u d = true then 0 else 2
theorem fl_no (u d : Int) (h : ok u d = false) : fl u d = 0 := if_neg (by simp [h])
theorem fe_no (u d : Int) (h : ok u d = false) : fe u d = 2 := if_neg (by simp [h])
theorem fl_yes (u d : Int) (h : ok u d = true) : fl u d = u / d := if_pos h
theorem fe_yes (u d : Int) (h : ok u d = true) : fe u d = 0 := if_pos h

theorem neg_div (u d : Int) (hu : u < 0) (hd : 1 ≤ d) : (u.tmod d < 0 ∧ u.tdiv d - 1 = u / d) ∨ (u.tmod d = 0 ∧ u.tdiv d = u / d) := by
  have h1 := Int.mul_tdiv_add_tmod u d
  have h2 : u.tmod d ≤ 0 := by
    have := Int.tmod_nonneg d (a := -u) (by omega)
    rw [Int.neg_tmod] at this
    omega
  have h3 : -d < u.tmod d := by
    have := Int.tmod_lt_of_pos (-u) (b := d) (by omega)
    rw [Int.neg_tmod] at this
    omega
  have h4 := Int.mul_ediv_add_emod u d
  have h5 := Int.emod_nonneg u (b := d) (by omega)
  have h6 := Int.emod_lt_of_pos u (b := d) (by omega)
  generalize u.tdiv d = p at *
  generalize u.tmod d = q at *
  generalize u / d = r at *
  generalize u % d = s at *
  have e : d * (p - r) = s - q := by rw [Int.mul_sub]; omega
  rcases Int.lt_trichotomy (p - r) 1 with h | h | h
  · rcases Int.lt_trichotomy (p - r) 0 with k | k | k
    · exfalso
      have := Int.mul_nonneg (a := d) (b := -1 - (p - r)) (by omega) (by omega)
      rw [Int.mul_sub, e] at this
      omega
    · right; rw [k] at e; omega
    · omega
  · left; rw [h] at e; omega
  · exfalso
    have := Int.mul_nonneg (a := d) (b := (p - r) - 2) (by omega) (by omega)
    rw [Int.mul_sub, e] at this
    omega

theorem div_lo (u d : Int) (hd : 1 ≤ d) : u / d * d ≤ u ∧ u < (u / d + 1) * d := by
  have h4 := Int.mul_ediv_add_emod u d
  have h5 := Int.emod_nonneg u (b := d) (by omega)
  have h6 := Int.emod_lt_of_pos u (b := d) (by omega)
  rw [Int.add_mul, Int.mul_comm]
  omega

end Go.Proofs.YtaohahahhjkcdaeGreatDoor.F.M

/- More plain facts on fractions: bounds of products and of the floor. -/
namespace Go.Proofs.YtaohahahhjkcdaeGreatDoor.F.M

theorem div_bd (u d : Int) (h1 : -1073741824 ≤ u) (h2 : u ≤ 1073741824) (h3 : 1 ≤ d) : -1073741824 ≤ u / d ∧ u / d ≤ 1073741824 := by
  constructor
  · rw [Int.le_ediv_iff_mul_le (by omega)]; omega
  · have : u / d < 1073741825 := by rw [Int.ediv_lt_iff_lt_mul (by omega)]; omega
    omega

theorem mul_bd (a b : Int) (h1 : -1073741824 ≤ a) (h2 : a ≤ 1073741824) (h3 : -1073741824 ≤ b) (h4 : b ≤ 1073741824) : -1152921504606846976 ≤ a * b ∧ a * b ≤ 1152921504606846976 := by
  have k1 : 0 ≤ (1073741824 - a) * (1073741824 + b) := Int.mul_nonneg (by omega) (by omega)
  have k2 : 0 ≤ (1073741824 + a) * (1073741824 - b) := Int.mul_nonneg (by omega) (by omega)
  have k3 : 0 ≤ (1073741824 - a) * (1073741824 - b) := Int.mul_nonneg (by omega) (by omega)
  have k4 : 0 ≤ (1073741824 + a) * (1073741824 + b) := Int.mul_nonneg (by omega) (by omega)
  simp only [Int.mul_add, Int.add_mul, Int.mul_sub, Int.sub_mul] at *
  omega

theorem mul_bd2 (a b : Int) (h1 : -2147483648 ≤ a) (h2 : a ≤ 2147483648) (h3 : -2147483648 ≤ b) (h4 : b ≤ 2147483648) : -4611686018427387904 ≤ a * b ∧ a * b ≤ 4611686018427387904 := by
  have k1 : 0 ≤ (2147483648 - a) * (2147483648 + b) := Int.mul_nonneg (by omega) (by omega)
  have k2 : 0 ≤ (2147483648 + a) * (2147483648 - b) := Int.mul_nonneg (by omega) (by omega)
  have k3 : 0 ≤ (2147483648 - a) * (2147483648 - b) := Int.mul_nonneg (by omega) (by omega)
  have k4 : 0 ≤ (2147483648 + a) * (2147483648 + b) := Int.mul_nonneg (by omega) (by omega)
  simp only [Int.mul_add, Int.add_mul, Int.mul_sub, Int.sub_mul] at *
  omega

theorem lu_abs (u d : Int) : (lu u d).natAbs ≤ u.natAbs := by
  unfold lu; rw [Int.natAbs_tdiv]; exact Nat.div_le_self _ _

theorem mul_pos' (a b : Int) (h1 : 1 ≤ a) (h2 : 1 ≤ b) : 1 ≤ a * b := by
  have := Int.mul_pos (a := a) (b := b) (by omega) (by omega)
  omega

/-- n is the floor, or one more: which of the two its product tells. -/
theorem fl_gt (u d n : Int) (hd : 1 ≤ d) (h : n = u / d + 1) : u < n * d := by
  rw [h]; exact (div_lo u d hd).2
theorem fl_le (u d n : Int) (hd : 1 ≤ d) (h : n = u / d) : n * d ≤ u := by
  rw [h]; exact (div_lo u d hd).1

theorem tdiv_is (u d : Int) (hd : 1 ≤ d) : u.tdiv d = u / d ∨ u.tdiv d = u / d + 1 := by
  by_cases hu : u < 0
  · rcases neg_div u d hu hd with ⟨_, h⟩ | ⟨_, h⟩ <;> omega
  · left; rw [Int.tdiv_eq_ediv_of_nonneg (by omega)]

end Go.Proofs.YtaohahahhjkcdaeGreatDoor.F.M

/- What the sums, products and orders of two fractions tell, as plain functions. -/
namespace Go.Proofs.YtaohahahhjkcdaeGreatDoor.F.M

/-- Which of two numbers is the greater. -/
def sg (x y : Int) : Int := if x < y then -1 else if y < x then 1 else 0
theorem sg_lt (x y : Int) (h : x < y) : sg x y = -1 := if_pos h
theorem sg_gt (x y : Int) (h : y < x) : sg x y = 1 := by unfold sg; rw [if_neg (by omega), if_pos h]
theorem sg_eq (x y : Int) (h : x = y) : sg x y = 0 := by unfold sg; rw [if_neg (by omega), if_neg (by omega)]

/-- What is told of U over V, if k: else that something is not written as it must be. -/
def rU (k : Bool) (u v : Int) : Int := if k = true then mu u v else 0
def rD (k : Bool) (u v : Int) : Int := if k = true then md u v else 0
def rE (k : Bool) (u v : Int) : Int := if k = true then me u v else 2
def oI (k : Bool) (x y : Int) : Int := if k = true then sg x y else 0
def oE (k : Bool) : Int := if k = true then 0 else 2

/-- The two parts of a quotient, the sign above. -/
def qU (a d c : Int) : Int := if c < 0 then -(a * d) else a * d
def qD (b c : Int) : Int := if c < 0 then -(b * c) else b * c

end Go.Proofs.YtaohahahhjkcdaeGreatDoor.F.M

/- Plain facts on written values: what is greatest, what is left, what they are together. -/
namespace Go.Proofs.YtaohahahhjkcdaeGreatDoor.F.M

/-- The dots behind a part: p the next half, l what is left, n how many may come yet: how many come, and what is left. -/
def inD : Nat → Nat → Nat → Nat
  | 0, _, _ => 0
  | n + 1, p, l => if 0 < l ∧ p ≤ l then inD n (p / 2) (l - p) + 1 else 0
def inL : Nat → Nat → Nat → Nat
  | 0, _, l => l
  | n + 1, p, l => if 0 < l ∧ p ≤ l then inL n (p / 2) (l - p) else l

/-- Where the first half is that is not longer, from h on (n: so many may be looked at). -/
def hvF : Nat → Nat → Nat → Nat
  | 0, h, _ => h
  | n + 1, h, l => if l < 2 ^ (10 - h) then hvF n (h + 1) l else h
def hv (l : Nat) : Nat := hvF 10 1 l
def dt (l : Nat) : Nat := inD 3 (2 ^ (10 - hv l) / 2) (l - 2 ^ (10 - hv l))
def rs (l : Nat) : Nat := inL 3 (2 ^ (10 - hv l) / 2) (l - 2 ^ (10 - hv l))
/-- How many parts of 1/1024 a value has. -/
def nv (h d : Nat) : Nat := 2 ^ (10 - h) * (2 ^ (d + 1) - 1) / 2 ^ d
/-- The values of what is less than a whole note. -/
def tlF : Nat → Nat → List (Nat × Nat)
  | 0, _ => []
  | n + 1, l => if l = 0 then [] else (hv l, dt l) :: tlF n (rs l)
def tl (l : Nat) : List (Nat × Nat) := tlF 10 l

def sumN : List (Nat × Nat) → Nat
  | [] => 0
  | x :: r => nv x.1 x.2 + sumN r
/-- Each not longer than the one ahead, and each a value whose parts are whole. -/
def fall : Nat → List (Nat × Nat) → Bool
  | _, [] => true
  | m, x :: r => decide (x.1 ≤ 10 ∧ x.2 ≤ 3 ∧ x.1 + x.2 ≤ 10 ∧ nv x.1 x.2 ≤ m) && fall (nv x.1 x.2) r

def allBelow (P : Nat → Bool) : Nat → Bool
  | 0 => true
  | n + 1 => P n && allBelow P n
theorem of_allBelow (P : Nat → Bool) (n : Nat) (h : allBelow P n = true) (k : Nat) (hk : k < n) : P k = true := by
  induction n with
  | zero => omega
  | succ n ih =>
    simp [allBelow] at h
    by_cases e : k = n
    · rw [e]; exact h.1
    · exact ih h.2 (by omega)

theorem tl_all : allBelow (fun l => decide (sumN (tl l) = l) && fall 1023 (tl l) && (decide (l = 0) || decide (1 ≤ hv l ∧ hv l ≤ 10 ∧ 2 ^ (10 - hv l) ≤ l ∧ l < 2 ^ (11 - hv l) ∧ rs l < 2 ^ (10 - hv l) ∧ tl l = (hv l, dt l) :: tl (rs l) ∧ dt l ≤ 3 ∧ (tl l).length ≤ 5))) 1024 = true := by decide +kernel

theorem tl_sum (l : Nat) (h : l < 1024) : sumN (tl l) = l := by
  have := of_allBelow _ _ tl_all l h
  simp only [Bool.and_eq_true, decide_eq_true_eq] at this
  exact this.1.1
theorem tl_fall (l : Nat) (h : l < 1024) : fall 1023 (tl l) = true := by
  have := of_allBelow _ _ tl_all l h
  simp only [Bool.and_eq_true, decide_eq_true_eq] at this
  exact this.1.2
theorem tl_step (l : Nat) (h : l < 1024) (h0 : 0 < l) : 1 ≤ hv l ∧ hv l ≤ 10 ∧ 2 ^ (10 - hv l) ≤ l ∧ l < 2 ^ (11 - hv l) ∧ rs l < 2 ^ (10 - hv l) ∧ tl l = (hv l, dt l) :: tl (rs l) ∧ dt l ≤ 3 ∧ (tl l).length ≤ 5 := by
  have := of_allBelow _ _ tl_all l h
  simp only [Bool.and_eq_true, Bool.or_eq_true, decide_eq_true_eq] at this
  rcases this.2 with e | e
  · omega
  · exact e
theorem tl_zero : tl 0 = [] := by decide
/-- The first half that is not longer is where the halves are, if they lie between. -/
theorem hv_is (l h : Nat) (hl : l < 1024) (h1 : 1 ≤ h) (h10 : h ≤ 10) (ha : 2 ^ (10 - h) ≤ l) (hb : l < 2 ^ (11 - h)) : hv l = h := by
  obtain ⟨a1, a2, a3, a4, _⟩ := tl_step l hl (by have : 0 < 2 ^ (10 - h) := Nat.pow_pos (by omega); omega)
  have p1 : ¬ hv l < h := by
    intro c
    have : 2 ^ (11 - h) ≤ 2 ^ (10 - hv l) := Nat.pow_le_pow_right (by omega) (by omega)
    omega
  have p2 : ¬ h < hv l := by
    intro c
    have : 2 ^ (11 - hv l) ≤ 2 ^ (10 - h) := Nat.pow_le_pow_right (by omega) (by omega)
    omega
  omega
end Go.Proofs.YtaohahahhjkcdaeGreatDoor.F.M

/- Plain facts on rows of written values: what they are together, that none is shorter than the one behind it. -/
namespace Go.Proofs.YtaohahahhjkcdaeGreatDoor.F.M

/-- The value at a place: q whole notes, then those of r. -/
def eV (q r k : Nat) : Nat × Nat := if k < q then (0, 0) else ((tl r)[k - q]?).getD (0, 0)
def eN (q r : Nat) : Nat := q + (tl r).length
def pS (q r : Nat) : Nat → Nat
  | 0 => 0
  | i + 1 => pS q r i + nv (eV q r i).1 (eV q r i).2
def mv (q r i : Nat) : Nat := if i = 0 then 2048 else nv (eV q r (i - 1)).1 (eV q r (i - 1)).2

theorem eV_whole (q r k : Nat) (h : k < q) : eV q r k = (0, 0) := if_pos h
theorem eV_tail (q r j : Nat) (x : Nat × Nat) (h : (tl r)[j]? = some x) : eV q r (q + j) = x := by
  unfold eV; rw [if_neg (by omega), show q + j - q = j by omega, h]; rfl

theorem drop_head (r l j : Nat) (hl : l < 1024) (h0 : 0 < l) (h : (tl r).drop j = tl l) : (tl r)[j]? = some (hv l, dt l) ∧ (tl r).drop (j + 1) = tl (rs l) := by
  obtain ⟨_, _, _, _, _, e, _⟩ := tl_step l hl h0
  rw [e] at h
  constructor
  · rw [← List.head?_drop, h]; rfl
  · rw [← List.drop_drop, h]; rfl
theorem drop_end (r j : Nat) (h : (tl r).drop j = tl 0) (hj : j ≤ (tl r).length) : j = (tl r).length := by
  rw [tl_zero] at h
  have := List.drop_eq_nil_iff.1 h
  omega
theorem drop_some (r l j : Nat) (hl : l < 1024) (h0 : 0 < l) (h : (tl r).drop j = tl l) : j < (tl r).length := by
  have := (drop_head r l j hl h0 h).1
  exact (List.getElem?_eq_some_iff.1 this).1

theorem sumN_append (a b : List (Nat × Nat)) : sumN (a ++ b) = sumN a + sumN b := by
  induction a with
  | nil => simp [sumN]
  | cons x a ih => simp [sumN, ih]; omega
theorem pS_whole (q r i : Nat) (h : i ≤ q) : pS q r i = i * 1024 := by
  induction i with
  | zero => rfl
  | succ i ih => rw [pS, ih (by omega), eV_whole q r i (by omega)]; show _ + nv 0 0 = _; have : nv 0 0 = 1024 := by decide
                 omega
theorem pS_tail (q r j : Nat) (h : j ≤ (tl r).length) : pS q r (q + j) = q * 1024 + sumN ((tl r).take j) := by
  induction j with
  | zero => simp [pS_whole q r q (Nat.le_refl _), sumN]
  | succ j ih =>
    rw [show q + (j + 1) = (q + j) + 1 by omega, pS, ih (by omega)]
    have hg : (tl r)[j]? = some (tl r)[j] := List.getElem?_eq_getElem (by omega)
    rw [eV_tail q r j _ hg, List.take_add_one, hg, sumN_append]
    simp [sumN]; omega
theorem pS_all (q r : Nat) (hr : r < 1024) : pS q r (eN q r) = q * 1024 + r := by
  unfold eN
  rw [pS_tail q r _ (Nat.le_refl _), List.take_length, tl_sum r hr]
theorem pS_mono (q r i j : Nat) (h : i ≤ j) : pS q r i ≤ pS q r j := by
  induction j with
  | zero => have : i = 0 := by omega
            subst this; omega
  | succ j ih =>
    by_cases e : i = j + 1
    · subst e; omega
    · have := ih (by omega); rw [pS]; omega

theorem fall_at (m : Nat) (l : List (Nat × Nat)) (h : fall m l = true) (j : Nat) (x : Nat × Nat) (hx : l[j]? = some x) :
    x.1 ≤ 10 ∧ x.2 ≤ 3 ∧ x.1 + x.2 ≤ 10 ∧ nv x.1 x.2 ≤ m ∧ ∀ y, 0 < j → l[j - 1]? = some y → nv x.1 x.2 ≤ nv y.1 y.2 := by
  induction l generalizing m j with
  | nil => simp at hx
  | cons z l ih =>
    simp only [fall, Bool.and_eq_true, decide_eq_true_eq] at h
    obtain ⟨⟨h1, h2, h3, h4⟩, h5⟩ := h
    cases j with
    | zero => simp at hx; subst hx; exact ⟨h1, h2, h3, h4, fun y h => by omega⟩
    | succ j =>
      simp at hx
      obtain ⟨g1, g2, g3, g4, g5⟩ := ih _ h5 j hx
      refine ⟨g1, g2, g3, by omega, fun y _ hy => ?_⟩
      simp at hy
      by_cases e : j = 0
      · subst e; simp at hy; subst hy; exact g4
      · exact g5 y (by omega) (by rw [show j = j - 1 + 1 by omega] at hy; simpa using hy)

theorem eV_ok (q r i : Nat) (hr : r < 1024) (h : i < eN q r) : (eV q r i).1 ≤ 10 ∧ (eV q r i).2 ≤ 3 ∧ (eV q r i).1 + (eV q r i).2 ≤ 10 ∧ nv (eV q r i).1 (eV q r i).2 ≤ mv q r i := by
  have n0 : nv 0 0 = 1024 := by decide
  by_cases hq : i < q
  · rw [eV_whole q r i hq]
    refine ⟨by omega, by omega, by omega, ?_⟩
    unfold mv
    split
    · show nv 0 0 ≤ _; omega
    · rw [eV_whole q r (i - 1) (by omega)]; exact Nat.le_refl _
  · obtain ⟨j, rfl⟩ : ∃ j, i = q + j := ⟨i - q, by omega⟩
    have hj : j < (tl r).length := by unfold eN at h; omega
    have hg : (tl r)[j]? = some (tl r)[j] := List.getElem?_eq_getElem hj
    obtain ⟨g1, g2, g3, g4, g5⟩ := fall_at _ _ (tl_fall r hr) j _ hg
    rw [eV_tail q r j _ hg]
    refine ⟨g1, g2, g3, ?_⟩
    unfold mv
    split
    · omega
    · by_cases e : j = 0
      · subst e
        rw [show q + 0 - 1 = q - 1 by omega, eV_whole q r (q - 1) (by omega)]
        show _ ≤ nv 0 0; omega
      · have hg' : (tl r)[j - 1]? = some (tl r)[j - 1] := List.getElem?_eq_getElem (by omega)
        rw [show q + j - 1 = q + (j - 1) by omega, eV_tail q r (j - 1) _ hg']
        exact g5 _ (by omega) hg'

/-- What a value's length is, in lowest terms. -/
def LU (d : Nat) : Int := 2 ^ (d + 1) - 1
def LD (h d : Nat) : Int := 2 ^ (h + d)
def allHD (P : Nat → Nat → Bool) : Bool := allBelow (fun h => allBelow (fun d => P h d) 4) 11
theorem of_allHD (P : Nat → Nat → Bool) (hp : allHD P = true) (h d : Nat) (hh : h ≤ 10) (hd : d ≤ 3) : P h d = true :=
  of_allBelow _ _ (of_allBelow _ _ hp h (by omega)) d (by omega)
theorem L_all : allHD (fun h d => ok (LU d) (LD h d) && decide (1 ≤ LU d) && decide (LU d ≤ 15) && decide (1 ≤ LD h d) && decide (LD h d ≤ 8192) && (decide (10 < h + d) || decide (LU d * 1024 = (nv h d : Nat) * LD h d ∧ 1 ≤ nv h d ∧ nv h d ≤ 2048))) = true := by decide +kernel
theorem L_ok (h d : Nat) (hh : h ≤ 10) (hd : d ≤ 3) : ok (LU d) (LD h d) = true ∧ 1 ≤ LU d ∧ LU d ≤ 15 ∧ 1 ≤ LD h d ∧ LD h d ≤ 8192 := by
  have := of_allHD _ L_all h d hh hd
  simp only [Bool.and_eq_true, decide_eq_true_eq] at this
  exact ⟨this.1.1.1.1.1, this.1.1.1.1.2, this.1.1.1.2, this.1.1.2, this.1.2⟩
theorem L_nv (h d : Nat) (hh : h ≤ 10) (hd : d ≤ 3) (hs : h + d ≤ 10) : LU d * 1024 = (nv h d : Nat) * LD h d ∧ 1 ≤ nv h d ∧ nv h d ≤ 2048 := by
  have := of_allHD _ L_all h d hh hd
  simp only [Bool.and_eq_true, Bool.or_eq_true, decide_eq_true_eq] at this
  rcases this.2 with e | e
  · omega
  · exact e
theorem L_make (h d : Nat) (hh : h ≤ 10) (hd : d ≤ 3) : mu (LU d) (LD h d) = LU d ∧ md (LU d) (LD h d) = LD h d ∧ me (LU d) (LD h d) = 0 := by
  obtain ⟨k, a, b, c, e⟩ := L_ok h d hh hd
  obtain ⟨_, _, _, _, g⟩ := ok_yes _ _ k
  have hb : bd (lu (LU d) (LD h d)) (ld (LU d) (LD h d)) = true := by
    rw [lu_one _ _ g, ld_one _ _ g]; unfold bd; simp; omega
  rw [mu_yes _ _ c, md_yes _ _ c, me_yes _ _ c, up_yes _ _ hb, dn_yes _ _ hb, er_yes _ _ hb, lu_one _ _ g, ld_one _ _ g]
  exact ⟨rfl, rfl, rfl⟩

/-- What so many parts of 1/1024 are, in lowest terms. -/
theorem parts_bd (S : Nat) (h : S ≤ 67108864) : bd (lu S 1024) (ld S 1024) = true ∧ ok (lu S 1024) (ld S 1024) = true ∧ lu S 1024 * 1024 = S * ld S 1024 ∧ 1 ≤ ld S 1024 ∧ ld S 1024 ≤ 1024 ∧ 0 ≤ lu S 1024 ∧ lu S 1024 ≤ 67108864 := by
  have e1 := lu_mul (S : Int) 1024
  have e2 := ld_mul (S : Int) 1024
  have p := gi_pos (S : Int) 1024 (by omega)
  have pl := ld_pos (S : Int) 1024 (by omega)
  have a1 := lu_abs (S : Int) 1024
  generalize gi (S : Int) 1024 = g at *
  have l0 : 0 ≤ lu (S : Int) 1024 := by
    unfold lu; exact Int.tdiv_nonneg (by omega) (by unfold gi; omega)
  have hd : ld (S : Int) 1024 ≤ 1024 := by
    have : 1 * ld (S : Int) 1024 ≤ g * ld (S : Int) 1024 := Int.mul_le_mul_of_nonneg_right p (by omega)
    omega
  have hu : lu (S : Int) 1024 ≤ 67108864 := by omega
  have hb : bd (lu (S : Int) 1024) (ld (S : Int) 1024) = true := by unfold bd; simp; omega
  have hx : lu (S : Int) 1024 * 1024 = S * ld (S : Int) 1024 := by
    calc lu (S : Int) 1024 * 1024 = lu (S : Int) 1024 * (g * ld (S : Int) 1024) := by rw [e2]
      _ = (g * lu (S : Int) 1024) * ld (S : Int) 1024 := by rw [← Int.mul_assoc, Int.mul_comm _ g]
      _ = S * ld (S : Int) 1024 := by rw [e1]
  exact ⟨hb, ok_of _ _ (by omega) hb, hx, pl, hd, l0, hu⟩

/-- Two lengths are together the length of their parts together. -/
theorem plus_parts (S n : Nat) (a b c d : Int) (hb : 1 ≤ b) (hd : 1 ≤ d) (h1 : a * 1024 = S * b) (h2 : c * 1024 = n * d) (h : S + n ≤ 67108864) :
    up (a * d + c * b) (b * d) = lu (S + n : Nat) 1024 ∧ dn (a * d + c * b) (b * d) = ld (S + n : Nat) 1024 ∧ er (a * d + c * b) (b * d) = 0 := by
  have hbd := (parts_bd (S + n) h).1
  have hp : 1 ≤ b * d := mul_pos' b d hb hd
  have e : (a * d + c * b) * 1024 = ((S + n : Nat) : Int) * (b * d) := by
    have e1 : a * d * 1024 = S * (b * d) := by
      rw [Int.mul_right_comm, h1, Int.mul_assoc]
    have e2 : c * b * 1024 = n * (b * d) := by
      rw [Int.mul_right_comm, h2, Int.mul_assoc, Int.mul_comm d b]
    rw [Int.add_mul, e1, e2, ← Int.add_mul]; congr 1
  obtain ⟨x1, x2, x3⟩ := er_congr (a * d + c * b) (b * d) ((S + n : Nat) : Int) 1024 hp (by omega) e
  rw [x1, x2, x3, up_yes _ _ hbd, dn_yes _ _ hbd, er_yes _ _ hbd]
  exact ⟨rfl, rfl, rfl⟩
theorem sign_parts (n m : Nat) (a b c d : Int) (hb : 1 ≤ b) (hd : 1 ≤ d) (h1 : a * 1024 = n * b) (h2 : c * 1024 = m * d) (h : n ≤ m) : sg (a * d) (c * b) ≤ 0 := by
  have e : a * d ≤ c * b := by
    have e1 : a * d * 1024 = n * (b * d) := by rw [Int.mul_right_comm, h1, Int.mul_assoc]
    have e2 : c * b * 1024 = m * (b * d) := by rw [Int.mul_right_comm, h2, Int.mul_assoc, Int.mul_comm d b]
    have : (n : Int) * (b * d) ≤ m * (b * d) := Int.mul_le_mul_of_nonneg_right (by omega) (by have := mul_pos' b d hb hd; omega)
    omega
  unfold sg
  split
  · omega
  · rw [if_neg (by omega)]; omega
theorem parts_back (u d : Int) (T : Nat) (hk : ok u d = true) (h : (T : Int) * d = u * 1024) : lu T 1024 = u ∧ ld T 1024 = d := by
  obtain ⟨_, _, h1, _, g⟩ := ok_yes _ _ hk
  exact low_is (T : Int) 1024 u d (by omega) h1 g h
end Go.Proofs.YtaohahahhjkcdaeGreatDoor.F.M

/- Plain numbers: the document's steps from letter to letter. -/
namespace Go.Proofs.YtaohahahhjkcdaeGreatDoor.M

def up1 (l : Int) : Int := if l = 2 ∨ l = 6 then 1 else 2
theorem up1_bd (l : Int) : 1 ≤ up1 l ∧ up1 l ≤ 2 := by unfold up1; split <;> omega
theorem wh_next (k : Int) : wh (k + 1) = wh k + up1 (k % 7) := wh_up k
theorem wh_last (k : Int) : wh (k - 1) = wh k - up1 ((k - 1) % 7) := by have := wh_next (k - 1); rw [show k - 1 + 1 = k by omega] at this; omega
theorem wh_range (s : Int) (h1 : -2000 ≤ s) (h2 : s ≤ 2000) : -4000 ≤ wh s ∧ wh s ≤ 4000 := by have := wh_bd s; omega
theorem at_letter (s x y : Int) (e : 7 * y + x = s) (h1 : 0 ≤ x) (h2 : x ≤ 6) : x = s % 7 ∧ y = s / 7 := by omega
end Go.Proofs.YtaohahahhjkcdaeGreatDoor.M
