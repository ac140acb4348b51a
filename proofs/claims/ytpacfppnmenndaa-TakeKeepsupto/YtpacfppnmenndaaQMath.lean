/- Plain numbers: pitches and intervals as places on two lines (steps and half tones). -/
namespace Go.Proofs.Ytpacfppnmenndaa.M

def rt (l a o : Int) : Bool := decide (0 ≤ l ∧ l ≤ 6 ∧ -3 ≤ a ∧ a ≤ 3 ∧ -12 ≤ o ∧ o ≤ 12)
def ab (l : Int) : Int := if l = 0 then 0 else if l = 1 then 2 else if l = 2 then 4 else if l = 3 then 5 else if l = 4 then 7 else if l = 5 then 9 else 11
def st (l o : Int) : Int := 7 * o + l
def hv (l a o : Int) : Int := 12 * o + ab l + a
def wh (s : Int) : Int := 12 * (s / 7) + ab (s % 7)
def inb (s h : Int) : Bool := decide (-200 ≤ s ∧ s ≤ 200 ∧ -4096 ≤ h ∧ h ≤ 4096)

theorem rt_yes {l a o : Int} (h : rt l a o = true) : 0 ≤ l ∧ l ≤ 6 ∧ -3 ≤ a ∧ a ≤ 3 ∧ -12 ≤ o ∧ o ≤ 12 := of_decide_eq_true h
theorem rt_no {l a o : Int} (h : rt l a o = false) : ¬ (0 ≤ l ∧ l ≤ 6 ∧ -3 ≤ a ∧ a ≤ 3 ∧ -12 ≤ o ∧ o ≤ 12) := of_decide_eq_false h
theorem rt_mk {l a o : Int} (h : 0 ≤ l ∧ l ≤ 6 ∧ -3 ≤ a ∧ a ≤ 3 ∧ -12 ≤ o ∧ o ≤ 12) : rt l a o = true := decide_eq_true h
theorem rt_mkn {l a o : Int} (h : ¬ (0 ≤ l ∧ l ≤ 6 ∧ -3 ≤ a ∧ a ≤ 3 ∧ -12 ≤ o ∧ o ≤ 12)) : rt l a o = false := decide_eq_false h
theorem inb_yes {s h : Int} (e : inb s h = true) : -200 ≤ s ∧ s ≤ 200 ∧ -4096 ≤ h ∧ h ≤ 4096 := of_decide_eq_true e
theorem inb_no {s h : Int} (e : inb s h = false) : ¬ (-200 ≤ s ∧ s ≤ 200 ∧ -4096 ≤ h ∧ h ≤ 4096) := of_decide_eq_false e
theorem inb_mk {s h : Int} (e : -200 ≤ s ∧ s ≤ 200 ∧ -4096 ≤ h ∧ h ≤ 4096) : inb s h = true := decide_eq_true e
theorem inb_mkn {s h : Int} (e : ¬ (-200 ≤ s ∧ s ≤ 200 ∧ -4096 ≤ h ∧ h ≤ 4096)) : inb s h = false := decide_eq_false e

theorem ab_bd (l : Int) : 0 ≤ ab l ∧ ab l ≤ 11 := by unfold ab; repeat' split <;> try omega
theorem mod7 (s : Int) : s % 7 = 0 ∨ s % 7 = 1 ∨ s % 7 = 2 ∨ s % 7 = 3 ∨ s % 7 = 4 ∨ s % 7 = 5 ∨ s % 7 = 6 := by omega
theorem wh_bd (s : Int) : 12 * (s / 7) ≤ wh s ∧ wh s ≤ 12 * (s / 7) + 11 := by unfold wh; have := ab_bd (s % 7); omega
theorem wh_0 : wh 0 = 0 := rfl
/-- One step more. -/
theorem wh_up (s : Int) : wh (s + 1) = wh s + (if s % 7 = 2 ∨ s % 7 = 6 then 1 else 2) := by
  unfold wh
  rcases mod7 s with h | h | h | h | h | h | h
  all_goals
    have h2 : (s + 1) / 7 = (if s % 7 = 6 then s / 7 + 1 else s / 7) := by split <;> omega
    have h3 : (s + 1) % 7 = (if s % 7 = 6 then 0 else s % 7 + 1) := by split <;> omega
    rw [h2, h3, h]
    simp [ab]
    try omega

theorem st_letter (l o : Int) (h1 : 0 ≤ l) (h2 : l ≤ 6) : st l o % 7 = l := by unfold st; omega
theorem st_octave (l o : Int) (h1 : 0 ≤ l) (h2 : l ≤ 6) : st l o / 7 = o := by unfold st; omega
theorem wh_st (l o : Int) (h1 : 0 ≤ l) (h2 : l ≤ 6) : wh (st l o) = 12 * o + ab l := by unfold wh; rw [st_letter l o h1 h2, st_octave l o h1 h2]
theorem hv_wh (l a o : Int) (h1 : 0 ≤ l) (h2 : l ≤ 6) : hv l a o = wh (st l o) + a := by rw [wh_st l o h1 h2]; rfl
theorem st_at (s : Int) : st (s % 7) (s / 7) = s := by unfold st; omega
theorem hv_at (s a : Int) : hv (s % 7) a (s / 7) = wh s + a := rfl

/-- What the pitch at a place is right for. -/
def onB (s h : Int) : Bool := decide (-84 ≤ s ∧ s ≤ 90 ∧ -3 ≤ h - wh s ∧ h - wh s ≤ 3)
theorem on_yes {s h : Int} (e : onB s h = true) : -84 ≤ s ∧ s ≤ 90 ∧ -3 ≤ h - wh s ∧ h - wh s ≤ 3 := of_decide_eq_true e
theorem on_no {s h : Int} (e : onB s h = false) : ¬ (-84 ≤ s ∧ s ≤ 90 ∧ -3 ≤ h - wh s ∧ h - wh s ≤ 3) := of_decide_eq_false e
theorem on_mk {s h : Int} (e : -84 ≤ s ∧ s ≤ 90 ∧ -3 ≤ h - wh s ∧ h - wh s ≤ 3) : onB s h = true := decide_eq_true e
theorem rt_on (s h : Int) : rt (s % 7) (h - wh s) (s / 7) = onB s h := by
  unfold rt onB; rw [decide_eq_decide]; omega
theorem on_rt {l a o : Int} (e : rt l a o = true) : onB (st l o) (hv l a o) = true := by
  have h := rt_yes e
  rw [← rt_on, st_letter _ _ h.1 h.2.1, st_octave _ _ h.1 h.2.1, hv_wh _ _ _ h.1 h.2.1, show wh (st l o) + a - wh (st l o) = a by omega]; exact e
theorem on_bd {s h : Int} (e : onB s h = true) : -84 ≤ s ∧ s ≤ 90 ∧ -147 ≤ h ∧ h ≤ 158 := by
  have h1 := on_yes e; have := wh_bd s; omega
theorem hv_bd {l a o : Int} (e : rt l a o = true) : -84 ≤ st l o ∧ st l o ≤ 90 ∧ -147 ≤ hv l a o ∧ hv l a o ≤ 158 := on_bd (on_rt e)

/-- The three parts of the pitch at a place, or noughts. -/
def pl (s h : Int) : Int := if onB s h = true then s % 7 else 0
def pa (s h : Int) : Int := if onB s h = true then h - wh s else 0
def po (s h : Int) : Int := if onB s h = true then s / 7 else 0
theorem pl_yes {s h : Int} (e : onB s h = true) : pl s h = s % 7 := by unfold pl; rw [if_pos e]
theorem pa_yes {s h : Int} (e : onB s h = true) : pa s h = h - wh s := by unfold pa; rw [if_pos e]
theorem po_yes {s h : Int} (e : onB s h = true) : po s h = s / 7 := by unfold po; rw [if_pos e]
theorem rt_pl {s h : Int} (e : onB s h = true) : rt (pl s h) (pa s h) (po s h) = true := by rw [pl_yes e, pa_yes e, po_yes e, rt_on]; exact e
theorem st_pl {s h : Int} (e : onB s h = true) : st (pl s h) (po s h) = s := by rw [pl_yes e, po_yes e, st_at]
theorem hv_pl {s h : Int} (e : onB s h = true) : hv (pl s h) (pa s h) (po s h) = h := by rw [pl_yes e, pa_yes e, po_yes e, hv_at]; omega
theorem pl_st {l a o : Int} (e : rt l a o = true) : pl (st l o) (hv l a o) = l := by
  have h := rt_yes e; rw [pl_yes (on_rt e), st_letter _ _ h.1 h.2.1]
theorem po_st {l a o : Int} (e : rt l a o = true) : po (st l o) (hv l a o) = o := by
  have h := rt_yes e; rw [po_yes (on_rt e), st_octave _ _ h.1 h.2.1]
theorem pa_st {l a o : Int} (e : rt l a o = true) : pa (st l o) (hv l a o) = a := by
  have h := rt_yes e; rw [pa_yes (on_rt e), hv_wh _ _ _ h.1 h.2.1]; omega

def wi (n m : Int) : Bool := decide (-m ≤ n ∧ n ≤ m)
theorem rt_wi (l a o : Int) : rt l a o = (decide (0 ≤ l) && decide (l < 7) && wi a 3 && wi o 12) := by
  unfold rt wi; rw [Bool.eq_iff_iff]; simp; omega
theorem inb_wi (s h : Int) : inb s h = (wi s 200 && wi h 4096) := by
  unfold inb wi; rw [Bool.eq_iff_iff]; simp; omega
theorem tmod7_bd (s : Int) : -7 < s.tmod 7 ∧ s.tmod 7 < 7 := by
  have h1 := Int.lt_tmod_of_pos s (b := 7) (by omega)
  have h2 := Int.tmod_lt_of_pos s (b := 7) (by omega)
  omega
theorem letter7 (s : Int) : (s.tmod 7 + 7) % 7 = s % 7 := by
  have h := Int.tmod_add_mul_tdiv s 7
  omega
theorem octave7 (s : Int) : (s - s % 7).tdiv 7 = s / 7 := by
  have h : s - s % 7 = s / 7 * 7 := by omega
  rw [h, Int.mul_tdiv_cancel _ (by omega)]

/-- Key. -/
def kn (l a o : Int) : Int := if rt l a o = true then hv l a o + 12 else 0
def ke (l a o : Int) : Int := if rt l a o = true then 0 else 2
theorem kn_yes {l a o : Int} (e : rt l a o = true) : kn l a o = hv l a o + 12 := by unfold kn; rw [if_pos e]
theorem kn_no {l a o : Int} (e : rt l a o = false) : kn l a o = 0 := by unfold kn; rw [if_neg (by rw [e]; decide)]
theorem ke_yes {l a o : Int} (e : rt l a o = true) : ke l a o = 0 := by unfold ke; rw [if_pos e]
theorem ke_no {l a o : Int} (e : rt l a o = false) : ke l a o = 2 := by unfold ke; rw [if_neg (by rw [e]; decide)]

/-- Between: both are right. -/
def bk (l a o l' a' o' : Int) : Bool := rt l a o && rt l' a' o'
theorem bk_yes {l a o l' a' o' : Int} (e : bk l a o l' a' o' = true) : rt l a o = true ∧ rt l' a' o' = true := by unfold bk at e; simpa using e
def bs (l a o l' a' o' : Int) : Int := if bk l a o l' a' o' = true then st l' o' - st l o else 0
theorem bs_yes {l a o l' a' o' : Int} (e : bk l a o l' a' o' = true) : bs l a o l' a' o' = st l' o' - st l o := by unfold bs; rw [if_pos e]
theorem bs_no {l a o l' a' o' : Int} (e : bk l a o l' a' o' = false) : bs l a o l' a' o' = 0 := by unfold bs; rw [if_neg (by rw [e]; decide)]
def bh (l a o l' a' o' : Int) : Int := if bk l a o l' a' o' = true then hv l' a' o' - hv l a o else 0
theorem bh_yes {l a o l' a' o' : Int} (e : bk l a o l' a' o' = true) : bh l a o l' a' o' = hv l' a' o' - hv l a o := by unfold bh; rw [if_pos e]
theorem bh_no {l a o l' a' o' : Int} (e : bk l a o l' a' o' = false) : bh l a o l' a' o' = 0 := by unfold bh; rw [if_neg (by rw [e]; decide)]
def be (l a o l' a' o' : Int) : Int := if bk l a o l' a' o' = true then 0 else 2
theorem be_yes {l a o l' a' o' : Int} (e : bk l a o l' a' o' = true) : be l a o l' a' o' = 0 := by unfold be; rw [if_pos e]
theorem be_no {l a o l' a' o' : Int} (e : bk l a o l' a' o' = false) : be l a o l' a' o' = 2 := by unfold be; rw [if_neg (by rw [e]; decide)]

/-- Move: there is such a pitch. -/
def mk (l a o s h : Int) : Bool := rt l a o && (inb s h && onB (st l o + s) (hv l a o + h))
theorem mk_yes {l a o s h : Int} (e : mk l a o s h = true) : rt l a o = true ∧ inb s h = true ∧ onB (st l o + s) (hv l a o + h) = true := by unfold mk at e; simpa using e
def ml (l a o s h : Int) : Int := if mk l a o s h = true then pl (st l o + s) (hv l a o + h) else 0
theorem ml_yes {l a o s h : Int} (e : mk l a o s h = true) : ml l a o s h = pl (st l o + s) (hv l a o + h) := by unfold ml; rw [if_pos e]
theorem ml_no {l a o s h : Int} (e : mk l a o s h = false) : ml l a o s h = 0 := by unfold ml; rw [if_neg (by rw [e]; decide)]
def ma (l a o s h : Int) : Int := if mk l a o s h = true then pa (st l o + s) (hv l a o + h) else 0
theorem ma_yes {l a o s h : Int} (e : mk l a o s h = true) : ma l a o s h = pa (st l o + s) (hv l a o + h) := by unfold ma; rw [if_pos e]
theorem ma_no {l a o s h : Int} (e : mk l a o s h = false) : ma l a o s h = 0 := by unfold ma; rw [if_neg (by rw [e]; decide)]
def mo (l a o s h : Int) : Int := if mk l a o s h = true then po (st l o + s) (hv l a o + h) else 0
theorem mo_yes {l a o s h : Int} (e : mk l a o s h = true) : mo l a o s h = po (st l o + s) (hv l a o + h) := by unfold mo; rw [if_pos e]
theorem mo_no {l a o s h : Int} (e : mk l a o s h = false) : mo l a o s h = 0 := by unfold mo; rw [if_neg (by rw [e]; decide)]
def me (l a o s h : Int) : Int := if mk l a o s h = true then 0 else if rt l a o = true then 3 else 2
theorem me_yes {l a o s h : Int} (e : mk l a o s h = true) : me l a o s h = 0 := by unfold me; rw [if_pos e]
theorem me_no {l a o s h : Int} (e : mk l a o s h = false) (r : rt l a o = true) : me l a o s h = 3 := by unfold me; rw [if_neg (by rw [e]; decide), if_pos r]
theorem me_form {l a o s h : Int} (r : rt l a o = false) : me l a o s h = 2 := by unfold me mk; rw [r]; simp
theorem mk_form {l a o s h : Int} (r : rt l a o = false) : mk l a o s h = false := by unfold mk; rw [r]; simp
theorem mk_range {l a o s h : Int} (r : inb s h = false) : mk l a o s h = false := by unfold mk; rw [r]; simp
theorem mk_on {l a o s h : Int} (r : rt l a o = true) (i : inb s h = true) : mk l a o s h = onB (st l o + s) (hv l a o + h) := by unfold mk; rw [r, i]; simp
/-- Sum. -/
def sk (s h s' h' : Int) : Bool := (inb s h && inb s' h') && inb (s + s') (h + h')
def ss (s h s' h' : Int) : Int := if sk s h s' h' = true then s + s' else 0
theorem ss_yes {s h s' h' : Int} (e : sk s h s' h' = true) : ss s h s' h' = s + s' := by unfold ss; rw [if_pos e]
theorem ss_no {s h s' h' : Int} (e : sk s h s' h' = false) : ss s h s' h' = 0 := by unfold ss; rw [if_neg (by rw [e]; decide)]
def sh (s h s' h' : Int) : Int := if sk s h s' h' = true then h + h' else 0
theorem sh_yes {s h s' h' : Int} (e : sk s h s' h' = true) : sh s h s' h' = h + h' := by unfold sh; rw [if_pos e]
theorem sh_no {s h s' h' : Int} (e : sk s h s' h' = false) : sh s h s' h' = 0 := by unfold sh; rw [if_neg (by rw [e]; decide)]
def se (s h s' h' : Int) : Int := if sk s h s' h' = true then 0 else 3
theorem se_yes {s h s' h' : Int} (e : sk s h s' h' = true) : se s h s' h' = 0 := by unfold se; rw [if_pos e]
theorem se_no {s h s' h' : Int} (e : sk s h s' h' = false) : se s h s' h' = 3 := by unfold se; rw [if_neg (by rw [e]; decide)]

/-- Mirror. -/
def rl (l a o l' a' o' : Int) : Int := if bk l a o l' a' o' = true then ml l' a' o' (st l' o' - st l o) (hv l' a' o' - hv l a o) else 0
theorem rl_yes {l a o l' a' o' : Int} (e : bk l a o l' a' o' = true) : rl l a o l' a' o' = ml l' a' o' (st l' o' - st l o) (hv l' a' o' - hv l a o) := by unfold rl; rw [if_pos e]
theorem rl_no {l a o l' a' o' : Int} (e : bk l a o l' a' o' = false) : rl l a o l' a' o' = 0 := by unfold rl; rw [if_neg (by rw [e]; decide)]
def ra (l a o l' a' o' : Int) : Int := if bk l a o l' a' o' = true then ma l' a' o' (st l' o' - st l o) (hv l' a' o' - hv l a o) else 0
theorem ra_yes {l a o l' a' o' : Int} (e : bk l a o l' a' o' = true) : ra l a o l' a' o' = ma l' a' o' (st l' o' - st l o) (hv l' a' o' - hv l a o) := by unfold ra; rw [if_pos e]
theorem ra_no {l a o l' a' o' : Int} (e : bk l a o l' a' o' = false) : ra l a o l' a' o' = 0 := by unfold ra; rw [if_neg (by rw [e]; decide)]
def ro (l a o l' a' o' : Int) : Int := if bk l a o l' a' o' = true then mo l' a' o' (st l' o' - st l o) (hv l' a' o' - hv l a o) else 0
theorem ro_yes {l a o l' a' o' : Int} (e : bk l a o l' a' o' = true) : ro l a o l' a' o' = mo l' a' o' (st l' o' - st l o) (hv l' a' o' - hv l a o) := by unfold ro; rw [if_pos e]
theorem ro_no {l a o l' a' o' : Int} (e : bk l a o l' a' o' = false) : ro l a o l' a' o' = 0 := by unfold ro; rw [if_neg (by rw [e]; decide)]
def re (l a o l' a' o' : Int) : Int := if bk l a o l' a' o' = true then me l' a' o' (st l' o' - st l o) (hv l' a' o' - hv l a o) else 2
theorem re_yes {l a o l' a' o' : Int} (e : bk l a o l' a' o' = true) : re l a o l' a' o' = me l' a' o' (st l' o' - st l o) (hv l' a' o' - hv l a o) := by unfold re; rw [if_pos e]
theorem re_no {l a o l' a' o' : Int} (e : bk l a o l' a' o' = false) : re l a o l' a' o' = 2 := by unfold re; rw [if_neg (by rw [e]; decide)]

end Go.Proofs.Ytpacfppnmenndaa.M
