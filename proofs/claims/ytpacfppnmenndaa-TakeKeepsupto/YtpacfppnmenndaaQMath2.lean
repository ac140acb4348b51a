/- Plain numbers: what Move, Mirror and Between answer, by places. -/
import Derived.Test.YtpacfppnmenndaaQMath
namespace Go.Proofs.Ytpacfppnmenndaa.M

/-- Two right pitches at one place are one. -/
theorem rt_one {l a o l' a' o' : Int} (h : rt l a o = true) (h' : rt l' a' o' = true) (e1 : st l o = st l' o') (e2 : hv l a o = hv l' a' o') : l = l' ∧ a = a' ∧ o = o' := by
  have a1 := pl_st h; have a2 := pa_st h; have a3 := po_st h
  have b1 := pl_st h'; have b2 := pa_st h'; have b3 := po_st h'
  rw [e1, e2] at a1 a2 a3
  exact ⟨a1.symm.trans b1, a2.symm.trans b2, a3.symm.trans b3⟩
theorem inb_two {l a o l' a' o' : Int} (h : rt l a o = true) (h' : rt l' a' o' = true) : inb (st l' o' - st l o) (hv l' a' o' - hv l a o) = true := by
  have := hv_bd h; have := hv_bd h'; exact inb_mk (by omega)
theorem me_ok {l a o s h : Int} (e : me l a o s h = 0) : mk l a o s h = true := by
  cases hk : mk l a o s h
  · cases hr : rt l a o
    · rw [me_form hr] at e; omega
    · rw [me_no hk hr] at e; omega
  · rfl
/-- Move, where it answers. -/
theorem move_ok {l a o s h : Int} (e : me l a o s h = 0) : rt l a o = true ∧ inb s h = true ∧ rt (ml l a o s h) (ma l a o s h) (mo l a o s h) = true ∧ st (ml l a o s h) (mo l a o s h) = st l o + s ∧ hv (ml l a o s h) (ma l a o s h) (mo l a o s h) = hv l a o + h := by
  have hk := me_ok e
  obtain ⟨h1, h2, h3⟩ := mk_yes hk
  rw [ml_yes hk, ma_yes hk, mo_yes hk]
  exact ⟨h1, h2, rt_pl h3, st_pl h3, hv_pl h3⟩
/-- .. and where there is such a pitch it does. -/
theorem move_to {l a o s h l' a' o' : Int} (h1 : rt l a o = true) (h2 : inb s h = true) (h3 : rt l' a' o' = true) (e1 : st l' o' = st l o + s) (e2 : hv l' a' o' = hv l a o + h) : me l a o s h = 0 ∧ ml l a o s h = l' ∧ ma l a o s h = a' ∧ mo l a o s h = o' := by
  have hk : mk l a o s h = true := by rw [mk_on h1 h2, ← e1, ← e2]; exact on_rt h3
  refine ⟨me_yes hk, ?_⟩
  obtain ⟨_, _, q1, q2, q3⟩ := move_ok (me_yes hk)
  exact rt_one q1 h3 (by omega) (by omega)
/-- Mirror, where it answers. -/
theorem mirror_ok {l a o l' a' o' : Int} (e : re l a o l' a' o' = 0) : rt l a o = true ∧ rt l' a' o' = true ∧ rt (rl l a o l' a' o') (ra l a o l' a' o') (ro l a o l' a' o') = true ∧ st (rl l a o l' a' o') (ro l a o l' a' o') = 2 * st l' o' - st l o ∧ hv (rl l a o l' a' o') (ra l a o l' a' o') (ro l a o l' a' o') = 2 * hv l' a' o' - hv l a o := by
  cases hk : bk l a o l' a' o'
  · rw [re_no hk] at e; omega
  · rw [re_yes hk] at e
    obtain ⟨b1, b2⟩ := bk_yes hk
    obtain ⟨_, _, q1, q2, q3⟩ := move_ok e
    rw [rl_yes hk, ra_yes hk, ro_yes hk]
    exact ⟨b1, b2, q1, by omega, by omega⟩
theorem mirror_to {l a o l' a' o' x y z : Int} (h1 : rt l a o = true) (h2 : rt l' a' o' = true) (h3 : rt x y z = true) (e1 : st x z = 2 * st l' o' - st l o) (e2 : hv x y z = 2 * hv l' a' o' - hv l a o) : re l a o l' a' o' = 0 ∧ rl l a o l' a' o' = x ∧ ra l a o l' a' o' = y ∧ ro l a o l' a' o' = z := by
  have hk : bk l a o l' a' o' = true := by unfold bk; rw [h1, h2]; rfl
  rw [re_yes hk, rl_yes hk, ra_yes hk, ro_yes hk]
  exact move_to h2 (inb_two h1 h2) h3 (by omega) (by omega)
theorem between_ok {l a o l' a' o' : Int} (h1 : rt l a o = true) (h2 : rt l' a' o' = true) : be l a o l' a' o' = 0 ∧ bs l a o l' a' o' = st l' o' - st l o ∧ bh l a o l' a' o' = hv l' a' o' - hv l a o := by
  have hk : bk l a o l' a' o' = true := by unfold bk; rw [h1, h2]; rfl
  exact ⟨be_yes hk, bs_yes hk, bh_yes hk⟩

end Go.Proofs.Ytpacfppnmenndaa.M
