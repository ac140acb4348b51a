/- Plain numbers: moved by two intervals, one behind the other. -/
import Derived.Test.YtpacfppnmenndaaQMath2
namespace Go.Proofs.Ytpacfppnmenndaa.M

theorem sum_ok {s h s' h' : Int} (e : se s h s' h' = 0) : inb s h = true ∧ inb s' h' = true ∧ inb (s + s') (h + h') = true ∧ ss s h s' h' = s + s' ∧ sh s h s' h' = h + h' := by
  cases hk : sk s h s' h'
  · rw [se_no hk] at e; omega
  · have h1 := hk
    unfold sk at h1
    simp only [Bool.and_eq_true] at h1
    exact ⟨h1.1.1, h1.1.2, h1.2, ss_yes hk, sh_yes hk⟩
theorem mk_sum {l a o x y z s h s' h' : Int} (rp : rt l a o = true) (rx : rt x y z = true) (ij : inb s' h' = true) (ik : inb (s + s') (h + h') = true) (e1 : st x z = st l o + s) (e2 : hv x y z = hv l a o + h) :
    ml l a o (s + s') (h + h') = ml x y z s' h' ∧ ma l a o (s + s') (h + h') = ma x y z s' h' ∧ mo l a o (s + s') (h + h') = mo x y z s' h' ∧ me l a o (s + s') (h + h') = me x y z s' h' := by
  have hk : mk l a o (s + s') (h + h') = mk x y z s' h' := by rw [mk_on rp ik, mk_on rx ij, e1, e2, Int.add_assoc, Int.add_assoc]
  have a1 : st l o + (s + s') = st x z + s' := by omega
  have a2 : hv l a o + (h + h') = hv x y z + h' := by omega
  unfold ml ma mo me
  rw [hk, a1, a2, rp, rx]
  exact ⟨rfl, rfl, rfl, rfl⟩
theorem move_none {l a o : Int} (rp : rt l a o = true) : me l a o 0 0 = 0 ∧ ml l a o 0 0 = l ∧ ma l a o 0 0 = a ∧ mo l a o 0 0 = o :=
  move_to rp (by decide) rp (by omega) (by omega)
theorem move_form {l a o s h : Int} (rp : rt l a o = false) : me l a o s h ≠ 0 := by rw [me_form rp]; decide
end Go.Proofs.Ytpacfppnmenndaa.M
