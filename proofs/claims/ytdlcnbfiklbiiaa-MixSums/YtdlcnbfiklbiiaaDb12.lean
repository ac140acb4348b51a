/- Both Rounds agree at every double. -/
import Derived.Test.YtdlcnbfiklbiiaaDb11
namespace Go.Proofs.Ytdlcnbfiklbiiaa.Db
open Go.RowKit Go.Maps Go.Sort Ieee
set_option linter.unusedVariables false
set_option linter.unusedSimpArgs false

theorem order_nan (r : Nat) (h : (Format.read double r).isNaN = true) : (double.order r r != some .eq) = true := by
  unfold Format.order
  cases hd : Format.read double r with
  | nan s t => rfl
  | infinity s => rw [hd] at h; cases h
  | number s m p => rw [hd] at h; cases h
set_option maxHeartbeats 4000000 in
theorem round_nan (b : Nat) (hb : (Format.read double b).isNaN = true) (w : World) :
    Calls Try.prog 12 #[.float .f64 b] w fun e w' => e = .returned (.int .i64 0) ∧ Below w.heap.size w w' := by
  obtain ⟨r, d, hm, _, hab⟩ := Fi.fop_run Try.prog .mul (.inr (.inr rfl)) b 4674736413210574848 24 w
  have hab1 : Fl.ab b = none := by unfold Fl.ab; exact if_pos hb
  rw [hab1] at hab
  have hr : (Format.read double r).isNaN = true := by
    have e : Fl.ab r = none := hab
    unfold Fl.ab at e
    by_cases c : Fl.nn r = true
    · exact c
    · rw [if_neg c] at e; cases e
  obtain ⟨s2, t2, hrd⟩ : ∃ s t, Format.read double r = .nan s t := by
    cases hd : Format.read double r with
    | nan s t => exact ⟨s, t, rfl⟩
    | infinity s => rw [hd] at hr; cases hr
    | number s m p => rw [hd] at hr; cases hr
  obtain ⟨r2, d2, hr2, hor⟩ := toN Try.prog "math.RoundToEven" .even r s2 t2 hrd (w.drewN d)
  have hcall : (callFunc 25 #[.float .f64 r]).run Try.prog (w.drewN d) = .ok (.value (.float .f64 r2)) ((w.drewN d).drewN d2) := by
    rw [run_callFunc_extern (P := Try.prog) (f := 25) (fn := Try.f25) (e := Extern.MathFloor.toIntegral "math.RoundToEven" .even) Try.func25 (by kernel_rfl) (by kernel_rfl) (by kernel_rfl) (by kernel_rfl), hr2]
    rfl
  have hn2 : (Format.read double r2).isNaN = true := by
    rcases hor with h | h
    · rw [h]; exact hr
    · rw [h]; exact quiet_nan s2 t2
  have hq := fun w => isNaN_any r2 true w (order_nan r2 hn2)
  have HB : Hid (Below w.heap.size w ((w.drewN d).drewN d2)) := below_drewN (below_drewN (Below.refl _ _) _) _
  clear hab hab1 hr hrd hor hn2 hr2
  generalize hw2 : (w.drewN d).drewN d2 = w2 at *
  generalize hw1 : w.drewN d = w1 at *
  go_enter Try.func12, Try.ntmps12
  go_wp2_with (simp only [hm, hcall])
  refine (hq _).mono ?_
  rintro e w3 ⟨rfl, hw3⟩
  subst hw3
  go_wp2_with fail
  go_ret
  exact ⟨rfl, HB.out⟩
theorem agree_any (b : Nat) : Agree b := by
  rcases read_any b with ⟨s, t, h⟩ | ⟨s, h⟩ | ⟨s, m, p, h, hmp⟩
  · exact ⟨0, fun w => round_nan b (by rw [h]; rfl) w, fun w => ref_nan b w (order_nan b (by rw [h]; rfl))⟩
  · exact agree_inf b s h
  · rcases hmp with ⟨h1, rfl⟩ | ⟨h1, h2, h3, h4⟩
    · exact agree_small b m s h h1
    · by_cases c : -52 ≤ p
      · exact agree_great b m s p h h1 h2 c h4
      · exact agree_normal b m s p h h1 h2 h3 (by omega)
end Go.Proofs.Ytdlcnbfiklbiiaa.Db
