/- What sample comes to. -/
import Derived.Test.YtjfmpgfpehnnjahVo8
import Derived.Test.YtjfmpgfpehnnjahVo6
namespace Go.Proofs.Ytjfmpgfpehnnjah.Vo
open Go.RowKit Go.Maps Go.Sort
set_option linter.unusedSimpArgs false
set_option linter.unusedVariables false

set_option maxHeartbeats 4000000 in
theorem sample_any (hC : CirC) (p : Pt) (h : Ok p) (b T : Nat) (o : Option Nat) (w : World) (hV : VL w b p T o) :
    Calls Try.prog 37 #[.pointer (some ⟨b, 0, none⟩)] w fun e w' => e = .returned (.float .f64 (S p o T)) ∧ Below w.heap.size w w' := by
  have hl := lev_bd p h T o hV.off
  have hw := pha_lt p T
  obtain ⟨m1, m2, m3, _⟩ := samp_ok p h (shp p.shape (pha p T)) (shp_ok _ _ (by omega) (by omega)) (lev p T o) hl.1 hl.2
  have q1 := fun w => Shape_any hC p.shape (pha p T) w hw
  have q2 := fun (w' : World) (hb : Below w.heap.size w w') => level_any p h b T o w' (hV.bel hb)
  rw [show S p o T = sm2 p (shp p.shape (pha p T)) (lev p T o) from rfl]
  have c0 := hV.c0
  have c2 := hV.c2
  have c7 := hV.c7
  have lt := hV.lt
  generalize sm2 p (shp p.shape (pha p T)) (lev p T o) = SV at *
  generalize gw p (shp p.shape (pha p T)) = GV at *
  generalize shp p.shape (pha p T) = XV at *
  generalize qt (lev p T o) 20 = QV at *
  generalize lev p T o = LV at *
  generalize she p.shape = EV at *
  clear hV h hC
  generalize pha p T = PH at *
  obtain ⟨shape, step, gain, atk, dec, rel, sus⟩ := p
  simp only at *
  have n1 := fmul m1
  have n2 := fquo m2
  have n3 := fmul m3
  clear m1 m2 m3
  have g0 := cell_regrown c0
  have g7 := cell_regrown c7
  have cS : ∀ d os, Calls Try.prog 34 #[.int .i64 shape, .int .u32 PH] (grow (redrawn w d) os) fun e w'' => e = .returned (.tuple #[.float .f64 XV, .int .i64 EV]) ∧ ∃ p : Regrown, w'' = grow (redrawn w p.d) p.os := fun d os => Calls.regrown_of (q1 _)
  go_enter Try.func37, Try.ntmps37
  go_wp2_with fail
  refine wp_region_quiet_below (by kernel_rfl) (by kernel_rfl) ?_
  repeat (go_big_quiet_step (exact cS _ _))
  refine wpQuiet_nil ?_
  rintro w1 ⟨⟨dq, osq⟩, hw1⟩
  have hb1 : Below w.heap.size w w1 := by rw [hw1]; exact below_regrown w dq osq
  clear hw1 cS g0 g7
  have g2 := cell_regrown (keepC hb1 lt c2)
  have cL : ∀ d os, Calls Try.prog 36 #[.pointer (some ⟨b, 0, none⟩)] (grow (redrawn w1 d) os) fun e w'' => e = .returned (.int .i64 LV) ∧ ∃ p : Regrown, w'' = grow (redrawn w1 p.d) p.os := fun d os => Calls.regrown_of (q2 _ (hb1.trans ((below_regrown w1 d os).mono hb1.size)))
  clear q1 q2
  go_wp2_with fail
  refine wp_region_quiet_below (by kernel_rfl) (by kernel_rfl) ?_
  repeat (go_big_quiet_step (exact cL _ _))
  refine wpQuiet_nil ?_
  rintro w2 ⟨⟨dq, osq⟩, hw2⟩
  have hb2 : Below w1.heap.size w1 w2 := by rw [hw2]; exact below_regrown w1 dq osq
  clear hw2 cL g2
  go_wp2_with fail
  go_ret
  exact ⟨rfl, hb1.trans (hb2.mono hb1.size)⟩
end Go.Proofs.Ytjfmpgfpehnnjah.Vo
