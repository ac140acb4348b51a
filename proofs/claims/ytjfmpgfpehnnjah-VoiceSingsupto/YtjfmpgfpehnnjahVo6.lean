/- What the document's Wrong and Sample come to. -/
import Derived.Test.YtjfmpgfpehnnjahVo5
namespace Go.Proofs.Ytjfmpgfpehnnjah.Vo
open Go.RowKit Go.Maps Go.Sort
set_option linter.unusedSimpArgs false
set_option linter.unusedVariables false

def nth (p : Pt) (j : Nat) : Int := if j = 0 then p.atk else if j = 1 then p.dec else p.rel
theorem wr_shape {p : Pt} (h : ¬ (1 ≤ p.shape ∧ p.shape ≤ 4)) : wr p = 1 := if_neg h
theorem wr_in {p : Pt} (h : 1 ≤ p.shape ∧ p.shape ≤ 4) : wr p = if inB p = true then 0 else 3 := if_pos h
theorem wr_gain {p : Pt} (h : 1 ≤ p.shape ∧ p.shape ≤ 4) (g : gok p.gain = false) : wr p = 3 := by
  rw [wr_in h, if_neg]; unfold inB; rw [g]; simp
theorem upB_no {m n : Int} (h : ¬ (0 ≤ n ∧ n ≤ m)) : upB m n = false := by
  unfold upB; simp only [Bool.and_eq_false_iff, decide_eq_false_iff_not]; omega
theorem upB_is {m n : Int} (h : 0 ≤ n ∧ n ≤ m) : upB m n = true := by unfold upB; simpa using h
theorem wr_nth {p : Pt} (h : 1 ≤ p.shape ∧ p.shape ≤ 4) (j : Nat) (g : ¬ (0 ≤ nth p j ∧ nth p j ≤ 16777216)) : wr p = 3 := by
  rw [wr_in h, if_neg]
  unfold inB
  unfold nth at g
  by_cases c : j = 0
  · rw [if_pos c] at g; rw [upB_no g]; simp
  · rw [if_neg c] at g
    by_cases d : j = 1
    · rw [if_pos d] at g; rw [upB_no (n := p.dec) g]; simp
    · rw [if_neg d] at g; rw [upB_no (n := p.rel) g]; simp
theorem wr_last {p : Pt} (h : 1 ≤ p.shape ∧ p.shape ≤ 4) (g : gok p.gain = true) (hn : ∀ j, j < 3 → 0 ≤ nth p j ∧ nth p j ≤ 16777216) : wr p = if upB 1048576 p.sus = true then 0 else 3 := by
  rw [wr_in h]
  unfold inB
  have h0 := hn 0 (by omega)
  have h1 := hn 1 (by omega)
  have h2 := hn 2 (by omega)
  rw [g, upB_is (n := p.atk) h0, upB_is (n := p.dec) h1, upB_is (n := p.rel) h2]
  simp
set_option maxHeartbeats 2000000 in
theorem refWrong_any (p : Pt) (w : World) :
    Calls Try.prog 27 #[pv p] w fun e w' => e = .returned (.int .i64 (wr p)) ∧ Below w.heap.size w w' := by
  by_cases hs : 1 ≤ p.shape ∧ p.shape ≤ 4
  · cases hg : Fl.geT p.gain 13920626448202203136
    · rw [wr_gain hs (by unfold gok; rw [hg]; rfl)]
      obtain ⟨shape, step, gain, atk, dec, rel, sus⟩ := p
      simp only at *
      have g1 : (FloatKind.f64.format.order gain 13920626448202203136 == some .gt || FloatKind.f64.format.order gain 13920626448202203136 == some .eq) = false := hg
      obtain ⟨s1, s2⟩ := hs
      clear hg
      go_enter Try.func27, Try.ntmps27
      go_wp2
      go_ret
      exact ⟨rfl, by go_grown⟩
    · cases hl : Fl.leT p.gain 4697254411347427328
      · rw [wr_gain hs (by unfold gok; rw [hg, hl]; rfl)]
        obtain ⟨shape, step, gain, atk, dec, rel, sus⟩ := p
        simp only at *
        have g1 : (FloatKind.f64.format.order gain 13920626448202203136 == some .gt || FloatKind.f64.format.order gain 13920626448202203136 == some .eq) = true := hg
        have g2 : (FloatKind.f64.format.order gain 4697254411347427328 == some .lt || FloatKind.f64.format.order gain 4697254411347427328 == some .eq) = false := hl
        obtain ⟨s1, s2⟩ := hs
        clear hg hl
        go_enter Try.func27, Try.ntmps27
        go_wp2
        go_ret
        exact ⟨rfl, by go_grown⟩
      · have HN : Hid (∀ j, ¬ (0 ≤ nth p j ∧ nth p j ≤ 16777216) → wr p = 3) := fun j => wr_nth hs j
        have HL : Hid ((∀ j, j < 3 → 0 ≤ nth p j ∧ nth p j ≤ 16777216) → wr p = if upB 1048576 p.sus = true then 0 else 3) := wr_last hs (by unfold gok; rw [hg, hl]; rfl)
        have n0 : nth p 0 = p.atk := rfl
        have n1 : nth p 1 = p.dec := rfl
        have n2 : nth p 2 = p.rel := rfl
        generalize wr p = WR at *
        generalize nth p = NN at *
        obtain ⟨shape, step, gain, atk, dec, rel, sus⟩ := p
        simp only at *
        have g1 : (FloatKind.f64.format.order gain 13920626448202203136 == some .gt || FloatKind.f64.format.order gain 13920626448202203136 == some .eq) = true := hg
        have g2 : (FloatKind.f64.format.order gain 4697254411347427328 == some .lt || FloatKind.f64.format.order gain 4697254411347427328 == some .eq) = true := hl
        obtain ⟨s1, s2⟩ := hs
        clear hg hl
        subst n0 n1 n2
        go_enter Try.func27, Try.ntmps27
        go_wp2_with fail
        go_loopw [29] (fun i ww => ∃ j : Nat, i = .int .i64 j ∧ j ≤ 3 ∧ Hid (∀ m, m < j → 0 ≤ NN m ∧ NN m ≤ 16777216) ∧ ww = (w.alloc (Obj.cells #[.int .i64 shape, .int .u32 step, .float .f64 gain, .int .i64 (NN 0), .int .i64 (NN 1), .int .i64 (NN 2), .int .i64 sus] 49)).alloc (Obj.cells #[.int .i64 (NN 0), .int .i64 (NN 1), .int .i64 (NN 2)] 3)) (fun i _ => 3 - (intOf i).toNat)
        case atStart => exact ⟨0, rfl, by omega, (fun m hm => by omega : ∀ m, m < 0 → _), rfl⟩
        case round =>
          obtain ⟨j, rfl, hj, hH, hw⟩ := hrel
          subst hw
          by_cases hlt : j < 3
          · by_cases hb : 0 ≤ NN j ∧ NN j ≤ 16777216
            · have HH2 : Hid (∀ m, m < j + 1 → 0 ≤ NN m ∧ NN m ≤ 16777216) := fun m hm => by
                by_cases e : m = j
                · rw [e]; exact hb
                · exact hH.out m (by omega)
              clear hH HN HL
              obtain ⟨b1, b2⟩ := hb
              rcases (show j = 0 ∨ j = 1 ∨ j = 2 by omega) with rfl | rfl | rfl
              all_goals
                go_wp2_with fail
                go_roundw
                case rel => first | exact ⟨1, rfl, by omega, HH2, trivial⟩ | exact ⟨2, rfl, by omega, HH2, trivial⟩ | exact ⟨3, rfl, by omega, HH2, trivial⟩
                case measure => simp [intOf]
            · have he := HN.out j hb
              clear hH HN HL
              subst he
              rcases (show NN j < 0 ∨ (¬ NN j < 0 ∧ 16777216 < NN j) by omega) with hb | ⟨hb1, hb2⟩
              all_goals
                rcases (show j = 0 ∨ j = 1 ∨ j = 2 by omega) with rfl | rfl | rfl
              all_goals
                go_wp2_with fail
                go_ret
                exact ⟨rfl, by go_grown⟩
          · obtain rfl : j = 3 := by omega
            have he := HL.out hH.out
            clear hH HN HL
            by_cases c : 0 ≤ sus ∧ sus ≤ 1048576
            · rw [upB_is c] at he
              have he' : WR = 0 := he
              subst he'
              obtain ⟨c1, c2⟩ := c
              clear he
              go_wp2_with fail
              go_ret
              exact ⟨rfl, by go_grown⟩
            · rw [upB_no c] at he
              have he' : WR = 3 := he
              subst he'
              clear he
              rcases (show sus < 0 ∨ (0 ≤ sus ∧ 1048576 < sus) by omega) with c | ⟨c1, c2⟩
              all_goals
                go_wp2_with fail
                go_ret
                exact ⟨rfl, by go_grown⟩
  · rw [wr_shape hs]
    obtain ⟨shape, step, gain, atk, dec, rel, sus⟩ := p
    simp only at *
    rcases (show shape < 1 ∨ (¬ shape < 1 ∧ 4 < shape) by omega) with c | ⟨c1, c2⟩
    all_goals
      clear hs
      go_enter Try.func27, Try.ntmps27
      go_wp2_with fail
      go_ret
      exact ⟨rfl, by go_grown⟩
set_option maxHeartbeats 2000000 in
theorem refSample_any (p : Pt) (h : Ok p) (hp : p.step < 4294967296) (T : Nat) (o : Option Nat) (ho : Off T o) (h1 : T ≤ 4611686018427387904) (w : World) :
    Calls Try.prog 28 #[pv p, .int .i64 T, .int .i64 (ofs o)] w fun e w' => e = .returned (.float .f64 (S p o T)) ∧ Below w.heap.size w w' := by
  have hl := lev_bd p h T o ho
  have hw := pha_lt p T
  obtain ⟨m1, m2, m3, _⟩ := samp_ok p h (shp p.shape (pha p T)) (shp_ok _ _ (by omega) (by omega)) (lev p T o) hl.1 hl.2
  have q1 := fun w => refShape_any p.shape (pha p T) w hw
  have q2 := fun w => refLevel_any p h T o ho h1 w
  rw [show S p o T = sm2 p (shp p.shape (pha p T)) (lev p T o) from rfl]
  have e1 : (T : Int) % 4294967296 * (p.step : Int) % 4294967296 = ((pha p T : Nat) : Int) := by
    have : T % 4294967296 * p.step % 4294967296 = pha p T := by unfold pha; rw [Nat.mul_mod, Nat.mod_mod, ← Nat.mul_mod]
    rw [← this]; simp
    rw [Int.mul_emod, Int.emod_emod, ← Int.mul_emod]
  generalize sm2 p (shp p.shape (pha p T)) (lev p T o) = SV at *
  generalize gw p (shp p.shape (pha p T)) = GV at *
  generalize shp p.shape (pha p T) = XV at *
  generalize qt (lev p T o) 20 = QV at *
  generalize lev p T o = LV at *
  generalize she p.shape = EV at *
  generalize pha p T = PH at *
  obtain ⟨shape, step, gain, atk, dec, rel, sus⟩ := p
  simp only at *
  have n1 := fmul m1
  have n2 := fquo m2
  have n3 := fmul m3
  clear m1 m2 m3 h
  go_enter Try.func28, Try.ntmps28
  go_wp2_with fail
  rw [e1]
  refine (q1 _).mono ?_
  rintro e w1 ⟨rfl, hb1⟩
  rw [hb1]
  go_wp2_with (simp only [n1])
  refine (q2 _).mono ?_
  rintro e w2 ⟨rfl, hb2⟩
  have hb : Below w.heap.size w w2 := Below.trans (by go_grown) (hb2.mono (by simp))
  go_wp2_with (first | simp only [n2] | simp only [n3])
  go_ret
  exact ⟨rfl, hb⟩
end Go.Proofs.Ytjfmpgfpehnnjah.Vo
