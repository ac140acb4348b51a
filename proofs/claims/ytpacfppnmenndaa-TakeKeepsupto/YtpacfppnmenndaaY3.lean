/- What the program's Wrong comes to. -/
import Derived.Test.YtpacfppnmenndaaY2
import Derived.Lib.QuietBelow
namespace Go.Proofs.Ytpacfppnmenndaa.Y
open Go.RowKit Go.Sort
set_option linter.unusedVariables false
set_option linter.unusedSimpArgs false

set_option maxRecDepth 20000 in
set_option maxHeartbeats 8000000 in
theorem Wrong_any (ao : Option Addr) (n c : Nat) (T : Nat → Tn) (w : World) (hp : TL w ao n T) (hc : n ≤ c) :
    Calls Try.prog 39 #[.slice ao n c] w fun e w' => e = .returned (.int .i64 (wr T n)) ∧ Below w.heap.size w w' := by
  by_cases hbig : 1024 < n
  · have hb2 : (1024 : Int) < (n : Int) := by omega
    rw [wr_many hbig]
    go_enter Try.func39, Try.ntmps39
    go_wp2_with fail
    go_ret
    exact ⟨rfl, Below.refl _ _⟩
  have hb2 : ¬ (1024 : Int) < (n : Int) := by omega
  have HW : Hid (wr T n = fst (cod T) n) := wr_few (by omega)
  generalize wr T n = R at *
  go_enter Try.func39, Try.ntmps39
  go_wp2_with fail
  go_loopw [10] (fun i wr => ∃ k : Nat, k ≤ n ∧ i = .int .i64 k ∧ Hid (∀ j, j < k → cod T j = 0) ∧ Below w.heap.size w wr) (fun i _ => n - (intOf i).toNat)
  case atStart => exact ⟨0, by omega, rfl, fun j hj => by omega, Below.refl _ _⟩
  case round =>
    obtain ⟨k, hkn, rfl, hz, hbr⟩ := hrel
    by_cases hlt : k < n
    · have hpr := hp.keep hbr
      obtain ⟨b, off, rfl, hbl, q0, q1, q2, q3, q4⟩ := hpr.at' (by omega)
      have r0 := q0 k hlt
      have r1 := q1 k hlt
      have r2 := q2 k hlt
      have r3 := q3 k hlt
      have r4 := q4 k hlt
      have HS : Hid (cod T k ≠ 0 → R = cod T k) := fun hne => by rw [HW.out]; exact fst_stop hlt hz.out hne
      have HN : Hid (cod T k = 0 → ∀ j, j < k + 1 → cod T j = 0) := fun e j hj => by
        by_cases ej : j = k
        · rw [ej]; exact e
        · exact hz.out j (by omega)
      have HQ : Hid (0 < k → ∃ m, k = m + 1 ∧ wr.cell? ⟨b, off + m * 5, none⟩ = some (.int .i64 (T m).t) ∧ wr.cell? ⟨b, off + m * 5 + 1, none⟩ = some (.int .i64 (T m).g) ∧ wr.cell? ⟨b, off + m * 5 + 2, none⟩ = some (.int .i64 (T m).l) ∧ wr.cell? ⟨b, off + m * 5 + 3, none⟩ = some (.int .i64 (T m).a) ∧ wr.cell? ⟨b, off + m * 5 + 4, none⟩ = some (.int .i64 (T m).o)) := fun h0 => ⟨k - 1, by omega, q0 _ (by omega), q1 _ (by omega), q2 _ (by omega), q3 _ (by omega), q4 _ (by omega)⟩
      clear q0 q1 q2 q3 q4 HW hz
      cases hok : okT (T k)
      · have HR : Hid (R = 3) := by have e := cod_range hok; have := HS.out (by rw [e]; decide); rw [e] at this; exact this
        have hno := okT_no hok
        clear HS HN HQ hok
        generalize (T k).t = t at *
        generalize (T k).g = g at *
        generalize (T k).l = l at *
        generalize (T k).a = a at *
        generalize (T k).o = o at *
        have fin : ∀ W : World, Below w.heap.size w W → Ending.returned (Value.int .i64 3) = Ending.returned (.int .i64 R) ∧ Below w.heap.size w W := fun W h => ⟨by rw [HR.out], h⟩
        by_cases g1 : t < 0
        · clear hno
          go_wp2_with fail
          go_ret
          exact fin _ (hbr.alloc hbr.size _)
        · by_cases g2 : 1048576 < t
          · clear hno
            go_wp2_with fail
            go_ret
            exact fin _ (hbr.alloc hbr.size _)
          · by_cases g3 : g < 1
            · clear hno
              go_wp2_with fail
              go_ret
              exact fin _ (hbr.alloc hbr.size _)
            · have g4 : 1048576 < g := by omega
              clear hno
              go_wp2_with fail
              go_ret
              exact fin _ (hbr.alloc hbr.size _)
      · obtain ⟨g1, g2, g3, g4⟩ := okT_yes hok
        have g1' : ¬ (T k).t < 0 := by omega
        have g2' : ¬ 1048576 < (T k).t := by omega
        have g3' : ¬ (T k).g < 1 := by omega
        have g4' : ¬ 1048576 < (T k).g := by omega
        have hRt := Right_any (T k).l (T k).a (T k).o
        go_wp2_with fail
        refine (hRt _).mono ?_
        rintro e w1 ⟨rfl, hb1⟩
        have z1 := hb1.size
        simp at z1
        have h01 : Below w.heap.size w w1 := (hbr.alloc hbr.size _).trans (hb1.mono (by simp; have := hbr.size; omega))
        have t0 : w1.cell? ⟨wr.heap.size, 0, none⟩ = some (.int .i64 (T k).t) := keepC hb1 (by simp) (by simp [go_sem])
        have t1 : w1.cell? ⟨wr.heap.size, 1, none⟩ = some (.int .i64 (T k).g) := keepC hb1 (by simp) (by simp [go_sem])
        have t2 : w1.cell? ⟨wr.heap.size, 2, none⟩ = some (.int .i64 (T k).l) := keepC hb1 (by simp) (by simp [go_sem])
        have t3 : w1.cell? ⟨wr.heap.size, 3, none⟩ = some (.int .i64 (T k).a) := keepC hb1 (by simp) (by simp [go_sem])
        have t4 : w1.cell? ⟨wr.heap.size, 4, none⟩ = some (.int .i64 (T k).o) := keepC hb1 (by simp) (by simp [go_sem])
        have hk1 : Below wr.heap.size wr w1 := Below.trans (by go_grown) (hb1.mono (by simp))
        cases hrt : M.rt (T k).l (T k).a (T k).o
        · have HR : Hid (R = 2) := by have e := cod_form hok hrt; have := HS.out (by rw [e]; decide); rw [e] at this; exact this
          clear HS HN HQ
          go_wp2_with fail
          go_ret
          exact ⟨ret_int HR.out.symm, h01⟩
        · have sz1 : wr.heap.size < w1.heap.size := by omega
          have HB1 : Hid (bfr T k = true → R = 8) := fun e => by have e2 := cod_fit hok hrt e; have := HS.out (by rw [e2]; decide); rw [e2] at this; exact this
          have HB0 : Hid (bfr T k = false → ∀ j, j < k + 1 → cod T j = 0) := fun e => HN.out (cod_ok hok hrt e)
          clear HS HN
          by_cases hk0 : 0 < k
          · obtain ⟨m, ekm, p0, p1, p2, p3, p4⟩ := HQ.out hk0
            subst ekm
            have HL : Hid (bfr T (m + 1) = lt (T (m + 1)) (T m)) := (show bfr T (m + 1) = lt (T (m + 1)) (T m) by unfold bfr; simp)
            have HC := cf_neg (T (m + 1)) (T m)
            have cO : ∀ d os, Calls Try.prog 44 #[.agg #[.int .i64 (T (m + 1)).t, .int .i64 (T (m + 1)).g, .int .i64 (T (m + 1)).l, .int .i64 (T (m + 1)).a, .int .i64 (T (m + 1)).o], .agg #[.int .i64 (T m).t, .int .i64 (T m).g, .int .i64 (T m).l, .int .i64 (T m).a, .int .i64 (T m).o]] (grow (redrawn w1 d) os) fun e w'' => e = .returned (.int .i64 (cf (T (m + 1)) (T m))) ∧ ∃ p : Regrown, w'' = grow (redrawn w1 p.d) p.os := fun d os => Calls.regrown_of (order_below (T (m + 1)) (T m) _)
            have u0 := cell_regrown t0
            have u1 := cell_regrown t1
            have u2 := cell_regrown t2
            have u3 := cell_regrown t3
            have u4 := cell_regrown t4
            have s0 := cell_regrown (keepC hk1 hbl p0)
            have s1 := cell_regrown (keepC hk1 hbl p1)
            have s2 := cell_regrown (keepC hk1 hbl p2)
            have s3 := cell_regrown (keepC hk1 hbl p3)
            have s4 := cell_regrown (keepC hk1 hbl p4)
            have em : ((m + 1 : Nat) : Int) - 1 = (m : Int) := by omega
            have em0 : (0 : Int) < ((m + 1 : Nat) : Int) := by omega
            have hmn : m < n := by omega
            have ewr : IntKind.i64.wrap (((m + 1 : Nat) : Int) - 1) = (m : Int) := by rw [em]; exact wid (by omega) (by omega)
            cases hl : lt (T (m + 1)) (T m)
            · rw [hl] at HC
              have HZ := HB0.out (by rw [HL.out]; exact hl)
              have hcf : decide (cf (T (m + 1)) (T m) < 0) = false := HC
              clear HC HL HB0 HB1 HQ p0 p1 p2 p3 p4 t0 t1 t2 t3 t4 r0 r1 r2 r3 r4 hRt
              generalize cf (T (m + 1)) (T m) = CF at *
              go_wp2_with fail
              refine wp_region_quiet_below (by kernel_rfl) (by kernel_rfl) ?_
              repeat (go_big_quiet_step (exact cO _ _))
              refine wpQuiet_nil ?_
              intro _ hw'
              obtain ⟨⟨dq, osq⟩, hw''⟩ := hw'
              subst hw''
              go_wp2_with fail
              go_roundw
              case rel => exact ⟨m + 1 + 1, by omega, by go_num, HZ, h01.trans ((below_regrown w1 dq osq).mono (by have := h01.size; omega))⟩
              case measure => simp [intOf]; omega
            · rw [hl] at HC
              have HZ : Hid (R = 8) := HB1.out (by rw [HL.out]; exact hl)
              have hcf : decide (cf (T (m + 1)) (T m) < 0) = true := HC
              clear HC HL HB0 HB1 HQ p0 p1 p2 p3 p4 t0 t1 t2 t3 t4 r0 r1 r2 r3 r4 hRt
              generalize cf (T (m + 1)) (T m) = CF at *
              go_wp2_with fail
              refine wp_region_quiet_below (by kernel_rfl) (by kernel_rfl) ?_
              repeat (go_big_quiet_step (exact cO _ _))
              refine wpQuiet_nil ?_
              intro _ hw'
              obtain ⟨⟨dq, osq⟩, hw''⟩ := hw'
              subst hw''
              go_wp2_with fail
              go_ret
              exact ⟨ret_int HZ.out.symm, h01.trans ((below_regrown w1 dq osq).mono (by have := h01.size; omega))⟩
          · obtain rfl : k = 0 := by omega
            have HZ := HB0.out (by unfold bfr; simp)
            have u0 := cell_regrown t0
            clear HB0 HB1 HQ
            go_wp2_with fail
            refine wp_region_quiet_below (by kernel_rfl) (by kernel_rfl) ?_
            repeat (go_big_quiet_step (fail))
            refine wpQuiet_nil ?_
            intro _ hw'
            obtain ⟨⟨dq, osq⟩, hw''⟩ := hw'
            subst hw''
            go_wp2_with fail
            go_roundw
            case rel => exact ⟨0 + 1, by omega, by go_num, HZ, h01.trans ((below_regrown w1 dq osq).mono (by have := h01.size; omega))⟩
            case measure => simp [intOf]; omega
    · obtain rfl : k = n := by omega
      have HR : Hid (R = 0) := by rw [HW.out]; exact fst_all hz.out
      go_wp2_with fail
      go_ret
      exact ⟨ret_int HR.out.symm, hbr⟩
end Go.Proofs.Ytpacfppnmenndaa.Y
