/- What the document's fair, Twelfth and Hertz come to. -/
import Derived.Test.YtdjdnjaijpafgacDoorT3
import Derived.Test.YtdjdnjaijpafgacDoorQR3
namespace Go.Proofs.YtdjdnjaijpafgacDoor
open Go.RowKit
attribute [local go_sem ↓] Go.wp_at_zero Go.wp_at_succ
set_option linter.unusedSimpArgs false
set_option linter.unusedVariables false

theorem ret_ft {k : FloatKind} {a b : Nat} {c : Value} (h : a = b) : Ending.returned (.tuple #[.float k a, c]) = .returned (.tuple #[.float k b, c]) := by rw [h]
theorem fair_any (a : Nat) (w : World) (ha : a < 18446744073709551616) :
    Calls Tryd.prog 42 #[.float .f64 a] w fun e w' => e = .returned (.bool (M.fair a)) ∧ w' = w := by
  have hb := Fl.both a 4607182418800017408 4681608360884174848 ha (by decide) (by decide) (by decide)
  rw [show M.fair a = Fl.btw 4607182418800017408 4681608360884174848 a from rfl, ← hb]
  cases hg : (Ieee.double.order a 4607182418800017408 == some .gt || Ieee.double.order a 4607182418800017408 == some .eq)
  all_goals cases hl : (Ieee.double.order a 4681608360884174848 == some .lt || Ieee.double.order a 4681608360884174848 == some .eq)
  all_goals
    replace hg : (FloatKind.f64.format.order a 4607182418800017408 == some .gt || FloatKind.f64.format.order a 4607182418800017408 == some .eq) = _ := hg
    replace hl : (FloatKind.f64.format.order a 4681608360884174848 == some .lt || FloatKind.f64.format.order a 4681608360884174848 == some .eq) = _ := hl
    go_enter Tryd.func42, Tryd.ntmps42
    go_wp2
    go_ret
    exact ⟨rfl, rfl⟩

set_option maxHeartbeats 1000000 in
theorem Twelfth_any (n : Nat) (w : World) (hn : n < 12) :
    Calls Tryd.prog 43 #[.int .i64 n] w fun e w' => e = .returned (.float .f64 (Fl.tb n)) ∧ w' = w := by
  go_enter Tryd.func43, Tryd.ntmps43
  go_wp2
  go_loop [3, 4] (fun s i => ∃ k X : Nat, k ≤ n ∧ i = .int .i64 k ∧ s = .float .f64 X ∧ Hid (X = Fl.tb k)) (fun _ i => n - (intOf i).toNat)
  case atStart => exact ⟨0, 4607182418800017408, Nat.zero_le _, rfl, rfl, rfl⟩
  case round =>
    obtain ⟨k, X, hk, rfl, rfl, hX⟩ := hrel
    by_cases hlt : k < n
    · have hm : Ieee.double.mul X 4607450216769616227 = some (Fl.tb (k + 1)) := by rw [hX.out]; exact Fl.tb_step k (by omega)
      have hm' := fmul hm
      clear hm
      generalize hY : Fl.tb (k + 1) = Y at *
      have HY : Hid (Fl.tb (k + 1) = Y) := hY
      clear hY
      go_wp2_with (simp only [hm'])
      go_round
      case rel => exact ⟨k + 1, Y, by omega, by go_num, rfl, HY.out.symm⟩
      case measure => simp [intOf]; omega
    · have HE : Hid (X = Fl.tb n) := by rw [show n = k by omega]; exact hX
      clear hX
      go_wp2
      go_ret
      exact ⟨ret_float HE.out, rfl⟩

set_option maxHeartbeats 2000000 in
theorem refHertz_in (l a o : Int) (x : Nat) (w : World) (hx : x < 18446744073709551616) (hr : M.rt l a o = true) (hf : M.fair x = true) :
    Calls Tryd.prog 16 #[.agg #[.int .i64 l, .int .i64 a, .int .i64 o], .float .f64 x] w fun e w' => e = .returned (.tuple #[.float .f64 (Fl.hz x (M.hv l a o - 57)), .int .i64 0]) ∧ Below w.heap.size w w' := by
  have hfb := M.fair_yes hf
  have hvb := M.hv_bd hr
  have hab := M.rt_yes hr
  have e1 := M.kn_yes hr
  have e2 := M.ke_yes hr
  go_enter Tryd.func16, Tryd.ntmps16
  go_wp2_with fail
  refine (refKey_any l a o _ (by omega) (by omega)).mono ?_
  rintro e w1 ⟨rfl, hb1⟩
  rw [e1, e2]
  have hb01 : Below w.heap.size w w1 := Below.trans (by go_grown) (hb1.mono (by simp))
  go_wp2_with fail
  refine (fair_any x _ hx).mono ?_
  rintro e w2 ⟨rfl, hw2⟩
  rw [hw2, hf]
  have hmul := fun (y : Nat) (h : 4503599627370496 ≤ y ∧ y < 9007199254740992000) => fmul (Fl.twice y h.1 h.2)
  have hquo := fun (y : Nat) (h : 9007199254740992 ≤ y ∧ y < 9218868437227405312) => fquo (Fl.halve y h.1 h.2)
  have HM : Hid (∀ (y : Nat), 4503599627370496 ≤ y ∧ y < 9007199254740992000 → _) := hmul
  have HD : Hid (∀ (y : Nat), 9007199254740992 ≤ y ∧ y < 9218868437227405312 → _) := hquo
  clear hmul hquo
  have bK : -300 ≤ M.hv l a o + 12 - 69 ∧ M.hv l a o + 12 - 69 ≤ 300 := by omega
  have HK : Hid (M.hv l a o - 57 = M.hv l a o + 12 - 69) := (by omega : M.hv l a o - 57 = M.hv l a o + 12 - 69)
  go_wp2_with fail
  generalize hK : M.hv l a o + 12 - 69 = K at *
  clear hK
  go_loop [6, 8] (fun i u => ∃ k q : Int, i = .int .i64 k ∧ u = .int .i64 q ∧ K = k + 12 * q ∧ -300 ≤ k ∧ k ≤ 300 ∧ -100 ≤ q ∧ q ≤ 100) (fun i _ => (-(intOf i)).toNat)
  case atStart => exact ⟨K, 0, rfl, rfl, by omega, by omega, by omega, by omega, by omega⟩
  case round =>
    obtain ⟨k, q, rfl, rfl, hkq, b1, b2, b3, b4⟩ := hrel
    by_cases hlt : k < 0
    · go_wp2_with fail
      go_round
      case rel => exact ⟨k + 12, q - 1, rfl, rfl, by omega, by omega, by omega, by omega, by omega⟩
      case measure => simp [intOf]; omega
    · go_wp2_with fail
      go_loop [6, 8] (fun i u => ∃ k q : Int, i = .int .i64 k ∧ u = .int .i64 q ∧ K = k + 12 * q ∧ 0 ≤ k ∧ k ≤ 300 ∧ -100 ≤ q ∧ q ≤ 100) (fun i _ => (intOf i).toNat)
      case atStart => exact ⟨k, q, rfl, rfl, by omega, by omega, by omega, by omega, by omega⟩
      case round =>
        clear hkq b1 b2 b3 b4 hlt
        obtain ⟨k, q, rfl, rfl, hkq, b1, b2, b3, b4⟩ := hrel
        by_cases hge : 12 ≤ k
        · go_wp2_with fail
          go_round
          case rel => exact ⟨k - 12, q + 1, rfl, rfl, by omega, by omega, by omega, by omega, by omega⟩
          case measure => simp [intOf]; omega
        · obtain ⟨r, rfl, hr1⟩ : ∃ r : Nat, k = r ∧ r < 12 := ⟨k.toNat, by omega, by omega⟩
          have hz : Fl.hz x K = (((Fl.pr x (Fl.tb r) : Nat) : Int) + q * 4503599627370496).toNat := by
            unfold Fl.hz
            rw [show (K % 12).toNat = r by omega, show K / 12 = q by omega]
          have HZ : Hid (Fl.hz x K = (((Fl.pr x (Fl.tb r) : Nat) : Int) + q * 4503599627370496).toNat) := hz
          clear hz
          have hpb := Fl.pr_bd x r hr1 hfb.1
          have hm := fmul (Fl.mul_tb x r hr1 hfb.1 hfb.2)
          go_wp2_with fail
          refine (Twelfth_any r _ hr1).mono ?_
          rintro e w3 ⟨rfl, hw3⟩
          rw [hw3]
          generalize Fl.pr x (Fl.tb r) = P at *
          go_wp2_with (simp only [hm])
          clear hm
          have bq : -30 ≤ q ∧ q ≤ 30 := by omega
          go_loop [8, 9] (fun i u => ∃ (v : Int) (Y : Nat), i = .int .i64 v ∧ u = .float .f64 Y ∧ (Y : Int) = P + (q - v) * 4503599627370496 ∧ v ≤ q ∧ (v = q ∨ 0 ≤ v)) (fun i _ => (intOf i).toNat)
          case atStart => exact ⟨q, P, rfl, rfl, by omega, by omega, by omega⟩
          case round =>
            obtain ⟨v, Y, rfl, rfl, hY, c1, c2⟩ := hrel
            by_cases hv : 0 < v
            · have hm := HM.out Y (by omega)
              have HY : Hid ((Y : Int) = P + (q - v) * 4503599627370496) := hY
              clear hY
              go_wp2_with (simp only [hm])
              go_round
              case rel => exact ⟨v - 1, Y + 4503599627370496, rfl, rfl, by have := HY.out; omega, by omega, by omega⟩
              case measure => simp [intOf]; omega
            · have c3 : v ≤ 0 := by omega
              have HY : Hid ((Y : Int) = P + (q - v) * 4503599627370496) := hY
              clear hY
              go_wp2_with fail
              go_loop [8, 9] (fun i u => ∃ (t : Int) (Z : Nat), i = .int .i64 t ∧ u = .float .f64 Z ∧ (Z : Int) = P + (q - t) * 4503599627370496 ∧ v ≤ t ∧ t ≤ 0) (fun i _ => (-(intOf i)).toNat)
              case atStart => exact ⟨v, Y, rfl, rfl, HY.out, by omega, by omega⟩
              case round =>
                obtain ⟨t, Z, rfl, rfl, hZ, c4, c5⟩ := hrel
                by_cases ht : t < 0
                · have hm := HD.out Z (by omega)
                  have HY : Hid ((Z : Int) = P + (q - t) * 4503599627370496 ∧ 4503599627370496 ≤ Z) := ⟨hZ, by omega⟩
                  clear hZ
                  go_wp2_with (simp only [hm])
                  go_round
                  case rel => exact ⟨t + 1, Z - 4503599627370496, rfl, rfl, by have := HY.out; omega, by omega, by omega⟩
                  case measure => simp [intOf]; omega
                · have HE : Hid (Fl.hz x K = Z) := by
                    show _ = _
                    rw [HZ.out]; omega
                  clear hZ
                  go_wp2_with fail
                  go_returns
                  exact ⟨ret_ft (by rw [HK.out, HE.out]), hb01⟩

theorem refHertz_form (l a o : Int) (x : Nat) (w : World) (a1 : -9223372036854775808 ≤ a) (a2 : a ≤ 9223372036854775807) (hr : M.rt l a o = false) :
    Calls Tryd.prog 16 #[.agg #[.int .i64 l, .int .i64 a, .int .i64 o], .float .f64 x] w fun e w' => e = .returned (.tuple #[.float .f64 0, .int .i64 2]) ∧ Below w.heap.size w w' := by
  have e1 := M.kn_no hr
  have e2 := M.ke_no hr
  go_enter Tryd.func16, Tryd.ntmps16
  go_wp2_with fail
  refine (refKey_any l a o _ a1 a2).mono ?_
  rintro e w1 ⟨rfl, hb1⟩
  rw [e1, e2]
  have hb01 : Below w.heap.size w w1 := Below.trans (by go_grown) (hb1.mono (by simp))
  go_wp2_with fail
  go_returns
  exact ⟨rfl, hb01⟩
theorem refHertz_range (l a o : Int) (x : Nat) (w : World) (hx : x < 18446744073709551616) (hr : M.rt l a o = true) (hf : M.fair x = false) :
    Calls Tryd.prog 16 #[.agg #[.int .i64 l, .int .i64 a, .int .i64 o], .float .f64 x] w fun e w' => e = .returned (.tuple #[.float .f64 0, .int .i64 3]) ∧ Below w.heap.size w w' := by
  have hab := M.rt_yes hr
  have e1 := M.kn_yes hr
  have e2 := M.ke_yes hr
  go_enter Tryd.func16, Tryd.ntmps16
  go_wp2_with fail
  refine (refKey_any l a o _ (by omega) (by omega)).mono ?_
  rintro e w1 ⟨rfl, hb1⟩
  rw [e1, e2]
  have hb01 : Below w.heap.size w w1 := Below.trans (by go_grown) (hb1.mono (by simp))
  go_wp2_with fail
  refine (fair_any x _ hx).mono ?_
  rintro e w2 ⟨rfl, hw2⟩
  rw [hw2, hf]
  go_wp2_with fail
  go_returns
  exact ⟨rfl, hb01⟩
theorem refHertz_any (l a o : Int) (x : Nat) (w : World) (a1 : -9223372036854775808 ≤ a) (a2 : a ≤ 9223372036854775807) (hx : x < 18446744073709551616) :
    Calls Tryd.prog 16 #[.agg #[.int .i64 l, .int .i64 a, .int .i64 o], .float .f64 x] w fun e w' => e = .returned (.tuple #[.float .f64 (M.hn l a o x), .int .i64 (M.he l a o x)]) ∧ Below w.heap.size w w' := by
  cases hr : M.rt l a o
  · rw [(M.h_form hr).1, (M.h_form hr).2]; exact refHertz_form l a o x w a1 a2 hr
  · cases hf : M.fair x
    · rw [(M.h_range hr hf).1, (M.h_range hr hf).2]; exact refHertz_range l a o x w hx hr hf
    · rw [(M.h_in hr hf).1, (M.h_in hr hf).2]; exact refHertz_in l a o x w hx hr hf
end Go.Proofs.YtdjdnjaijpafgacDoor
