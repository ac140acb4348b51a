/- What the document's Signs comes to. -/
import Derived.Test.YtdjdnjaijpafgabDoorS5
import Derived.Test.YtdjdnjaijpafgabDoorQR1
import Derived.Deep.RegionHeld3
import Derived.Deep.DeepCutAuto
namespace Go.Proofs.YtdjdnjaijpafgabDoor
open Go.RowKit
attribute [local go_sem ↓] Go.wp_at_zero Go.wp_at_succ
set_option linter.unusedSimpArgs false

theorem right3_any (l a : Int) (w : World) (a1 : -9223372036854775808 ≤ a) (a2 : a ≤ 9223372036854775807) :
    Calls Tryd.prog 52 #[.agg #[.int .i64 l, .int .i64 a]] w fun e w' => e = .returned (.bool (M.rt l a 0)) ∧ Below w.heap.size w w' := by
  generalize hR : M.rt l a 0 = R
  go_enter Tryd.func52, Tryd.ntmps52
  go_wp2_with fail
  refine (refRight_any l a 0 _ a1 a2).mono ?_
  rintro e w1 ⟨rfl, hb1⟩
  rw [hR]
  go_wp2_with fail
  go_ret
  exact ⟨rfl, Below.trans (by go_grown) (hb1.mono (by simp))⟩

theorem refSigns_kind (l a m : Int) (w : World) (hm : M.mok m = false) :
    Calls Tryd.prog 20 #[.agg #[.int .i64 l, .int .i64 a], .int .i64 m] w fun e w' => e = .returned (.tuple #[.int .i64 0, .int .i64 1]) ∧ Below w.heap.size w w' := by
  have hm' := M.mok_no hm
  by_cases x : m < 0
  all_goals
    go_enter Tryd.func20, Tryd.ntmps20
    go_wp2_with fail
    go_returns
    exact ⟨rfl, by go_grown⟩

theorem refSigns_form (l a m : Int) (w : World) (a1 : -9223372036854775808 ≤ a) (a2 : a ≤ 9223372036854775807) (hm : M.mok m = true) (hr : M.rt l a 0 = false) :
    Calls Tryd.prog 20 #[.agg #[.int .i64 l, .int .i64 a], .int .i64 m] w fun e w' => e = .returned (.tuple #[.int .i64 0, .int .i64 2]) ∧ Below w.heap.size w w' := by
  have hm' := M.mok_yes hm
  go_enter Tryd.func20, Tryd.ntmps20
  go_wp2_with fail
  refine (right3_any l a _ a1 a2).mono ?_
  rintro e w1 ⟨rfl, hb1⟩
  rw [hr]
  go_wp2_with fail
  go_returns
  exact ⟨rfl, Below.trans (by go_grown) (hb1.mono (by simp))⟩

theorem below_any {B : Nat} {w w' : World} (h : Below B w w') (hB : B ≤ w.heap.size) : B ≤ w'.heap.size := Nat.le_trans hB h.size

set_option maxHeartbeats 4000000 in
theorem refSigns_in (x : Nat) (a m : Int) (w : World) (hm : M.mok m = true) (hr : M.rt x a 0 = true) :
    Calls Tryd.prog 20 #[.agg #[.int .i64 x, .int .i64 a], .int .i64 m] w fun e w' => e = .returned (.tuple #[.int .i64 (M.zs x a m), .int .i64 (M.ze x a m)]) ∧ Below w.heap.size w w' := by
  have hm' := M.mok_yes hm
  obtain ⟨x1, x2, x3, x4, _, _⟩ := M.rt_yes hr
  obtain ⟨Z, hZ⟩ : ∃ Z, M.zs x a m = Z := ⟨_, rfl⟩
  obtain ⟨E, hE⟩ : ∃ E, M.ze x a m = E := ⟨_, rfl⟩
  have HZ : Hid (M.zs x a m = Z ∧ M.ze x a m = E) := ⟨hZ, hE⟩
  rw [hZ, hE]
  clear hZ hE
  go_enter Tryd.func20, Tryd.ntmps20
  go_wp2_with fail
  refine (right3_any x a _ (by omega) (by omega)).mono ?_
  rintro e w1 ⟨rfl, hb1⟩
  have z1 := hb1.size
  simp at z1
  rw [hr]
  have hb01 : Below w.heap.size w w1 := Below.trans (by go_grown) (hb1.mono (by simp))
  have p0 : w1.cell? ⟨w.heap.size, 0, none⟩ = some (.int .i64 x) := keepC hb1 (by simp) (by simp [go_sem])
  have p1 : w1.cell? ⟨w.heap.size, 1, none⟩ = some (.int .i64 a) := keepC hb1 (by simp) (by simp [go_sem])
  go_wp2_with fail
  go_loopw [6] (fun i wr => ∃ n : Int, -7 ≤ n ∧ n ≤ 8 ∧ i = .int .i64 n ∧ Hid (∀ n', -7 ≤ n' → n' < n → M.zr x a m ≠ n') ∧ Below w1.heap.size w1 wr)
    (fun i _ => (8 - intOf i).toNat)
  case atStart => exact ⟨-7, by omega, by omega, rfl, fun n' h1 h2 => by omega, Below.refl _ _⟩
  case round =>
    obtain ⟨n, hn1, hn2, rfl, hno, hbr⟩ := hrel
    have zr := hbr.size
    replace p0 := keepC hbr (by omega) p0
    replace p1 := keepC hbr (by omega) p1
    have sp : w.heap.size < wr.heap.size := by omega
    by_cases hlt : n ≤ 7
    · have hmt := M.mt_zr hr hm hn1 hlt
      have hfb := M.frs_bd n
      have v1 : IntKind.i64.wrap (M.frs n + m) = M.frs n + m := wid (by omega) (by omega)
      have v2 : (M.frs n + m).tmod 7 = (M.frs n + m) % 7 := Int.tmod_eq_emod_of_nonneg (by omega)
      have mkS : ∀ W, Below wr.heap.size wr W → (Below wr.heap.size wr W ∧ W.cell? ⟨w.heap.size, 0, none⟩ = some (.int .i64 x) ∧ W.cell? ⟨w.heap.size, 1, none⟩ = some (.int .i64 a)) := fun W h => ⟨h, keepC h (by omega) p0, keepC h (by omega) p1⟩
      obtain ⟨T, hT⟩ : ∃ T, M.mt x a m n = T := ⟨_, rfl⟩
      have HT : Hid (M.mt x a m n = T) := hT
      go_wp2_with fail
      go_cut [38] (fun c wx => c = .bool T ∧ Below wr.heap.size wr wx)
      case first =>
        by_cases h1 : (M.frs n + m) % 7 = x
        · have hT2 : T = (M.al n x == a) := by rw [← hT]; unfold M.mt; simp [h1]; rfl
          have h1' : ((M.frs n + m) % 7 == (x : Int)) = true := by simpa using h1
          clear hT hmt
          have hfi : ∀ W, Calls Tryd.prog 53 #[.int .i64 n] W fun e w' => e = .returned (.int .i64 (M.frs n)) ∧ w' = W := fun W => First_any n W hn1 hlt
          generalize M.frs n = FR at *
          go_region_with
            (first
              | (go_at_call 53; refine (hfi _).mono ?_; rintro e wa ⟨rfl, hw⟩; rw [hw])
              | (go_at_call 54; refine (Major_any n _ hn1 hlt).mono ?_; rintro e wa ⟨b, hbb, rfl, hba, hrow⟩; have hkc := hrow.c x (by omega); have hlb := hrow.lt; have hbn : Below wr.heap.size wr wa := Below.trans (by go_grown) (hba.mono (by simp)); have q0 := keepC hbn (by omega) p0; have q1 := keepC hbn (by omega) p1; have sq : w.heap.size < wa.heap.size := Nat.lt_of_lt_of_le sp hbn.size))
          all_goals
            go_wp2_with fail
            go_meet
            case rel =>
              rw [hT2]
              exact ⟨rfl, hbn⟩
        · have hT2 : T = false := by rw [← hT]; unfold M.mt; simp [h1]
          subst hT2
          have h1' : ((M.frs n + m) % 7 == (x : Int)) = false := by simpa using h1
          clear hT hmt h1
          have hfi : ∀ W, Calls Tryd.prog 53 #[.int .i64 n] W fun e w' => e = .returned (.int .i64 (M.frs n)) ∧ w' = W := fun W => First_any n W hn1 hlt
          generalize M.frs n = FR at *
          have hfq : ∀ W, Calls Tryd.prog 53 #[.int .i64 n] W fun e w' => e = .returned (.int .i64 FR) ∧ w' = W := hfi
          go_quiet (first | (go_at_call 53; exact Calls.quiet_of_same (hfq _)))
          go_wp2_with fail
          go_meet
          case rel => exact ⟨rfl, below_drewN (Below.refl _ _) _⟩
      case rest =>
        obtain ⟨rfl, hbx⟩ := hcut
        have zx := hbx.size
        have hbx1 := hbr.trans (hbx.mono hbr.size)
        cases T
        · have hne : M.zr x a m ≠ n := by
            have := HT.out
            rw [hmt] at this
            exact of_decide_eq_false this
          have hno2 : Hid (∀ n', -7 ≤ n' → n' < n + 1 → M.zr x a m ≠ n') := fun n' h1 h2 => by
            by_cases h3 : n' = n
            · rw [h3]; exact hne
            · exact hno.out n' h1 (by omega)
          clear hmt hT hne
          go_wp2_with fail
          go_roundw
          case rel => exact ⟨n + 1, by omega, by omega, rfl, hno2, hbx1⟩
          case measure => simp [intOf]; omega
        · have he : M.zr x a m = n := by
            have := HT.out
            rw [hmt] at this
            exact of_decide_eq_true this
          have hz : M.z7 (M.zr x a m) = true := by rw [he]; exact decide_eq_true ⟨hn1, hlt⟩
          have k1 := M.zk_mk hm hr hz
          have hh := HZ.out
          rw [M.zs_yes k1, M.ze_yes k1, he] at hh
          obtain ⟨rfl, rfl⟩ := hh
          clear hmt hT hz k1
          go_wp2_with fail
          go_returns
          exact ⟨rfl, hb01.trans (hbx1.mono (by omega))⟩
    · have hn8 : n = 8 := by omega
      have hz : M.z7 (M.zr x a m) = false := by
        cases h : M.z7 (M.zr x a m)
        · rfl
        · have h7 := M.z7_yes h
          exact absurd rfl (hno.out (M.zr x a m) h7.1 (by omega))
      obtain ⟨k1, k2⟩ := M.ze_range hm hr hz
      have hh := HZ.out
      rw [M.zs_no k1, k2] at hh
      obtain ⟨rfl, rfl⟩ := hh
      go_wp2_with fail
      go_returns
      exact ⟨rfl, hb01.trans (hbr.mono (by omega))⟩

theorem refSigns_any (l a m : Int) (w : World) (a1 : -9223372036854775808 ≤ a) (a2 : a ≤ 9223372036854775807) :
    Calls Tryd.prog 20 #[.agg #[.int .i64 l, .int .i64 a], .int .i64 m] w fun e w' => e = .returned (.tuple #[.int .i64 (M.zs l a m), .int .i64 (M.ze l a m)]) ∧ Below w.heap.size w w' := by
  cases hm : M.mok m
  · obtain ⟨k1, k2⟩ := M.ze_kind (l := l) (a := a) hm
    rw [M.zs_no k1, k2]; exact refSigns_kind l a m w hm
  · cases hr : M.rt l a 0
    · obtain ⟨k1, k2⟩ := M.ze_form (l := l) (a := a) hm hr
      rw [M.zs_no k1, k2]; exact refSigns_form l a m w a1 a2 hm hr
    · have := M.rt_yes hr
      obtain ⟨x, rfl⟩ : ∃ x : Nat, l = x := ⟨l.toNat, by omega⟩
      exact refSigns_in x a m w hm hr

end Go.Proofs.YtdjdnjaijpafgabDoor
