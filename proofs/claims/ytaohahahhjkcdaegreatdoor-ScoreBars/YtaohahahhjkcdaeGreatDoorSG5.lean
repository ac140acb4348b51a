/- What the program's divisor comes to: the greatest common divisor of its two numbers. -/
import Derived.Test.YtaohahahhjkcdaeGreatDoorRows
import Derived.Test.YtaohahahhjkcdaeGreatDoorSG1
import Derived.WalkKit
import Derived.Handy
import Derived.RegionTactic
import Derived.ChangeAlike
import Derived.Below
import Derived.Outline
import Derived.Deep.QuietTactic
import Derived.BigQuiet
namespace Go.Proofs.YtaohahahhjkcdaeGreatDoor.F
open Go.RowKit

theorem ret_int {k : IntKind} {a b : Int} (h : a = b) : Ending.returned (.int k a) = .returned (.int k b) := by rw [h]

theorem abs_gi (u d x : Int) (hg : Int.gcd x 0 = Int.gcd u d) (h : 0 ≤ x) : x = M.gi u d := by
  unfold M.gi; rw [← hg, Int.gcd_zero_right]; omega

theorem abs_gi' (u d x : Int) (hg : Int.gcd x 0 = Int.gcd u d) (h : x < 0) : -x = M.gi u d := by
  unfold M.gi; rw [← hg, Int.gcd_zero_right]; omega

set_option maxHeartbeats 400000 in
theorem divisor_any (u d : Int) (w : World) (h1 : 1 ≤ d) (h2 : d ≤ 9223372036854775807) (_h3 : -9223372036854775808 ≤ u) (_h4 : u ≤ 9223372036854775807) :
    Calls Tryz.prog 46 #[.int .i64 u, .int .i64 d] w fun e w' => e = .returned (.int .i64 (M.gi u d)) ∧ Below w.heap.size w w' := by
  have hd0 : (d == 0) = false := by simp; omega
  have hb0 := M.tmod_bd u d (by omega)
  go_enter Tryz.func46, Tryz.ntmps46
  go_wp2
  go_region
  go_wp2
  go_loopw [5, 6] (fun a b wr => ∃ x y : Int, a = .int .i64 x ∧ b = .int .i64 y ∧ Int.gcd x y = Int.gcd u d ∧ -9223372036854775807 ≤ x ∧ x ≤ 9223372036854775807 ∧ -9223372036854775807 ≤ y ∧ y ≤ 9223372036854775807 ∧ Below w.heap.size w wr) (fun _ b _ => (intOf b).natAbs)
  case atStart => exact ⟨d, u.tmod d, rfl, rfl, M.gcd_tmod u d, by omega, by omega, by omega, by omega, (Below.refl _ _).drew⟩
  case round =>
    obtain ⟨x, y, rfl, rfl, hg, hx1, hx2, hy1, hy2, hbel⟩ := hrel
    have HG : Hid (Int.gcd x y = Int.gcd u d) := hg
    clear hg
    by_cases hy : y = 0
    · subst hy
      by_cases hx : x < 0
      · go_wp2
        go_ret
        exact ⟨ret_int (abs_gi' u d x HG.out hx), hbel⟩
      · have hx' : 0 ≤ x := by omega
        go_wp2
        go_ret
        exact ⟨ret_int (abs_gi u d x HG.out hx'), hbel⟩
    · have hy0 : (y == 0) = false := by simp; omega
      have hb := M.tmod_bd x y hy
      have HG2 : Hid (Int.gcd y (x.tmod y) = Int.gcd u d) := by show _ = _; rw [M.gcd_tmod]; exact HG.out
      go_wp2
      go_region
      go_wp2
      go_roundw
      case rel => exact ⟨y, x.tmod y, rfl, rfl, HG2.out, by omega, by omega, by omega, by omega, hbel.drew⟩
      case measure => simp only [intOf]; exact hb

theorem abs_yes (n : Int) (w : World) (h0 : 0 ≤ n) (h : n ≤ 9223372036854775807) :
    Calls Tryz.prog 15 #[.int .i64 n] w fun e w' => e = .returned (.int .i64 (n.natAbs : Nat)) ∧ w = w' := by
  go_enter Tryz.func15, Tryz.ntmps15
  go_wp2
  go_ret
  exact ⟨ret_int (by omega), rfl⟩

theorem abs_no (n : Int) (w : World) (h0 : n < 0) (h : -9223372036854775807 ≤ n) :
    Calls Tryz.prog 15 #[.int .i64 n] w fun e w' => e = .returned (.int .i64 (n.natAbs : Nat)) ∧ w = w' := by
  go_enter Tryz.func15, Tryz.ntmps15
  go_wp2
  go_ret
  exact ⟨ret_int (by omega), rfl⟩

theorem abs_any (n : Int) (w : World) (h0 : -9223372036854775807 ≤ n) (h : n ≤ 9223372036854775807) :
    Calls Tryz.prog 15 #[.int .i64 n] w fun e w' => e = .returned (.int .i64 (n.natAbs : Nat)) ∧ w = w' := by
  by_cases c : n < 0
  · exact abs_no n w c h0
  · exact abs_yes n w (by omega) h

set_option maxHeartbeats 1000000 in
theorem Divisor_any (a b : Int) (w : World) (h1 : 1 ≤ a) (h2 : a ≤ 9223372036854775807) (h3 : 1 ≤ b) (h4 : b ≤ 9223372036854775807) :
    Calls Tryz.prog 14 #[.int .i64 a, .int .i64 b] w fun e w' => e = .returned (.int .i64 (M.gi a b)) ∧ w = w' := by
  have ha0 : (a == 0) = false := by simp; omega
  have hga : M.gi a b ≤ b := M.gi_le a b h3
  go_enter Tryz.func14, Tryz.ntmps14
  go_wp2
  go_loop [0, 1, 5] (fun p q r => ∃ (x y : Int) (t : Nat), p = .int .i64 x ∧ q = .int .i64 y ∧ r = .int .i64 t ∧ 1 ≤ x ∧ t + x ≤ a ∧ 1 ≤ y ∧ y ≤ b ∧ M.P2 t (M.gi a b) (M.gi x y)) (fun p _ _ => (intOf p).toNat)
  case atStart => exact ⟨a, b, 0, rfl, rfl, rfl, by omega, by omega, by omega, by omega, M.p2_0 _⟩
  case round =>
    obtain ⟨x, y, t, rfl, rfl, rfl, hx1, hx2, hy1, hy2, hp⟩ := hrel
    by_cases hc : x % 2 = 0 ∧ y % 2 = 0
    · have hxx : (x % 2 == 0) = true := by simp [hc.1]
      have hyy : (y % 2 == 0) = true := by simp [hc.2]
      have HP : M.P2 (t + 1) (M.gi a b) (M.gi (x / 2) (y / 2)) := M.p2_step _ _ _ (by rw [← M.gi_both x y hc.1 hc.2]; exact hp)
      have hx2' : 2 ≤ x := by omega
      have hy2' : 2 ≤ y := by omega
      clear hc hp
      go_wp2
      go_round
      case rel => exact ⟨x / 2, y / 2, t + 1, rfl, rfl, by go_num, by omega, by omega, by omega, by omega, HP⟩
      case measure => simp only [intOf]; omega
    · have hodd : Hid (x % 2 = 1 ∨ y % 2 = 1) := by show _ ∨ _; omega
      have hside : (x % 2 == 0) = false ∨ ((x % 2 == 0) = true ∧ (y % 2 == 0) = false) := by
        by_cases hx : x % 2 = 0
        · right; simp [hx]; omega
        · left; simp; omega
      clear hc
      rcases hside with hx | ⟨hx, hy⟩
      all_goals
        go_wp2
        go_loop [0, 1] (fun p q => ∃ (x y : Int), p = .int .i64 x ∧ q = .int .i64 y ∧ 1 ≤ x ∧ x ≤ a ∧ 1 ≤ y ∧ y ≤ b ∧ Hid (x % 2 = 1 ∨ y % 2 = 1) ∧ M.P2 t (M.gi a b) (M.gi x y)) (fun p q => (intOf p).toNat + (intOf q).toNat)
        case atStart => exact ⟨x, y, rfl, rfl, by omega, by omega, by omega, by omega, hodd, hp⟩
        case round =>
          clear hx hodd hp
          obtain ⟨p, q, rfl, rfl, hp1, hp2, hq1, hq2, hodd, hp⟩ := hrel
          by_cases hpq : p = q
          · subst hpq
            have hpe : M.P2 t (M.gi a b) p := by rw [M.gi_self p hp1] at hp; exact hp
            clear hp
            go_wp2
            go_loop [0, 5] (fun m n => ∃ (z : Int) (s : Nat), m = .int .i64 z ∧ n = .int .i64 s ∧ 1 ≤ z ∧ (s : Int) ≤ 9223372036854775807 ∧ M.P2 s (M.gi a b) z) (fun _ n => (intOf n).toNat)
            case atStart => exact ⟨p, t, rfl, rfl, by omega, by omega, hpe⟩
            case round =>
              obtain ⟨z, s, rfl, rfl, hz1, hs1, hzs⟩ := hrel
              by_cases hs : s = 0
              · subst hs
                go_wp2
                go_ret
                exact ⟨ret_int (M.p2_eq _ _ hzs).symm, rfl⟩
              · obtain ⟨s', rfl⟩ : ∃ s', s = s' + 1 := ⟨s - 1, by omega⟩
                have hz2 := M.p2_up _ _ _ hzs
                have hz3 := M.p2_le _ _ _ hz2 (by omega)
                clear hzs hs
                go_wp2
                go_round
                case rel => exact ⟨2 * z, s', by go_num, by go_num, by omega, by omega, hz2⟩
                case measure => simp only [intOf]; omega
          · have hne : (p == q) = false := by simp; omega
            by_cases hpe : p % 2 = 0
            · have hpp : (p % 2 == 0) = true := by simp [hpe]
              have hqo : q % 2 = 1 := by have := hodd.out; omega
              have HO : Hid (p / 2 % 2 = 1 ∨ q % 2 = 1) := Or.inr hqo
              have HP : M.P2 t (M.gi a b) (M.gi (p / 2) q) := by rw [← M.gi_l p q hpe hqo]; exact hp
              have hp2' : 2 ≤ p := by omega
              clear hpe hqo hp hodd hpq
              go_wp2
              go_round
              case rel => exact ⟨p / 2, q, rfl, rfl, by omega, by omega, by omega, by omega, HO, HP⟩
              case measure => simp only [intOf]; omega
            · have hpp : (p % 2 == 0) = false := by simp; omega
              by_cases hqe : q % 2 = 0
              · have hqq : (q % 2 == 0) = true := by simp [hqe]
                have HO : Hid (p % 2 = 1 ∨ q / 2 % 2 = 1) := Or.inl (by omega)
                have HP : M.P2 t (M.gi a b) (M.gi p (q / 2)) := by rw [← M.gi_r p q (by omega) hqe]; exact hp
                have hq2' : 2 ≤ q := by omega
                clear hpe hqe hp hodd hpq
                go_wp2
                go_round
                case rel => exact ⟨p, q / 2, rfl, rfl, by omega, by omega, by omega, by omega, HO, HP⟩
                case measure => simp only [intOf]; omega
              · have hqq : (q % 2 == 0) = false := by simp; omega
                by_cases hlt : q < p
                · have HO : Hid ((p - q) % 2 = 1 ∨ q % 2 = 1) := Or.inr (by omega)
                  have HP : M.P2 t (M.gi a b) (M.gi (p - q) q) := by rw [← M.gi_sl p q]; exact hp
                  clear hpe hqe hp hodd hpq
                  go_wp2
                  go_round
                  case rel => exact ⟨p - q, q, rfl, rfl, by omega, by omega, by omega, by omega, HO, HP⟩
                  case measure => simp only [intOf]; omega
                · have HO : Hid (p % 2 = 1 ∨ (q - p) % 2 = 1) := Or.inl (by omega)
                  have HP : M.P2 t (M.gi a b) (M.gi p (q - p)) := by rw [← M.gi_sr p q]; exact hp
                  have hlt' : p < q := by omega
                  clear hpe hqe hp hodd hpq
                  go_wp2
                  go_round
                  case rel => exact ⟨p, q - p, rfl, rfl, by omega, by omega, by omega, by omega, HO, HP⟩
                  case measure => simp only [intOf]; omega

theorem Divisor_zero (b : Int) (w : World) (h3 : 1 ≤ b) :
    Calls Tryz.prog 14 #[.int .i64 0, .int .i64 b] w fun e w' => e = .returned (.int .i64 (M.gi 0 b)) ∧ w = w' := by
  go_enter Tryz.func14, Tryz.ntmps14
  go_wp2
  go_ret
  exact ⟨ret_int (by unfold M.gi; rw [Int.gcd_zero_left]; omega), rfl⟩

theorem Divisor_all (a b : Int) (w : World) (h1 : 0 ≤ a) (h2 : a ≤ 9223372036854775807) (h3 : 1 ≤ b) (h4 : b ≤ 9223372036854775807) :
    Calls Tryz.prog 14 #[.int .i64 a, .int .i64 b] w fun e w' => e = .returned (.int .i64 (M.gi a b)) ∧ w = w' := by
  by_cases h : a = 0
  · subst h; exact Divisor_zero b w h3
  · exact Divisor_any a b w (by omega) h2 h3 h4
end Go.Proofs.YtaohahahhjkcdaeGreatDoor.F
