/- The document's dither: one sum, in the words of the plain part; a list; Same. -/
import Derived.Test.YtancpboepekflaaMx5
namespace Go.Proofs.Ytancpboepekflaa.Mx
open Go.RowKit Go.Maps Go.Sort
set_option linter.unusedVariables false
set_option linter.unusedSimpArgs false

theorem floor_is (A R m : Int) (h0 : 0 ≤ m) (h1 : m < 65536) (h : A = 65536 * R + m) : (A.tmod 65536 < 0 ∧ A.tdiv 65536 - 1 = R) ∨ (¬ A.tmod 65536 < 0 ∧ A.tdiv 65536 = R) := by
  have e := Int.mul_tdiv_add_tmod A 65536
  by_cases c : 0 ≤ A
  · have t0 := Int.tmod_nonneg 65536 c
    have t1 := Int.tmod_lt_of_pos A (show (0 : Int) < 65536 by decide)
    omega
  · have t0 := Int.tmod_nonneg 65536 (show 0 ≤ -A by omega)
    have t1 := Int.tmod_lt_of_pos (-A) (show (0 : Int) < 65536 by decide)
    rw [Int.neg_tmod] at t0 t1
    omega
theorem One_any (s : Dt) (hg : Gd s) (x : Int) (hx1 : -4503599627370496 ≤ x) (hx2 : x ≤ 4503599627370496) (hC : s.clip < 2305843009213693952) (w : World) :
    Calls Try.prog 22 #[sv s, .int .i64 x] w fun e w' => e = .returned (.tuple #[sv (nxt s x), .int .i64 (cut (raw s x))]) ∧ Below w.heap.size w w' := by
  obtain ⟨m, m0, m1, me⟩ := raw_eq s x
  have n1 := noise_lt s.seed
  have h1 := hg.r1
  have h2 := hg.r2
  have hl := sd_lt s.seed
  refine One_gen s.seed (sd s.seed) (sd s.seed / 65536) s.rest s.loud (raw s x) (cut (raw s x)) x _ _ _ (mx s.loud (ab (cut (raw s x)))) (if cut (raw s x) = raw s x then x + s.rest - 65536 * raw s x else 0) s.clip (if cut (raw s x) = raw s x then s.clip else s.clip + 1) w (by unfold sd; omega) hl (by omega) n1 hx1 hx2 h1 h2 rfl rfl rfl (floor_is _ _ m m0 m1 me) (by omega) hC ?_ ?_
  · generalize raw s x = R at *
    unfold cut
    by_cases c1 : 32767 < R
    · left; rw [if_pos c1, if_neg (by omega), if_neg (by omega)]; exact ⟨c1, rfl, rfl, rfl⟩
    · right
      rw [if_neg c1]
      by_cases c2 : R < -32768
      · left; rw [if_pos c2, if_neg (by omega), if_neg (by omega)]; exact ⟨c1, c2, rfl, rfl, rfl⟩
      · right; rw [if_neg c2, if_pos rfl, if_pos rfl]; exact ⟨c1, c2, rfl, rfl, rfl⟩
  · unfold mx
    by_cases c : s.loud < ab (cut (raw s x))
    · left; rw [if_pos c]; exact ⟨c, rfl⟩
    · right; rw [if_neg c]; exact ⟨c, rfl⟩
set_option maxHeartbeats 2000000 in
theorem Same_any (w : World) (S S' : Nat → Prop) (ao bo : Option Addr) (g h : List Int) (c d : Nat) (ha : IL w S ao g) (hb : IL w S' bo h) (e : g = h) (mc1 : g.length ≤ c) (mc2 : c ≤ 9223372036854775807) (md1 : g.length ≤ d) (md2 : d ≤ 9223372036854775807) (hm : g.length ≤ 4611686018427387904) :
    Calls Try.prog 9 #[.slice ao g.length c, .slice bo g.length d] w fun e w' => e = .returned (.bool true) ∧ Below w.heap.size w w' := by
  subst e
  obtain ⟨m, hm'⟩ : ∃ m, m = g.length := ⟨_, rfl⟩
  rw [← hm'] at mc1 md1 hm ⊢
  have HA : Hid (IL w S ao g) := ha
  have HB : Hid (IL w S' bo g) := hb
  have HG : Hid (m = g.length) := hm'
  clear ha hb hm'
  go_enter Try.func9, Try.ntmps9
  go_wp2_with fail
  go_loopw [13] (fun i ww => ∃ k : Nat, k ≤ m ∧ i = .int .i64 k ∧ Below w.heap.size w ww) (fun i _ => m - (intOf i).toNat)
  case atStart => exact ⟨0, by omega, rfl, Below.refl _ _⟩
  case round =>
    obtain ⟨k, hk, rfl, hbr⟩ := hrel
    by_cases hlt : k < m
    · obtain ⟨na, oa, rfl, la, _, ga⟩ := HA.out.at' (by rw [← HG.out]; omega)
      obtain ⟨nb, ob, rfl, lb, _, gb⟩ := HB.out.at' (by rw [← HG.out]; omega)
      obtain ⟨x, hx⟩ : ∃ x, g[k]? = some x := ⟨_, List.getElem?_eq_getElem (by rw [← HG.out]; exact hlt)⟩
      have ca := keepC hbr (a := ⟨na, oa + k, none⟩) la (ga k x hx)
      have cb := keepC hbr (a := ⟨nb, ob + k, none⟩) lb (gb k x hx)
      have hlt' : (k : Int) < (m : Int) := by omega
      have w3 : IntKind.i64.wrap ((k : Int) + 1) = (k : Int) + 1 := wid (by omega) (by omega)
      have hne : (x != x) = false := by simp
      clear ga gb hx
      go_wp2_with fail
      go_quiet (fail)
      go_wp2_with fail
      go_roundw
      case rel => exact ⟨k + 1, by omega, by go_num, below_drewN hbr _⟩
      case measure => simp [intOf]; omega
    · go_wp2_with fail
      go_ret
      exact ⟨rfl, hbr⟩
/-- What the document's Run leaves. -/
structure RfQ (w : World) (s : Dt) (l : List Int) (e : Ending) (w' : World) : Prop where
  ex : ∃ v base, e = .returned (.tuple #[sv (pst s l), v, .int .i64 (prr s l).e]) ∧ w.heap.size ≤ base ∧ w'.ownsRow base 3 1 v (prr s l).l.length (ints (prr s l).l)
  b : Below w.heap.size w w'
end Go.Proofs.Ytancpboepekflaa.Mx
