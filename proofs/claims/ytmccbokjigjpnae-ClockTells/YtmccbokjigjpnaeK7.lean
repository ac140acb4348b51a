/- What the program's Back comes to: sort.Search with that closure, and Back. -/
import Derived.Test.YtmccbokjigjpnaeK6
namespace Go.Proofs.Ytmccbokjigjpnae.F
open Go.RowKit
set_option linter.unusedVariables false
set_option linter.unusedSimpArgs false

set_option maxHeartbeats 2000000 in
theorem Search_any (bl br bp : Nat) (ao : Option Addr) (n c : Nat) (A P : Nat → Int) (R : Nat → Bool) (u d p : Int) (w : World) (hx : Bx w bl br bp ao n c u d p) (hp : ML w ao n A P R) (hc : n ≤ c) (hcm : c ≤ 9223372036854775807) (h : K.M.Rt A P n) (u1 : 0 < u) (u2 : u ≤ 4096) (d1 : 0 < d) :
    Calls Try.prog 22 #[.int .i64 1048577, .func (.func 23) #[] #[.pointer (some ⟨bl, 0, none⟩), .pointer (some ⟨br, 0, none⟩), .pointer (some ⟨bp, 0, none⟩)]] w fun e w' => ∃ H, e = .returned (.int .i64 H) ∧ K.M.Fst A P R n u d p H ∧ Below w.heap.size w w' := by
  have HC : ∀ (t : Int) w', 0 ≤ t → t ≤ 1048576 → Below w.heap.size w w' → Calls Try.prog 23 #[.int .i64 t, .pointer (some ⟨bl, 0, none⟩), .pointer (some ⟨br, 0, none⟩), .pointer (some ⟨bp, 0, none⟩)] w' fun e w'' => e = .returned (.bool (decide (p ≤ K.M.sm A P R n u d t))) ∧ Below w'.heap.size w' w'' :=
    fun t w' t1 t2 hb => asks_any bl br bp ao n c A P R t u d p w' (hx.step hb) (hp.step hb) hc hcm h t1 t2 u1 u2 d1
  have HM : Hid (∀ s t, 0 ≤ s → s ≤ t → K.M.sm A P R n u d s ≤ K.M.sm A P R n u d t) := fun s t => h.sm_mono u d s t u1 d1
  obtain ⟨N, hN⟩ : ∃ N : Nat, (N : Int) = 1048577 := ⟨1048577, rfl⟩
  rw [← hN]
  have hN' : Hid ((N : Int) = 1048577) := hN
  have hN2 : N ≤ 2000000 := by omega
  clear hN
  go_enter Try.func22, Try.ntmps22
  go_wp2_with fail
  go_loopw [5, 6] (fun i j wr => ∃ lo hi : Nat, i = .int .i64 lo ∧ j = .int .i64 hi ∧ lo ≤ hi ∧ hi ≤ N ∧ Hid (∀ t, 0 ≤ t → t < (lo : Int) → K.M.sm A P R n u d t < p) ∧ Hid (hi < N → p ≤ K.M.sm A P R n u d (hi : Int)) ∧ Below w.heap.size w wr)
    (fun i j _ => (intOf j - intOf i).toNat)
  case atStart => exact ⟨0, N, rfl, rfl, by omega, by omega, fun t a b => by omega, fun a => by omega, by go_grown⟩
  case round =>
    obtain ⟨lo, hi, rfl, rfl, l1, l2, I1, I2, hbr⟩ := hrel
    by_cases hlt : lo < hi
    · have hm := HC (((lo : Int) + (hi : Int)) / 2) wr (by omega) (by have := hN'.out; omega) hbr
      have J1 : Hid (¬ p ≤ K.M.sm A P R n u d (((lo : Int) + (hi : Int)) / 2) → ∀ t, 0 ≤ t → t < ((((lo + hi) / 2 + 1 : Nat) : Int)) → K.M.sm A P R n u d t < p) := fun a t b e => by
        have := HM.out t (((lo : Int) + (hi : Int)) / 2) b (by omega)
        omega
      have J2 : Hid (p ≤ K.M.sm A P R n u d (((lo : Int) + (hi : Int)) / 2) → (((lo + hi) / 2 < N → p ≤ K.M.sm A P R n u d (((lo + hi) / 2 : Nat) : Int)))) := fun a _ => by
        rw [show ((((lo + hi) / 2 : Nat)) : Int) = ((lo : Int) + (hi : Int)) / 2 by omega]; exact a
      by_cases hq : p ≤ K.M.sm A P R n u d (((lo : Int) + (hi : Int)) / 2)
      · have K2 : Hid (((lo + hi) / 2 < N → p ≤ K.M.sm A P R n u d (((lo + hi) / 2 : Nat) : Int))) := J2.out hq
        rw [decide_eq_true hq] at hm
        clear J1 J2 HM hq
        go_wp2_with fail
        refine hm.mono ?_
        rintro e w1 ⟨rfl, hb1⟩
        go_wp2_with fail
        go_roundw
        case rel => exact ⟨lo, (lo + hi) / 2, rfl, by rw [show ((((lo + hi) / 2 : Nat)) : Int) = ((lo : Int) + (hi : Int)) / 2 by omega], by omega, by omega, I1, K2, hbr.trans (hb1.mono hbr.size)⟩
        case measure => simp [intOf]; omega
      · have K1 := J1.out hq
        have K1' : Hid (∀ t, 0 ≤ t → t < ((((lo + hi) / 2 + 1 : Nat) : Int)) → K.M.sm A P R n u d t < p) := K1
        rw [decide_eq_false hq] at hm
        clear J1 J2 HM hq K1
        go_wp2_with fail
        refine hm.mono ?_
        rintro e w1 ⟨rfl, hb1⟩
        go_wp2_with fail
        go_roundw
        case rel => exact ⟨(lo + hi) / 2 + 1, hi, by rw [show ((((lo + hi) / 2 + 1 : Nat)) : Int) = ((lo : Int) + (hi : Int)) / 2 + 1 by omega], rfl, by omega, by omega, K1', I2, hbr.trans (hb1.mono hbr.size)⟩
        case measure => simp [intOf]; omega
    · obtain rfl : lo = hi := by omega
      go_wp2_with fail
      go_ret
      exact ⟨_, rfl, ⟨by omega, by have := hN'.out; omega, I1.out, fun a => I2.out (by have := hN'.out; omega)⟩, hbr⟩

end Go.Proofs.Ytmccbokjigjpnae.F
