/- What the document's Wrong, piece and Twice come to. -/
import Derived.Test.YtmccbokjigjpnaeK3
import Derived.Test.YtmccbokjigjpnaeKMath3
namespace Go.Proofs.Ytmccbokjigjpnae.F
open Go.RowKit
set_option linter.unusedVariables false
set_option linter.unusedSimpArgs false

/-- The tick of the mark ahead, in the document's way. -/
def lastOf (A : Nat → Int) : Nat → Int
  | 0 => -1
  | k + 1 => A k

set_option maxHeartbeats 4000000 in
theorem refWrong7_any (ao : Option Addr) (n c : Nat) (A P : Nat → Int) (R : Nat → Bool) (w : World) (hp : ML w ao n A P R) (hc : n ≤ c) (hcm : c ≤ 9223372036854775807) :
    Calls Try.prog 8 #[.slice ao n c] w fun e w' => e = .returned (.int .i64 (K.M.wr A P n)) ∧ Below w.heap.size w w' := by
  by_cases hz : n = 0
  · rw [K.M.wr_many (Or.inl hz)]
    subst hz
    go_enter Try.func8, Try.ntmps8
    go_wp2_with fail
    go_returns
    exact ⟨rfl, by go_grown⟩
  have hz1 : ¬ (n : Int) < 1 := by omega
  by_cases hm : 256 < n
  · rw [K.M.wr_many (Or.inr hm)]
    have hm' : (256 : Int) < n := by omega
    go_enter Try.func8, Try.ntmps8
    go_wp2_with fail
    go_returns
    exact ⟨rfl, by go_grown⟩
  have hn : ¬ (n = 0 ∨ 256 < n) := by omega
  have hm' : ¬ (256 : Int) < n := by omega
  obtain ⟨b, off, rfl, hbl, q0, q1, q2⟩ := hp.at' (by omega)
  have HE : Hid (K.M.wk A P n = 0 → K.M.wr A P n = 0) := K.M.wr_end hn
  have HW : Hid (∀ k v, k < n → K.M.wk A P k = 0 → K.M.bad A P k = v → v ≠ 0 → K.M.wr A P n = v) := fun k v a b d e => K.M.wr_at k v a hn b d e
  generalize K.M.wr A P n = V at *
  go_enter Try.func8, Try.ntmps8
  go_wp2_with fail
  go_loopw [3, 16] (fun l i wr => ∃ (k : Nat) (Z : Int), k ≤ n ∧ i = .int .i64 k ∧ l = .int .i64 Z ∧ Hid (Z = lastOf A k) ∧ Hid (K.M.wk A P k = 0) ∧ Below w.heap.size w wr) (fun _ i _ => n - (intOf i).toNat)
  case atStart => exact ⟨0, -1, by omega, rfl, rfl, rfl, rfl, by go_grown⟩
  case round =>
    obtain ⟨k, Z, hkn, rfl, rfl, hZ, hwk, hbr⟩ := hrel
    have zr := hbr.size
    by_cases hlt : k < n
    · have r0 := keepC hbr hbl (q0 k hlt)
      have r1 := keepC hbr hbl (q1 k hlt)
      have r2 := keepC hbr hbl (q2 k hlt)
      have hbk : b < wr.heap.size := by omega
      by_cases c0 : P k < 1 ∨ 65536 < P k ∨ A k < 0 ∨ 1048576 < A k
      · have hV : Hid (V = 3) := HW.out k 3 hlt hwk.out (K.M.bad_range k c0) (by omega)
        rcases (show P k < 1 ∨ (1 ≤ P k ∧ 65536 < P k) ∨ (1 ≤ P k ∧ P k ≤ 65536 ∧ A k < 0) ∨ (1 ≤ P k ∧ P k ≤ 65536 ∧ 0 ≤ A k ∧ 1048576 < A k) by omega) with e | ⟨e1, e2⟩ | ⟨e1, e2, e3⟩ | ⟨e1, e2, e3, e4⟩
        all_goals
          clear q0 q1 q2 hwk c0 HW HE hZ
          go_wp2_with fail
          go_returns
          exact ⟨by rw [hV.out]; rfl, hbr.alloc hbr.size _⟩
      · have e1 : 1 ≤ P k := by omega
        have e2 : P k ≤ 65536 := by omega
        have e3 : 0 ≤ A k := by omega
        have e4 : A k ≤ 1048576 := by omega
        by_cases c4 : (k = 0 ∧ A 0 ≠ 0) ∨ (0 < k ∧ A k ≤ A (k - 1))
        · have hV : Hid (V = 8) := HW.out k 8 hlt hwk.out (K.M.bad_fit k (by omega) c4) (by omega)
          by_cases c5 : k = 0
          · subst c5
            have c6 : A 0 ≠ 0 := by
              rcases c4 with x | x
              · exact x.2
              · omega
            have c7 : (A 0 != 0) = true := by simp [c6]
            have c8 : ¬ A 0 ≤ Z := by have : Z = -1 := hZ.out
                                      omega
            clear q0 q1 q2 hwk c4 c0 HW HE hZ
            simp only [Nat.zero_mul, Nat.add_zero] at r0 r1 r2
            go_wp2_with fail
            go_returns
            exact ⟨by rw [hV.out]; rfl, hbr.alloc hbr.size _⟩
          · have c6 : A k ≤ Z := by
              have hZ' := hZ.out
              obtain ⟨j, rfl⟩ : ∃ j, k = j + 1 := ⟨k - 1, by omega⟩
              have : Z = A j := hZ'
              rcases c4 with x | x
              · omega
              · have := x.2; simp at this; omega
            clear q0 q1 q2 hwk c4 c0 HW HE hZ
            go_wp2_with fail
            go_returns
            exact ⟨by rw [hV.out]; rfl, hbr.alloc hbr.size _⟩
        · have hwk2 : Hid (K.M.wk A P (k + 1) = 0) := K.M.wk_next k hwk.out (K.M.ok_bad k (by omega) (by omega) (by omega) (by omega) (fun z => by
              by_cases g : A 0 = 0
              · exact g
              · exact absurd (Or.inl ⟨z, g⟩) c4) (fun z => by
              have : ¬ A k ≤ A (k - 1) := fun g => c4 (Or.inr ⟨z, g⟩)
              omega))
          have hZ2 : Hid (A k = lastOf A (k + 1)) := rfl
          by_cases c5 : k = 0
          · subst c5
            have c6 : A 0 = 0 := by
              by_cases g : A 0 = 0
              · exact g
              · exact absurd (Or.inl ⟨rfl, g⟩) c4
            have c8 : ¬ (0 : Int) ≤ Z := by have : Z = -1 := hZ.out
                                            omega
            have hZ3 : Hid (0 = lastOf A 1) := by have := hZ2.out; rw [c6] at this; exact this
            clear q0 q1 q2 hwk c4 c0 HW HE hZ hZ2
            simp only [Nat.zero_mul, Nat.add_zero, c6] at r0 r1 r2
            go_wp2_with fail
            go_roundw
            case rel => exact ⟨1, 0, by omega, rfl, rfl, hZ3, hwk2, hbr.alloc hbr.size _⟩
            case measure => simp [intOf]; omega
          · have c6 : ¬ A k ≤ Z := by
              have hZ' := hZ.out
              have : ¬ A k ≤ A (k - 1) := fun g => c4 (Or.inr ⟨by omega, g⟩)
              obtain ⟨j, rfl⟩ : ∃ j, k = j + 1 := ⟨k - 1, by omega⟩
              have : Z = A j := hZ'
              simp at *; omega
            have k0 : ((k : Int) == 0) = false := by simp; omega
            clear q0 q1 q2 hwk c4 c0 HW HE hZ
            go_wp2_with fail
            go_roundw
            case rel => exact ⟨k + 1, A k, by omega, by first | rfl | go_num, rfl, hZ2, hwk2, hbr.alloc hbr.size _⟩
            case measure => simp [intOf]; omega
    · obtain rfl : k = n := by omega
      have hV : Hid (V = 0) := HE.out hwk.out
      clear q0 q1 q2 hwk HW HE hZ
      go_wp2_with fail
      go_returns
      exact ⟨by rw [hV.out]; rfl, hbr⟩

theorem piece_any (p q L d : Int) (w : World) (p1 : 1 ≤ p) (p2 : p ≤ 65536) (q1 : 1 ≤ q) (q2 : q ≤ 65536) (d1 : 0 ≤ d) (d2 : d ≤ L) (l2 : L ≤ 1048576) :
    Calls Try.prog 18 #[.int .i64 p, .int .i64 q, .int .i64 L, .int .i64 d] w fun e w' => e = .returned (.int .i64 (2 * p * d * L + (q - p) * d * d)) ∧ w' = w := by
  obtain ⟨m1, m2⟩ := mul_bd (2 * p) d 131072 1048576 (by omega) (by omega) (by omega) (by omega)
  obtain ⟨m3, m4⟩ := mul_bd (2 * p * d) L 137438953472 1048576 (by omega) (by omega) (by omega) (by omega)
  obtain ⟨m5, m6⟩ := mul_abs (q - p) d 65536 1048576 (by omega) (by omega) d1 (by omega) (by omega)
  obtain ⟨m7, m8⟩ := mul_abs ((q - p) * d) d 68719476736 1048576 (by omega) (by omega) d1 (by omega) (by omega)
  go_enter Try.func18, Try.ntmps18
  go_wp2_with fail
  go_ret
  exact ⟨rfl, rfl⟩
end Go.Proofs.Ytmccbokjigjpnae.F
