/- sort.Search with the closure of longer. -/
import Derived.Test.YtpacfppnmenndaaTk2
import Derived.Test.YtpacfppnmenndaaTkCopy
import Derived.Test.YtpacfppnmenndaaRLast
namespace Go.Proofs.Ytpacfppnmenndaa.Tk
open Go.RowKit Go.Maps Go.Sort Go.Proofs.Ytpacfppnmenndaa.Rg
open Go.Proofs.Ytpacfppnmenndaa.Y (Tn lt okT wr fst cod bfr OkL TL tab tc rows)
set_option linter.unusedVariables false
set_option linter.unusedSimpArgs false

set_option maxRecDepth 20000 in
set_option maxHeartbeats 4000000 in
theorem Search_any (bl bt : Nat) (S : Nat → Prop) (ao : Option Addr) (n c : Nat) (L : List Tn) (t : Tn) (w : World) (hx : Bx w bl bt ao n c t) (hL : LN w S ao L) (hn : L.length = n) (hc : n ≤ c) (hcm : c ≤ 9223372036854775807) (hr : Rt L) (ht : wt t = 0) :
    Calls Try.prog 45 #[.int .i64 n, .func (.func 46) #[] #[.pointer (some ⟨bl, 0, none⟩), .pointer (some ⟨bt, 0, none⟩)]] w fun e w' => e = .returned (.int .i64 (ps t L : Nat)) ∧ Below w.heap.size w w' := by
  have HC : ∀ (i : Nat) w', i < n → Below w.heap.size w w' → Calls Try.prog 46 #[.int .i64 i, .pointer (some ⟨bl, 0, none⟩), .pointer (some ⟨bt, 0, none⟩)] w' fun e w'' => e = .returned (.bool (lt t (fn L i))) ∧ Below w'.heap.size w' w'' :=
    fun i w' hi hb => asks_any bl bt S ao n c i L t w' (hx.bel hb) (hL.bel hb) hn hc hcm hi hr ht
  have HM : Hid (∀ i j, i ≤ j → j < n → lt t (fn L i) = true → lt t (fn L j) = true) := fun i j h1 h2 h3 => hr.mono h1 (by omega) h3
  have HP : Hid (∀ k, k ≤ n → (∀ j, j < k → lt t (fn L j) = false) → (k < n → lt t (fn L k) = true) → k = ps t L) := fun k h1 h2 h3 => ps_is (by omega) h2 (fun h => h3 (by omega))
  have hn2 : n ≤ 1024 := by have := hr.1; omega
  clear hx hL hr ht hn
  generalize ps t L = R at *
  generalize lt t = F at *
  generalize fn L = G at *
  go_enter Try.func45, Try.ntmps45
  go_wp2_with fail
  go_loopw [5, 6] (fun i j wr => ∃ lo hi : Nat, i = .int .i64 lo ∧ j = .int .i64 hi ∧ lo ≤ hi ∧ hi ≤ n ∧ Hid (∀ q, q < lo → F (G q) = false) ∧ Hid (hi < n → F (G hi) = true) ∧ Below w.heap.size w wr)
    (fun i j _ => (intOf j - intOf i).toNat)
  case atStart => exact ⟨0, n, rfl, rfl, by omega, by omega, fun t a => by omega, fun a => by omega, by go_grown⟩
  case round =>
    obtain ⟨lo, hi, rfl, rfl, l1, l2, I1, I2, hbr⟩ := hrel
    by_cases hlt : lo < hi
    · have hm := HC ((lo + hi) / 2) wr (by omega) hbr
      have em : (((lo + hi) / 2 : Nat) : Int) = ((lo : Int) + (hi : Int)) / 2 := by omega
      by_cases hq : F (G ((lo + hi) / 2)) = true
      · have K2 : Hid (((lo + hi) / 2 < n → F (G ((lo + hi) / 2)) = true)) := fun _ => hq
        rw [hq, em] at hm
        clear hq HM HP
        go_wp2_with fail
        refine hm.mono ?_
        rintro e w1 ⟨rfl, hb1⟩
        go_wp2_with fail
        go_roundw
        case rel => exact ⟨lo, (lo + hi) / 2, rfl, by rw [em], by omega, by omega, I1, K2, hbr.trans (hb1.mono hbr.size)⟩
        case measure => simp [intOf]; omega
      · have hq2 : F (G ((lo + hi) / 2)) = false := by cases h : F (G ((lo + hi) / 2)); rfl; exact absurd h hq
        have K1 : Hid (∀ q, q < (lo + hi) / 2 + 1 → F (G q) = false) := fun q hlq => by
          cases h : F (G q)
          · rfl
          · have := HM.out q ((lo + hi) / 2) (by omega) (by omega) h
            exact absurd this hq
        rw [hq2, em] at hm
        clear hq hq2 HM HP
        go_wp2_with fail
        refine hm.mono ?_
        rintro e w1 ⟨rfl, hb1⟩
        go_wp2_with fail
        go_roundw
        case rel => exact ⟨(lo + hi) / 2 + 1, hi, by rw [show ((((lo + hi) / 2 + 1 : Nat)) : Int) = ((lo : Int) + (hi : Int)) / 2 + 1 by omega], rfl, by omega, by omega, K1, I2, hbr.trans (hb1.mono hbr.size)⟩
        case measure => simp [intOf]; omega
    · obtain rfl : lo = hi := by omega
      have e := HP.out lo l2 I1.out I2.out
      clear HM HP HC
      subst e
      go_wp2_with fail
      go_ret
      exact ⟨rfl, hbr⟩
/-- A new line is answered. -/
structure NL (w : World) (L : List Tn) (e : Ending) (w' : World) : Prop where
  b : Below w.heap.size w w'
  o : ∃ g, e = .returned (.slice (some ⟨g, 0, none⟩) L.length L.length) ∧ LN w' (fun k => w.heap.size ≤ k) (some ⟨g, 0, none⟩) L
end Go.Proofs.Ytpacfppnmenndaa.Tk
