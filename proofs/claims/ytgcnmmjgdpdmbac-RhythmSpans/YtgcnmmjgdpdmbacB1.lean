/- How a beat lies in memory; what the document's wrong comes to. -/
import Derived.Test.YtgcnmmjgdpdmbacBMath
import Derived.Test.YtgcnmmjgdpdmbacFW2
import Derived.LoopTactic
namespace Go.Proofs.Ytgcnmmjgdpdmbac.F
open Go.RowKit
set_option linter.unusedVariables false
set_option linter.unusedSimpArgs false

/-- A beat as it is read: its kids lie in blocks below B. -/
def Lies (w : World) (B : Nat) : M.Bt → Value → Prop
  | ⟨true, _, _, _, _⟩, _ => False
  | ⟨false, k, s, n, kid⟩, v => ∃ ao cap, v = .agg #[.int .i64 k, .int .i64 s, .slice ao n cap] ∧ n ≤ 9223372036854775807 ∧ (0 < n → ∃ b off, ao = some ⟨b, off, none⟩ ∧ b < B ∧ ∀ j, j < n → ∃ ao' cap', w.cell? ⟨b, off + j * 3, none⟩ = some (.int .i64 (kid j).k) ∧ w.cell? ⟨b, off + j * 3 + 1, none⟩ = some (.int .i64 (kid j).s) ∧ w.cell? ⟨b, off + j * 3 + 2, none⟩ = some (.slice ao' (kid j).n cap') ∧ Lies w B (kid j) (.agg #[.int .i64 (kid j).k, .int .i64 (kid j).s, .slice ao' (kid j).n cap']))
theorem Lies.step {w w' : World} {B : Nat} (b : M.Bt) : ∀ v, Lies w B b v → Below B w w' → Lies w' B b v := by
  induction b using M.Bt.ind with
  | nil => intro v h hb; exact False.elim h
  | mk k s n kid ih =>
    intro v h hb
    obtain ⟨ao, cap, h1, h2, h3⟩ := h
    refine ⟨ao, cap, h1, h2, fun hn => ?_⟩
    obtain ⟨b, off, e1, e2, e3⟩ := h3 hn
    refine ⟨b, off, e1, e2, fun j hj => ?_⟩
    obtain ⟨ao', cap', c0, c1, c2, c3⟩ := e3 j hj
    exact ⟨ao', cap', keepC hb e2 c0, keepC hb e2 c1, keepC hb e2 c2, ih j _ c3 hb⟩

/-- What the document's wrong answers. -/
def WrongC (b : M.Bt) : Prop := ∀ (lev l : Int) (w : World) (B : Nat) (v : Value), Lies w B b v → B ≤ w.heap.size → 1 ≤ lev → lev ≤ 33 → 0 ≤ l → l ≤ 4096 →
  Calls Try.prog 27 #[v, .int .i64 lev, .int .i64 l] w fun e w' => e = .returned (.tuple #[.int .i64 (M.wr b lev l).1, .int .i64 (M.wr b lev l).2]) ∧ Below w.heap.size w w'

theorem wrong_much (lev l k s : Int) (ao : Option Addr) (n cap : Nat) (w : World) (h1 : 1 ≤ lev) (h2 : lev ≤ 33) (h3 : 0 ≤ l) (h4 : l ≤ 4096) (h : 32 < lev ∨ l < 1) :
    Calls Try.prog 27 #[.agg #[.int .i64 k, .int .i64 s, .slice ao n cap], .int .i64 lev, .int .i64 l] w fun e w' => e = .returned (.tuple #[.int .i64 4, .int .i64 l]) ∧ Below w.heap.size w w' := by
  by_cases c : 32 < lev
  · go_enter Try.func27, Try.ntmps27
    go_wp2_with fail
    go_returns
    exact ⟨rfl, by go_grown⟩
  · have c2 : l < 1 := by omega
    go_enter Try.func27, Try.ntmps27
    go_wp2_with fail
    go_returns
    exact ⟨rfl, by go_grown⟩

theorem wrong_alone (lev l k s : Int) (ao : Option Addr) (n cap : Nat) (w : World) (h1 : 1 ≤ lev) (h2 : ¬ 32 < lev) (h3 : ¬ l < 1) (h4 : l ≤ 4096) (hn : n ≤ 9223372036854775807) (h : M.al k s n ≠ 0) :
    Calls Try.prog 27 #[.agg #[.int .i64 k, .int .i64 s, .slice ao n cap], .int .i64 lev, .int .i64 l] w fun e w' => e = .returned (.tuple #[.int .i64 (M.al k s n), .int .i64 (l - 1)]) ∧ Below w.heap.size w w' := by
  by_cases c1 : s < 1 ∨ 65536 < s
  · rw [M.al_share k s n c1]
    rcases (show s < 1 ∨ (¬ s < 1 ∧ 65536 < s) by omega) with c | ⟨c, c'⟩
    all_goals
      clear c1 h
      go_enter Try.func27, Try.ntmps27
      go_wp2_with fail
      go_returns
      exact ⟨rfl, by go_grown⟩
  by_cases c2 : k < 1 ∨ 4 < k
  · rw [M.al_kind k s n c1 c2]
    have d1 : ¬ s < 1 := by omega
    have d2 : ¬ 65536 < s := by omega
    rcases (show k < 1 ∨ (¬ k < 1 ∧ 4 < k) by omega) with c | ⟨c, c'⟩
    all_goals
      clear c1 c2 h
      go_enter Try.func27, Try.ntmps27
      go_wp2_with fail
      go_returns
      exact ⟨rfl, by go_grown⟩
  have c3 : (k = 4 ∧ n = 0) ∨ (k ≠ 4 ∧ 0 < n) := by
    by_cases c : (k = 4 ∧ n = 0) ∨ (k ≠ 4 ∧ 0 < n)
    · exact c
    · exact absurd (M.al_ok k s n c1 c2 c) h
  rw [M.al_many k s n c1 c2 c3]
  have d1 : ¬ s < 1 := by omega
  have d2 : ¬ 65536 < s := by omega
  have d3 : ¬ k < 1 := by omega
  have d4 : ¬ 4 < k := by omega
  rcases c3 with ⟨e1, e2⟩ | ⟨e1, e2⟩
  · subst e1 e2
    clear c1 c2 h
    go_enter Try.func27, Try.ntmps27
    go_wp2_with fail
    go_returns
    exact ⟨rfl, by go_grown⟩
  · have e3 : (k == 4) = false := by simpa using e1
    have e4 : (0 : Int) < n := by omega
    clear c1 c2 h
    go_enter Try.func27, Try.ntmps27
    go_wp2_with fail
    go_returns
    exact ⟨rfl, by go_grown⟩

set_option maxHeartbeats 2000000 in
theorem wrong_kids (k s : Int) (n : Nat) (kid : Nat → M.Bt) (ih : ∀ j, WrongC (kid j)) (lev l : Int) (w : World) (B : Nat) (ao : Option Addr) (cap : Nat) (hL : Lies w B (.mk k s n kid) (.agg #[.int .i64 k, .int .i64 s, .slice ao n cap])) (hB : B ≤ w.heap.size) (h1 : 1 ≤ lev) (h2 : ¬ 32 < lev) (h3 : ¬ l < 1) (h4 : l ≤ 4096) (h : M.al k s n = 0) :
    Calls Try.prog 27 #[.agg #[.int .i64 k, .int .i64 s, .slice ao n cap], .int .i64 lev, .int .i64 l] w fun e w' => e = .returned (.tuple #[.int .i64 (M.wr (.mk k s n kid) lev l).1, .int .i64 (M.wr (.mk k s n kid) lev l).2]) ∧ Below w.heap.size w w' := by
  rw [M.wr_kids k s n kid lev l (by omega) h]
  obtain ⟨ao1, cap1, e1, hn, hkids⟩ := hL
  simp only [Value.agg.injEq, Array.mk.injEq, List.cons.injEq, Value.slice.injEq, true_and, and_true] at e1
  obtain ⟨rfl, rfl⟩ : ao1 = ao ∧ cap1 = cap := by simpa [eq_comm] using e1
  clear e1
  have d0 : ¬ (s < 1 ∨ 65536 < s) := fun c => by rw [M.al_share k s n c] at h; omega
  have d0' : ¬ (k < 1 ∨ 4 < k) := fun c => by rw [M.al_kind k s n d0 c] at h; omega
  have d0'' : ¬ ((k = 4 ∧ n = 0) ∨ (k ≠ 4 ∧ 0 < n)) := fun c => by rw [M.al_many k s n d0 d0' c] at h; omega
  have d1 : ¬ s < 1 := by omega
  have d2 : ¬ 65536 < s := by omega
  have d3 : ¬ k < 1 := by omega
  have d4 : ¬ 4 < k := by omega
  have HK : Hid (∀ (i : Nat) (l' : Int), M.WK kid lev n i (l - 1) l' → i < n → ((M.wr (kid i) (lev + 1) l').1 ≠ 0 → M.wkids (fun j l => M.wr (kid j) (lev + 1) l) n 0 (l - 1) = M.wr (kid i) (lev + 1) l') ∧ ((M.wr (kid i) (lev + 1) l').1 = 0 → M.WK kid lev n (i + 1) (l - 1) (M.wr (kid i) (lev + 1) l').2)) := fun i l' hw hi => M.wk_step kid lev n i _ _ hw hi
  have HZ : Hid (∀ l' : Int, M.WK kid lev n n (l - 1) l' → M.wkids (fun j l => M.wr (kid j) (lev + 1) l) n 0 (l - 1) = (0, l')) := fun l' hw => M.wk_end kid lev n _ _ hw
  have HS : Hid (M.WK kid lev n 0 (l - 1) (l - 1)) := M.wk_start kid lev n (l - 1)
  generalize M.wkids (fun j l => M.wr (kid j) (lev + 1) l) n 0 (l - 1) = RR at *
  obtain ⟨RE, RL⟩ := RR
  dsimp only
  have e3 : (k == 4) = decide (0 < n) := by
    by_cases c : k = 4
    · subst c; have : 0 < n := by omega
      simp [this]
    · have c' : (k == 4) = false := by simpa using c
      rw [c']; have : n = 0 := by omega
      subst this; rfl
  have HKd : Hid (0 < n → ∃ b off, ao1 = some ⟨b, off, none⟩ ∧ b < B ∧ ∀ j, j < n → ∃ ao' cap', w.cell? ⟨b, off + j * 3, none⟩ = some (.int .i64 (kid j).k) ∧ w.cell? ⟨b, off + j * 3 + 1, none⟩ = some (.int .i64 (kid j).s) ∧ w.cell? ⟨b, off + j * 3 + 2, none⟩ = some (.slice ao' (kid j).n cap') ∧ Lies w B (kid j) (.agg #[.int .i64 (kid j).k, .int .i64 (kid j).s, .slice ao' (kid j).n cap'])) := hkids
  clear d0 d0' d0'' h hkids
  by_cases hn0 : 0 < n
  · have e4 : (k == 4) = true := by rw [e3]; simpa using hn0
    have e5 : (0 : Int) < n := by omega
    clear e3
    obtain ⟨b, off, rfl, hbB, hk⟩ := HKd.out hn0
    have Hk : Hid (∀ j, j < n → ∃ ao' cap', w.cell? ⟨b, off + j * 3, none⟩ = some (.int .i64 (kid j).k) ∧ w.cell? ⟨b, off + j * 3 + 1, none⟩ = some (.int .i64 (kid j).s) ∧ w.cell? ⟨b, off + j * 3 + 2, none⟩ = some (.slice ao' (kid j).n cap') ∧ Lies w B (kid j) (.agg #[.int .i64 (kid j).k, .int .i64 (kid j).s, .slice ao' (kid j).n cap'])) := hk
    clear HKd hk
    go_enter Try.func27, Try.ntmps27
    go_wp2_with fail
    go_loopw [2, 50] (fun x i wr => ∃ (l' : Int) (j : Nat), x = .int .i64 l' ∧ i = .int .i64 j ∧ j ≤ n ∧ 0 ≤ l' ∧ l' ≤ 4096 ∧ Hid (M.WK kid lev n j (l - 1) l') ∧ Below w.heap.size w wr)
      (fun _ i _ => n - (intOf i).toNat)
    case atStart => exact ⟨l - 1, 0, by first | rfl | go_num, rfl, by omega, by omega, by omega, HS, by go_grown⟩
    case round =>
      obtain ⟨l', j, rfl, rfl, hj, l1, l2, hW, hbr⟩ := hrel
      have zr := hbr.size
      by_cases hlt : j < n
      · obtain ⟨ao', cap', q0, q1, q2, hLj⟩ := Hk.out j hlt
        replace q0 := keepC hbr (show b < w.heap.size by omega) q0
        replace q1 := keepC hbr (show b < w.heap.size by omega) q1
        replace q2 := keepC hbr (show b < w.heap.size by omega) q2
        have hC := fun (W : World) (hb : Below w.heap.size w W) => ih j (lev + 1) l' W B _ (Lies.step (kid j) _ hLj (hb.mono hB)) (by have := hb.size; omega) (by omega) (by omega) l1 l2
        obtain ⟨g1, g2⟩ := HK.out j l' hW.out hlt
        have g3 := M.wr_bd (kid j) (lev + 1) l' l1
        have bz : b < wr.heap.size := by omega
        by_cases hE : (M.wr (kid j) (lev + 1) l').1 = 0
        · have g4 : Hid (M.WK kid lev n (j + 1) (l - 1) (M.wr (kid j) (lev + 1) l').2) := g2 hE
          rw [hE] at hC
          clear g1 g2 hE HK HZ hLj
          generalize (M.wr (kid j) (lev + 1) l').2 = L2 at *
          generalize (kid j).k = kk at *
          generalize (kid j).s = ss at *
          generalize (kid j).n = nn at *
          go_wp2_with fail
          refine (hC _ (hbr.trans (Below.mono (by go_grown) zr))).mono ?_
          rintro e w4 ⟨rfl, hb4⟩
          have h04 : Below w.heap.size w w4 := (hbr.alloc zr _).trans (hb4.mono (by simp; omega))
          clear q0 q1 q2
          go_wp2_with fail
          go_roundw
          case rel => exact ⟨L2, j + 1, rfl, by go_num, by omega, by omega, by omega, g4, h04⟩
          case measure => simp [intOf]; omega
        · have g4 := g1 hE
          have hEb : ((M.wr (kid j) (lev + 1) l').1 != 0) = true := by simpa using hE
          rw [← g4] at hC hEb
          dsimp only at hC hEb
          clear g1 g2 hE HK HZ hLj g4 g3
          generalize (kid j).k = kk at *
          generalize (kid j).s = ss at *
          generalize (kid j).n = nn at *
          go_wp2_with fail
          refine (hC _ (hbr.trans (Below.mono (by go_grown) zr))).mono ?_
          rintro e w4 ⟨rfl, hb4⟩
          have h04 : Below w.heap.size w w4 := (hbr.alloc zr _).trans (hb4.mono (by simp; omega))
          clear q0 q1 q2
          go_wp2_with fail
          go_returns
          exact ⟨rfl, h04⟩
      · obtain rfl : j = n := by omega
        have hz := HZ.out l' hW.out
        have hz0 : RE = 0 ∧ RL = l' := by simpa using hz
        have hz1 : Hid (RE = 0 ∧ RL = l') := hz0
        clear hz0
        clear HK HZ hz
        go_wp2_with fail
        go_returns
        exact ⟨by rw [hz1.out.1, hz1.out.2]; rfl, hbr⟩
  · obtain rfl : n = 0 := by omega
    have e4 : (k == 4) = false := by rw [e3]; rfl
    obtain ⟨rfl, rfl⟩ : RE = 0 ∧ RL = l - 1 := by simpa using HZ.out (l - 1) HS.out
    clear HKd HK HZ e3
    go_enter Try.func27, Try.ntmps27
    go_wp2_with fail
    refine wp_loop_rounds 1 ?_
    rw [rounds_succ]
    go_wp2_with fail
    go_returns
    exact ⟨rfl, by go_grown⟩

theorem wrong_any (b : M.Bt) : WrongC b := by
  induction b using M.Bt.ind with
  | nil => intro lev l w B v hL; exact False.elim hL
  | mk k s n kid ih =>
    intro lev l w B v hL hB h1 h2 h3 h4
    obtain ⟨ao, cap, rfl, hn, hk⟩ := hL
    by_cases c : 32 < lev ∨ l < 1
    · rw [M.wr_much _ lev l c]
      exact wrong_much lev l k s ao n cap w h1 h2 h3 h4 c
    · by_cases c2 : M.al k s n = 0
      · exact wrong_kids k s n kid ih lev l w B ao cap ⟨ao, cap, rfl, hn, hk⟩ hB h1 (by omega) (by omega) h4 c2
      · rw [M.wr_al k s n kid lev l c c2]
        exact wrong_alone lev l k s ao n cap w h1 (by omega) (by omega) h4 hn c2
end Go.Proofs.Ytgcnmmjgdpdmbac.F
