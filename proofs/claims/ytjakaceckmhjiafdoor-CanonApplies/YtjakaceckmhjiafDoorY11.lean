/- What the law's alive, sum and twice come to. -/
import Derived.Test.YtjakaceckmhjiafDoorY10
import Derived.Test.YtjakaceckmhjiafDoorYMath2
namespace Go.Proofs.YtjakaceckmhjiafDoor.Y
open Go.RowKit Go.Sort
set_option linter.unusedVariables false
set_option linter.unusedSimpArgs false

/-- What comes of Apply, once more. -/
def ApQ (c : Ch) (T : Nat → Tn) (n : Nat) (w : World) (e : Ending) (w' : World) : Prop :=
  Go.RowKit.Below w.heap.size w w' ∧ ((ae c T n ≠ 0 ∧ e = .returned (.tuple #[.slice none 0 0, .int .i64 (ae c T n)])) ∨
    (∃ mb U, e = .returned (.tuple #[.slice (some ⟨mb, 0, none⟩) n n, .int .i64 0]) ∧ TL w' (some ⟨mb, 0, none⟩) n U ∧ App c T n U))
theorem Apply_q (b : Bool) (k : Int) (m : Bool) (xl xa xo s h d : Int) (ao : Option Addr) (n cap : Nat) (T : Nat → Tn) (w : World) (ht : Tab w) (hp : TL w ao n T) (hc : n ≤ cap) :
    Calls Tryd.prog 11 #[.agg #[.bool b, .int .i64 k, .bool m, .int .i64 xl, .int .i64 xa, .int .i64 xo, .int .i64 s, .int .i64 h, .int .i64 d], .slice ao n cap] w (ApQ ⟨b, k, m, xl, xa, xo, s, h, d⟩ T n w) :=
  (Apply_any ⟨b, k, m, xl, xa, xo, s, h, d⟩ ao n cap T w ht hp hc).mono fun e w' ⟨hb, h⟩ => ⟨hb, by
    rcases h with h | ⟨h1, mb, U, h2, h3, h4, h5, h6⟩
    · exact .inl h
    · exact .inr ⟨mb, U, h3, h4.TL, h1, h5, h6⟩⟩

theorem sum_any (a b : Int) (w : World) : Calls Tryd.prog 18 #[.int .i64 a, .int .i64 b] w fun e w' => e = .returned (.int .i64 (sm a b)) ∧ w' = w := by
  have H1 : Hid ((a < 0 ∨ b < 0 ∨ 1048576 < a ∨ 1048576 < b) → sm a b = -1) := fun h => by unfold sm; rw [if_pos h]
  have H2 : Hid (¬ (a < 0 ∨ b < 0 ∨ 1048576 < a ∨ 1048576 < b) → sm a b = a + b) := fun h => by unfold sm; rw [if_neg h]
  generalize sm a b = S at *
  by_cases g1 : a < 0
  · have HS : Hid (S = -1) := H1.out (.inl g1)
    clear H1 H2
    go_enter Tryd.func18, Tryd.ntmps18
    go_wp2_with fail
    go_ret
    exact ⟨ret_int HS.out.symm, rfl⟩
  · by_cases g2 : b < 0
    · have HS : Hid (S = -1) := H1.out (.inr (.inl g2))
      clear H1 H2
      go_enter Tryd.func18, Tryd.ntmps18
      go_wp2_with fail
      go_ret
      exact ⟨ret_int HS.out.symm, rfl⟩
    · by_cases g3 : 1048576 < a
      · have HS : Hid (S = -1) := H1.out (.inr (.inr (.inl g3)))
        clear H1 H2
        go_enter Tryd.func18, Tryd.ntmps18
        go_wp2_with fail
        go_ret
        exact ⟨ret_int HS.out.symm, rfl⟩
      · by_cases g4 : 1048576 < b
        · have HS : Hid (S = -1) := H1.out (.inr (.inr (.inr g4)))
          clear H1 H2
          go_enter Tryd.func18, Tryd.ntmps18
          go_wp2_with fail
          go_ret
          exact ⟨ret_int HS.out.symm, rfl⟩
        · have HS : Hid (S = a + b) := H2.out (by omega)
          clear H1 H2
          go_enter Tryd.func18, Tryd.ntmps18
          go_wp2_with fail
          go_ret
          exact ⟨ret_int HS.out.symm, rfl⟩

theorem alive_ok : ae ⟨false, 2, false, 0, 0, 0, 0, 0, 0⟩ (fun _ => ⟨0, 3, 0, 0, 0⟩) 1 = 0 := by decide +kernel
theorem alive_six {U : Nat → Tn} (h : App ⟨false, 2, false, 0, 0, 0, 0, 0, 0⟩ (fun _ => ⟨0, 3, 0, 0, 0⟩) 1 U) : (U 0).g = 6 := by
  obtain ⟨j, hj, e⟩ := h.mem (i := 0) (by omega)
  rw [← e]; rfl
set_option maxRecDepth 20000 in
set_option maxHeartbeats 4000000 in
theorem alive_any (w : World) (ht : Tab w) : Calls Tryd.prog 16 #[] w fun e w' => e = .returned (.bool true) ∧ Go.RowKit.Below w.heap.size w w' := by
  go_enter Tryd.func16, Tryd.ntmps16
  go_wp2_with fail
  refine (Apply_q false 2 false 0 0 0 0 0 0 (some ⟨w.heap.size, 0, none⟩) 1 1 (fun _ => ⟨0, 3, 0, 0, 0⟩) _ (ht.step (by go_grown)) ⟨fun _ => ⟨w.heap.size, 0, rfl, by simp, ?_, ?_, ?_, ?_, ?_⟩⟩ (by omega)).mono ?_
  · intro j hj; obtain rfl : j = 0 := by omega
    simp [go_sem]
  · intro j hj; obtain rfl : j = 0 := by omega
    simp [go_sem]
  · intro j hj; obtain rfl : j = 0 := by omega
    simp [go_sem]
  · intro j hj; obtain rfl : j = 0 := by omega
    simp [go_sem]
  · intro j hj; obtain rfl : j = 0 := by omega
    simp [go_sem]
  rintro e w1 ⟨hb1, hq⟩
  have h01 : Go.RowKit.Below w.heap.size w w1 := Below.trans (by go_grown) (hb1.mono (by simp))
  rcases hq with ⟨hne, _⟩ | ⟨mb, U, rfl, hU, hA⟩
  · exact absurd alive_ok hne
  · obtain ⟨b, off, e, hbl, _, q1, _⟩ := hU.at' (by omega)
    cases e
    have c1 := q1 0 (by omega)
    rw [alive_six hA] at c1
    clear hA q1
    go_wp2_with fail
    go_ret
    exact ⟨rfl, h01⟩
theorem cb_three (w : World) (c d b : Ch) :
    CB (((w.alloc (Obj.cells #[.bool c.back, .int .i64 c.slow, .bool c.mir, .int .i64 c.xl, .int .i64 c.xa, .int .i64 c.xo, .int .i64 c.s, .int .i64 c.h, .int .i64 c.d] 28)).alloc (Obj.cells #[.bool d.back, .int .i64 d.slow, .bool d.mir, .int .i64 d.xl, .int .i64 d.xa, .int .i64 d.xo, .int .i64 d.s, .int .i64 d.h, .int .i64 d.d] 28)).alloc (Obj.cells #[.bool b.back, .int .i64 b.slow, .bool b.mir, .int .i64 b.xl, .int .i64 b.xa, .int .i64 b.xo, .int .i64 b.s, .int .i64 b.h, .int .i64 b.d] 28)) (w.heap.size + 1) d ∧
    CB (((w.alloc (Obj.cells #[.bool c.back, .int .i64 c.slow, .bool c.mir, .int .i64 c.xl, .int .i64 c.xa, .int .i64 c.xo, .int .i64 c.s, .int .i64 c.h, .int .i64 c.d] 28)).alloc (Obj.cells #[.bool d.back, .int .i64 d.slow, .bool d.mir, .int .i64 d.xl, .int .i64 d.xa, .int .i64 d.xo, .int .i64 d.s, .int .i64 d.h, .int .i64 d.d] 28)).alloc (Obj.cells #[.bool b.back, .int .i64 b.slow, .bool b.mir, .int .i64 b.xl, .int .i64 b.xa, .int .i64 b.xo, .int .i64 b.s, .int .i64 b.h, .int .i64 b.d] 28)) (w.heap.size + 1 + 1) b :=
  ⟨⟨by simp, by simp [go_sem], by simp [go_sem], by simp [go_sem], by simp [go_sem], by simp [go_sem], by simp [go_sem], by simp [go_sem], by simp [go_sem], by simp [go_sem]⟩, ⟨by simp, by simp [go_sem], by simp [go_sem], by simp [go_sem], by simp [go_sem], by simp [go_sem], by simp [go_sem], by simp [go_sem], by simp [go_sem], by simp [go_sem]⟩⟩

set_option maxRecDepth 20000 in
set_option maxHeartbeats 4000000 in
theorem twice_any (c d b : Ch) (ao : Option Addr) (n cap : Nat) (T : Nat → Tn) (w : World) (ht : Tab w) (hp : TL w ao n T) (hc : n ≤ cap) (hcm : cap ≤ 9223372036854775807)
    (H : ∀ U V Z, App c T n U → App d U n V → App b T n Z → tab V n = tab Z n) :
    Calls Tryd.prog 17 #[.slice ao n cap, .agg #[.bool c.back, .int .i64 c.slow, .bool c.mir, .int .i64 c.xl, .int .i64 c.xa, .int .i64 c.xo, .int .i64 c.s, .int .i64 c.h, .int .i64 c.d], .agg #[.bool d.back, .int .i64 d.slow, .bool d.mir, .int .i64 d.xl, .int .i64 d.xa, .int .i64 d.xo, .int .i64 d.s, .int .i64 d.h, .int .i64 d.d], .agg #[.bool b.back, .int .i64 b.slow, .bool b.mir, .int .i64 b.xl, .int .i64 b.xa, .int .i64 b.xo, .int .i64 b.s, .int .i64 b.h, .int .i64 b.d]] w fun e w' => e = .returned (.bool true) ∧ Go.RowKit.Below w.heap.size w w' := by
  obtain ⟨k1, k2⟩ := cb_three w c d b
  have HH : Hid _ := H
  clear H
  go_enter Tryd.func17, Tryd.ntmps17
  go_wp2_with fail
  refine (Apply_q _ _ _ _ _ _ _ _ _ ao n cap T _ (ht.step (by go_grown)) (hp.keep (by go_grown)) hc).mono ?_
  rintro e w1 ⟨hb1, hq⟩
  have h01 : Go.RowKit.Below w.heap.size w w1 := Below.trans (by go_grown) (hb1.mono (by simp; omega))
  replace k1 := k1.keep hb1
  replace k2 := k2.keep hb1
  rcases hq with ⟨hne, rfl⟩ | ⟨mb, U, rfl, hU, hA⟩
  · have hne2 : (ae c T n != 0) = true := by simp; exact hne
    clear HH k1 k2 hne
    generalize ae c T n = AE at *
    go_wp2_with fail
    go_ret
    exact ⟨rfl, h01⟩
  · have kk2 := k2
    obtain ⟨lt, c0, c1, c2, c3, c4, c5, c6, c7, c8⟩ := k1
    have hn := (ae_zero hA.ok).1.len
    go_wp2_with fail
    refine (Apply_q _ _ _ _ _ _ _ _ _ (some ⟨mb, 0, none⟩) n n U _ (ht.step h01) hU (Nat.le_refl _)).mono ?_
    rintro e w2 ⟨hb2, hq2⟩
    have h02 : Go.RowKit.Below w.heap.size w w2 := h01.trans (hb2.mono h01.size)
    replace kk2 := kk2.keep hb2
    clear lt c0 c1 c2 c3 c4 c5 c6 c7 c8 k2
    obtain ⟨lt, c0, c1, c2, c3, c4, c5, c6, c7, c8⟩ := kk2
    rcases hq2 with ⟨hne, rfl⟩ | ⟨mb2, V, rfl, hV, hA2⟩
    · have hne2 : (ae d U n != 0) = true := by simp; exact hne
      clear HH hne
      generalize ae d U n = AE at *
      go_wp2_with fail
      refine (Apply_q _ _ _ _ _ _ _ _ _ ao n cap T _ (ht.step h02) (hp.keep h02) hc).mono ?_
      rintro e w3 ⟨hb3, hq3⟩
      have h03 : Go.RowKit.Below w.heap.size w w3 := h02.trans (hb3.mono h02.size)
      rcases hq3 with ⟨_, rfl⟩ | ⟨mb3, Z, rfl, hZ, hA3⟩
      all_goals
        go_wp2_with fail
        go_ret
        exact ⟨rfl, h03⟩
    · go_wp2_with fail
      refine (Apply_q _ _ _ _ _ _ _ _ _ ao n cap T _ (ht.step h02) (hp.keep h02) hc).mono ?_
      rintro e w3 ⟨hb3, hq3⟩
      have h03 : Go.RowKit.Below w.heap.size w w3 := h02.trans (hb3.mono h02.size)
      rcases hq3 with ⟨hne, rfl⟩ | ⟨mb3, Z, rfl, hZ, hA3⟩
      · have hne2 : (ae b T n != 0) = true := by simp; exact hne
        clear HH hne
        generalize ae b T n = AE at *
        go_wp2_with fail
        go_ret
        exact ⟨rfl, h03⟩
      · have HE : Hid (tab V n = tab Z n) := HH.out U V Z hA hA2 hA3
        have hS := Same_any (some ⟨mb2, 0, none⟩) (some ⟨mb3, 0, none⟩) n n n n V Z w3 (hV.keep hb3) hZ (Nat.le_refl _) (Nat.le_refl _) (by omega) (by omega)
        clear HH hA hA2 hA3
        go_wp2_with fail
        refine hS.mono ?_
        rintro e w4 ⟨⟨B, rfl, hB⟩, hb4⟩
        have hBt : B = true := hB.2 HE.out
        subst hBt
        clear hB hS HE
        go_wp2_with fail
        go_ret
        exact ⟨rfl, h03.trans (hb4.mono h03.size)⟩
end Go.Proofs.YtjakaceckmhjiafDoor.Y
