/- What the program's Follows comes to. -/
import Derived.Test.YtjakaceckmhjiafDoorY9
import Derived.Deep.RegionWith
namespace Go.Proofs.YtjakaceckmhjiafDoor.Y
open Go.RowKit Go.Sort
set_option linter.unusedVariables false
set_option linter.unusedSimpArgs false

def fc (T U : Nat → Tn) : Ch := ⟨false, 1, false, 0, 0, 0, M.st (U 0).l (U 0).o - M.st (T 0).l (T 0).o, M.hv (U 0).l (U 0).a (U 0).o - M.hv (T 0).l (T 0).a (T 0).o, (U 0).t - (T 0).t⟩
def F3 (d s h e : Int) : Ending := .returned (.tuple #[.int .i64 d, .agg #[.int .i64 s, .int .i64 h], .int .i64 e])
/-- What comes of Follows. -/
def FolQ (T : Nat → Tn) (n : Nat) (U : Nat → Tn) (m : Nat) (e : Ending) : Prop :=
  (wr T n ≠ 0 ∧ e = F3 0 0 0 (wr T n)) ∨ (wr T n = 0 ∧ wr U m ≠ 0 ∧ e = F3 0 0 0 (wr U m)) ∨
  (wr T n = 0 ∧ wr U m = 0 ∧ (n = 0 ∨ m ≠ n ∨ ¬ Mk (fc T U) T U n) ∧ e = F3 0 0 0 6) ∨
  (wr T n = 0 ∧ wr U m = 0 ∧ n ≠ 0 ∧ m = n ∧ Mk (fc T U) T U n ∧ e = F3 ((U 0).t - (T 0).t) (M.st (U 0).l (U 0).o - M.st (T 0).l (T 0).o) (M.hv (U 0).l (U 0).a (U 0).o - M.hv (T 0).l (T 0).a (T 0).o) 0)

set_option maxRecDepth 20000 in
set_option maxHeartbeats 8000000 in
theorem Follows_any (ao bo : Option Addr) (n m c1 c2 : Nat) (T U : Nat → Tn) (w : World) (ht : Tab w) (hT : TL w ao n T) (hU : TL w bo m U) (hc1 : n ≤ c1) (hc2 : m ≤ c2) :
    Calls Tryd.prog 14 #[.slice ao n c1, .slice bo m c2] w fun e w' => FolQ T n U m e ∧ Go.RowKit.Below w.heap.size w w' := by
  have H1 : Hid (wr T n ≠ 0 → FolQ T n U m (F3 0 0 0 (wr T n))) := fun h => .inl ⟨h, rfl⟩
  have H2 : Hid (wr T n = 0 → wr U m ≠ 0 → FolQ T n U m (F3 0 0 0 (wr U m))) := fun h h2 => .inr (.inl ⟨h, h2, rfl⟩)
  have H3 : Hid (wr T n = 0 → wr U m = 0 → (n = 0 ∨ m ≠ n ∨ ¬ Mk (fc T U) T U n) → FolQ T n U m (F3 0 0 0 6)) := fun h h2 h3 => .inr (.inr (.inl ⟨h, h2, h3, rfl⟩))
  have H4 : Hid (wr T n = 0 → wr U m = 0 → n ≠ 0 → m = n → Mk (fc T U) T U n → FolQ T n U m (F3 ((U 0).t - (T 0).t) (M.st (U 0).l (U 0).o - M.st (T 0).l (T 0).o) (M.hv (U 0).l (U 0).a (U 0).o - M.hv (T 0).l (T 0).a (T 0).o) 0)) := fun h h2 h3 h4 h5 => .inr (.inr (.inr ⟨h, h2, h3, h4, h5, rfl⟩))
  unfold F3 at H1 H2 H3 H4
  go_enter Tryd.func14, Tryd.ntmps14
  go_wp2_with fail
  refine (Wrong_any ao n c1 T _ (hT.keep (by go_grown)) hc1).mono ?_
  rintro e w1 ⟨rfl, hb1⟩
  have z1 := hb1.size
  simp at z1
  have h01 : Go.RowKit.Below w.heap.size w w1 := Below.trans (by go_grown) (hb1.mono (by simp))
  have d0 : w1.cell? ⟨w.heap.size, 0, none⟩ = some (.int .i64 0) := keepC hb1 (by simp) (by simp [go_sem])
  have d1 : w1.cell? ⟨w.heap.size, 1, none⟩ = some (.int .i64 0) := keepC hb1 (by simp) (by simp [go_sem])
  have f0 : w1.frozen? ⟨w.heap.size, 0, none⟩ = false := keepF hb1 (by simp) (by simp [go_sem])
  have f1 : w1.frozen? ⟨w.heap.size, 1, none⟩ = false := keepF hb1 (by simp) (by simp [go_sem])
  have s1 : w.heap.size < w1.heap.size := by omega
  by_cases hw : wr T n = 0
  · have hwb : (wr T n != 0) = false := by simp [hw]
    have hoT := wr_zero hw
    have K2 : Hid _ := H2.out hw
    have K3 : Hid _ := H3.out hw
    have K4 : Hid _ := H4.out hw
    clear H1 H2 H3 H4
    generalize wr T n = WT at *
    go_wp2_with fail
    refine (Wrong_any bo m c2 U _ (hU.keep h01) hc2).mono ?_
    rintro e w2 ⟨rfl, hb2⟩
    have z2 := hb2.size
    have h02 : Go.RowKit.Below w.heap.size w w2 := h01.trans (hb2.mono (by omega))
    replace d0 := keepC hb2 s1 d0
    replace d1 := keepC hb2 s1 d1
    replace f0 := keepF hb2 s1 f0
    replace f1 := keepF hb2 s1 f1
    have s2 : w.heap.size < w2.heap.size := by omega
    by_cases hv : wr U m = 0
    · have hvb : (wr U m != 0) = false := by simp [hv]
      have hoU := wr_zero hv
      have L3 : Hid _ := K3.out hv
      have L4 : Hid _ := K4.out hv
      clear K2 K3 K4
      generalize wr U m = WU at *
      by_cases hn0 : n = 0
      · have HF := L3.out (.inl hn0)
        have hz : ((n : Int) == 0) = true := by simp [hn0]
        clear L3 L4 hoT hoU hT hU hn0
        go_wp2_with fail
        refine bodyPost_ret (v := .tuple #[.int .i64 0, .agg #[.int .i64 0, .int .i64 0], .int .i64 6]) (by simp [results, Tryd.results14, go_sem, d0, d1]) rfl ⟨HF, ?_⟩
        exact (h02.setCell (by simp) _).setCell (by simp) _
      · have hz : ((n : Int) == 0) = false := by simp [hn0]
        by_cases hmn : m = n
        · subst hmn
          have hz2 : ((m : Int) != (m : Int)) = false := by simp
          have hpos : 0 < m := by omega
          obtain ⟨b, off, rfl, hbl, p0, p1, p2, p3, p4⟩ := (hT.keep h02).at' hpos
          obtain ⟨b', off', rfl, hbl', q0, q1, q2, q3, q4⟩ := (hU.keep h02).at' hpos
          have r0 := p0 0 hpos
          have r2 := p2 0 hpos
          have r3 := p3 0 hpos
          have r4 := p4 0 hpos
          have t0 := q0 0 hpos
          have t2 := q2 0 hpos
          have t3 := q3 0 hpos
          have t4 := q4 0 hpos
          rw [Nat.zero_mul, Nat.add_zero] at r0 r2 r3 r4 t0 t2 t3 t4
          obtain ⟨o1, o2, _, _⟩ := okT_yes (hoT.ok 0 hpos)
          obtain ⟨o3, o4, _, _⟩ := okT_yes (hoU.ok 0 hpos)
          have hrT := hoT.rt 0 hpos
          have hrU := hoU.rt 0 hpos
          have hbk : M.bk (T 0).l (T 0).a (T 0).o (U 0).l (U 0).a (U 0).o = true := by unfold M.bk; rw [hrT, hrU]; rfl
          clear p0 p1 p2 p3 p4 q0 q1 q2 q3 q4
          go_wp2_with fail
          go_quiet (fail)
          go_wp2_with fail
          obtain ⟨w3, hw3⟩ : ∃ x, x = w2.drewN nq := ⟨_, rfl⟩
          rw [← hw3]
          have h23 : Go.RowKit.Below w2.heap.size w2 w3 := by rw [hw3]; exact below_drewN (Below.refl _ _) _
          clear hw3
          have z3 := h23.size
          have h03 : Go.RowKit.Below w.heap.size w w3 := h02.trans (h23.mono (by omega))
          have s3 : w.heap.size < w3.heap.size := by omega
          have e2 := keepC h23 hbl r2
          have e3 := keepC h23 hbl r3
          have e4 := keepC h23 hbl r4
          have g2 := keepC h23 hbl' t2
          have g3 := keepC h23 hbl' t3
          have g4 := keepC h23 hbl' t4
          have cB : ∀ W : World, Tab W → Calls Tryd.prog 29 #[.agg #[.int .i64 (T 0).l, .int .i64 (T 0).a, .int .i64 (T 0).o], .agg #[.int .i64 (U 0).l, .int .i64 (U 0).a, .int .i64 (U 0).o]] W fun e w'' => e = .returned (.tuple #[.agg #[.int .i64 (M.st (U 0).l (U 0).o - M.st (T 0).l (T 0).o), .int .i64 (M.hv (U 0).l (U 0).a (U 0).o - M.hv (T 0).l (T 0).a (T 0).o)], .int .i64 0]) ∧ Go.RowKit.Below W.heap.size W w'' := fun W hW => Between_yes (T 0).l (T 0).a (T 0).o (U 0).l (U 0).a (U 0).o W hW hbk
          have hT3 := ht.step h03
          have sb : b < w3.heap.size := by omega
          have sb' : b' < w3.heap.size := by omega
          replace d0 := keepC h23 s2 d0
          replace d1 := keepC h23 s2 d1
          replace f0 := keepF h23 s2 f0
          replace f1 := keepF h23 s2 f1
          have hMk : ∀ W : World, Go.RowKit.Below w.heap.size w W → Calls Tryd.prog 30 #[.agg #[.bool false, .int .i64 1, .bool false, .int .i64 0, .int .i64 0, .int .i64 0, .int .i64 (M.st (U 0).l (U 0).o - M.st (T 0).l (T 0).o), .int .i64 (M.hv (U 0).l (U 0).a (U 0).o - M.hv (T 0).l (T 0).a (T 0).o), .int .i64 ((U 0).t - (T 0).t)], .slice (some ⟨b, off, none⟩) m c1, .slice (some ⟨b', off', none⟩) m c2] W fun e w' => SaysQ e (Mk (fc T U) T U m) ∧ Go.RowKit.Below W.heap.size W w' := fun W hg => makes_any (fc T U) (some ⟨b, off, none⟩) (some ⟨b', off', none⟩) m c1 c2 T U W (ht.step hg) (hT.keep hg) (hU.keep hg) hpos hoT.len hc1 hoU
          have HL3 : Hid (¬ Mk (fc T U) T U m → FolQ T m U m (.returned (.tuple #[.int .i64 0, .agg #[.int .i64 0, .int .i64 0], .int .i64 6]))) := fun h => by
            have h3 := L3.out
            first | exact h3 (.inr (.inr h)) | exact h3 (.inr h) | exact h3 (fun _ => h)
          have HL4 : Hid (Mk (fc T U) T U m → FolQ T m U m (.returned (.tuple #[.int .i64 ((U 0).t - (T 0).t), .agg #[.int .i64 (M.st (U 0).l (U 0).o - M.st (T 0).l (T 0).o), .int .i64 (M.hv (U 0).l (U 0).a (U 0).o - M.hv (T 0).l (T 0).a (T 0).o)], .int .i64 0]))) := fun h => by
            have h4 := L4.out hn0
            first | exact h4 rfl h | exact h4 trivial h | exact h4 h
          generalize Mk (fc T U) T U m = PP at hMk HL3 HL4
          clear r0 r2 r3 r4 t0 t2 t3 t4 hbk hrT hrU L3 L4
          generalize M.st (U 0).l (U 0).o - M.st (T 0).l (T 0).o = SS at *
          generalize M.hv (U 0).l (U 0).a (U 0).o - M.hv (T 0).l (T 0).a (T 0).o = HH at *
          generalize (U 0).t - (T 0).t = DD at *
          go_region_with (go_at_call 29; refine (cB _ ?_).mono ?_; exact hT3.step (by go_grown); rintro e w4 ⟨rfl, hb4⟩; have h34 : Go.RowKit.Below w3.heap.size w3 w4 := Below.trans (by go_grown) (hb4.mono (by simp)); have d0 := keepC h34 s3 d0; have d1 := keepC h34 s3 d1; have f0 := keepF h34 s3 f0; have f1 := keepF h34 s3 f1; have s4 : w.heap.size < w4.heap.size := Nat.lt_of_lt_of_le s3 h34.size)
          all_goals
           have z4 := h34.size
           have h04 : Go.RowKit.Below w.heap.size w w4 := h03.trans (h34.mono (by omega))
           have h05 : Go.RowKit.Below w.heap.size w ((w4.setCell ⟨w.heap.size, 0, none⟩ (.int .i64 SS)).setCell ⟨w.heap.size, 1, none⟩ (.int .i64 HH)) := (h04.setCell (by simp) _).setCell (by simp) _
           clear z1 z2 z3 z4 h01 h02 h03 h23 h34 hb1 hb2 hT3 cB e2 e3 e4 g2 g3 g4
           go_wp2_with fail
           refine (hMk _ h05).mono ?_
           rintro e w6 ⟨⟨B, rfl, hB⟩, hb6⟩
           have z6 := hb6.size
           simp [World.setCell] at z6
           have h06 : Go.RowKit.Below w.heap.size w w6 := h05.trans (hb6.mono (by simp [World.setCell]; omega))
           have x0 : w6.cell? ⟨w.heap.size, 0, none⟩ = some (.int .i64 SS) := keepC hb6 (by simp [World.setCell]; omega) (by simp [go_sem, d0, d1])
           have x1 : w6.cell? ⟨w.heap.size, 1, none⟩ = some (.int .i64 HH) := keepC hb6 (by simp [World.setCell]; omega) (by simp [go_sem, d0, d1])
           have y0 : w6.frozen? ⟨w.heap.size, 0, none⟩ = false := keepF hb6 (by simp [World.setCell]; omega) (by simp [go_sem, f0, f1])
           have y1 : w6.frozen? ⟨w.heap.size, 1, none⟩ = false := keepF hb6 (by simp [World.setCell]; omega) (by simp [go_sem, f0, f1])
           have s6 : w.heap.size < w6.heap.size := by omega
           clear hMk d0 d1 f0 f1 h05 h04 hT hU hoT hoU
           cases B
           · have HF := HL3.out (fun h => absurd (hB.2 h) (by decide))
             clear HL3 HL4 hB
             go_wp2_with fail
             refine bodyPost_ret (v := .tuple #[.int .i64 0, .agg #[.int .i64 0, .int .i64 0], .int .i64 6]) (by simp [results, Tryd.results14, go_sem, x0, x1]) rfl ⟨HF, ?_⟩
             exact (h06.setCell (by simp) _).setCell (by simp) _
           · have HF := HL4.out (hB.1 rfl)
             clear HL3 HL4 hB
             go_wp2_with fail
             go_region
             all_goals go_wp2_with fail
             all_goals refine bodyPost_ret (v := .tuple #[.int .i64 DD, .agg #[.int .i64 SS, .int .i64 HH], .int .i64 0]) (by simp [results, Tryd.results14, go_sem, x0, x1]) rfl ⟨HF, ?_⟩
             all_goals exact ((h06.setCell (p := ⟨w.heap.size, 0, none⟩) (Nat.le_refl _) (.int .i64 SS)).setCell (p := ⟨w.heap.size, 1, none⟩) (Nat.le_refl _) (.int .i64 HH)).trans ⟨rfl, rfl, rfl, Nat.le_refl _, fun _ _ => rfl⟩
        · have HF := L3.out (.inr (.inl hmn))
          have hz2 : ((m : Int) != (n : Int)) = true := by simp; omega
          clear L3 L4 hoT hoU hT hU
          go_wp2_with fail
          refine bodyPost_ret (v := .tuple #[.int .i64 0, .agg #[.int .i64 0, .int .i64 0], .int .i64 6]) (by simp [results, Tryd.results14, go_sem, d0, d1]) rfl ⟨HF, ?_⟩
          exact (h02.setCell (by simp) _).setCell (by simp) _
    · have hvb : (wr U m != 0) = true := by simp [hv]
      have HF := K2.out hv
      clear K2 K3 K4
      generalize wr U m = WU at *
      go_wp2_with fail
      refine bodyPost_ret (v := .tuple #[.int .i64 0, .agg #[.int .i64 0, .int .i64 0], .int .i64 WU]) (by simp [results, Tryd.results14, go_sem, d0, d1]) rfl ⟨HF, ?_⟩
      exact (h02.setCell (by simp) _).setCell (by simp) _
  · have hwb : (wr T n != 0) = true := by simp [hw]
    have HF := H1.out hw
    clear H1 H2 H3 H4
    generalize wr T n = WT at *
    go_wp2_with fail
    refine bodyPost_ret (v := .tuple #[.int .i64 0, .agg #[.int .i64 0, .int .i64 0], .int .i64 WT]) (by simp [results, Tryd.results14, go_sem, d0, d1]) rfl ⟨HF, ?_⟩
    exact (h01.setCell (by simp) _).setCell (by simp) _
end Go.Proofs.YtjakaceckmhjiafDoor.Y
