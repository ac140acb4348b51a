/- What the document's Follows comes to. -/
import Derived.Test.YtjakaceckmhjiafDoorYR4
import Derived.Test.YtjakaceckmhjiafDoorY9
import Derived.Test.YtjakaceckmhjiafDoorY10
import Derived.Test.YtjakaceckmhjiafDoorQR3
namespace Go.Proofs.YtjakaceckmhjiafDoor.Y
open Go.RowKit Go.Sort
set_option linter.unusedVariables false
set_option linter.unusedSimpArgs false

theorem app_mk' {c : Ch} {T U : Nat → Tn} {n : Nat} : Mk c T U n ↔ App c T n U := ⟨fun h => ⟨h.1, h.2.1, h.2.2⟩, fun h => ⟨h.ok, h.perm, h.ord⟩⟩
/-- What the document tests: its Apply makes just that line. -/
theorem fol_same {T U Z : Nat → Tn} {n m : Nat} (hU : OkL U m) (hA : App (fc T U) T n Z) : tab Z n = tab U m ↔ (m = n ∧ Mk (fc T U) T U n) := by
  constructor
  · intro h
    have hl : n = m := by have := congrArg List.length h; rw [tab_len, tab_len] at this; exact this
    subst hl
    exact ⟨rfl, hA.ok, by rw [← h]; exact hA.perm, by rw [← h]; exact hA.ord⟩
  · rintro ⟨rfl, h⟩
    exact App.one hA (app_mk'.1 h)

/-- The document's Apply, told in one form. -/
theorem refApply_one (c : Ch) (ao : Option Addr) (n cap : Nat) (T : Nat → Tn) (w : World) (hp : TL w ao n T) (hc : n ≤ cap) (hA : ∀ j, j < n → -9223372036854775808 ≤ (T j).a ∧ (T j).a ≤ 9223372036854775807) (x1 : -9223372036854775808 ≤ c.xa) (x2 : c.xa ≤ 9223372036854775807) :
    Calls Tryd.prog 12 #[.agg #[.bool c.back, .int .i64 c.slow, .bool c.mir, .int .i64 c.xl, .int .i64 c.xa, .int .i64 c.xo, .int .i64 c.s, .int .i64 c.h, .int .i64 c.d], .slice ao n cap] w fun e w' => ∃ bo k cp E, e = .returned (.tuple #[.slice bo k cp, .int .i64 E]) ∧ Go.RowKit.Below w.heap.size w w' ∧ ((E ≠ 0 ∧ ae c T n = E) ∨ (E = 0 ∧ k = n ∧ n ≤ cp ∧ cp ≤ 9223372036854775807 ∧ ∃ Z, TL w' bo n Z ∧ App c T n Z)) :=
  (refApply_any c ao n cap T w hp hc hA x1 x2).mono fun e w' ⟨hb, h⟩ => by
    rcases h with ⟨h1, h2⟩ | ⟨bo, cp, Z, h1, h2, h3, h4, h5⟩
    · exact ⟨none, 0, 0, ae c T n, h2, hb, .inl ⟨h1, rfl⟩⟩
    · exact ⟨bo, n, cp, 0, h1, hb, .inr ⟨rfl, rfl, h3, h4, Z, h2, h5⟩⟩
theorem new2_drew {X w' : World} {v0 v1 : Value} {t : TypeId} (hb : Go.RowKit.Below (X.alloc (Obj.cells #[v0, v1] t)).drew.heap.size (X.alloc (Obj.cells #[v0, v1] t)).drew w') : w'.cell? ⟨X.heap.size, 0, none⟩ = some v0 ∧ w'.cell? ⟨X.heap.size, 1, none⟩ = some v1 ∧ w'.frozen? ⟨X.heap.size, 0, none⟩ = false ∧ w'.frozen? ⟨X.heap.size, 1, none⟩ = false ∧ X.heap.size < w'.heap.size :=
  ⟨keepC hb (by simp [World.drew]) (by simp [go_sem]), keepC hb (by simp [World.drew]) (by simp [go_sem]), keepF hb (by simp [World.drew]) (by simp [go_sem]), keepF hb (by simp [World.drew]) (by simp [go_sem]), by have := hb.size; simp [World.drew] at this; omega⟩
structure I2 (w : World) (b : Nat) (s h : Int) : Prop where
  lt : b < w.heap.size
  c0 : w.cell? ⟨b, 0, none⟩ = some (.int .i64 s)
  c1 : w.cell? ⟨b, 1, none⟩ = some (.int .i64 h)
theorem I2.keep {w w' : World} {b : Nat} {s h : Int} (x : I2 w b s h) (hb : Go.RowKit.Below w.heap.size w w') : I2 w' b s h :=
  ⟨by have := hb.size; have := x.lt; omega, keepC hb x.lt x.c0, keepC hb x.lt x.c1⟩

set_option maxRecDepth 20000 in
set_option maxHeartbeats 32000000 in
theorem refFollows_any (ao bo : Option Addr) (n m c1 c2 : Nat) (T U : Nat → Tn) (w : World) (hT : TL w ao n T) (hU : TL w bo m U) (hc1 : n ≤ c1) (hc2 : m ≤ c2) (hm1 : c1 ≤ 9223372036854775807) (hm2 : c2 ≤ 9223372036854775807)
    (hA : ∀ j, j < n → -9223372036854775808 ≤ (T j).a ∧ (T j).a ≤ 9223372036854775807) (hA2 : ∀ j, j < m → -9223372036854775808 ≤ (U j).a ∧ (U j).a ≤ 9223372036854775807) :
    Calls Tryd.prog 15 #[.slice ao n c1, .slice bo m c2] w fun e w' => FolQ T n U m e ∧ Go.RowKit.Below w.heap.size w w' := by
  have H1 : Hid (wr T n ≠ 0 → FolQ T n U m (F3 0 0 0 (wr T n))) := fun h => .inl ⟨h, rfl⟩
  have H2 : Hid (wr T n = 0 → wr U m ≠ 0 → FolQ T n U m (F3 0 0 0 (wr U m))) := fun h h2 => .inr (.inl ⟨h, h2, rfl⟩)
  have H3 : Hid (wr T n = 0 → wr U m = 0 → ¬ (n ≠ 0 ∧ m = n ∧ Mk (fc T U) T U n) → FolQ T n U m (F3 0 0 0 6)) := fun h h2 h3 => .inr (.inr (.inl ⟨h, h2, by
    by_cases g1 : n = 0
    · exact .inl g1
    · by_cases g2 : m = n
      · exact .inr (.inr fun g3 => h3 ⟨g1, g2, g3⟩)
      · exact .inr (.inl g2), rfl⟩))
  have H4 : Hid (wr T n = 0 → wr U m = 0 → n ≠ 0 → (m = n ∧ Mk (fc T U) T U n) → FolQ T n U m (F3 ((U 0).t - (T 0).t) (M.st (U 0).l (U 0).o - M.st (T 0).l (T 0).o) (M.hv (U 0).l (U 0).a (U 0).o - M.hv (T 0).l (T 0).a (T 0).o) 0)) := fun h h2 h3 h4 => .inr (.inr (.inr ⟨h, h2, h3, h4.1, h4.2, rfl⟩))
  unfold F3 at H1 H2 H3 H4
  go_enter Tryd.func15, Tryd.ntmps15
  go_wp2_with fail
  refine (refWrong_any ao n c1 T _ (hT.keep (by go_grown)) hc1 hA).mono ?_
  rintro e w1 ⟨rfl, hb1⟩
  have z1 := hb1.size
  simp at z1
  have h01 : Go.RowKit.Below w.heap.size w w1 := Below.trans (by go_grown) (hb1.mono (by simp))
  have d0 : w1.cell? ⟨w.heap.size, 0, none⟩ = some (.int .i64 0) := keepC hb1 (by simp) (by simp [go_sem])
  have d1 : w1.cell? ⟨w.heap.size, 1, none⟩ = some (.int .i64 0) := keepC hb1 (by simp) (by simp [go_sem])
  have f0 : w1.frozen? ⟨w.heap.size, 0, none⟩ = false := keepF hb1 (by simp) (by simp [go_sem])
  have f1 : w1.frozen? ⟨w.heap.size, 1, none⟩ = false := keepF hb1 (by simp) (by simp [go_sem])
  have s1 : w.heap.size < w1.heap.size := by omega
  by_cases hw : wr T n = 0
  · have hwb : (wr T n != 0) = false := by simp [hw]
    have hoT := wr_zero hw
    have K2 : Hid _ := H2.out hw
    have K3 : Hid _ := H3.out hw
    have K4 : Hid _ := H4.out hw
    clear H1 H2 H3 H4
    generalize wr T n = WT at *
    go_wp2_with fail
    refine (refWrong_any bo m c2 U _ (hU.keep h01) hc2 hA2).mono ?_
    rintro e w2 ⟨rfl, hb2⟩
    have z2 := hb2.size
    have h02 : Go.RowKit.Below w.heap.size w w2 := h01.trans (hb2.mono (by omega))
    replace d0 := keepC hb2 s1 d0
    replace d1 := keepC hb2 s1 d1
    replace f0 := keepF hb2 s1 f0
    replace f1 := keepF hb2 s1 f1
    have s2 : w.heap.size < w2.heap.size := by omega
    by_cases hv : wr U m = 0
    · have hvb : (wr U m != 0) = false := by simp [hv]
      have hoU := wr_zero hv
      have L3 : Hid _ := K3.out hv
      have L4 : Hid _ := K4.out hv
      clear K2 K3 K4
      generalize wr U m = WU at *
      by_cases hn0 : n = 0
      · have HF := L3.out (fun h => h.1 hn0)
        have hz : ((n : Int) == 0) = true := by simp [hn0]
        clear L3 L4 hoT hoU hT hU hn0
        go_wp2_with fail
        go_quiet (fail)
        go_wp2_with fail
        refine bodyPost_ret (v := .tuple #[.int .i64 0, .agg #[.int .i64 0, .int .i64 0], .int .i64 6]) (by simp [results, Tryd.results15, go_sem, d0, d1]) rfl ⟨HF, ?_⟩
        exact ((below_drewN h02 nq).setCell (p := ⟨w.heap.size, 0, none⟩) (Nat.le_refl _) (.int .i64 0)).setCell (p := ⟨w.heap.size, 1, none⟩) (Nat.le_refl _) (.int .i64 0)
      · have hz : ((n : Int) == 0) = false := by simp [hn0]
        by_cases hm0 : m = 0
        · have HF := L3.out (fun h => hn0 (h.2.1.symm.trans hm0))
          have hz2 : ((m : Int) == 0) = true := by simp [hm0]
          clear L3 L4 hoT hoU hT hU hm0
          go_wp2_with fail
          go_quiet (fail)
          go_wp2_with fail
          refine bodyPost_ret (v := .tuple #[.int .i64 0, .agg #[.int .i64 0, .int .i64 0], .int .i64 6]) (by simp [results, Tryd.results15, go_sem, d0, d1]) rfl ⟨HF, ?_⟩
          exact ((below_drewN h02 nq).setCell (p := ⟨w.heap.size, 0, none⟩) (Nat.le_refl _) (.int .i64 0)).setCell (p := ⟨w.heap.size, 1, none⟩) (Nat.le_refl _) (.int .i64 0)
        · have hz2 : ((m : Int) == 0) = false := by simp [hm0]
          have hpos : 0 < n := by omega
          have hpos2 : 0 < m := by omega
          obtain ⟨b, off, rfl, hbl, p0, p1, p2, p3, p4⟩ := (hT.keep h02).at' hpos
          obtain ⟨b', off', rfl, hbl', q0, q1, q2, q3, q4⟩ := (hU.keep h02).at' hpos2
          have r0 := p0 0 hpos
          have r2 := p2 0 hpos
          have r3 := p3 0 hpos
          have r4 := p4 0 hpos
          have t0 := q0 0 hpos2
          have t2 := q2 0 hpos2
          have t3 := q3 0 hpos2
          have t4 := q4 0 hpos2
          rw [Nat.zero_mul, Nat.add_zero] at r0 r2 r3 r4 t0 t2 t3 t4
          obtain ⟨o1, o2, _, _⟩ := okT_yes (hoT.ok 0 hpos)
          obtain ⟨o3, o4, _, _⟩ := okT_yes (hoU.ok 0 hpos2)
          have hrT := hoT.rt 0 hpos
          have hrU := hoU.rt 0 hpos2
          have a1' := hA 0 hpos
          have a2' := hA2 0 hpos2
          have hbk : M.bk (T 0).l (T 0).a (T 0).o (U 0).l (U 0).a (U 0).o = true := by unfold M.bk; rw [hrT, hrU]; rfl
          clear p0 p1 p2 p3 p4 q0 q1 q2 q3 q4
          by_cases hlt : (U 0).t < (T 0).t
          · have HF := L3.out (fun h => by
              have := (rng_yes (ae_zero h.2.2.1).2.1).2.2.1
              have e : (fc T U).d = (U 0).t - (T 0).t := rfl
              omega)
            clear L3 L4 hoT hoU hT hU
            go_wp2_with fail
            go_quiet (fail)
            go_wp2_with fail
            refine bodyPost_ret (v := .tuple #[.int .i64 0, .agg #[.int .i64 0, .int .i64 0], .int .i64 6]) (by simp [results, Tryd.results15, go_sem, d0, d1]) rfl ⟨HF, ?_⟩
            exact ((below_drewN h02 nq).setCell (p := ⟨w.heap.size, 0, none⟩) (Nat.le_refl _) (.int .i64 0)).setCell (p := ⟨w.heap.size, 1, none⟩) (Nat.le_refl _) (.int .i64 0)
          · have cB : ∀ W : World, Calls Tryd.prog 31 #[.agg #[.int .i64 (T 0).l, .int .i64 (T 0).a, .int .i64 (T 0).o], .agg #[.int .i64 (U 0).l, .int .i64 (U 0).a, .int .i64 (U 0).o]] W fun e w'' => e = .returned (.tuple #[.agg #[.int .i64 (M.st (U 0).l (U 0).o - M.st (T 0).l (T 0).o), .int .i64 (M.hv (U 0).l (U 0).a (U 0).o - M.hv (T 0).l (T 0).a (T 0).o)], .int .i64 0]) ∧ Go.RowKit.Below W.heap.size W w'' := fun W => refBetween_yes (T 0).l (T 0).a (T 0).o (U 0).l (U 0).a (U 0).o W a1'.1 a1'.2 a2'.1 a2'.2 hbk
            have cAp : ∀ W : World, Go.RowKit.Below w.heap.size w W → Calls Tryd.prog 12 #[.agg #[.bool false, .int .i64 1, .bool false, .int .i64 0, .int .i64 0, .int .i64 0, .int .i64 (M.st (U 0).l (U 0).o - M.st (T 0).l (T 0).o), .int .i64 (M.hv (U 0).l (U 0).a (U 0).o - M.hv (T 0).l (T 0).a (T 0).o), .int .i64 ((U 0).t - (T 0).t)], .slice (some ⟨b, off, none⟩) n c1] W fun e w' => ∃ bo k cp E, e = .returned (.tuple #[.slice bo k cp, .int .i64 E]) ∧ Go.RowKit.Below W.heap.size W w' ∧ ((E ≠ 0 ∧ ae (fc T U) T n = E) ∨ (E = 0 ∧ k = n ∧ n ≤ cp ∧ cp ≤ 9223372036854775807 ∧ ∃ Z, TL w' bo n Z ∧ App (fc T U) T n Z)) := fun W hg => refApply_one (fc T U) (some ⟨b, off, none⟩) n c1 T W (hT.keep hg) hc1 hA (by show -9223372036854775808 ≤ (0 : Int); decide) (by show (0 : Int) ≤ 9223372036854775807; decide)
            have M3 : Hid (¬ (m = n ∧ Mk (fc T U) T U n) → _) := fun h => L3.out (fun h2 => h ⟨h2.2.1, h2.2.2⟩)
            have M4 : Hid _ := L4.out hn0
            have HSm : Hid (∀ Z, App (fc T U) T n Z → (tab Z n = tab U m ↔ (m = n ∧ Mk (fc T U) T U n))) := fun Z hZ => fol_same hoU hZ
            have HNo : Hid (ae (fc T U) T n ≠ 0 → ¬ (m = n ∧ Mk (fc T U) T U n)) := fun h h2 => h h2.2.1
            generalize (m = n ∧ Mk (fc T U) T U n) = PP at M3 M4 HSm HNo
            clear L3 L4 hbk hrT hrU
            generalize M.st (U 0).l (U 0).o - M.st (T 0).l (T 0).o = SS at *
            generalize M.hv (U 0).l (U 0).a (U 0).o - M.hv (T 0).l (T 0).a (T 0).o = HH at *
            go_wp2_with fail
            go_quiet (fail)
            obtain ⟨w3, hw3⟩ : ∃ x, x = w2.drewN nq := ⟨_, rfl⟩
            rw [← hw3]
            have h23 : Go.RowKit.Below w2.heap.size w2 w3 := by rw [hw3]; exact below_drewN (Below.refl _ _) _
            clear hw3
            have z3 := h23.size
            have h03 : Go.RowKit.Below w.heap.size w w3 := h02.trans (h23.mono (by omega))
            have s3 : w.heap.size < w3.heap.size := by omega
            replace r0 := keepC h23 hbl r0
            replace r2 := keepC h23 hbl r2
            replace r3 := keepC h23 hbl r3
            replace r4 := keepC h23 hbl r4
            replace t0 := keepC h23 hbl' t0
            replace t2 := keepC h23 hbl' t2
            replace t3 := keepC h23 hbl' t3
            replace t4 := keepC h23 hbl' t4
            replace d0 := keepC h23 s2 d0
            replace d1 := keepC h23 s2 d1
            replace f0 := keepF h23 s2 f0
            replace f1 := keepF h23 s2 f1
            have sb : b < w3.heap.size := by omega
            have sb' : b' < w3.heap.size := by omega
            go_upto_region 9 with fail
            go_cut [9, 10] (fun p e wx => ∃ pb, p = .pointer (some ⟨pb, 0, none⟩) ∧ e = .int .i64 0 ∧ I2 wx pb SS HH ∧ Go.RowKit.Below w3.heap.size w3 wx)
            case first =>
              clear cAp M3 M4 HSm HNo
              go_region_with (go_at_call 31; refine (cB _).mono ?_; rintro e w4 ⟨rfl, hb4⟩; have h34 : Go.RowKit.Below w3.heap.size w3 w4 := Below.trans (by go_grown) (hb4.mono (by simp)); first | (have nn := new2_drew hb4; obtain ⟨n0, n1, g0, g1, hnz⟩ := nn) | skip)
              all_goals
                go_wp2_with fail
                go_meet
                case rel =>
                  first
                  | exact ⟨w3.heap.size, rfl, rfl, ⟨by simpa [World.setCell] using hnz, by simp [go_sem, n0], by simp [go_sem, n1]⟩, (h34.setCell (by simp) _).setCell (by simp) _⟩
                  | exact ⟨w4.heap.size, rfl, rfl, ⟨by simp, by simp [go_sem], by simp [go_sem]⟩, h34.alloc h34.size _⟩
            case rest =>
              obtain ⟨pb, rfl, rfl, hI, hb4⟩ := hcut
              rename World => w4
              have z4 := hb4.size
              have h04 : Go.RowKit.Below w.heap.size w w4 := h03.trans (hb4.mono (by omega))
              replace r0 := keepC hb4 sb r0
              replace t0 := keepC hb4 sb' t0
              replace d0 := keepC hb4 s3 d0
              replace d1 := keepC hb4 s3 d1
              replace f0 := keepF hb4 s3 f0
              replace f1 := keepF hb4 s3 f1
              have s4 : w.heap.size < w4.heap.size := by omega
              have sc : b < w4.heap.size := by omega
              have sc' : b' < w4.heap.size := by omega
              have hI' := hI
              obtain ⟨il, i1, i2⟩ := hI'
              clear r2 r3 r4 t2 t3 t4 cB h23 h02 h01 hb1 hb2 h03
              have hid : IntKind.i64.wrap ((U 0).t - (T 0).t) = (U 0).t - (T 0).t := wid (by omega) (by omega)
              go_upto_region 10 with fail
              go_cut [11, 12] (fun v e wx => ∃ vo vk vc E5, v = .slice vo vk vc ∧ e = .int .i64 E5 ∧ Go.RowKit.Below w4.heap.size w4 wx ∧ Hid ((E5 ≠ 0 ∧ ae (fc T U) T n = E5) ∨ (E5 = 0 ∧ vk = n ∧ n ≤ vc ∧ vc ≤ 9223372036854775807 ∧ ∃ Z, TL wx vo n Z ∧ App (fc T U) T n Z)))
              case first =>
                clear M3 M4 HSm HNo
                go_region_with (go_at_call 12; refine (cAp _ ?_).mono ?_; exact h04.trans ((show Go.RowKit.Below w4.heap.size w4 w4.drew by go_grown).mono h04.size); rintro e w5 ⟨vo, vk, vc, E5, rfl, hb5, hq5⟩; have HQ5 : Hid _ := hq5; clear hq5)
                all_goals
                  go_wp2_with fail
                  go_meet
                  case rel => exact ⟨vo, vk, vc, E5, rfl, rfl, ⟨hb5.os, hb5.tape, hb5.output, hb5.size, hb5.block⟩, HQ5⟩
              case rest =>
                obtain ⟨vo, vk, vc, E5, rfl, rfl, h45, Hq5⟩ := hcut
                rename World => w5
                have hq5 := Hq5.out
                clear Hq5
                have z5 := h45.size
                have h05 : Go.RowKit.Below w.heap.size w w5 := h04.trans (h45.mono (by omega))
                replace r0 := keepC h45 sc r0
                replace t0 := keepC h45 sc' t0
                replace d0 := keepC h45 s4 d0
                replace d1 := keepC h45 s4 d1
                replace f0 := keepF h45 s4 f0
                replace f1 := keepF h45 s4 f1
                replace hI := hI.keep h45
                have s5 : w.heap.size < w5.heap.size := by omega
                have sd : b < w5.heap.size := by omega
                have sd' : b' < w5.heap.size := by omega
                clear il i1 i2 hb4 h45 h04 cAp
                rcases hq5 with ⟨hE, hae⟩ | ⟨rfl, rfl, hk1, hk2, Z, hZ, hAp⟩
                · have hEb : (E5 != 0) = true := by simp [hE]
                  have HF := M3.out (HNo.out (by rw [hae]; exact hE))
                  clear M3 M4 HSm HNo hae hE
                  go_wp2_with fail
                  refine bodyPost_ret (v := .tuple #[.int .i64 0, .agg #[.int .i64 0, .int .i64 0], .int .i64 6]) (by simp [results, Tryd.results15, go_sem, d0, d1]) rfl ⟨HF, ?_⟩
                  exact (h05.setCell (p := ⟨w.heap.size, 0, none⟩) (Nat.le_refl _) (.int .i64 0)).setCell (p := ⟨w.heap.size, 1, none⟩) (Nat.le_refl _) (.int .i64 0)
                · have hS := Same_any vo (some ⟨b', off', none⟩) _ m _ c2 Z U w5 hZ (hU.keep h05) hk1 hc2 hk2 hm2
                  have HIf : Hid _ := HSm.out Z hAp
                  clear HSm HNo hAp
                  go_wp2_with fail
                  refine hS.mono ?_
                  rintro e w6 ⟨⟨Bv, rfl, hB⟩, hb6⟩
                  have z6 := hb6.size
                  have h06 : Go.RowKit.Below w.heap.size w w6 := h05.trans (hb6.mono (by omega))
                  replace r0 := keepC hb6 sd r0
                  replace t0 := keepC hb6 sd' t0
                  replace d0 := keepC hb6 s5 d0
                  replace d1 := keepC hb6 s5 d1
                  replace f0 := keepF hb6 s5 f0
                  replace f1 := keepF hb6 s5 f1
                  replace hI := hI.keep hb6
                  have s6 : w.heap.size < w6.heap.size := by omega
                  have se : b < w6.heap.size := by omega
                  have se' : b' < w6.heap.size := by omega
                  obtain ⟨il, i1, i2⟩ := hI
                  clear hS
                  cases Bv
                  · have HF := M3.out (fun h => absurd (hB.2 (HIf.out.2 h)) (by decide))
                    clear M3 M4 HIf hB
                    go_wp2_with fail
                    refine bodyPost_ret (v := .tuple #[.int .i64 0, .agg #[.int .i64 0, .int .i64 0], .int .i64 6]) (by simp [results, Tryd.results15, go_sem, d0, d1]) rfl ⟨HF, ?_⟩
                    exact (h06.setCell (p := ⟨w.heap.size, 0, none⟩) (Nat.le_refl _) (.int .i64 0)).setCell (p := ⟨w.heap.size, 1, none⟩) (Nat.le_refl _) (.int .i64 0)
                  · have HF := M4.out (HIf.out.1 (hB.1 rfl))
                    clear M3 M4 HIf hB
                    go_wp2_with fail
                    go_region
                    all_goals go_wp2_with fail
                    all_goals refine bodyPost_ret (v := .tuple #[.int .i64 ((U 0).t - (T 0).t), .agg #[.int .i64 SS, .int .i64 HH], .int .i64 0]) (by simp [results, Tryd.results15, go_sem, d0, d1, hid]) rfl ⟨HF, ?_⟩
                    all_goals exact ((h06.setCell (p := ⟨w.heap.size, 0, none⟩) (Nat.le_refl _) (.int .i64 SS)).setCell (p := ⟨w.heap.size, 1, none⟩) (Nat.le_refl _) (.int .i64 HH)).trans ⟨rfl, rfl, rfl, Nat.le_refl _, fun _ _ => rfl⟩
    · have hvb : (wr U m != 0) = true := by simp [hv]
      have HF := K2.out hv
      clear K2 K3 K4
      generalize wr U m = WU at *
      go_wp2_with fail
      refine bodyPost_ret (v := .tuple #[.int .i64 0, .agg #[.int .i64 0, .int .i64 0], .int .i64 WU]) (by simp [results, Tryd.results15, go_sem, d0, d1]) rfl ⟨HF, ?_⟩
      exact (h02.setCell (by simp) _).setCell (by simp) _
  · have hwb : (wr T n != 0) = true := by simp [hw]
    have HF := H1.out hw
    clear H1 H2 H3 H4
    generalize wr T n = WT at *
    go_wp2_with fail
    refine bodyPost_ret (v := .tuple #[.int .i64 0, .agg #[.int .i64 0, .int .i64 0], .int .i64 WT]) (by simp [results, Tryd.results15, go_sem, d0, d1]) rfl ⟨HF, ?_⟩
    exact (h01.setCell (by simp) _).setCell (by simp) _
end Go.Proofs.YtjakaceckmhjiafDoor.Y
