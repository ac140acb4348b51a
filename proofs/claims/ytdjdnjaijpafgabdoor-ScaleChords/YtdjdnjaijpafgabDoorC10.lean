/- What the document's What comes to. -/
import Derived.Test.YtdjdnjaijpafgabDoorC9b
import Derived.Test.YtdjdnjaijpafgabDoorC9c
import Derived.Test.YtdjdnjaijpafgabDoorC7
import Derived.Deep.RegionWith
import Derived.Lib.QuietBelow
namespace Go.Proofs.YtdjdnjaijpafgabDoor
open Go.RowKit Go.Sort
attribute [local go_sem ↓] Go.wp_at_zero Go.wp_at_succ
set_option linter.unusedSimpArgs false
set_option linter.unusedVariables false

theorem own_lt {w : World} {base : Nat} {e : TypeId} {size : Nat} {v : Value} {n : Nat} {xs : List Value} (h : w.ownsRow base e size v n xs) : ∀ k, v.ownBlock = some k → k < w.heap.size := by
  intro k hk
  rcases h.2 with ⟨rfl, _⟩ | ⟨g, cap, cur, rfl, h1, h2, rest⟩
  · simp [Value.ownBlock] at hk
  · have := (Array.getElem?_eq_some_iff.1 h2).1
    simp [Value.ownBlock] at hk
    omega
theorem grown_cell {w w' : World} {row : Option Nat} (hg : w.grownBy w' row) {b o : Nat} {v : Value} (hlt : b < w.heap.size) (hne : ∀ k, row = some k → k ≠ b) (h : w.cell? ⟨b, o, none⟩ = some v) : w'.cell? ⟨b, o, none⟩ = some v :=
  (World.cell?_of_block (w := w) (w' := w') (a := ⟨b, o, none⟩) (hg.block b hlt (fun e => hne b e.symm rfl))).trans h
theorem KB.oth {w : World} {b b' i : Nat} {v : Value} (h : KB w b) (hne : b ≠ b') : KB (w.setCell ⟨b', i, none⟩ v) b :=
  ⟨by simpa using h.lt, by rw [World.cell?_setCell_other _ _ _ _ (by simp [hne])]; exact h.n0, by rw [World.cell?_setCell_other _ _ _ _ (by simp [hne])]; exact h.n1, by rw [World.cell?_setCell_other _ _ _ _ (by simp [hne])]; exact h.n2, by rw [World.cell?_setCell_other _ _ _ _ (by simp [hne])]; exact h.n3, by simpa [go_sem] using h.g0, by simpa [go_sem] using h.g1, by simpa [go_sem] using h.g2, by simpa [go_sem] using h.g3⟩
theorem own_put {w : World} {base : Nat} {e : TypeId} {size : Nat} {v : Value} {n : Nat} {xs : List Value} {b i : Nat} {u : Value} (h : w.ownsRow base e size v n xs) (hb : b < base) : (w.setCell ⟨b, i, none⟩ u).ownsRow base e size v n xs := by
  refine ⟨by simpa using h.1, ?_⟩
  rcases h.2 with hn | ⟨g, cap, cur, rfl, h1, h2, rest⟩
  · exact .inl hn
  · refine .inr ⟨g, cap, cur, rfl, h1, ?_, rest⟩
    rw [heap_setCell_other w ⟨b, i, none⟩ g u (by show g ≠ b; omega)]; exact h2
theorem M.dd_mem_add {L A : Nat → Int} {k : Nat} (h : (L k, A k) ∈ M.dd L A k) : M.dd L A (k + 1) = M.dd L A k := by simp only [M.dd]; rw [if_pos h]
theorem M.dd_new_add {L A : Nat → Int} {k : Nat} (h : ¬ (L k, A k) ∈ M.dd L A k) : M.dd L A (k + 1) = M.dd L A k ++ [(L k, A k)] := by simp only [M.dd]; rw [if_neg h]
theorem own_new2 (w : World) (base : Nat) (hb : base ≤ w.heap.size) (x y : Value) (t : TypeId) : (w.alloc (.cells #[x, y] t)).ownsRow base t 2 (.slice (some ⟨w.heap.size, 0, none⟩) 1 1) 1 [x, y] := by
  refine ⟨rfl, .inr ⟨w.heap.size, 1, #[x, y], rfl, hb, ?_, Nat.le_refl _, by unfold maxLen; omega, rfl, rfl⟩⟩
  show (w.heap.push _)[w.heap.size]? = _
  simp
theorem M.stk1 {k : Int} (h : 1 ≤ k ∧ k ≤ 9) : 6 ≤ M.stk k 1 := by
  rcases (show k = 1 ∨ k = 2 ∨ k = 3 ∨ k = 4 ∨ k = 5 ∨ k = 6 ∨ k = 7 ∨ k = 8 ∨ k = 9 by omega) with rfl | rfl | rfl | rfl | rfl | rfl | rfl | rfl | rfl <;> decide
/-- The row of a chord's classes lies in no block that holds half tones. -/
theorem own_apart {w : World} {base p s : Nat} {t : TypeId} {v : Value} {r a k : Int} (h : w.ownsRow base t 2 v (p + 1) (rows (clsG r a k) (p + 1))) (h2 : w.cell? ⟨s, 1, none⟩ = some (.int .i64 (M.stk k 1)))
    (r1 : 0 ≤ r) (r2 : r ≤ 6) (ha : a ≤ 3) (hk : 1 ≤ k ∧ k ≤ 9) : ∀ g, v.ownBlock = some g → g ≠ s := fun g hg e => by
  obtain ⟨g', cap, rfl, _, _, _, hc⟩ := own_cells h (by omega)
  simp [Value.ownBlock] at hg
  have h1 := hc 1 (by omega)
  rw [hg, e, h2] at h1
  have h3 : (rows (clsG r a k) (p + 1))[1]? = some (.int .i64 a) := by
    have := rows_get (F := clsG r a k) (s := 2) (fun j => rfl) (p + 1) 0 1 (by omega) (by omega)
    rw [Nat.zero_mul, Nat.zero_add] at this
    rw [this]
    obtain ⟨e1, e2⟩ := M.aA_zero (a := a) (k := k) r1 r2
    show some (Value.int .i64 (M.aA r a k 0)) = _
    rw [e2]
  rw [h3] at h1
  have h4 : M.stk k 1 = a := by simpa using h1
  have h5 := M.stk1 hk
  omega
theorem M.tst_succ (D : List (Int × Int)) (r a k : Int) (j : Nat) : M.tst D r a k (j + 1) = (M.tst D r a k j && decide ((M.aL r j, M.aA r a k j) ∈ D)) := by
  unfold M.tst
  rw [Bool.and_assoc]
  rfl
theorem M.tst_zero (D : List (Int × Int)) (r a k : Int) : M.tst D r a k 0 = (((M.cnt k + 1 : Nat) : Int) == (D.length : Int)) := by unfold M.tst M.allB; rw [Bool.and_true]
theorem M.hid_all {L A O : Nat → Int} {k : Nat} (hall : Hid (∀ j, j < k → M.rt (L j) (A j) (O j) = true)) (hr : M.rt (L k) (A k) (O k) = true) : Hid (∀ j, j < k + 1 → M.rt (L j) (A j) (O j) = true) := fun j hj => by
  by_cases e : j = k
  · rw [e]; exact hr
  · exact hall.out j (by omega)

set_option maxRecDepth 20000 in
set_option maxHeartbeats 16000000 in
theorem refWhat_any (ao : Option Addr) (n c : Nat) (L A O : Nat → Int) (w : World) (hp : PL w ao n L A O) (hc : n ≤ c) (hcm : c ≤ 9223372036854775807) (hA : ∀ j, j < n → -9223372036854775808 ≤ A j ∧ A j ≤ 9223372036854775807) :
    Calls Tryd.prog 32 #[.slice ao n c] w fun e w' => WhatRes L A O n e ∧ Below w.heap.size w w' := by
  obtain ⟨i0, hi, hz0, hz1, hz2⟩ := info_parts info47
  go_enter Tryd.func32, Tryd.ntmps32
  go_wp2_with fail
  go_loopw [4, 21] (fun v i wr => ∃ k m : Nat, k ≤ n ∧ i = .int .i64 k ∧ Hid (∀ j, j < k → M.rt (L j) (A j) (O j) = true) ∧ Hid (0 < k → M.Low L O k m) ∧ Below w.heap.size w wr ∧ KB wr w.heap.size ∧ PB wr (w.heap.size + 1) (if k = 0 then 0 else L m) (if k = 0 then 0 else A m) (if k = 0 then 0 else O m) ∧ wr.ownsRow (w.heap.size + 2) 47 2 v (M.dd L A k).length (clsRow (M.dd L A k)))
    (fun _ i _ => n - (intOf i).toNat)
  case atStart =>
    refine ⟨0, 0, by omega, rfl, fun j hj => by omega, fun h => by omega, by go_grown, ?_, ?_, World.ownsRow_nil _ _ _ _⟩
    · exact ⟨by simp; omega, by simp [go_sem], by simp [go_sem], by simp [go_sem], by simp [go_sem], by simp [go_sem], by simp [go_sem], by simp [go_sem], by simp [go_sem]⟩
    · exact ⟨by simp, by simp [go_sem], by simp [go_sem], by simp [go_sem], by simp [go_sem], by simp [go_sem], by simp [go_sem]⟩
  case round =>
    obtain ⟨k, m, hkn, rfl, hall, hlow, hbr, hkb, hpb, hown⟩ := hrel
    have zr := hbr.size
    by_cases hlt : k < n
    · obtain ⟨b, off, rfl, hbl, q0, q1, q2⟩ := hp.at' (by omega)
      have r0 := keepC hbr hbl (q0 k hlt)
      have r1 := keepC hbr hbl (q1 k hlt)
      have r2 := keepC hbr hbl (q2 k hlt)
      have hbk : b < wr.heap.size := by omega
      have hAk := hA k hlt
      clear q0 q1 q2
      go_wp2_with fail
      refine (refRight_any (L k) (A k) (O k) _ hAk.1 hAk.2).mono ?_
      rintro e w1 ⟨rfl, hb1⟩
      have z1 := hb1.size
      simp at z1
      have k1 : Below wr.heap.size wr w1 := Below.trans (by go_grown) (hb1.mono (by simp))
      have h01 := hbr.trans (k1.mono zr)
      have hkb1 := hkb.step k1 hkb.lt (Nat.le_refl _)
      have t0 : w1.cell? ⟨wr.heap.size, 0, none⟩ = some (.int .i64 (L k)) := keepC hb1 (by simp) (by simp [go_sem])
      have t1 : w1.cell? ⟨wr.heap.size, 1, none⟩ = some (.int .i64 (A k)) := keepC hb1 (by simp) (by simp [go_sem])
      have t2 : w1.cell? ⟨wr.heap.size, 2, none⟩ = some (.int .i64 (O k)) := keepC hb1 (by simp) (by simp [go_sem])
      have st : wr.heap.size < w1.heap.size := by omega
      cases hr : M.rt (L k) (A k) (O k)
      · obtain ⟨dl, d0, d1, d2, d3, f0, f1, f2, f3⟩ := hkb1
        go_wp2_with fail
        refine bodyPost_ret (v := .tuple #[chV 0 0 0 0, .int .i64 2]) (by simp [results, Tryd.results32, go_sem, chV, d0, d1, d2, d3, dl]) rfl ⟨.inl ⟨⟨k, hlt, hr⟩, rfl⟩, ?_⟩
        exact (((h01.setCell (p := ⟨w.heap.size, 0, none⟩) (Nat.le_refl _) _).setCell (p := ⟨w.heap.size, 1, none⟩) (Nat.le_refl _) _).setCell (p := ⟨w.heap.size, 2, none⟩) (Nat.le_refl _) _).setCell (p := ⟨w.heap.size, 3, none⟩) (Nat.le_refl _) _
      · have hall2 := M.hid_all hall hr
        have h49 := M.dd_49 hall.out
        have hown1 := own_step hown k1
        have hpb1 := hpb.step k1 hpb.lt (Nat.le_refl _)
        have hpl := hpb.lt
        have hownlt := own_lt hown
        obtain ⟨aoK, capK, rfl, hKL⟩ := own_KL hown1
        go_wp2_with fail
        refine (has_any aoK _ capK _ _ (L k) (A k) _ (hKL.step (by go_grown)) (by omega)).mono ?_
        rintro e w2 ⟨rfl, hb2⟩
        rw [M.hasC_dd]
        have z2 := hb2.size
        simp at z2
        have k2 : Below w1.heap.size w1 w2 := Below.trans (by go_grown) (hb2.mono (by simp))
        have h02 := h01.trans (k2.mono (by omega))
        have hkb2 := hkb1.step k2 hkb1.lt (Nat.le_refl _)
        have hpb2 := hpb1.step k2 hpb1.lt (Nat.le_refl _)
        replace t0 := keepC k2 (by omega) t0
        replace t1 := keepC k2 (by omega) t1
        replace t2 := keepC k2 (by omega) t2
        have g0 : w2.cell? ⟨w1.heap.size, 0, none⟩ = some (.int .i64 (L k)) := keepC hb2 (by simp) (by simp [go_sem])
        have g1 : w2.cell? ⟨w1.heap.size, 1, none⟩ = some (.int .i64 (A k)) := keepC hb2 (by simp) (by simp [go_sem])
        have st2 : wr.heap.size < w2.heap.size := by omega
        have sg2 : w1.heap.size < w2.heap.size := by omega
        have hown2 := own_step hown1 k2
        have rk := M.rt_yes hr
        have rm : 0 < k → M.rt (L m) (A m) (O m) = true := fun h => hall.out m (hlow.out h).lt
        clear hkb hpb hown hown1 hkb1 hpb1 hKL r0 r1 r2
        go_upto_if 38 with fail
        go_cut [4] (fun v wx => wx.ownsRow (w.heap.size + 2) 47 2 v (M.dd L A (k + 1)).length (clsRow (M.dd L A (k + 1))) ∧ Below (w.heap.size + 2) w2 wx ∧ wx.cell? ⟨wr.heap.size, 0, none⟩ = some (.int .i64 (L k)) ∧ wx.cell? ⟨wr.heap.size, 1, none⟩ = some (.int .i64 (A k)) ∧ wx.cell? ⟨wr.heap.size, 2, none⟩ = some (.int .i64 (O k)))
        case first =>
          by_cases hmem : (L k, A k) ∈ M.dd L A k
          · have hdd := M.dd_mem_add hmem
            rw [decide_eq_true hmem]
            rw [← hdd] at hown2
            clear hmem
            go_wp2_with fail
            go_meet
            case rel => exact ⟨by rw [hdd] at hown2 ⊢; exact hown2, Below.refl _ _, t0, t1, t2⟩
          · have hdd := M.dd_new_add hmem
            rw [decide_eq_false hmem]
            clear hmem
            go_wp2_with (at_builtin; refine wpList_append_own _ rfl (.tmp 39) (.tmp 41) 50 rfl (w.heap.size + 2) 47 i0 (.agg #[.int .i64 0, .int .i64 0]) 2 16 Tryd.underlying50 hi hz0 hz1 hz2 rfl (by decide) _ (M.dd L A k).length (clsRow (M.dd L A k)) rfl (hown2.alloc _) ⟨w2.heap.size, 0, none⟩ 1 1 [.int .i64 (L k), .int .i64 (A k)] rfl rfl ?c1 ?c2 ?c3 ?c4 ?c5 ?_)
            case c1 =>
              intro j u hj
              match j, hj with
              | 0, hj => simp at hj; subst hj; simp [Addr.add]
              | 1, hj => simp at hj; subst hj; simp [Addr.add]
            case c2 => intro u hu; simp at hu; rcases hu with rfl | rfl <;> rfl
            case c3 => unfold maxLen; omega
            case c4 => omega
            case c5 => simp; omega
            · intro v' w3 hown' hgrow _
              have hlen' : (M.dd L A (k + 1)).length = (M.dd L A k).length + 1 := by rw [hdd]; simp
              have hrow' : clsRow (M.dd L A k) ++ [.int .i64 (L k), .int .i64 (A k)] = clsRow (M.dd L A (k + 1)) := by rw [hdd]; exact clsRow_add _ (L k, A k)
              rw [hrow', ← hlen'] at hown'
              have zg := hgrow.size
              simp at zg
              have k3 : Below (w.heap.size + 2) w2 w3 := ((Below.refl _ w2).alloc (by omega) _).grown hgrow (by simp; omega) (own_block hown2)
              have hne : ∀ g, (Value.slice aoK (M.dd L A k).length capK).ownBlock = some g → g ≠ wr.heap.size := fun g hg => by have := hownlt g hg; omega
              replace t0 : w3.cell? ⟨wr.heap.size, 0, none⟩ = some (.int .i64 (L k)) := grown_cell hgrow (by simp; omega) hne (by simp [go_sem, t0, st2])
              replace t1 : w3.cell? ⟨wr.heap.size, 1, none⟩ = some (.int .i64 (A k)) := grown_cell hgrow (by simp; omega) hne (by simp [go_sem, t1, st2])
              replace t2 : w3.cell? ⟨wr.heap.size, 2, none⟩ = some (.int .i64 (O k)) := grown_cell hgrow (by simp; omega) hne (by simp [go_sem, t2, st2])
              clear hgrow hown2 hrow' hlen' hne hkb2 hpb2
              go_wp2_with fail
              go_meet
              case rel => exact ⟨hown', k3, t0, t1, t2⟩
        case rest =>
          obtain ⟨hown3, k3, v0, v1, v2⟩ := hcut
          rename World => w3
          have z3 := k3.size
          have h03 : Below w.heap.size w w3 := h02.trans (k3.mono (by omega))
          have hkb3 := hkb2.step k3 (by omega) (by omega)
          have hpb3 := hpb2.step k3 (by omega) (by omega)
          have st3 : wr.heap.size < w3.heap.size := by omega
          clear hkb2 hpb2 hown2 t0 t1 t2 g0 g1
          go_wp2_with fail
          obtain ⟨T, hT⟩ : ∃ T, (decide (k = 0) || M.lower (L k) (A k) (O k) (L m) (A m) (O m)) = T := ⟨_, rfl⟩
          have HT : Hid ((decide (k = 0) || M.lower (L k) (A k) (O k) (L m) (A m) (O m)) = T) := hT
          go_cut [65] (fun c wx => c = .bool T ∧ Below w3.heap.size w3 wx)
          case first =>
            have kt0 := cell_regrown v0
            have kt1 := cell_regrown v1
            have kt2 := cell_regrown v2
            by_cases e0 : k = 0
            · have hT2 : T = true := by rw [← hT, decide_eq_true e0]; rfl
              subst hT2
              have e0' : ((k : Int) == 0) = true := by simp [e0]
              clear hT HT e0
              go_quiet (fail)
              go_wp2_with fail
              go_meet
              case rel => exact ⟨rfl, below_drewN (Below.refl _ _) _⟩
            · have rm' := M.rt_yes (rm (by omega))
              have e0' : ((k : Int) == 0) = false := by simp; omega
              rw [decide_eq_false e0, Bool.false_or] at hT
              have hpbm := hpb3
              simp only [if_neg e0] at hpbm
              have kn0 := cell_regrown hpbm.n0
              have kn1 := cell_regrown hpbm.n1
              have kn2 := cell_regrown hpbm.n2
              have cS : ∀ d os, Calls Tryd.prog 62 #[.agg #[.int .i64 (L k), .int .i64 (A k), .int .i64 (O k)]] (grow (redrawn w3 d) os) fun e w'' => e = .returned (.int .i64 (M.st (L k) (O k))) ∧ ∃ p : Regrown, w'' = grow (redrawn w3 p.d) p.os := fun d os => Calls.regrown_of (Steps_any (L k) (A k) (O k) _ (by omega) (by omega) (by omega) (by omega))
              have cM : ∀ d os, Calls Tryd.prog 62 #[.agg #[.int .i64 (L m), .int .i64 (A m), .int .i64 (O m)]] (grow (redrawn w3 d) os) fun e w'' => e = .returned (.int .i64 (M.st (L m) (O m))) ∧ ∃ p : Regrown, w'' = grow (redrawn w3 p.d) p.os := fun d os => Calls.regrown_of (Steps_any (L m) (A m) (O m) _ (by omega) (by omega) (by omega) (by omega))
              clear HT hpbm
              rcases Int.lt_trichotomy (M.st (L k) (O k)) (M.st (L m) (O m)) with hs | hs | hs
              · have hT2 : T = true := by rw [← hT]; exact M.lower_lt hs
                subst hT2
                clear hT
                generalize M.st (L k) (O k) = S at *
                generalize M.st (L m) (O m) = S' at *
                refine wp_region_quiet_below (by kernel_rfl) (by kernel_rfl) ?_
                repeat (go_big_quiet_step (first | exact cS _ _ | exact cM _ _))
                refine wpQuiet_nil ?_
                intro _ hw'
                obtain ⟨⟨dq, osq⟩, hw''⟩ := hw'
                subst hw''
                go_wp2_with fail
                go_meet
                case rel => exact ⟨rfl, below_regrown w3 dq osq⟩
              · have hT1 : T = decide (A k < A m) := by rw [← hT]; exact M.lower_eq hs
                rw [← hs] at cM
                clear hT hs
                generalize M.st (L k) (O k) = S at *
                by_cases ha : A k < A m
                · have hT2 : T = true := by rw [hT1]; exact decide_eq_true ha
                  subst hT2
                  clear hT1
                  refine wp_region_quiet_below (by kernel_rfl) (by kernel_rfl) ?_
                  repeat (go_big_quiet_step (first | exact cS _ _ | exact cM _ _))
                  refine wpQuiet_nil ?_
                  intro _ hw'
                  obtain ⟨⟨dq, osq⟩, hw''⟩ := hw'
                  subst hw''
                  go_wp2_with fail
                  go_meet
                  case rel => exact ⟨rfl, below_regrown w3 dq osq⟩
                · have hT2 : T = false := by rw [hT1]; exact decide_eq_false ha
                  subst hT2
                  clear hT1
                  have ha' : decide (A k < A m) = false := decide_eq_false ha
                  refine wp_region_quiet_below (by kernel_rfl) (by kernel_rfl) ?_
                  repeat (go_big_quiet_step (first | exact cS _ _ | exact cM _ _))
                  refine wpQuiet_nil ?_
                  intro _ hw'
                  obtain ⟨⟨dq, osq⟩, hw''⟩ := hw'
                  subst hw''
                  go_wp2_with fail
                  go_meet
                  case rel => exact ⟨rfl, below_regrown w3 dq osq⟩
              · have hT2 : T = false := by rw [← hT]; exact M.lower_gt hs
                subst hT2
                clear hT
                have hs1 : decide (M.st (L k) (O k) < M.st (L m) (O m)) = false := decide_eq_false (by omega)
                have hs2 : (M.st (L k) (O k) == M.st (L m) (O m)) = false := by simp; omega
                generalize M.st (L k) (O k) = S at *
                generalize M.st (L m) (O m) = S' at *
                refine wp_region_quiet_below (by kernel_rfl) (by kernel_rfl) ?_
                repeat (go_big_quiet_step (first | exact cS _ _ | exact cM _ _))
                refine wpQuiet_nil ?_
                intro _ hw'
                obtain ⟨⟨dq, osq⟩, hw''⟩ := hw'
                subst hw''
                go_wp2_with fail
                go_meet
                case rel => exact ⟨rfl, below_regrown w3 dq osq⟩
          case rest =>
            obtain ⟨rfl, hbx⟩ := hcut
            rename World => wx
            have zx := hbx.size
            have h0x := h03.trans (hbx.mono (by omega))
            have hkbx := hkb3.step hbx hkb3.lt (Nat.le_refl _)
            have hpbx := hpb3.step hbx hpb3.lt (Nat.le_refl _)
            have hownx := own_step hown3 hbx
            have u0 := keepC hbx st3 v0
            have u1 := keepC hbx st3 v1
            have u2 := keepC hbx st3 v2
            have sx : wr.heap.size < wx.heap.size := by omega
            clear hkb3 hpb3 hown3 v0 v1 v2
            cases T
            · have hk0 : ¬ k = 0 := fun e => by have := HT.out; rw [decide_eq_true e] at this; simp at this
              have hlo : M.lower (L k) (A k) (O k) (L m) (A m) (O m) = false := by have := HT.out; rw [decide_eq_false hk0] at this; simpa using this
              have hlow2 : Hid (0 < k + 1 → M.Low L O (k + 1) m) := fun _ => M.Low.keep (hlow.out (by omega)) hlo
              simp only [if_neg hk0] at hpbx
              have hpby : PB wx (w.heap.size + 1) (if k + 1 = 0 then 0 else L m) (if k + 1 = 0 then 0 else A m) (if k + 1 = 0 then 0 else O m) := by simp only [if_neg (Nat.succ_ne_zero k)]; exact hpbx
              clear hT hpbx hlo
              go_wp2_with fail
              go_roundw
              case rel => exact ⟨k + 1, m, by omega, by go_num, hall2, hlow2, h0x, hkbx, hpby, hownx⟩
              case measure => simp [intOf]; omega
            · have hlow2 : Hid (0 < k + 1 → M.Low L O (k + 1) k) := fun _ => M.Low.take hlow.out fun h => by have := HT.out; rw [decide_eq_false (by omega)] at this; simpa using this
              obtain ⟨plx, n0x, n1x, n2x, g0x, g1x, g2x⟩ := hpbx
              clear hT
              go_wp2_with fail
              go_roundw
              case rel =>
                refine ⟨k + 1, k, by omega, by go_num, hall2, hlow2, ?_, ?_, ?_, ?_⟩
                · exact ((h0x.setCell (p := ⟨w.heap.size + 1, 0, none⟩) (by show w.heap.size ≤ w.heap.size + 1; omega) _).setCell (p := ⟨w.heap.size + 1, 1, none⟩) (by show w.heap.size ≤ w.heap.size + 1; omega) _).setCell (p := ⟨w.heap.size + 1, 2, none⟩) (by show w.heap.size ≤ w.heap.size + 1; omega) _
                · exact ((hkbx.oth (by omega)).oth (by omega)).oth (by omega)
                · simp only [if_neg (Nat.succ_ne_zero k)]
                  exact PB.put' ⟨plx, n0x, n1x, n2x, g0x, g1x, g2x⟩
                · exact own_put (own_put (own_put hownx (by omega)) (by omega)) (by omega)
              case measure => simp [intOf]; omega
    · have ek : k = n := by omega
      subst ek
      have h49 := M.dd_49 hall.out
      obtain ⟨aoK, capK, rfl, hKL⟩ := own_KL hown
      have hnz : 0 < (M.dd L A k).length → ¬ k = 0 := fun h e => by subst e; simp [M.dd] at h
      have hGR := fun q (hq : q < (M.dd L A k).length) => (M.g_right hall.out hq).1
      have HFN : Hid (∀ q kk : Nat, q < (M.dd L A k).length → 1 ≤ kk → kk ≤ 9 → _ = _) → WhatRes L A O k (.returned (.tuple #[chV 0 0 0 0, .int .i64 6])) := fun h => fin_none hall.out h.out
      have HFS : Hid (∀ q kk t : Nat, M.Low L O k m → q < (M.dd L A k).length → 1 ≤ kk → kk ≤ 9 → M.tst (M.dd L A k) (M.g1 (M.dd L A k) q) (M.g2 (M.dd L A k) q) kk (M.cnt kk + 1) = true → (∀ j, j < M.cnt kk + 1 → M.aL (M.g1 (M.dd L A k) q) j = L m ∧ M.aA (M.g1 (M.dd L A k) q) (M.g2 (M.dd L A k) q) kk j = A m → t = j) → WhatRes L A O k (.returned (.tuple #[chV (M.g1 (M.dd L A k) q) (M.g2 (M.dd L A k) q) kk t, .int .i64 0]))) := fun q kk t h1 h2 h3 h4 h5 h6 => fin_some hall.out h1 h2 h3 h4 h5 h6
      have HGR : Hid (∀ q, q < (M.dd L A k).length → 0 ≤ M.g1 (M.dd L A k) q ∧ M.g1 (M.dd L A k) q ≤ 6 ∧ -3 ≤ M.g2 (M.dd L A k) q ∧ M.g2 (M.dd L A k) q ≤ 3) := hGR
      have HFN' : Hid (_ → _) := HFN
      clear hGR HFN hown hA hp hkn hlt
      have hhas := fun x y W (hW : KL W aoK (M.dd L A k).length (M.g1 (M.dd L A k)) (M.g2 (M.dd L A k))) => has_any aoK (M.dd L A k).length capK _ _ x y W hW (by omega)
      simp only [M.hasC_dd] at hhas
      have HH : Hid (∀ x y W, _ → _) := hhas
      clear hhas
      generalize hDD : M.dd L A k = DD at *
      have HDD : Hid (M.dd L A k = DD) := hDD
      clear hDD
      go_wp2_with fail
      go_loopw [70] (fun i w5 => ∃ q : Nat, q ≤ DD.length ∧ i = .int .i64 q ∧ Hid (∀ q' k' : Nat, q' < q → 1 ≤ k' → k' ≤ 9 → M.tst DD (M.g1 DD q') (M.g2 DD q') k' (M.cnt k' + 1) = false) ∧ Below wr.heap.size wr w5) (fun i _ => DD.length - (intOf i).toNat)
      case atStart => exact ⟨0, by omega, rfl, fun q' k' h => by omega, Below.refl _ _⟩
      case round =>
        obtain ⟨q, hqN, rfl, hnone, hb5⟩ := hrel
        rename World => w5
        have z5 := hb5.size
        by_cases hq : q < DD.length
        · obtain ⟨bK, haoK, hbK, c0, c1⟩ := hKL.at' (by omega)
          have a0 := keepC hb5 hbK (c0 q hq)
          have a1 := keepC hb5 hbK (c1 q hq)
          have sK : bK < w5.heap.size := by omega
          have hk0 := hnz (by omega)
          have hrb := HGR.out q hq
          clear c0 c1
          simp only [if_neg hk0] at hpb
          have HS : Hid (∀ kk t : Nat, 1 ≤ kk → kk ≤ 9 → M.tst DD (M.g1 DD q) (M.g2 DD q) kk (M.cnt kk + 1) = true → (∀ j, j < M.cnt kk + 1 → M.aL (M.g1 DD q) j = L m ∧ M.aA (M.g1 DD q) (M.g2 DD q) kk j = A m → t = j) → WhatRes L A O k (.returned (.tuple #[chV (M.g1 DD q) (M.g2 DD q) kk t, .int .i64 0]))) := fun kk t h3 h4 h5 h6 => HFS.out q kk t (hlow.out (by omega)) hq h3 h4 h5 h6
          subst haoK
          generalize hr' : M.g1 DD q = r at *
          generalize ha' : M.g2 DD q = a at *
          have HR : Hid (M.g1 DD q = r ∧ M.g2 DD q = a) := ⟨hr', ha'⟩
          clear hr' ha' HFS hnz
          go_wp2_with fail
          have R0 : (w5.alloc (Obj.cells #[.int .i64 r, .int .i64 a] 47)).cell? ⟨w5.heap.size, 0, none⟩ = some (.int .i64 r) := by simp [go_sem]
          have R1 : (w5.alloc (Obj.cells #[.int .i64 r, .int .i64 a] 47)).cell? ⟨w5.heap.size, 1, none⟩ = some (.int .i64 a) := by simp [go_sem]
          have stp : Below w5.heap.size w5 (w5.alloc (Obj.cells #[.int .i64 r, .int .i64 a] 47)) := (Below.refl _ _).alloc (Nat.le_refl _) _
          go_loopw [11] (fun i w6 => ∃ kk : Nat, 1 ≤ kk ∧ kk ≤ 10 ∧ i = .int .i64 kk ∧ Hid (∀ k' : Nat, 1 ≤ k' → k' < kk → M.tst DD r a k' (M.cnt k' + 1) = false) ∧ Below (w5.heap.size + 1) (w5.alloc (Obj.cells #[.int .i64 r, .int .i64 a] 47)) w6) (fun i _ => 10 - (intOf i).toNat)
          case atStart => exact ⟨1, by omega, by omega, rfl, fun k' h1 h2 => by omega, Below.refl _ _⟩
          case round =>
            obtain ⟨kk, hk1, hk10, rfl, hno, hb6⟩ := hrel
            rename World => w6
            have z6 := hb6.size
            simp at z6
            have r0 := keepC hb6 (by omega) R0
            have r1 := keepC hb6 (by omega) R1
            have h56 : Below w5.heap.size w5 w6 := stp.trans (hb6.mono (by omega))
            have h6 : Below wr.heap.size wr w6 := hb5.trans (h56.mono z5)
            have s56 : w5.heap.size < w6.heap.size := by omega
            clear R0 R1 a0 a1
            by_cases hk9 : kk ≤ 9
            · have hkok : M.kok kk = true := decide_eq_true (by omega)
              have hcnt := M.cnt_bd kk
              have hd9 : decide ((kk : Int) ≤ 9) = true := by simp; omega
              go_wp2_with fail
              refine (Stack_yes kk _ hkok).mono ?_
              rintro e w7 ⟨rfl, hb7, hz7, hcl⟩
              have z7 := hb7.size
              simp at z7 hz7 hcl
              have h67 : Below w6.heap.size w6 w7 := Below.trans (by go_grown) (hb7.mono (by simp))
              replace r0 := keepC h67 s56 r0
              replace r1 := keepC h67 s56 r1
              have s7 : w5.heap.size < w7.heap.size := by omega
              have hrow0 : [Value.int .i64 r, .int .i64 a] = rows (clsG r a kk) (0 + 1) := by
                obtain ⟨e1, e2⟩ := M.aA_zero (a := a) (k := (kk : Int)) hrb.1 hrb.2.1
                simp only [rows, clsG, e1, e2, List.nil_append]
              have start : w7.ownsRow w6.heap.size 47 2 (.slice (some ⟨w6.heap.size, 0, none⟩) 1 1) (0 + 1) (rows (clsG r a kk) (0 + 1)) := by
                rw [← hrow0]; exact own_step (own_new2 w6 w6.heap.size (Nat.le_refl _) (.int .i64 r) (.int .i64 a) 47) hb7
              clear hrow0
              go_wp2_with fail
              go_loopw [12, 83] (fun v i w8 => ∃ p j : Nat, j ≤ 3 ∧ i = .int .i64 j ∧ Hid (p = min j (M.cnt kk)) ∧ w8.ownsRow w6.heap.size 47 2 v (p + 1) (rows (clsG r a kk) (p + 1)) ∧ Below w6.heap.size w7 w8 ∧ Hid (∀ i : Nat, i < 3 → w8.cell? ⟨w6.heap.size + 1, i, none⟩ = some (.int .i64 (M.stk kk i)))) (fun _ i _ => 3 - (intOf i).toNat)
              case atStart => exact ⟨0, 0, by omega, rfl, (by omega : 0 = min 0 (M.cnt kk)), start, Below.refl _ _, hcl⟩
              case round =>
                obtain ⟨p, j, hj3, rfl, hpj, hown8, hb8, hst8⟩ := hrel
                rename World => w8
                have z8 := hb8.size
                replace r0 := keepC hb8 s56 r0
                replace r1 := keepC hb8 s56 r1
                have s8 : w5.heap.size < w8.heap.size := by omega
                clear start hcl
                by_cases hj : j < 3
                · have hcj := hst8.out j hj
                  have hsl : w6.heap.size + 1 < w8.heap.size := block_lt_of_cell hcj
                  have hsc := M.stk_cnt (k := kk) (by omega) hj
                  have hsb := M.stk_bd kk j
                  by_cases hH : M.stk kk j = 0
                  · have HQ : Hid (p = min (j + 1) (M.cnt kk)) := (by have := hsc.1 hH; have := hpj.out; omega : p = min (j + 1) (M.cnt kk))
                    rw [hH] at hcj
                    clear hsc
                    go_wp2_with fail
                    go_roundw
                    case rel => first | exact ⟨p, j + 1, by omega, by go_num, HQ, hown8, hb8, hst8⟩ | ((repeat apply Exists.intro); exact ⟨⟨p, j + 1, by omega, by go_num, HQ, hown8, hb8, hst8⟩, rfl⟩)
                    case measure => simp [intOf]; omega
                  · have hjc : j < M.cnt kk := by have := mt hsc.2 hH; omega
                    have hpe : p = j := by have := hpj.out; omega
                    subst hpe
                    have HQ : Hid (p + 1 = min (p + 1) (M.cnt kk)) := (by omega : p + 1 = min (p + 1) (M.cnt kk))
                    have hHp : 0 < M.stk kk p := by omega
                    have HN : Hid (clsG r a kk (p + 1) = [.int .i64 ((r + (2 * (p : Int) + 2)) % 7), .int .i64 (M.hv r a 0 + M.stk kk p - M.wh (r + (2 * (p : Int) + 2)))]) := by
                      show _ = _
                      have e1 : r + 2 * ((p + 1 : Nat) : Int) = r + (2 * (p : Int) + 2) := by omega
                      unfold clsG M.aL M.aA
                      rw [e1]
                      rfl
                    have hgs := own_apart hown8 (hst8.out 1 (by omega)) hrb.1 hrb.2.1 hrb.2.2.2 (by omega)
                    have hg5 := own_block hown8
                    clear hsc hpj
                    generalize M.stk kk p = H at *
                    go_wp2_with fail
                    refine (Above_any r a (2 * (p : Int) + 2) H _ hrb.1 hrb.2.1 hrb.2.2.1 hrb.2.2.2 (by omega) (by omega) (by omega) (by omega)).mono ?_
                    rintro e w9 ⟨rfl, hb9⟩
                    have z9 := hb9.size
                    have hown9 := own_step hown8 hb9
                    have k9 : Below w6.heap.size w7 w9 := hb8.trans (hb9.mono (by omega))
                    have hst9 : Hid (∀ i : Nat, i < 3 → w9.cell? ⟨w6.heap.size + 1, i, none⟩ = some (.int .i64 (M.stk kk i))) := fun i hi => keepC hb9 hsl (hst8.out i hi)
                    generalize hX : (r + (2 * (p : Int) + 2)) % 7 = X at *
                    generalize hY : M.hv r a 0 + H - M.wh (r + (2 * (p : Int) + 2)) = Y at *
                    clear hX hY hown8
                    go_wp2_with (at_builtin; refine wpList_append_own _ rfl (.tmp 90) (.tmp 97) 50 rfl w6.heap.size 47 i0 (.agg #[.int .i64 0, .int .i64 0]) 2 16 Tryd.underlying50 hi hz0 hz1 hz2 rfl (by decide) _ (p + 1) (rows (clsG r a kk) (p + 1)) rfl (hown9.alloc _) ⟨w9.heap.size, 0, none⟩ 1 1 [.int .i64 X, .int .i64 Y] rfl rfl ?c1 ?c2 ?c3 ?c4 ?c5 ?_)
                    case c1 =>
                      intro j u hj
                      match j, hj with
                      | 0, hj => simp at hj; subst hj; simp [Addr.add]
                      | 1, hj => simp at hj; subst hj; simp [Addr.add]
                    case c2 => intro u hu; simp at hu; rcases hu with rfl | rfl <;> rfl
                    case c3 => unfold maxLen; omega
                    case c4 => omega
                    case c5 => simp; omega
                    · intro v' wA hown' hgrow _
                      have hrow : rows (clsG r a kk) (p + 1) ++ [.int .i64 X, .int .i64 Y] = rows (clsG r a kk) (p + 1 + 1) := by rw [← HN.out]; rfl
                      rw [hrow] at hown'
                      have kA : Below w6.heap.size w7 wA := (k9.alloc (by omega) _).grown hgrow (by simp; omega) hg5
                      have hstA : Hid (∀ i : Nat, i < 3 → wA.cell? ⟨w6.heap.size + 1, i, none⟩ = some (.int .i64 (M.stk kk i))) := fun i hi => grown_cell hgrow (by simp; omega) hgs (by have := hst9.out i hi; simp [go_sem, this, show w6.heap.size + 1 < w9.heap.size by omega])
                      clear hgrow hown9 hrow
                      go_wp2_with fail
                      go_roundw
                      case rel => first | exact ⟨p + 1, p + 1, by omega, by go_num, HQ, hown', kA, hstA⟩ | ((repeat apply Exists.intro); exact ⟨⟨p + 1, p + 1, by omega, by go_num, HQ, hown', kA, hstA⟩, rfl⟩)
                      case measure => simp [intOf]; omega
                · have hpc : p = M.cnt kk := by have := hpj.out; omega
                  obtain ⟨gA, capA, rfl, hgA1, hgA2, hgA3, hgA4⟩ := own_cells hown8 (by omega)
                  have hx0 : ∀ i, i < p + 1 → w8.cell? ⟨gA, i * 2, none⟩ = some (.int .i64 (M.aL r i)) := fun i hi => by
                    rw [hgA4 _ (by omega)]
                    have := rows_get (F := clsG r a kk) (s := 2) (fun j => rfl) (p + 1) i 0 hi (by omega)
                    rw [Nat.add_zero] at this
                    exact this
                  have hx1 : ∀ i, i < p + 1 → w8.cell? ⟨gA, i * 2 + 1, none⟩ = some (.int .i64 (M.aA r a kk i)) := fun i hi => by
                    rw [hgA4 _ (by omega)]
                    exact rows_get (F := clsG r a kk) (s := 2) (fun j => rfl) (p + 1) i 1 hi (by omega)
                  have h68 : Below w6.heap.size w6 w8 := h67.trans hb8
                  have h8 : Below wr.heap.size wr w8 := h6.trans (h68.mono (by omega))
                  have HX0 : Hid (∀ i, i < p + 1 → w8.cell? ⟨gA, i * 2, none⟩ = some (.int .i64 (M.aL r i))) := hx0
                  have HX1 : Hid (∀ i, i < p + 1 → w8.cell? ⟨gA, i * 2 + 1, none⟩ = some (.int .i64 (M.aA r a kk i))) := hx1
                  have ht0 := M.tst_zero DD r a kk
                  rw [← hpc] at ht0
                  have HT0 : Hid (M.tst DD r a kk 0 = (((p + 1 : Nat) : Int) == (DD.length : Int))) := ht0
                  have HPC : Hid (p = M.cnt kk) := hpc
                  have hp3 : p ≤ 3 := by omega
                  clear ht0 hpc hx0 hx1 hgA4 hown8 hst8 hpj
                  go_wp2_with fail
                  go_loopw [15, 16, 107] (fun ok tn i w9 => ∃ j t : Nat, j ≤ p + 1 ∧ i = .int .i64 j ∧ ok = .bool (M.tst DD r a kk j) ∧ tn = .int .i64 t ∧ Hid (∀ i, i < j → M.aL r i = L m ∧ M.aA r a kk i = A m → t = i) ∧ t ≤ 3 ∧ Below w8.heap.size w8 w9) (fun _ _ i _ => p + 1 - (intOf i).toNat)
                  case atStart => exact ⟨0, 0, by omega, rfl, by rw [HT0.out]; simp, rfl, fun i hi => by omega, by omega, Below.refl _ _⟩
                  case round =>
                    obtain ⟨j, t, hjp, rfl, rfl, rfl, htu, ht3, hb9⟩ := hrel
                    rename World => w9
                    have z9 := hb9.size
                    have h9 : Below wr.heap.size wr w9 := h8.trans (hb9.mono (by have := h8.size; omega))
                    have h69 : Below w6.heap.size w6 w9 := h68.trans (hb9.mono h68.size)
                    have r0' := keepC hb9 s8 r0
                    have r1' := keepC hb9 s8 r1
                    have s9 : w5.heap.size < w9.heap.size := by omega
                    by_cases hj : j < p + 1
                    · have b0 := keepC hb9 hgA2 (HX0.out j hj)
                      have b1 := keepC hb9 hgA2 (HX1.out j hj)
                      have hgA9 : gA < w9.heap.size := by omega
                      have n0 := keepC h9 hpb.lt hpb.n0
                      have n1 := keepC h9 hpb.lt hpb.n1
                      have hpl := hpb.lt
                      have sp9 : w.heap.size + 1 < w9.heap.size := by have := h9.size; omega
                      have hKL9 := hKL.step h9
                      have hts := M.tst_succ DD r a kk j
                      clear r0 r1 r0' r1'
                      generalize hXX : M.aL r j = X at *
                      generalize hYY : M.aA r a kk j = Y at *
                      have HXY : Hid (M.aL r j = X ∧ M.aA r a kk j = Y) := ⟨hXX, hYY⟩
                      clear hXX hYY
                      have HX := HXY
                      cases hT : M.tst DD r a kk j
                      · have HT1 : Hid (M.tst DD r a kk (j + 1) = false) := (by rw [hts, hT]; rfl : M.tst DD r a kk (j + 1) = false)
                        clear hts hT hKL9
                        by_cases e1 : X = L m
                        · by_cases e2 : Y = A m
                          · have HT2 : Hid (∀ i, i < j + 1 → M.aL r i = L m ∧ M.aA r a kk i = A m → j = i) := fun i hi he => by
                              by_cases e : i = j
                              · exact e.symm
                              · exfalso
                                have := M.aL_ne (r := r) (show i < j by omega) (by omega)
                                rw [he.1, HXY.out.1, e1] at this
                                exact this rfl
                            rw [e1] at b0
                            rw [e2] at b1
                            clear e1 e2 HX
                            go_wp2_with fail
                            go_roundw
                            case rel => first | exact ⟨j + 1, j, by omega, by go_num, by rw [HT1.out], rfl, HT2, by omega, hb9.alloc (by omega) _⟩ | ((repeat apply Exists.intro); exact ⟨⟨j + 1, j, by omega, by go_num, by rw [HT1.out], rfl, HT2, by omega, hb9.alloc (by omega) _⟩, rfl⟩)
                            case measure => simp [intOf]; omega
                          · have HT2 : Hid (∀ i, i < j + 1 → M.aL r i = L m ∧ M.aA r a kk i = A m → t = i) := fun i hi he => by
                              by_cases e : i = j
                              · exfalso; subst e; rw [HXY.out.2] at he; exact e2 he.2
                              · exact htu.out i (by omega) he
                            have e2' : (Y == A m) = false := by simpa using e2
                            rw [e1] at b0
                            clear e1 HX
                            go_wp2_with fail
                            go_roundw
                            case rel => first | exact ⟨j + 1, t, by omega, by go_num, by rw [HT1.out], rfl, HT2, by omega, hb9.alloc (by omega) _⟩ | ((repeat apply Exists.intro); exact ⟨⟨j + 1, t, by omega, by go_num, by rw [HT1.out], rfl, HT2, by omega, hb9.alloc (by omega) _⟩, rfl⟩)
                            case measure => simp [intOf]; omega
                        · have HT2 : Hid (∀ i, i < j + 1 → M.aL r i = L m ∧ M.aA r a kk i = A m → t = i) := fun i hi he => by
                            by_cases e : i = j
                            · exfalso; subst e; rw [HXY.out.1] at he; exact e1 he.1
                            · exact htu.out i (by omega) he
                          have e1' : (X == L m) = false := by simpa using e1
                          clear HX
                          go_wp2_with fail
                          go_roundw
                          case rel => first | exact ⟨j + 1, t, by omega, by go_num, by rw [HT1.out], rfl, HT2, by omega, hb9.alloc (by omega) _⟩ | ((repeat apply Exists.intro); exact ⟨⟨j + 1, t, by omega, by go_num, by rw [HT1.out], rfl, HT2, by omega, hb9.alloc (by omega) _⟩, rfl⟩)
                          case measure => simp [intOf]; omega
                      · have HT1 : Hid (M.tst DD r a kk (j + 1) = decide ((X, Y) ∈ DD)) := (by rw [hts, hT]; rfl : M.tst DD r a kk (j + 1) = decide ((X, Y) ∈ DD))
                        clear hts hT
                        go_wp2_with fail
                        refine (HH.out X Y _ (hKL9.step (by go_grown))).mono ?_
                        rintro e wB ⟨rfl, hbB⟩
                        have zB := hbB.size
                        simp at zB
                        have k9B : Below w9.heap.size w9 wB := Below.trans (by go_grown) (hbB.mono (by simp))
                        have hbN : Below w8.heap.size w8 wB := hb9.trans (k9B.mono (by omega))
                        replace n0 := keepC k9B sp9 n0
                        replace n1 := keepC k9B sp9 n1
                        have b0 : wB.cell? ⟨w9.heap.size, 0, none⟩ = some (.int .i64 X) := keepC hbB (by simp) (by simp [go_sem])
                        have b1 : wB.cell? ⟨w9.heap.size, 1, none⟩ = some (.int .i64 Y) := keepC hbB (by simp) (by simp [go_sem])
                        have sB : w9.heap.size < wB.heap.size := by omega
                        have spB : w.heap.size + 1 < wB.heap.size := by omega
                        generalize decide ((X, Y) ∈ DD) = bb at *
                        by_cases e1 : X = L m
                        · by_cases e2 : Y = A m
                          · have HT2 : Hid (∀ i, i < j + 1 → M.aL r i = L m ∧ M.aA r a kk i = A m → j = i) := fun i hi he => by
                              by_cases e : i = j
                              · exact e.symm
                              · exfalso
                                have := M.aL_ne (r := r) (show i < j by omega) (by omega)
                                rw [he.1, HXY.out.1, e1] at this
                                exact this rfl
                            rw [e1] at b0
                            rw [e2] at b1
                            clear e1 e2 HX
                            go_wp2_with fail
                            go_roundw
                            case rel => first | exact ⟨j + 1, j, by omega, by go_num, by rw [HT1.out], rfl, HT2, by omega, hbN⟩ | ((repeat apply Exists.intro); exact ⟨⟨j + 1, j, by omega, by go_num, by rw [HT1.out], rfl, HT2, by omega, hbN⟩, rfl⟩)
                            case measure => simp [intOf]; omega
                          · have HT2 : Hid (∀ i, i < j + 1 → M.aL r i = L m ∧ M.aA r a kk i = A m → t = i) := fun i hi he => by
                              by_cases e : i = j
                              · exfalso; subst e; rw [HXY.out.2] at he; exact e2 he.2
                              · exact htu.out i (by omega) he
                            have e2' : (Y == A m) = false := by simpa using e2
                            rw [e1] at b0
                            clear e1 HX
                            go_wp2_with fail
                            go_roundw
                            case rel => first | exact ⟨j + 1, t, by omega, by go_num, by rw [HT1.out], rfl, HT2, by omega, hbN⟩ | ((repeat apply Exists.intro); exact ⟨⟨j + 1, t, by omega, by go_num, by rw [HT1.out], rfl, HT2, by omega, hbN⟩, rfl⟩)
                            case measure => simp [intOf]; omega
                        · have HT2 : Hid (∀ i, i < j + 1 → M.aL r i = L m ∧ M.aA r a kk i = A m → t = i) := fun i hi he => by
                            by_cases e : i = j
                            · exfalso; subst e; rw [HXY.out.1] at he; exact e1 he.1
                            · exact htu.out i (by omega) he
                          have e1' : (X == L m) = false := by simpa using e1
                          clear HX
                          go_wp2_with fail
                          go_roundw
                          case rel => first | exact ⟨j + 1, t, by omega, by go_num, by rw [HT1.out], rfl, HT2, by omega, hbN⟩ | ((repeat apply Exists.intro); exact ⟨⟨j + 1, t, by omega, by go_num, by rw [HT1.out], rfl, HT2, by omega, hbN⟩, rfl⟩)
                          case measure => simp [intOf]; omega
                    · have ej : j = p + 1 := by omega
                      have hall5 : Hid (∀ i, i < M.cnt kk + 1 → M.aL r i = L m ∧ M.aA r a kk i = A m → t = i) := fun i hi => htu.out i (by have := HPC.out; omega)
                      have hje : M.tst DD r a kk j = M.tst DD r a kk (M.cnt kk + 1) := by rw [ej, HPC.out]
                      clear htu
                      cases hT : M.tst DD r a kk j
                      · have hno2 : Hid (∀ k' : Nat, 1 ≤ k' → k' < kk + 1 → M.tst DD r a k' (M.cnt k' + 1) = false) := fun k' h1 h2 => by
                          by_cases e : k' = kk
                          · subst e; rw [← hje, hT]
                          · exact hno.out k' h1 (by omega)
                        have hb6' : Below (w5.heap.size + 1) (w5.alloc (Obj.cells #[.int .i64 r, .int .i64 a] 47)) w9 := hb6.trans (h69.mono (by omega))
                        clear hje
                        go_wp2_with fail
                        go_roundw
                        case rel => first | exact ⟨kk + 1, by omega, by omega, by go_num, hno2, hb6'⟩ | ((repeat apply Exists.intro); exact ⟨⟨kk + 1, by omega, by omega, by go_num, hno2, hb6'⟩, rfl⟩)
                        case measure => simp [intOf]; omega
                      · have hres := HS.out kk t hk1 hk9 (by rw [← hje, hT]) hall5.out
                        have hkb9 := hkb.step h9 hkb.lt (Nat.le_refl _)
                        obtain ⟨dl, d0, d1, d2, d3, f0, f1, f2, f3⟩ := hkb9
                        have h09 : Below w.heap.size w w9 := hbr.trans (h9.mono (by omega))
                        clear hje
                        go_wp2_with fail
                        refine bodyPost_ret (v := .tuple #[chV r a kk t, .int .i64 0]) (by simp [results, Tryd.results32, go_sem, chV, d0, d1, d2, d3, dl]) rfl ⟨hres, ?_⟩
                        exact (((h09.setCell (p := ⟨w.heap.size, 0, none⟩) (Nat.le_refl _) _).setCell (p := ⟨w.heap.size, 1, none⟩) (Nat.le_refl _) _).setCell (p := ⟨w.heap.size, 2, none⟩) (Nat.le_refl _) _).setCell (p := ⟨w.heap.size, 3, none⟩) (Nat.le_refl _) _
            · have hk' : kk = 10 := by omega
              subst hk'
              have hnone2 : Hid (∀ q' k' : Nat, q' < q + 1 → 1 ≤ k' → k' ≤ 9 → M.tst DD (M.g1 DD q') (M.g2 DD q') k' (M.cnt k' + 1) = false) := fun q' k' h1 h2 h3 => by
                by_cases e : q' = q
                · subst e; rw [HR.out.1, HR.out.2]; exact hno.out k' h2 (by omega)
                · exact hnone.out q' k' (by omega) h2 h3
              go_wp2_with fail
              go_roundw
              case rel => first | exact ⟨q + 1, by omega, by go_num, hnone2, h6⟩ | ((repeat apply Exists.intro); exact ⟨⟨q + 1, by omega, by go_num, hnone2, h6⟩, rfl⟩)
              case measure => simp [intOf]; omega
        · have eq' : q = DD.length := by omega
          subst eq'
          have hkb5 := hkb.step hb5 hkb.lt (Nat.le_refl _)
          obtain ⟨dl, d0, d1, d2, d3, f0, f1, f2, f3⟩ := hkb5
          have h05 : Below w.heap.size w w5 := hbr.trans (hb5.mono (by omega))
          have hres := HFN'.out hnone
          go_wp2_with fail
          refine bodyPost_ret (v := .tuple #[chV 0 0 0 0, .int .i64 6]) (by simp [results, Tryd.results32, go_sem, chV, d0, d1, d2, d3, dl]) rfl ⟨hres, ?_⟩
          exact (((h05.setCell (p := ⟨w.heap.size, 0, none⟩) (Nat.le_refl _) _).setCell (p := ⟨w.heap.size, 1, none⟩) (Nat.le_refl _) _).setCell (p := ⟨w.heap.size, 2, none⟩) (Nat.le_refl _) _).setCell (p := ⟨w.heap.size, 3, none⟩) (Nat.le_refl _) _

end Go.Proofs.YtdjdnjaijpafgabDoor
