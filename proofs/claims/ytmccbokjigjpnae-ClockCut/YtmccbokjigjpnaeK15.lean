/- The law ClockCut: the loop that puts a mark in. -/
import Derived.Test.YtmccbokjigjpnaeK5
import Derived.Test.YtmccbokjigjpnaeKMath2
import Derived.Test.YtmccbokjigjpnaeRRow
import Derived.Deep.DeepCutAuto
namespace Go.Proofs.Ytmccbokjigjpnae.F
open Go.RowKit
set_option linter.unusedVariables false
set_option linter.unusedSimpArgs false

theorem infoM : (Try.prog.info? 35).map (fun i => (i.zero, i.size, i.bytes)) = some (some (.agg #[.int .i64 0, .int .i64 0, .bool false]), 3, 24) := by kernel_rfl
/-- A mark as cells. -/
def mkF (A P : Nat → Int) (R : Nat → Bool) (j : Nat) : List Value := [.int .i64 (A j), .int .i64 (P j), .bool (R j)]

theorem own_lt {w : World} {base : Nat} {e : TypeId} {size : Nat} {v : Value} {n : Nat} {xs : List Value} (h : w.ownsRow base e size v n xs) : ∀ k, v.ownBlock = some k → k < w.heap.size := by
  intro k hk
  rcases h.2 with ⟨rfl, _⟩ | ⟨g, cap, cur, rfl, h1, h2, rest⟩
  · simp [Value.ownBlock] at hk
  · simp [Value.ownBlock] at hk; subst hk; exact (Array.getElem?_eq_some_iff.1 h2).1
theorem grown_cell {w w' : World} {row : Option Nat} (hg : w.grownBy w' row) {b o : Nat} {v : Value} (hlt : b < w.heap.size) (hne : ∀ k, row = some k → k ≠ b) (h : w.cell? ⟨b, o, none⟩ = some v) : w'.cell? ⟨b, o, none⟩ = some v :=
  (World.cell?_of_block (w := w) (w' := w') (a := ⟨b, o, none⟩) (hg.block b hlt (fun e => hne b e.symm rfl))).trans h
/-- A row of marks of one's own, as marks. -/
theorem own_ML {w : World} {base : Nat} {t : TypeId} {v : Value} {n : Nat} {A P : Nat → Int} {R : Nat → Bool} (hn : w.ownsRow base t 3 v n (rows (mkF A P R) n)) :
    ∃ ao c, v = .slice ao n c ∧ n ≤ c ∧ c ≤ 9223372036854775807 ∧ ML w ao n A P R := by
  by_cases hz : n = 0
  · subst hz
    rcases hn.2 with ⟨rfl, _⟩ | ⟨g, cap, cur, rfl, _, _, _, hm, _⟩
    · exact ⟨none, 0, rfl, by omega, by omega, ⟨fun h => by omega⟩⟩
    · exact ⟨some ⟨g, 0, none⟩, cap, rfl, by omega, by unfold maxLen at hm; omega, ⟨fun h => by omega⟩⟩
  · obtain ⟨g, cap, rfl, h1, h2, h3, h4⟩ := own_cells hn (by omega)
    have hcap : cap ≤ 9223372036854775807 := by
      rcases hn.2 with ⟨h, _⟩ | ⟨g', cap', cur, h, _, _, _, hm, _⟩
      · simp at h
      · simp at h; unfold maxLen at hm; omega
    have hr := fun j i (hj : j < n) (hi : i < 3) => rows_get (F := mkF A P R) (s := 3) (fun j => rfl) n j i hj hi
    refine ⟨some ⟨g, 0, none⟩, cap, rfl, h3, hcap, ⟨fun _ => ⟨g, 0, rfl, h2, fun j hj => ?_, fun j hj => ?_, fun j hj => ?_⟩⟩⟩
    · rw [Nat.zero_add, h4 _ (by omega)]; have := hr j 0 hj (by omega); rw [Nat.add_zero] at this; exact this
    · rw [Nat.zero_add, h4 _ (by omega)]; exact hr j 1 hj (by omega)
    · rw [Nat.zero_add, h4 _ (by omega)]; exact hr j 2 hj (by omega)

set_option maxRecDepth 20000 in
set_option maxHeartbeats 4000000 in
theorem cut_walk (ao : Option Addr) (n c : Nat) (A P : Nat → Int) (R : Nat → Bool) (A2 P2 : Nat → Int) (R2 : Nat → Bool) (cn : Nat → Nat) (k : Nat) (cut t : Int) (w : World) (hp : ML w ao n A P R) (hc : n ≤ c) (hcm : c ≤ 9223372036854775807)
    (hw : K.M.wr A P n = 0) (hk : k < n) (c0 : cn 0 = 0) (cle : ∀ i, i ≤ n → cn i ≤ 257)
    (h1 : ∀ i, i < n → mkF A2 P2 R2 (cn i) = [.int .i64 (A i), .int .i64 (P i), .bool (K.M.rn P R n i)])
    (h2 : ∀ i, i < n → ¬ (i = k ∧ K.M.rn P R n k = false) → cn (i + 1) = cn i + 1)
    (h3 : K.M.rn P R n k = false → cn (k + 1) = cn k + 1 + 1 ∧ mkF A2 P2 R2 (cn k + 1) = [.int .i64 cut, .int .i64 (P k), .bool false])
    (h4 : K.M.te A P n t ≠ 0 ∨ K.M.te A2 P2 (cn n) t ≠ 0 ∨ K.M.tv A P R n t = K.M.tv A2 P2 R2 (cn n) t) :
    Calls Try.prog 6 #[.slice ao n c, .int .i64 (k : Int), .int .i64 cut, .int .i64 t] w fun e w' => e = .returned (.bool true) ∧ Below w.heap.size w w' := by
  obtain ⟨i0, hi, hz0, hz1, hz2⟩ := info_parts infoM
  have HW := fun w hp => Wrong_any ao n c A P R w hp hc hcm
  rw [hw] at HW
  obtain ⟨b, off, rfl, hbl, q0, q1, q2⟩ := hp.at' (by omega)
  have hn : n ≤ 256 := (K.M.wr_rt hw).many
  have hk' : (k : Int) < n := by omega
  have hk0 : ¬ (k : Int) < 0 := by omega
  have hkd : decide (n ≤ k) = false := by simp; omega
  have hke : decide ((k : Int) < 0) = false := by simp
  go_enter Try.func6, Try.ntmps6
  go_wp2_with fail
  refine (alive_any _).mono ?_
  rintro e w1 ⟨rfl, hb1⟩
  go_wp2_with fail
  refine (HW _ (hp.step hb1)).mono ?_
  rintro e w2 ⟨rfl, hb2⟩
  have k2 := hb1.trans (hb2.mono hb1.size)
  have z2 := k2.size
  clear hb1 hb2 HW
  go_wp2_with fail
  go_loopw [9, 33] (fun v i wr => ∃ j : Nat, j ≤ n ∧ i = .int .i64 j ∧ Below w2.heap.size w2 wr ∧ wr.ownsRow w2.heap.size 35 3 v (cn j) (rows (mkF A2 P2 R2) (cn j)))
    (fun _ i _ => n - (intOf i).toNat)
  case atStart => exact ⟨0, by omega, rfl, by go_grown, by rw [c0]; exact World.ownsRow_nil _ _ _ _⟩
  case round =>
    obtain ⟨j, hjn, rfl, hbr, hown⟩ := hrel
    have zr := hbr.size
    have h0r := k2.trans (hbr.mono z2)
    by_cases hlt : j < n
    · have r0 := keepC h0r hbl (q0 j hlt)
      have r1 := keepC h0r hbl (q1 j hlt)
      have r2 := keepC h0r hbl (q2 j hlt)
      have hbk : b < wr.heap.size := by omega
      have w3 : IntKind.i64.wrap ((j : Int) + 1) = (j : Int) + 1 := wid (by omega) (by omega)
      cases hR : R j
      · rw [hR] at r2
        clear q0 q1 q2
        go_wp2_with fail
        go_quiet (fail)
        go_upto_region 13 with fail
        have hrn : K.M.rn P R n j = false := by
          cases h : K.M.rn P R n j
          · rfl
          · have := (K.M.rn_yes j).1 h; rw [hR] at this; exact absurd this.1 (by simp)
        have hrow : Hid (rows (mkF A2 P2 R2) (cn j) ++ [.int .i64 (A j), .int .i64 (P j), .bool false] = rows (mkF A2 P2 R2) (cn j + 1)) := by
          show _ = rows (mkF A2 P2 R2) (cn j) ++ mkF A2 P2 R2 (cn j)
          rw [h1 j hlt, hrn]
        have hcj : cn j ≤ 257 := cle j (by omega)
        obtain ⟨W, hW⟩ : ∃ W, W = (wr.alloc (Obj.cells #[.int .i64 (A j), .int .i64 (P j), .bool false] 35)).drewN nq := ⟨_, rfl⟩
        rw [← hW]
        have x0 : W.cell? ⟨wr.heap.size, 0, none⟩ = some (.int .i64 (A j)) := by rw [hW]; simp [go_sem]
        have x1 : W.cell? ⟨wr.heap.size, 1, none⟩ = some (.int .i64 (P j)) := by rw [hW]; simp [go_sem]
        have x2 : W.cell? ⟨wr.heap.size, 2, none⟩ = some (.bool false) := by rw [hW]; simp [go_sem]
        have hbW : Below wr.heap.size wr W := by rw [hW]; exact below_drewN ((Below.refl _ _).alloc (Nat.le_refl _) _) _
        have sW : wr.heap.size < W.heap.size := by rw [hW]; simp
        have ho := own_step hown hbW
        have hlo := own_lt hown
        have hb2W := hbr.trans (hbW.mono zr)
        have zW := hb2W.size
        clear hW hown hbW r0 r1 r2 w3

        go_wp2_with (at_builtin; refine wpList_append_own _ rfl (.tmp 69) (.tmp 71) 22 rfl w2.heap.size 35 i0 (.agg #[.int .i64 0, .int .i64 0, .bool false]) 3 24 Try.underlying22 hi hz0 hz1 hz2 rfl (by decide) _ (cn j) (rows (mkF A2 P2 R2) (cn j)) rfl (ho.alloc _) ⟨W.heap.size, 0, none⟩ 1 1 [.int .i64 (A j), .int .i64 (P j), .bool false] rfl rfl ?c1 ?c2 ?c3 ?c4 ?c5 ?_)
        case c1 =>
          intro i u hi
          match i, hi with
          | 0, hi => simp at hi; subst hi; simp [Addr.add, go_sem]
          | 1, hi => simp at hi; subst hi; simp [Addr.add, go_sem]
          | 2, hi => simp at hi; subst hi; simp [Addr.add, go_sem]
        case c2 => first | exact ⟨rfl, rfl, rfl⟩ | (intro u hu; simp at hu; rcases hu with rfl | rfl | rfl <;> rfl)
        case c3 => unfold maxLen; omega
        case c4 => omega
        case c5 => first | omega | (simp; omega)
        intro v3 w3 hown3 hgrow _

        rw [hrow.out] at hown3
        have hne3 : ∀ g, (Value.ownBlock u9) = some g → g ≠ wr.heap.size := fun g hg => by have := hlo g hg; omega
        have y1 := grown_cell hgrow (by simp; omega) hne3 (show (W.alloc _).cell? ⟨wr.heap.size, 1, none⟩ = some (.int .i64 (P j)) by simp [go_sem, x1, sW])
        have y2 := grown_cell hgrow (by simp; omega) hne3 (show (W.alloc _).cell? ⟨wr.heap.size, 2, none⟩ = some (.bool false) by simp [go_sem, x2, sW])
        have z3 := hgrow.size
        simp at z3
        have k3 : Below w2.heap.size w2 w3 := (hb2W.alloc hb2W.size _).grown hgrow (by simp; omega) (own_block ho)
        have s3 : wr.heap.size < w3.heap.size := by omega
        clear hgrow ho hrow x0 x1 x2 hne3 hlo

        by_cases hjk : j = k
        · subst hjk
          obtain ⟨g1, g2⟩ := h3 hrn
          have hrow2 : Hid (rows (mkF A2 P2 R2) (cn j + 1) ++ [.int .i64 cut, .int .i64 (P j), .bool false] = rows (mkF A2 P2 R2) (cn j + 1 + 1)) := by
            show _ = rows (mkF A2 P2 R2) (cn j + 1) ++ mkF A2 P2 R2 (cn j + 1)
            rw [g2]
          go_wp2_with (at_builtin; refine wpList_append_own _ rfl (.tmp 81) (.tmp 86) 22 rfl w2.heap.size 35 i0 (.agg #[.int .i64 0, .int .i64 0, .bool false]) 3 24 Try.underlying22 hi hz0 hz1 hz2 rfl (by decide) _ (cn j + 1) (rows (mkF A2 P2 R2) (cn j + 1)) rfl (hown3.alloc _) ⟨w3.heap.size, 0, none⟩ 1 1 [.int .i64 cut, .int .i64 (P j), .bool false] rfl rfl ?c1 ?c2 ?c3 ?c4 ?c5 ?_)
          case c1 =>
            intro i u hi
            match i, hi with
            | 0, hi => simp at hi; subst hi; simp [Addr.add, go_sem]
            | 1, hi => simp at hi; subst hi; simp [Addr.add, go_sem]
            | 2, hi => simp at hi; subst hi; simp [Addr.add, go_sem]
          case c2 => first | exact ⟨rfl, rfl, rfl⟩ | (intro u hu; simp at hu; rcases hu with rfl | rfl | rfl <;> rfl)
          case c3 => unfold maxLen; omega
          case c4 => omega
          case c5 => first | omega | (simp; omega)
          intro v4 w4 hown4 hgrow _
          rw [hrow2.out] at hown4
          have k4 : Below w2.heap.size w2 w4 := (k3.alloc k3.size _).grown hgrow (by have := k3.size; simp; omega) (own_block hown3)
          clear hgrow hrow2
          go_wp2_with fail
          go_roundw
          case rel => exact ⟨j + 1, by omega, by first | rfl | go_num, k4, by rw [g1]; exact hown4⟩
          case measure => simp [intOf]; omega
        · have hjb : ((j : Int) == k) = false := by simp; omega
          go_wp2_with fail
          go_roundw
          case rel => exact ⟨j + 1, by omega, by first | rfl | go_num, k3, by rw [h2 j hlt (fun x => hjk x.1)]; exact hown3⟩
          case measure => simp [intOf]; omega
      · rw [hR] at r2
        by_cases hl : j + 1 < n
        · have r3 := keepC h0r hbl (q1 (j + 1) hl)
          have hl' : decide ((j : Int) + 1 < n) = true := by simp; omega
          have hne : ((j : Int) + 1 == n) = false := by simp; omega
          by_cases hP : P (j + 1) = P j
          · have hPb : (P (j + 1) == P j) = true := by simp [hP]
            clear q0 q1 q2 hP
            go_wp2_with fail
            go_quiet (fail)
            go_upto_region 13 with fail
            have hrn : K.M.rn P R n j = false := by
              cases h : K.M.rn P R n j
              · rfl
              · have := (K.M.rn_yes j).1 h; exact absurd (by simpa using hPb) this.2.2
            have hrow : Hid (rows (mkF A2 P2 R2) (cn j) ++ [.int .i64 (A j), .int .i64 (P j), .bool false] = rows (mkF A2 P2 R2) (cn j + 1)) := by
              show _ = rows (mkF A2 P2 R2) (cn j) ++ mkF A2 P2 R2 (cn j)
              rw [h1 j hlt, hrn]
            have hcj : cn j ≤ 257 := cle j (by omega)
            obtain ⟨W, hW⟩ : ∃ W, W = ((wr.alloc (Obj.cells #[.int .i64 (A j), .int .i64 (P j), .bool true] 35)).drewN nq).setCell ⟨wr.heap.size, 2, none⟩ (.bool false) := ⟨_, rfl⟩
            rw [← hW]
            have x0 : W.cell? ⟨wr.heap.size, 0, none⟩ = some (.int .i64 (A j)) := by rw [hW]; simp [go_sem]
            have x1 : W.cell? ⟨wr.heap.size, 1, none⟩ = some (.int .i64 (P j)) := by rw [hW]; simp [go_sem]
            have x2 : W.cell? ⟨wr.heap.size, 2, none⟩ = some (.bool false) := by rw [hW]; simp [go_sem]
            have hbW : Below wr.heap.size wr W := by rw [hW]; exact (below_drewN ((Below.refl _ _).alloc (Nat.le_refl _) _) _).setCell (p := ⟨wr.heap.size, 2, none⟩) (Nat.le_refl _) _
            have sW : wr.heap.size < W.heap.size := by rw [hW]; simp
            have ho := own_step hown hbW
            have hlo := own_lt hown
            have hb2W := hbr.trans (hbW.mono zr)
            have zW := hb2W.size
            clear hW hown hbW r0 r1 r2 w3

            go_wp2_with (at_builtin; refine wpList_append_own _ rfl (.tmp 69) (.tmp 71) 22 rfl w2.heap.size 35 i0 (.agg #[.int .i64 0, .int .i64 0, .bool false]) 3 24 Try.underlying22 hi hz0 hz1 hz2 rfl (by decide) _ (cn j) (rows (mkF A2 P2 R2) (cn j)) rfl (ho.alloc _) ⟨W.heap.size, 0, none⟩ 1 1 [.int .i64 (A j), .int .i64 (P j), .bool false] rfl rfl ?c1 ?c2 ?c3 ?c4 ?c5 ?_)
            case c1 =>
              intro i u hi
              match i, hi with
              | 0, hi => simp at hi; subst hi; simp [Addr.add, go_sem]
              | 1, hi => simp at hi; subst hi; simp [Addr.add, go_sem]
              | 2, hi => simp at hi; subst hi; simp [Addr.add, go_sem]
            case c2 => first | exact ⟨rfl, rfl, rfl⟩ | (intro u hu; simp at hu; rcases hu with rfl | rfl | rfl <;> rfl)
            case c3 => unfold maxLen; omega
            case c4 => omega
            case c5 => first | omega | (simp; omega)
            intro v3 w3 hown3 hgrow _

            rw [hrow.out] at hown3
            have hne3 : ∀ g, (Value.ownBlock u9) = some g → g ≠ wr.heap.size := fun g hg => by have := hlo g hg; omega
            have y1 := grown_cell hgrow (by simp; omega) hne3 (show (W.alloc _).cell? ⟨wr.heap.size, 1, none⟩ = some (.int .i64 (P j)) by simp [go_sem, x1, sW])
            have y2 := grown_cell hgrow (by simp; omega) hne3 (show (W.alloc _).cell? ⟨wr.heap.size, 2, none⟩ = some (.bool false) by simp [go_sem, x2, sW])
            have z3 := hgrow.size
            simp at z3
            have k3 : Below w2.heap.size w2 w3 := (hb2W.alloc hb2W.size _).grown hgrow (by simp; omega) (own_block ho)
            have s3 : wr.heap.size < w3.heap.size := by omega
            clear hgrow ho hrow x0 x1 x2 hne3 hlo

            by_cases hjk : j = k
            · subst hjk
              obtain ⟨g1, g2⟩ := h3 hrn
              have hrow2 : Hid (rows (mkF A2 P2 R2) (cn j + 1) ++ [.int .i64 cut, .int .i64 (P j), .bool false] = rows (mkF A2 P2 R2) (cn j + 1 + 1)) := by
                show _ = rows (mkF A2 P2 R2) (cn j + 1) ++ mkF A2 P2 R2 (cn j + 1)
                rw [g2]
              go_wp2_with (at_builtin; refine wpList_append_own _ rfl (.tmp 81) (.tmp 86) 22 rfl w2.heap.size 35 i0 (.agg #[.int .i64 0, .int .i64 0, .bool false]) 3 24 Try.underlying22 hi hz0 hz1 hz2 rfl (by decide) _ (cn j + 1) (rows (mkF A2 P2 R2) (cn j + 1)) rfl (hown3.alloc _) ⟨w3.heap.size, 0, none⟩ 1 1 [.int .i64 cut, .int .i64 (P j), .bool false] rfl rfl ?c1 ?c2 ?c3 ?c4 ?c5 ?_)
              case c1 =>
                intro i u hi
                match i, hi with
                | 0, hi => simp at hi; subst hi; simp [Addr.add, go_sem]
                | 1, hi => simp at hi; subst hi; simp [Addr.add, go_sem]
                | 2, hi => simp at hi; subst hi; simp [Addr.add, go_sem]
              case c2 => first | exact ⟨rfl, rfl, rfl⟩ | (intro u hu; simp at hu; rcases hu with rfl | rfl | rfl <;> rfl)
              case c3 => unfold maxLen; omega
              case c4 => omega
              case c5 => first | omega | (simp; omega)
              intro v4 w4 hown4 hgrow _
              rw [hrow2.out] at hown4
              have k4 : Below w2.heap.size w2 w4 := (k3.alloc k3.size _).grown hgrow (by have := k3.size; simp; omega) (own_block hown3)
              clear hgrow hrow2
              go_wp2_with fail
              go_roundw
              case rel => exact ⟨j + 1, by omega, by first | rfl | go_num, k4, by rw [g1]; exact hown4⟩
              case measure => simp [intOf]; omega
            · have hjb : ((j : Int) == k) = false := by simp; omega
              go_wp2_with fail
              go_roundw
              case rel => exact ⟨j + 1, by omega, by first | rfl | go_num, k3, by rw [h2 j hlt (fun x => hjk x.1)]; exact hown3⟩
              case measure => simp [intOf]; omega
          · have hPb : (P (j + 1) == P j) = false := by simpa using hP
            clear q0 q1 q2 hP
            go_wp2_with fail
            go_quiet (fail)
            go_upto_region 13 with fail
            have hrn : K.M.rn P R n j = true := (K.M.rn_yes j).2 ⟨hR, hl, by simpa using hPb⟩
            have hrow : Hid (rows (mkF A2 P2 R2) (cn j) ++ [.int .i64 (A j), .int .i64 (P j), .bool true] = rows (mkF A2 P2 R2) (cn j + 1)) := by
              show _ = rows (mkF A2 P2 R2) (cn j) ++ mkF A2 P2 R2 (cn j)
              rw [h1 j hlt, hrn]
            have hcj : cn j ≤ 257 := cle j (by omega)
            obtain ⟨W, hW⟩ : ∃ W, W = (wr.alloc (Obj.cells #[.int .i64 (A j), .int .i64 (P j), .bool true] 35)).drewN nq := ⟨_, rfl⟩
            rw [← hW]
            have x0 : W.cell? ⟨wr.heap.size, 0, none⟩ = some (.int .i64 (A j)) := by rw [hW]; simp [go_sem]
            have x1 : W.cell? ⟨wr.heap.size, 1, none⟩ = some (.int .i64 (P j)) := by rw [hW]; simp [go_sem]
            have x2 : W.cell? ⟨wr.heap.size, 2, none⟩ = some (.bool true) := by rw [hW]; simp [go_sem]
            have hbW : Below wr.heap.size wr W := by rw [hW]; exact below_drewN ((Below.refl _ _).alloc (Nat.le_refl _) _) _
            have sW : wr.heap.size < W.heap.size := by rw [hW]; simp
            have ho := own_step hown hbW
            have hlo := own_lt hown
            have hb2W := hbr.trans (hbW.mono zr)
            have zW := hb2W.size
            clear hW hown hbW r0 r1 r2 w3

            go_wp2_with (at_builtin; refine wpList_append_own _ rfl (.tmp 69) (.tmp 71) 22 rfl w2.heap.size 35 i0 (.agg #[.int .i64 0, .int .i64 0, .bool false]) 3 24 Try.underlying22 hi hz0 hz1 hz2 rfl (by decide) _ (cn j) (rows (mkF A2 P2 R2) (cn j)) rfl (ho.alloc _) ⟨W.heap.size, 0, none⟩ 1 1 [.int .i64 (A j), .int .i64 (P j), .bool true] rfl rfl ?c1 ?c2 ?c3 ?c4 ?c5 ?_)
            case c1 =>
              intro i u hi
              match i, hi with
              | 0, hi => simp at hi; subst hi; simp [Addr.add, go_sem]
              | 1, hi => simp at hi; subst hi; simp [Addr.add, go_sem]
              | 2, hi => simp at hi; subst hi; simp [Addr.add, go_sem]
            case c2 => first | exact ⟨rfl, rfl, rfl⟩ | (intro u hu; simp at hu; rcases hu with rfl | rfl | rfl <;> rfl)
            case c3 => unfold maxLen; omega
            case c4 => omega
            case c5 => first | omega | (simp; omega)
            intro v3 w3 hown3 hgrow _

            rw [hrow.out] at hown3
            have hne3 : ∀ g, (Value.ownBlock u9) = some g → g ≠ wr.heap.size := fun g hg => by have := hlo g hg; omega
            have y1 := grown_cell hgrow (by simp; omega) hne3 (show (W.alloc _).cell? ⟨wr.heap.size, 1, none⟩ = some (.int .i64 (P j)) by simp [go_sem, x1, sW])
            have y2 := grown_cell hgrow (by simp; omega) hne3 (show (W.alloc _).cell? ⟨wr.heap.size, 2, none⟩ = some (.bool true) by simp [go_sem, x2, sW])
            have z3 := hgrow.size
            simp at z3
            have k3 : Below w2.heap.size w2 w3 := (hb2W.alloc hb2W.size _).grown hgrow (by simp; omega) (own_block ho)
            have s3 : wr.heap.size < w3.heap.size := by omega
            clear hgrow ho hrow x0 x1 x2 hne3 hlo

            by_cases hjk : j = k
            · subst hjk
              go_wp2_with fail
              go_roundw
              case rel => exact ⟨j + 1, by omega, by first | rfl | go_num, k3, by rw [h2 j hlt (fun x => by rw [hrn] at x; exact absurd x.2 (by simp))]; exact hown3⟩
              case measure => simp [intOf]; omega
            · have hjb : ((j : Int) == k) = false := by simp; omega
              go_wp2_with fail
              go_roundw
              case rel => exact ⟨j + 1, by omega, by first | rfl | go_num, k3, by rw [h2 j hlt (fun x => hjk x.1)]; exact hown3⟩
              case measure => simp [intOf]; omega
        · have hl' : decide ((j : Int) + 1 < n) = false := by simp; omega
          have hne : ((j : Int) + 1 == n) = true := by simp; omega
          clear q0 q1 q2
          go_wp2_with fail
          go_quiet (fail)
          go_upto_region 13 with fail
          have hrn : K.M.rn P R n j = false := by
            cases h : K.M.rn P R n j
            · rfl
            · have := (K.M.rn_yes j).1 h; exact absurd this.2.1 hl
          have hrow : Hid (rows (mkF A2 P2 R2) (cn j) ++ [.int .i64 (A j), .int .i64 (P j), .bool false] = rows (mkF A2 P2 R2) (cn j + 1)) := by
            show _ = rows (mkF A2 P2 R2) (cn j) ++ mkF A2 P2 R2 (cn j)
            rw [h1 j hlt, hrn]
          have hcj : cn j ≤ 257 := cle j (by omega)
          obtain ⟨W, hW⟩ : ∃ W, W = ((wr.alloc (Obj.cells #[.int .i64 (A j), .int .i64 (P j), .bool true] 35)).drewN nq).setCell ⟨wr.heap.size, 2, none⟩ (.bool false) := ⟨_, rfl⟩
          rw [← hW]
          have x0 : W.cell? ⟨wr.heap.size, 0, none⟩ = some (.int .i64 (A j)) := by rw [hW]; simp [go_sem]
          have x1 : W.cell? ⟨wr.heap.size, 1, none⟩ = some (.int .i64 (P j)) := by rw [hW]; simp [go_sem]
          have x2 : W.cell? ⟨wr.heap.size, 2, none⟩ = some (.bool false) := by rw [hW]; simp [go_sem]
          have hbW : Below wr.heap.size wr W := by rw [hW]; exact (below_drewN ((Below.refl _ _).alloc (Nat.le_refl _) _) _).setCell (p := ⟨wr.heap.size, 2, none⟩) (Nat.le_refl _) _
          have sW : wr.heap.size < W.heap.size := by rw [hW]; simp
          have ho := own_step hown hbW
          have hlo := own_lt hown
          have hb2W := hbr.trans (hbW.mono zr)
          have zW := hb2W.size
          clear hW hown hbW r0 r1 r2 w3

          go_wp2_with (at_builtin; refine wpList_append_own _ rfl (.tmp 69) (.tmp 71) 22 rfl w2.heap.size 35 i0 (.agg #[.int .i64 0, .int .i64 0, .bool false]) 3 24 Try.underlying22 hi hz0 hz1 hz2 rfl (by decide) _ (cn j) (rows (mkF A2 P2 R2) (cn j)) rfl (ho.alloc _) ⟨W.heap.size, 0, none⟩ 1 1 [.int .i64 (A j), .int .i64 (P j), .bool false] rfl rfl ?c1 ?c2 ?c3 ?c4 ?c5 ?_)
          case c1 =>
            intro i u hi
            match i, hi with
            | 0, hi => simp at hi; subst hi; simp [Addr.add, go_sem]
            | 1, hi => simp at hi; subst hi; simp [Addr.add, go_sem]
            | 2, hi => simp at hi; subst hi; simp [Addr.add, go_sem]
          case c2 => first | exact ⟨rfl, rfl, rfl⟩ | (intro u hu; simp at hu; rcases hu with rfl | rfl | rfl <;> rfl)
          case c3 => unfold maxLen; omega
          case c4 => omega
          case c5 => first | omega | (simp; omega)
          intro v3 w3 hown3 hgrow _

          rw [hrow.out] at hown3
          have hne3 : ∀ g, (Value.ownBlock u9) = some g → g ≠ wr.heap.size := fun g hg => by have := hlo g hg; omega
          have y1 := grown_cell hgrow (by simp; omega) hne3 (show (W.alloc _).cell? ⟨wr.heap.size, 1, none⟩ = some (.int .i64 (P j)) by simp [go_sem, x1, sW])
          have y2 := grown_cell hgrow (by simp; omega) hne3 (show (W.alloc _).cell? ⟨wr.heap.size, 2, none⟩ = some (.bool false) by simp [go_sem, x2, sW])
          have z3 := hgrow.size
          simp at z3
          have k3 : Below w2.heap.size w2 w3 := (hb2W.alloc hb2W.size _).grown hgrow (by simp; omega) (own_block ho)
          have s3 : wr.heap.size < w3.heap.size := by omega
          clear hgrow ho hrow x0 x1 x2 hne3 hlo

          by_cases hjk : j = k
          · subst hjk
            obtain ⟨g1, g2⟩ := h3 hrn
            have hrow2 : Hid (rows (mkF A2 P2 R2) (cn j + 1) ++ [.int .i64 cut, .int .i64 (P j), .bool false] = rows (mkF A2 P2 R2) (cn j + 1 + 1)) := by
              show _ = rows (mkF A2 P2 R2) (cn j + 1) ++ mkF A2 P2 R2 (cn j + 1)
              rw [g2]
            go_wp2_with (at_builtin; refine wpList_append_own _ rfl (.tmp 81) (.tmp 86) 22 rfl w2.heap.size 35 i0 (.agg #[.int .i64 0, .int .i64 0, .bool false]) 3 24 Try.underlying22 hi hz0 hz1 hz2 rfl (by decide) _ (cn j + 1) (rows (mkF A2 P2 R2) (cn j + 1)) rfl (hown3.alloc _) ⟨w3.heap.size, 0, none⟩ 1 1 [.int .i64 cut, .int .i64 (P j), .bool false] rfl rfl ?c1 ?c2 ?c3 ?c4 ?c5 ?_)
            case c1 =>
              intro i u hi
              match i, hi with
              | 0, hi => simp at hi; subst hi; simp [Addr.add, go_sem]
              | 1, hi => simp at hi; subst hi; simp [Addr.add, go_sem]
              | 2, hi => simp at hi; subst hi; simp [Addr.add, go_sem]
            case c2 => first | exact ⟨rfl, rfl, rfl⟩ | (intro u hu; simp at hu; rcases hu with rfl | rfl | rfl <;> rfl)
            case c3 => unfold maxLen; omega
            case c4 => omega
            case c5 => first | omega | (simp; omega)
            intro v4 w4 hown4 hgrow _
            rw [hrow2.out] at hown4
            have k4 : Below w2.heap.size w2 w4 := (k3.alloc k3.size _).grown hgrow (by have := k3.size; simp; omega) (own_block hown3)
            clear hgrow hrow2
            go_wp2_with fail
            go_roundw
            case rel => exact ⟨j + 1, by omega, by first | rfl | go_num, k4, by rw [g1]; exact hown4⟩
            case measure => simp [intOf]; omega
          · have hjb : ((j : Int) == k) = false := by simp; omega
            go_wp2_with fail
            go_roundw
            case rel => exact ⟨j + 1, by omega, by first | rfl | go_num, k3, by rw [h2 j hlt (fun x => hjk x.1)]; exact hown3⟩
            case measure => simp [intOf]; omega
    · obtain rfl : j = n := by omega
      obtain ⟨ao2, c2, rfl, e1, e2, hM⟩ := own_ML hown
      have HT := fun w hp => Twice_any (some ⟨b, off, none⟩) j c A P R t w hp hc hcm
      have HU := fun w hp => Twice_any ao2 (cn j) c2 A2 P2 R2 t w hp e1 e2
      have H4 : Hid (K.M.te A P j t ≠ 0 ∨ K.M.te A2 P2 (cn j) t ≠ 0 ∨ K.M.tv A P R j t = K.M.tv A2 P2 R2 (cn j) t) := h4
      clear h4 h1 h2 h3 q0 q1 q2 hown
      generalize K.M.te A P j t = E1 at *
      generalize K.M.te A2 P2 (cn j) t = E2 at *
      generalize K.M.tv A P R j t = V1 at *
      generalize K.M.tv A2 P2 R2 (cn j) t = V2 at *
      generalize cn j = N2 at *
      go_wp2_with fail
      refine (HT _ (hp.step h0r)).mono ?_
      rintro e w3 ⟨rfl, hb3⟩
      go_wp2_with fail
      refine (HU _ (hM.step hb3)).mono ?_
      rintro e w4 ⟨rfl, hb4⟩
      have k3 := h0r.trans (hb3.mono h0r.size)
      have k4 := k3.trans (hb4.mono k3.size)
      by_cases g1 : E1 = 0
      · subst g1
        by_cases g2 : E2 = 0
        · subst g2
          have g3 : V1 = V2 := by
            rcases H4.out with x | x | x
            · exact absurd rfl x
            · exact absurd rfl x
            · exact x
          subst g3
          go_wp2_with fail
          go_returns
          exact ⟨by simp, k4⟩
        · have g2b : (E2 != 0) = true := by simp [g2]
          go_wp2_with fail
          go_returns
          exact ⟨by simp, k4⟩
      · have g1b : (E1 != 0) = true := by simp [g1]
        go_wp2_with fail
        go_returns
        exact ⟨by simp, k4⟩
end Go.Proofs.Ytmccbokjigjpnae.F
