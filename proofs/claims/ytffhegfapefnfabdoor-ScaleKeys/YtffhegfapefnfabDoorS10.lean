/- What the document's Spell comes to. -/
import Derived.Test.YtffhegfapefnfabDoorS9
import Derived.Test.YtffhegfapefnfabDoorQR3
namespace Go.Proofs.YtffhegfapefnfabDoor
open Go.RowKit
attribute [local go_sem ↓] Go.wp_at_zero Go.wp_at_succ
set_option linter.unusedSimpArgs false

theorem arr_ado (k : Nat) (hk : k < 5) : (#[Value.int .i64 0, .int .i64 1, .int .i64 (-1), .int .i64 2, .int .i64 (-2)] : Array Value)[k]? = some (.int .i64 (M.ado k)) := by
  rcases (show k = 0 ∨ k = 1 ∨ k = 2 ∨ k = 3 ∨ k = 4 by omega) with rfl | rfl | rfl | rfl | rfl <;> rfl

theorem M.wk_none {y v K : Int} (h : ∀ o, -12 ≤ o → o < 13 → ¬ (M.rt y v o = true ∧ M.hv y v o + 12 = K)) : M.wk y v K = false := by
  cases hw : M.wk y v K
  · rfl
  · have h1 := (M.wk_yes hw).2.2
    exact absurd (M.wk_rt hw) (h _ h1.1 (by omega))

theorem refSpell_no (K l a m : Int) (w : World) (a1 : -9223372036854775808 ≤ a) (a2 : a ≤ 9223372036854775807) (hk : M.zk l a m = false) :
    Calls Tryd.prog 27 #[.int .i64 K, .agg #[.int .i64 l, .int .i64 a], .int .i64 m] w fun e w' => e = .returned (.tuple #[.agg #[.int .i64 0, .int .i64 0, .int .i64 0], .int .i64 (M.ze l a m)]) ∧ Below w.heap.size w w' := by
  have hz := M.ze_ne hk
  have hS := fun w => refSigns_any l a m w a1 a2
  generalize M.ze l a m = E at *
  go_enter Tryd.func27, Tryd.ntmps27
  go_wp2_with fail
  refine (hS _).mono ?_
  rintro e w1 ⟨rfl, hb1⟩
  have z1 := hb1.size
  simp at z1
  have hb01 : Below w.heap.size w w1 := Below.trans (by go_grown) (hb1.mono (by simp; omega))
  have d0 : w1.cell? ⟨w.heap.size + 1, 0, none⟩ = some (.int .i64 0) := keepC hb1 (by simp) (by simp [go_sem])
  have d1 : w1.cell? ⟨w.heap.size + 1, 1, none⟩ = some (.int .i64 0) := keepC hb1 (by simp) (by simp [go_sem])
  have d2 : w1.cell? ⟨w.heap.size + 1, 2, none⟩ = some (.int .i64 0) := keepC hb1 (by simp) (by simp [go_sem])
  have f0 : w1.frozen? ⟨w.heap.size + 1, 0, none⟩ = false := keepF hb1 (by simp) (by simp [go_sem])
  have f1 : w1.frozen? ⟨w.heap.size + 1, 1, none⟩ = false := keepF hb1 (by simp) (by simp [go_sem])
  have f2 : w1.frozen? ⟨w.heap.size + 1, 2, none⟩ = false := keepF hb1 (by simp) (by simp [go_sem])
  have s1 : w.heap.size + 1 < w1.heap.size := by omega
  go_wp2_with fail
  refine bodyPost_ret (v := .tuple #[.agg #[.int .i64 0, .int .i64 0, .int .i64 0], .int .i64 E]) (by simp [results, Tryd.results27, go_sem, d0, d1, d2]) rfl ⟨rfl, ?_⟩
  exact (((hb01.setCell (p := ⟨w.heap.size + 1, 0, none⟩) (show w.heap.size ≤ w.heap.size + 1 by omega) _).setCell (p := ⟨w.heap.size + 1, 1, none⟩) (show w.heap.size ≤ w.heap.size + 1 by omega) _).setCell (p := ⟨w.heap.size + 1, 2, none⟩) (show w.heap.size ≤ w.heap.size + 1 by omega) _)

set_option maxRecDepth 20000 in
set_option maxHeartbeats 8000000 in
theorem refSpell_flat (K : Int) (x : Nat) (a m : Int) (w : World) (hk : M.zk x a m = true) (hneg :  M.zr x a m < 0) (hx : x < 7) :
    Calls Tryd.prog 27 #[.int .i64 K, .agg #[.int .i64 x, .int .i64 a], .int .i64 m] w fun e w' => ∃ T, M.Fst (M.sp (M.zr x a m) x K) T ∧ e = .returned (.tuple #[.agg #[.int .i64 (M.tl x T), .int .i64 (M.ta (M.zr x a m) x T), .int .i64 (M.tO (M.zr x a m) x K T)], .int .i64 (M.te T)]) ∧ Below w.heap.size w w' := by
  have hz := M.zr_bd hk
  have har := M.rt_yes (M.zk_yes hk).2.1
  have hSc := fun w => refScale_yes x a m w hk hx
  have hS := fun w => refSigns_any x a m w (by omega) (by omega)
  rw [M.zs_yes hk, M.ze_yes hk] at hS
  generalize M.zr x a m = S at *
  have hdec : decide (S < 0) = true := by simpa using hneg
  go_enter Tryd.func27, Tryd.ntmps27
  go_wp2_with fail
  refine (hS _).mono ?_
  rintro e w1 ⟨rfl, hb1⟩
  have z1 := hb1.size
  simp at z1
  have hb01 : Below w.heap.size w w1 := Below.trans (by go_grown) (hb1.mono (by simp; omega))
  have c0 : w1.cell? ⟨w.heap.size, 0, none⟩ = some (.int .i64 x) := keepC hb1 (by simp; omega) (by simp [go_sem])
  have c1 : w1.cell? ⟨w.heap.size, 1, none⟩ = some (.int .i64 a) := keepC hb1 (by simp; omega) (by simp [go_sem])
  have d0 : w1.cell? ⟨w.heap.size + 1, 0, none⟩ = some (.int .i64 0) := keepC hb1 (by simp) (by simp [go_sem])
  have d1 : w1.cell? ⟨w.heap.size + 1, 1, none⟩ = some (.int .i64 0) := keepC hb1 (by simp) (by simp [go_sem])
  have d2 : w1.cell? ⟨w.heap.size + 1, 2, none⟩ = some (.int .i64 0) := keepC hb1 (by simp) (by simp [go_sem])
  have f0 : w1.frozen? ⟨w.heap.size + 1, 0, none⟩ = false := keepF hb1 (by simp) (by simp [go_sem])
  have f1 : w1.frozen? ⟨w.heap.size + 1, 1, none⟩ = false := keepF hb1 (by simp) (by simp [go_sem])
  have f2 : w1.frozen? ⟨w.heap.size + 1, 2, none⟩ = false := keepF hb1 (by simp) (by simp [go_sem])
  have s1 : w.heap.size + 1 < w1.heap.size := by omega
  go_wp2_with fail
  refine (hSc _).mono ?_
  rintro e w2 ⟨b, cap, hbb, hcap, rfl, hb2, hsev⟩
  have z2 := hb2.size
  have hl2 := hsev.lt
  have hb02 := hb01.trans (hb2.mono hb01.size)
  replace d0 := keepC hb2 (by omega) d0
  replace d1 := keepC hb2 (by omega) d1
  replace d2 := keepC hb2 (by omega) d2
  replace f0 := keepF hb2 (by omega) f0
  replace f1 := keepF hb2 (by omega) f1
  replace f2 := keepF hb2 (by omega) f2
  have s2 : w.heap.size + 1 < w2.heap.size := by omega
  go_wp2_with fail
  go_loopw [12] (fun i wr => ∃ k : Nat, k ≤ 5 ∧ i = .int .i64 k ∧ Hid (∀ t, t < 7 * k → M.sp S x K t = false) ∧ Below w2.heap.size w2 wr)
    (fun i _ => 5 - (intOf i).toNat)
  case atStart => exact ⟨0, by omega, rfl, fun t h => by omega, Below.refl _ _⟩
  case round =>
    obtain ⟨k, hk5, rfl, hno, hbr⟩ := hrel
    have zr := hbr.size
    by_cases hlt : k < 5
    · have hdk : decide ((k : Int) < 5) = true := by simp; omega
      have hix := arr_ado k hlt
      have hcl : (wr.alloc (.cells #[.int .i64 0, .int .i64 1, .int .i64 (-1), .int .i64 2, .int .i64 (-2)] 3)).cell? ⟨wr.heap.size, k, none⟩ = some (.int .i64 (M.ado k)) := by
        rcases (show k = 0 ∨ k = 1 ∨ k = 2 ∨ k = 3 ∨ k = 4 by omega) with rfl | rfl | rfl | rfl | rfl <;> simp [go_sem, M.ado]
      have hab := M.ado_bd k
      have ew : Hid (∀ y : Int, y + (if S < 0 then -M.ado k else M.ado k) = y + M.wa S k) := fun y => rfl
      generalize M.ado k = AD at *
      have hbr' := hbr.alloc zr (.cells #[.int .i64 0, .int .i64 1, .int .i64 (-1), .int .i64 2, .int .i64 (-2)] 3)
      go_wp2_with fail
      go_loopw [50] (fun i wx => ∃ j : Nat, j ≤ 7 ∧ i = .int .i64 j ∧ Hid (∀ t, t < 7 * k + j → M.sp S x K t = false) ∧ Below w2.heap.size w2 wx)
        (fun i _ => 7 - (intOf i).toNat)
      case atStart => exact ⟨0, by omega, rfl, hno, hbr'⟩
      case round =>
        rename World => wx
        obtain ⟨j, hj7, rfl, hno2, hbx⟩ := hrel
        have zx := hbx.size
        by_cases hjl : j < 7
        · have hdj : decide ((j : Int) < 7) = true := by simp; omega
          have q0 := keepC hbx (show b < w2.heap.size by omega) (hsev.c0 j hjl)
          have q1 := keepC hbx (show b < w2.heap.size by omega) (hsev.c1 j hjl)
          have hsp := M.sp_at (S := S) (x := x) (K := K) (k := k) hjl
          rw [← ew.out] at hsp
          have hal := M.al_bd S ((x + j) % 7)
          have hyb : 0 ≤ ((x : Int) + j) % 7 ∧ ((x : Int) + j) % 7 ≤ 6 := by omega
          obtain ⟨y, hy⟩ : ∃ y, ((x : Int) + j) % 7 = y := ⟨_, rfl⟩
          obtain ⟨u, hu⟩ : ∃ u, M.al S y = u := ⟨_, rfl⟩
          rw [hy] at q0 q1 hsp hal hyb
          rw [hu] at q1 hsp hal
          obtain ⟨v, hv⟩ : ∃ v, u + (if S < 0 then -AD else AD) = v := ⟨_, rfl⟩
          rw [hv] at hsp
          rw [if_pos (show S < 0 by omega)] at hv
          have hvb : -3 ≤ v ∧ v ≤ 3 := by omega
          have Hs : Hid (M.sp S x K (7 * k + j) = M.wk y v K) := hsp
          have HH : Hid (((x : Int) + j) % 7 = y ∧ M.al S y = u) := ⟨hy, hu⟩
          clear hy hu hsp
          go_wp2_with fail
          have hbc := hbx.alloc zx (Obj.cells #[.int .i64 y, .int .i64 u] 47)
          have c5 : (wx.alloc (Obj.cells #[.int .i64 y, .int .i64 u] 47)).cell? ⟨wx.heap.size, 0, none⟩ = some (.int .i64 y) := by simp [go_sem]
          have c6 : (wx.alloc (Obj.cells #[.int .i64 y, .int .i64 u] 47)).cell? ⟨wx.heap.size, 1, none⟩ = some (.int .i64 u) := by simp [go_sem]
          go_loopw [16] (fun i wo => ∃ o : Int, -12 ≤ o ∧ o ≤ 13 ∧ i = .int .i64 o ∧ Hid (∀ o', -12 ≤ o' → o' < o → ¬ (M.rt y v o' = true ∧ M.hv y v o' + 12 = K)) ∧ Below (wx.heap.size + 1) (wx.alloc (Obj.cells #[.int .i64 y, .int .i64 u] 47)) wo)
            (fun i _ => (13 - intOf i).toNat)
          case atStart => exact ⟨-12, by omega, by omega, rfl, fun o' h1 h2 => by omega, Below.refl _ _⟩
          case round =>
            rename World => wo
            obtain ⟨o, ho1, ho2, rfl, hnoo, hbo⟩ := hrel
            have zo := hbo.size
            simp at zo
            have hb2o : Below w2.heap.size w2 wo := hbc.trans (hbo.mono (by omega))
            by_cases hol : o ≤ 12
            · have t5 := keepC hbo (by omega) c5
              have t6 := keepC hbo (by omega) c6
              have hsx : wx.heap.size < wo.heap.size := by omega
              go_wp2_with fail
              refine (refKey_any y v o _ (by omega) (by omega)).mono ?_
              rintro e w4 ⟨rfl, hb4⟩
              have z4 := hb4.size
              simp at z4
              have n0 : w4.cell? ⟨wo.heap.size, 0, none⟩ = some (.int .i64 y) := keepC hb4 (by simp) (by simp [go_sem])
              have n1 : w4.cell? ⟨wo.heap.size, 1, none⟩ = some (.int .i64 v) := keepC hb4 (by simp) (by simp [go_sem])
              have n2 : w4.cell? ⟨wo.heap.size, 2, none⟩ = some (.int .i64 o) := keepC hb4 (by simp) (by simp [go_sem])
              have hso : wo.heap.size < w4.heap.size := by omega
              have hb44 : Below wo.heap.size wo w4 := Below.trans (by go_grown) (hb4.mono (by simp))
              have hbo4 : Below (wx.heap.size + 1) (wx.alloc (Obj.cells #[.int .i64 y, .int .i64 u] 47)) w4 := hbo.trans (hb44.mono (by omega))
              cases hrt : M.rt y v o
              · rw [M.kn_no hrt, M.ke_no hrt]
                have hn3 : Hid (∀ o', -12 ≤ o' → o' < o + 1 → ¬ (M.rt y v o' = true ∧ M.hv y v o' + 12 = K)) := fun o' h1 h2 => by
                  by_cases e : o' = o
                  · rw [e, hrt]; simp
                  · exact hnoo.out o' h1 (by omega)
                go_wp2_with fail
                go_roundw
                case rel => first | exact ⟨o + 1, by omega, by omega, rfl, hn3, hbo4⟩ | ((repeat apply Exists.intro); exact ⟨⟨o + 1, by omega, by omega, rfl, hn3, hbo4⟩, rfl⟩)
                case measure => simp [intOf]; omega
              · rw [M.kn_yes hrt, M.ke_yes hrt]
                by_cases hK : M.hv y v o + 12 = K
                · obtain ⟨hw1, hw2⟩ := M.wk_key hrt hK
                  have hF : M.Fst (M.sp S x K) (7 * k + j) := ⟨by omega, hno2.out, fun _ => by rw [Hs.out]; exact hw1⟩
                  have hT := M.t_yes (S := S) (x := x) (K := K) (show 7 * k + j < 35 by omega)
                  have e1 : M.sl x (7 * k + j) = y := by unfold M.sl; rw [show (7 * k + j) % 7 = j by omega]; exact HH.out.1
                  have e2 : M.sa S x (7 * k + j) = v := by unfold M.sa; rw [e1, HH.out.2, show (7 * k + j) / 7 = k by omega, ← ew.out]; rw [if_pos (show S < 0 by omega)]; exact hv
                  rw [e1, e2, hw2] at hT
                  have hTT : Hid (M.tl x (7 * k + j) = y ∧ M.ta S x (7 * k + j) = v ∧ M.tO S x K (7 * k + j) = o ∧ M.te (7 * k + j) = 0) := hT
                  have hb24 : Below w2.heap.size w2 w4 := hb2o.trans (hb44.mono (by omega))
                  replace d0 := keepC hb24 (by omega) d0
                  replace d1 := keepC hb24 (by omega) d1
                  replace d2 := keepC hb24 (by omega) d2
                  replace f0 := keepF hb24 (by omega) f0
                  replace f1 := keepF hb24 (by omega) f1
                  replace f2 := keepF hb24 (by omega) f2
                  have s3 : w.heap.size + 1 < w4.heap.size := by omega
                  have hb03 := hb02.trans (hb24.mono (by omega))
                  clear hT e1 e2 Hs hw1 hw2
                  rw [hK]
                  go_wp2_with fail
                  refine bodyPost_ret (v := .tuple #[.agg #[.int .i64 y, .int .i64 v, .int .i64 o], .int .i64 0]) (by simp [results, Tryd.results27, go_sem, d0, d1, d2, s3]) rfl ⟨7 * k + j, hF, by rw [hTT.out.1, hTT.out.2.1, hTT.out.2.2.1, hTT.out.2.2.2], ?_⟩
                  exact (((hb03.setCell (p := ⟨w.heap.size + 1, 0, none⟩) (show w.heap.size ≤ w.heap.size + 1 by omega) _).setCell (p := ⟨w.heap.size + 1, 1, none⟩) (show w.heap.size ≤ w.heap.size + 1 by omega) _).setCell (p := ⟨w.heap.size + 1, 2, none⟩) (show w.heap.size ≤ w.heap.size + 1 by omega) _)
                · have hn3 : Hid (∀ o', -12 ≤ o' → o' < o + 1 → ¬ (M.rt y v o' = true ∧ M.hv y v o' + 12 = K)) := fun o' h1 h2 => by
                    by_cases e : o' = o
                    · rw [e]; exact fun h => hK h.2
                    · exact hnoo.out o' h1 (by omega)
                  have hKb : (M.hv y v o + 12 == K) = false := by simpa using hK
                  generalize M.hv y v o + 12 = KV at *
                  clear hnoo
                  go_wp2_with fail
                  go_roundw
                  case rel => first | exact ⟨o + 1, by omega, by omega, rfl, hn3, hbo4⟩ | ((repeat apply Exists.intro); exact ⟨⟨o + 1, by omega, by omega, rfl, hn3, hbo4⟩, rfl⟩)
                  case measure => simp [intOf]; omega
            · have hw0 : M.wk y v K = false := M.wk_none (fun o' h1 h2 => hnoo.out o' h1 (by omega))
              have hno3 : Hid (∀ t, t < 7 * k + (j + 1) → M.sp S x K t = false) := fun t h => by
                by_cases e : t = 7 * k + j
                · rw [e, Hs.out]; exact hw0
                · exact hno2.out t (by omega)
              go_wp2_with fail
              go_roundw
              case rel => first | exact ⟨j + 1, by omega, by go_num, hno3, hb2o⟩ | ((repeat apply Exists.intro); exact ⟨⟨j + 1, by omega, by go_num, hno3, hb2o⟩, rfl⟩)
              case measure => simp [intOf]; omega
        · have ej : j = 7 := by omega
          have hno3 : Hid (∀ t, t < 7 * (k + 1) → M.sp S x K t = false) := fun t h => hno2.out t (by omega)
          go_wp2_with fail
          go_roundw
          case rel => first | exact ⟨k + 1, by omega, by go_num, hno3, hbx⟩ | ((repeat apply Exists.intro); exact ⟨⟨k + 1, by omega, by go_num, hno3, hbx⟩, rfl⟩)
          case measure => simp [intOf]; omega
    · have hF : M.Fst (M.sp S x K) 35 := ⟨by omega, fun t h => hno.out t (by omega), fun h => absurd h (by omega)⟩
      have HT : Hid (M.tl x 35 = 0 ∧ M.ta S x 35 = 0 ∧ M.tO S x K 35 = 0 ∧ M.te 35 = 3) := M.t_no
      replace d0 := keepC hbr (by omega) d0
      replace d1 := keepC hbr (by omega) d1
      replace d2 := keepC hbr (by omega) d2
      replace f0 := keepF hbr (by omega) f0
      replace f1 := keepF hbr (by omega) f1
      replace f2 := keepF hbr (by omega) f2
      have s3 : w.heap.size + 1 < wr.heap.size := by omega
      have hb03 := hb02.trans (hbr.mono (by omega))
      go_wp2_with fail
      refine bodyPost_ret (v := .tuple #[.agg #[.int .i64 0, .int .i64 0, .int .i64 0], .int .i64 3]) (by simp [results, Tryd.results27, go_sem, d0, d1, d2, s3]) rfl ⟨35, hF, by rw [HT.out.1, HT.out.2.1, HT.out.2.2.1, HT.out.2.2.2], ?_⟩
      exact (((hb03.setCell (p := ⟨w.heap.size + 1, 0, none⟩) (show w.heap.size ≤ w.heap.size + 1 by omega) _).setCell (p := ⟨w.heap.size + 1, 1, none⟩) (show w.heap.size ≤ w.heap.size + 1 by omega) _).setCell (p := ⟨w.heap.size + 1, 2, none⟩) (show w.heap.size ≤ w.heap.size + 1 by omega) _)

set_option maxRecDepth 20000 in
set_option maxHeartbeats 8000000 in
theorem refSpell_sharp (K : Int) (x : Nat) (a m : Int) (w : World) (hk : M.zk x a m = true) (hneg : ¬ M.zr x a m < 0) (hx : x < 7) :
    Calls Tryd.prog 27 #[.int .i64 K, .agg #[.int .i64 x, .int .i64 a], .int .i64 m] w fun e w' => ∃ T, M.Fst (M.sp (M.zr x a m) x K) T ∧ e = .returned (.tuple #[.agg #[.int .i64 (M.tl x T), .int .i64 (M.ta (M.zr x a m) x T), .int .i64 (M.tO (M.zr x a m) x K T)], .int .i64 (M.te T)]) ∧ Below w.heap.size w w' := by
  have hz := M.zr_bd hk
  have har := M.rt_yes (M.zk_yes hk).2.1
  have hSc := fun w => refScale_yes x a m w hk hx
  have hS := fun w => refSigns_any x a m w (by omega) (by omega)
  rw [M.zs_yes hk, M.ze_yes hk] at hS
  generalize M.zr x a m = S at *
  have hdec : decide (S < 0) = false := by simpa using hneg
  go_enter Tryd.func27, Tryd.ntmps27
  go_wp2_with fail
  refine (hS _).mono ?_
  rintro e w1 ⟨rfl, hb1⟩
  have z1 := hb1.size
  simp at z1
  have hb01 : Below w.heap.size w w1 := Below.trans (by go_grown) (hb1.mono (by simp; omega))
  have c0 : w1.cell? ⟨w.heap.size, 0, none⟩ = some (.int .i64 x) := keepC hb1 (by simp; omega) (by simp [go_sem])
  have c1 : w1.cell? ⟨w.heap.size, 1, none⟩ = some (.int .i64 a) := keepC hb1 (by simp; omega) (by simp [go_sem])
  have d0 : w1.cell? ⟨w.heap.size + 1, 0, none⟩ = some (.int .i64 0) := keepC hb1 (by simp) (by simp [go_sem])
  have d1 : w1.cell? ⟨w.heap.size + 1, 1, none⟩ = some (.int .i64 0) := keepC hb1 (by simp) (by simp [go_sem])
  have d2 : w1.cell? ⟨w.heap.size + 1, 2, none⟩ = some (.int .i64 0) := keepC hb1 (by simp) (by simp [go_sem])
  have f0 : w1.frozen? ⟨w.heap.size + 1, 0, none⟩ = false := keepF hb1 (by simp) (by simp [go_sem])
  have f1 : w1.frozen? ⟨w.heap.size + 1, 1, none⟩ = false := keepF hb1 (by simp) (by simp [go_sem])
  have f2 : w1.frozen? ⟨w.heap.size + 1, 2, none⟩ = false := keepF hb1 (by simp) (by simp [go_sem])
  have s1 : w.heap.size + 1 < w1.heap.size := by omega
  go_wp2_with fail
  refine (hSc _).mono ?_
  rintro e w2 ⟨b, cap, hbb, hcap, rfl, hb2, hsev⟩
  have z2 := hb2.size
  have hl2 := hsev.lt
  have hb02 := hb01.trans (hb2.mono hb01.size)
  replace d0 := keepC hb2 (by omega) d0
  replace d1 := keepC hb2 (by omega) d1
  replace d2 := keepC hb2 (by omega) d2
  replace f0 := keepF hb2 (by omega) f0
  replace f1 := keepF hb2 (by omega) f1
  replace f2 := keepF hb2 (by omega) f2
  have s2 : w.heap.size + 1 < w2.heap.size := by omega
  go_wp2_with fail
  go_loopw [12] (fun i wr => ∃ k : Nat, k ≤ 5 ∧ i = .int .i64 k ∧ Hid (∀ t, t < 7 * k → M.sp S x K t = false) ∧ Below w2.heap.size w2 wr)
    (fun i _ => 5 - (intOf i).toNat)
  case atStart => exact ⟨0, by omega, rfl, fun t h => by omega, Below.refl _ _⟩
  case round =>
    obtain ⟨k, hk5, rfl, hno, hbr⟩ := hrel
    have zr := hbr.size
    by_cases hlt : k < 5
    · have hdk : decide ((k : Int) < 5) = true := by simp; omega
      have hix := arr_ado k hlt
      have hcl : (wr.alloc (.cells #[.int .i64 0, .int .i64 1, .int .i64 (-1), .int .i64 2, .int .i64 (-2)] 3)).cell? ⟨wr.heap.size, k, none⟩ = some (.int .i64 (M.ado k)) := by
        rcases (show k = 0 ∨ k = 1 ∨ k = 2 ∨ k = 3 ∨ k = 4 by omega) with rfl | rfl | rfl | rfl | rfl <;> simp [go_sem, M.ado]
      have hab := M.ado_bd k
      have ew : Hid (∀ y : Int, y + (if S < 0 then -M.ado k else M.ado k) = y + M.wa S k) := fun y => rfl
      generalize M.ado k = AD at *
      have hbr' := hbr.alloc zr (.cells #[.int .i64 0, .int .i64 1, .int .i64 (-1), .int .i64 2, .int .i64 (-2)] 3)
      go_wp2_with fail
      go_loopw [50] (fun i wx => ∃ j : Nat, j ≤ 7 ∧ i = .int .i64 j ∧ Hid (∀ t, t < 7 * k + j → M.sp S x K t = false) ∧ Below w2.heap.size w2 wx)
        (fun i _ => 7 - (intOf i).toNat)
      case atStart => exact ⟨0, by omega, rfl, hno, hbr'⟩
      case round =>
        rename World => wx
        obtain ⟨j, hj7, rfl, hno2, hbx⟩ := hrel
        have zx := hbx.size
        by_cases hjl : j < 7
        · have hdj : decide ((j : Int) < 7) = true := by simp; omega
          have q0 := keepC hbx (show b < w2.heap.size by omega) (hsev.c0 j hjl)
          have q1 := keepC hbx (show b < w2.heap.size by omega) (hsev.c1 j hjl)
          have hsp := M.sp_at (S := S) (x := x) (K := K) (k := k) hjl
          rw [← ew.out] at hsp
          have hal := M.al_bd S ((x + j) % 7)
          have hyb : 0 ≤ ((x : Int) + j) % 7 ∧ ((x : Int) + j) % 7 ≤ 6 := by omega
          obtain ⟨y, hy⟩ : ∃ y, ((x : Int) + j) % 7 = y := ⟨_, rfl⟩
          obtain ⟨u, hu⟩ : ∃ u, M.al S y = u := ⟨_, rfl⟩
          rw [hy] at q0 q1 hsp hal hyb
          rw [hu] at q1 hsp hal
          obtain ⟨v, hv⟩ : ∃ v, u + (if S < 0 then -AD else AD) = v := ⟨_, rfl⟩
          rw [hv] at hsp
          rw [if_neg (show ¬ S < 0 by omega)] at hv
          have hvb : -3 ≤ v ∧ v ≤ 3 := by omega
          have Hs : Hid (M.sp S x K (7 * k + j) = M.wk y v K) := hsp
          have HH : Hid (((x : Int) + j) % 7 = y ∧ M.al S y = u) := ⟨hy, hu⟩
          clear hy hu hsp
          go_wp2_with fail
          have hbc := hbx.alloc zx (Obj.cells #[.int .i64 y, .int .i64 u] 47)
          have c5 : (wx.alloc (Obj.cells #[.int .i64 y, .int .i64 u] 47)).cell? ⟨wx.heap.size, 0, none⟩ = some (.int .i64 y) := by simp [go_sem]
          have c6 : (wx.alloc (Obj.cells #[.int .i64 y, .int .i64 u] 47)).cell? ⟨wx.heap.size, 1, none⟩ = some (.int .i64 u) := by simp [go_sem]
          go_loopw [16] (fun i wo => ∃ o : Int, -12 ≤ o ∧ o ≤ 13 ∧ i = .int .i64 o ∧ Hid (∀ o', -12 ≤ o' → o' < o → ¬ (M.rt y v o' = true ∧ M.hv y v o' + 12 = K)) ∧ Below (wx.heap.size + 1) (wx.alloc (Obj.cells #[.int .i64 y, .int .i64 u] 47)) wo)
            (fun i _ => (13 - intOf i).toNat)
          case atStart => exact ⟨-12, by omega, by omega, rfl, fun o' h1 h2 => by omega, Below.refl _ _⟩
          case round =>
            rename World => wo
            obtain ⟨o, ho1, ho2, rfl, hnoo, hbo⟩ := hrel
            have zo := hbo.size
            simp at zo
            have hb2o : Below w2.heap.size w2 wo := hbc.trans (hbo.mono (by omega))
            by_cases hol : o ≤ 12
            · have t5 := keepC hbo (by omega) c5
              have t6 := keepC hbo (by omega) c6
              have hsx : wx.heap.size < wo.heap.size := by omega
              go_wp2_with fail
              refine (refKey_any y v o _ (by omega) (by omega)).mono ?_
              rintro e w4 ⟨rfl, hb4⟩
              have z4 := hb4.size
              simp at z4
              have n0 : w4.cell? ⟨wo.heap.size, 0, none⟩ = some (.int .i64 y) := keepC hb4 (by simp) (by simp [go_sem])
              have n1 : w4.cell? ⟨wo.heap.size, 1, none⟩ = some (.int .i64 v) := keepC hb4 (by simp) (by simp [go_sem])
              have n2 : w4.cell? ⟨wo.heap.size, 2, none⟩ = some (.int .i64 o) := keepC hb4 (by simp) (by simp [go_sem])
              have hso : wo.heap.size < w4.heap.size := by omega
              have hb44 : Below wo.heap.size wo w4 := Below.trans (by go_grown) (hb4.mono (by simp))
              have hbo4 : Below (wx.heap.size + 1) (wx.alloc (Obj.cells #[.int .i64 y, .int .i64 u] 47)) w4 := hbo.trans (hb44.mono (by omega))
              cases hrt : M.rt y v o
              · rw [M.kn_no hrt, M.ke_no hrt]
                have hn3 : Hid (∀ o', -12 ≤ o' → o' < o + 1 → ¬ (M.rt y v o' = true ∧ M.hv y v o' + 12 = K)) := fun o' h1 h2 => by
                  by_cases e : o' = o
                  · rw [e, hrt]; simp
                  · exact hnoo.out o' h1 (by omega)
                go_wp2_with fail
                go_roundw
                case rel => first | exact ⟨o + 1, by omega, by omega, rfl, hn3, hbo4⟩ | ((repeat apply Exists.intro); exact ⟨⟨o + 1, by omega, by omega, rfl, hn3, hbo4⟩, rfl⟩)
                case measure => simp [intOf]; omega
              · rw [M.kn_yes hrt, M.ke_yes hrt]
                by_cases hK : M.hv y v o + 12 = K
                · obtain ⟨hw1, hw2⟩ := M.wk_key hrt hK
                  have hF : M.Fst (M.sp S x K) (7 * k + j) := ⟨by omega, hno2.out, fun _ => by rw [Hs.out]; exact hw1⟩
                  have hT := M.t_yes (S := S) (x := x) (K := K) (show 7 * k + j < 35 by omega)
                  have e1 : M.sl x (7 * k + j) = y := by unfold M.sl; rw [show (7 * k + j) % 7 = j by omega]; exact HH.out.1
                  have e2 : M.sa S x (7 * k + j) = v := by unfold M.sa; rw [e1, HH.out.2, show (7 * k + j) / 7 = k by omega, ← ew.out]; rw [if_neg (show ¬ S < 0 by omega)]; exact hv
                  rw [e1, e2, hw2] at hT
                  have hTT : Hid (M.tl x (7 * k + j) = y ∧ M.ta S x (7 * k + j) = v ∧ M.tO S x K (7 * k + j) = o ∧ M.te (7 * k + j) = 0) := hT
                  have hb24 : Below w2.heap.size w2 w4 := hb2o.trans (hb44.mono (by omega))
                  replace d0 := keepC hb24 (by omega) d0
                  replace d1 := keepC hb24 (by omega) d1
                  replace d2 := keepC hb24 (by omega) d2
                  replace f0 := keepF hb24 (by omega) f0
                  replace f1 := keepF hb24 (by omega) f1
                  replace f2 := keepF hb24 (by omega) f2
                  have s3 : w.heap.size + 1 < w4.heap.size := by omega
                  have hb03 := hb02.trans (hb24.mono (by omega))
                  clear hT e1 e2 Hs hw1 hw2
                  rw [hK]
                  go_wp2_with fail
                  refine bodyPost_ret (v := .tuple #[.agg #[.int .i64 y, .int .i64 v, .int .i64 o], .int .i64 0]) (by simp [results, Tryd.results27, go_sem, d0, d1, d2, s3]) rfl ⟨7 * k + j, hF, by rw [hTT.out.1, hTT.out.2.1, hTT.out.2.2.1, hTT.out.2.2.2], ?_⟩
                  exact (((hb03.setCell (p := ⟨w.heap.size + 1, 0, none⟩) (show w.heap.size ≤ w.heap.size + 1 by omega) _).setCell (p := ⟨w.heap.size + 1, 1, none⟩) (show w.heap.size ≤ w.heap.size + 1 by omega) _).setCell (p := ⟨w.heap.size + 1, 2, none⟩) (show w.heap.size ≤ w.heap.size + 1 by omega) _)
                · have hn3 : Hid (∀ o', -12 ≤ o' → o' < o + 1 → ¬ (M.rt y v o' = true ∧ M.hv y v o' + 12 = K)) := fun o' h1 h2 => by
                    by_cases e : o' = o
                    · rw [e]; exact fun h => hK h.2
                    · exact hnoo.out o' h1 (by omega)
                  have hKb : (M.hv y v o + 12 == K) = false := by simpa using hK
                  generalize M.hv y v o + 12 = KV at *
                  clear hnoo
                  go_wp2_with fail
                  go_roundw
                  case rel => first | exact ⟨o + 1, by omega, by omega, rfl, hn3, hbo4⟩ | ((repeat apply Exists.intro); exact ⟨⟨o + 1, by omega, by omega, rfl, hn3, hbo4⟩, rfl⟩)
                  case measure => simp [intOf]; omega
            · have hw0 : M.wk y v K = false := M.wk_none (fun o' h1 h2 => hnoo.out o' h1 (by omega))
              have hno3 : Hid (∀ t, t < 7 * k + (j + 1) → M.sp S x K t = false) := fun t h => by
                by_cases e : t = 7 * k + j
                · rw [e, Hs.out]; exact hw0
                · exact hno2.out t (by omega)
              go_wp2_with fail
              go_roundw
              case rel => first | exact ⟨j + 1, by omega, by go_num, hno3, hb2o⟩ | ((repeat apply Exists.intro); exact ⟨⟨j + 1, by omega, by go_num, hno3, hb2o⟩, rfl⟩)
              case measure => simp [intOf]; omega
        · have ej : j = 7 := by omega
          have hno3 : Hid (∀ t, t < 7 * (k + 1) → M.sp S x K t = false) := fun t h => hno2.out t (by omega)
          go_wp2_with fail
          go_roundw
          case rel => first | exact ⟨k + 1, by omega, by go_num, hno3, hbx⟩ | ((repeat apply Exists.intro); exact ⟨⟨k + 1, by omega, by go_num, hno3, hbx⟩, rfl⟩)
          case measure => simp [intOf]; omega
    · have hF : M.Fst (M.sp S x K) 35 := ⟨by omega, fun t h => hno.out t (by omega), fun h => absurd h (by omega)⟩
      have HT : Hid (M.tl x 35 = 0 ∧ M.ta S x 35 = 0 ∧ M.tO S x K 35 = 0 ∧ M.te 35 = 3) := M.t_no
      replace d0 := keepC hbr (by omega) d0
      replace d1 := keepC hbr (by omega) d1
      replace d2 := keepC hbr (by omega) d2
      replace f0 := keepF hbr (by omega) f0
      replace f1 := keepF hbr (by omega) f1
      replace f2 := keepF hbr (by omega) f2
      have s3 : w.heap.size + 1 < wr.heap.size := by omega
      have hb03 := hb02.trans (hbr.mono (by omega))
      go_wp2_with fail
      refine bodyPost_ret (v := .tuple #[.agg #[.int .i64 0, .int .i64 0, .int .i64 0], .int .i64 3]) (by simp [results, Tryd.results27, go_sem, d0, d1, d2, s3]) rfl ⟨35, hF, by rw [HT.out.1, HT.out.2.1, HT.out.2.2.1, HT.out.2.2.2], ?_⟩
      exact (((hb03.setCell (p := ⟨w.heap.size + 1, 0, none⟩) (show w.heap.size ≤ w.heap.size + 1 by omega) _).setCell (p := ⟨w.heap.size + 1, 1, none⟩) (show w.heap.size ≤ w.heap.size + 1 by omega) _).setCell (p := ⟨w.heap.size + 1, 2, none⟩) (show w.heap.size ≤ w.heap.size + 1 by omega) _)

theorem refSpell_yes (K : Int) (x : Nat) (a m : Int) (w : World) (hk : M.zk x a m = true) (hx : x < 7) :
    Calls Tryd.prog 27 #[.int .i64 K, .agg #[.int .i64 x, .int .i64 a], .int .i64 m] w fun e w' => ∃ T, M.Fst (M.sp (M.zr x a m) x K) T ∧ e = .returned (.tuple #[.agg #[.int .i64 (M.tl x T), .int .i64 (M.ta (M.zr x a m) x T), .int .i64 (M.tO (M.zr x a m) x K T)], .int .i64 (M.te T)]) ∧ Below w.heap.size w w' := by
  by_cases h : M.zr x a m < 0
  · exact refSpell_flat K x a m w hk h hx
  · exact refSpell_sharp K x a m w hk h hx
theorem Spell_yes (K : Int) (x : Nat) (a m : Int) (w : World) (ht : SW w) (hA : Ados w) (hk : M.zk x a m = true) (hx : x < 7) (k1 : -9223372036854775808 ≤ K) (k2 : K ≤ 9223372036854775807) :
    Calls Tryd.prog 26 #[.int .i64 K, .agg #[.int .i64 x, .int .i64 a], .int .i64 m] w fun e w' => ∃ T, M.Fst (M.sp (M.zr x a m) x K) T ∧ e = .returned (.tuple #[.agg #[.int .i64 (M.tl x T), .int .i64 (M.ta (M.zr x a m) x T), .int .i64 (M.tO (M.zr x a m) x K T)], .int .i64 (M.te T)]) ∧ Below w.heap.size w w' := by
  by_cases h : M.zr x a m < 0
  · exact Spell_flat K x a m w ht hA hk h hx k1 k2
  · exact Spell_sharp K x a m w ht hA hk h hx k1 k2

end Go.Proofs.YtffhegfapefnfabDoor
