/- What the program's Spell comes to. -/
import Derived.Test.YtffhegfapefnfabDoorS8
import Derived.Test.YtffhegfapefnfabDoorS4
import Derived.Test.YtffhegfapefnfabDoorS7
import Derived.Laws.Rows
namespace Go.Proofs.YtffhegfapefnfabDoor
open Go.RowKit
attribute [local go_sem ↓] Go.wp_at_zero Go.wp_at_succ
set_option linter.unusedSimpArgs false

theorem withKey_any (l a K : Int) (w : World) (ht : Tab w) (k1 : -9223372036854775808 ≤ K) (k2 : K ≤ 9223372036854775807) :
    Calls Tryd.prog 58 #[.agg #[.int .i64 l, .int .i64 a], .int .i64 K] w fun e w' => ∃ u0 u1 u2 : Int, e = .returned (.tuple #[.agg #[.int .i64 u0, .int .i64 u1, .int .i64 u2], .bool (M.wk l a K)]) ∧ Hid (M.wk l a K = true → u0 = l ∧ u1 = a ∧ u2 = M.wko l a K) ∧ Below w.heap.size w w' := by
  cases hr : M.rt l a 0
  · have h := M.wk_form (K := K) hr
    exact (withKey_none l a K w ht hr).mono fun e w' ⟨h1, h2⟩ => ⟨0, 0, 0, by rw [h]; exact h1, fun h' => absurd (h ▸ h') (by decide), h2⟩
  · have hb := M.rt_yes hr
    have ha := M.ab_bd l
    have hB : 9 ≤ M.hv l a 0 + 12 ∧ M.hv l a 0 + 12 ≤ 26 := by unfold M.hv; omega
    by_cases hw : -9223372036854775808 ≤ K - (M.hv l a 0 + 12)
    · have hD : IntKind.i64.wrap (K - (M.hv l a 0 + 12)) = K - (M.hv l a 0 + 12) := wid hw (by omega)
      by_cases hm : (K - (M.hv l a 0 + 12)) % 12 = 0
      · have h := M.wk_mk hr hm
        exact (withKey_in l a K _ w ht hr hD hm hw (by omega)).mono fun e w' ⟨h1, h2⟩ => ⟨l, a, M.wko l a K, by rw [h]; exact h1, fun _ => ⟨rfl, rfl, rfl⟩, h2⟩
      · have h := M.wk_rem hm
        exact (withKey_rem l a K _ w ht hr hD hm).mono fun e w' ⟨h1, h2⟩ => ⟨0, 0, 0, by rw [h]; exact h1, fun h' => absurd (h ▸ h') (by decide), h2⟩
    · have hD := M.key_wrap k1 k2 (B := M.hv l a 0 + 12) (by omega) (by omega) (by omega)
      have h : M.wk l a K = false := by
        cases h : M.wk l a K
        · rfl
        · have h3 := (M.wk_yes h).2.2
          unfold M.wko at h3; omega
      by_cases hm : (K - (M.hv l a 0 + 12) + 18446744073709551616) % 12 = 0
      · have hR : M.rt l a ((K - (M.hv l a 0 + 12) + 18446744073709551616) / 12) = false := M.rt_mkn (by omega)
        exact (withKey_in l a K _ w ht hr hD hm (by omega) (by omega)).mono fun e w' ⟨h1, h2⟩ => ⟨l, a, _, by rw [h, ← hR]; exact h1, fun h' => absurd (h ▸ h') (by decide), h2⟩
      · exact (withKey_rem l a K _ w ht hr hD hm).mono fun e w' ⟨h1, h2⟩ => ⟨0, 0, 0, by rw [h]; exact h1, fun h' => absurd (h ▸ h') (by decide), h2⟩

/-- The table of ados lies where the program lays it. -/
structure Ados (w : World) : Prop where
  sz : 2 < w.heap.size
  c0 : w.cell? ⟨2, 0, none⟩ = some (.int .i64 0)
  c1 : w.cell? ⟨2, 1, none⟩ = some (.int .i64 1)
  c2 : w.cell? ⟨2, 2, none⟩ = some (.int .i64 (-1))
  c3 : w.cell? ⟨2, 3, none⟩ = some (.int .i64 2)
  c4 : w.cell? ⟨2, 4, none⟩ = some (.int .i64 (-2))
theorem Ados.step {w w' : World} (h : Ados w) (hb : Below w.heap.size w w') : Ados w' :=
  ⟨by have := hb.size; have := h.sz; omega, keepC hb h.sz h.c0, keepC hb h.sz h.c1, keepC hb h.sz h.c2, keepC hb h.sz h.c3, keepC hb h.sz h.c4⟩

theorem M.sp_at {S x K : Int} {k i : Nat} (hi : i < 7) : M.sp S x K (7 * k + i) = M.wk ((x + i) % 7) (M.al S ((x + i) % 7) + M.wa S k) K := by
  unfold M.sp M.sa M.sl; rw [show (7 * k + i) % 7 = i by omega, show (7 * k + i) / 7 = k by omega]

theorem idx_ado (k : Nat) (hk : k < 5) (w : World) : (Instr.index 96 (.agg #[.int .i64 0, .int .i64 1, .int .i64 (-1), .int .i64 2, .int .i64 (-2)]) (.int .i64 k)).run Tryd.prog w = .ok (.int .i64 (M.ado k)) w := by
  rcases (show k = 0 ∨ k = 1 ∨ k = 2 ∨ k = 3 ∨ k = 4 by omega) with rfl | rfl | rfl | rfl | rfl <;> kernel_rfl

theorem Spell_no (K l a m : Int) (w : World) (ht : Fifs w) (hk : M.zk l a m = false) :
    Calls Tryd.prog 26 #[.int .i64 K, .agg #[.int .i64 l, .int .i64 a], .int .i64 m] w fun e w' => e = .returned (.tuple #[.agg #[.int .i64 0, .int .i64 0, .int .i64 0], .int .i64 (M.ze l a m)]) ∧ Below w.heap.size w w' := by
  have hz := M.ze_ne hk
  have hS := Scale_no l a m
  generalize M.ze l a m = E at *
  go_enter Tryd.func26, Tryd.ntmps26
  go_wp2_with fail
  refine (hS _ (ht.step (by go_grown)) hk).mono ?_
  rintro e w1 ⟨rfl, hb1⟩
  have z1 := hb1.size
  simp at z1
  have hb01 : Below w.heap.size w w1 := Below.trans (by go_grown) (hb1.mono (by simp; omega))
  have d0 : w1.cell? ⟨w.heap.size + 1, 0, none⟩ = some (.int .i64 0) := keepC hb1 (by simp) (by simp [go_sem])
  have d1 : w1.cell? ⟨w.heap.size + 1, 1, none⟩ = some (.int .i64 0) := keepC hb1 (by simp) (by simp [go_sem])
  have d2 : w1.cell? ⟨w.heap.size + 1, 2, none⟩ = some (.int .i64 0) := keepC hb1 (by simp) (by simp [go_sem])
  have f0 : w1.frozen? ⟨w.heap.size + 1, 0, none⟩ = false := keepF hb1 (by simp) (by simp [go_sem])
  have f1 : w1.frozen? ⟨w.heap.size + 1, 1, none⟩ = false := keepF hb1 (by simp) (by simp [go_sem])
  have f2 : w1.frozen? ⟨w.heap.size + 1, 2, none⟩ = false := keepF hb1 (by simp) (by simp [go_sem])
  have s1 : w.heap.size + 1 < w1.heap.size := by omega
  go_wp2_with fail
  refine bodyPost_ret (v := .tuple #[.agg #[.int .i64 0, .int .i64 0, .int .i64 0], .int .i64 E]) (by simp [results, Tryd.results26, go_sem, d0, d1, d2]) rfl ⟨rfl, ?_⟩
  exact (((hb01.setCell (p := ⟨w.heap.size + 1, 0, none⟩) (show w.heap.size ≤ w.heap.size + 1 by omega) _).setCell (p := ⟨w.heap.size + 1, 1, none⟩) (show w.heap.size ≤ w.heap.size + 1 by omega) _).setCell (p := ⟨w.heap.size + 1, 2, none⟩) (show w.heap.size ≤ w.heap.size + 1 by omega) _)

set_option maxRecDepth 20000 in
set_option maxHeartbeats 4000000 in
theorem Spell_flat (K : Int) (x : Nat) (a m : Int) (w : World) (ht : SW w) (hA : Ados w) (hk : M.zk x a m = true) (hneg :  M.zr x a m < 0) (hx : x < 7) (k1 : -9223372036854775808 ≤ K) (k2 : K ≤ 9223372036854775807) :
    Calls Tryd.prog 26 #[.int .i64 K, .agg #[.int .i64 x, .int .i64 a], .int .i64 m] w fun e w' => ∃ T, M.Fst (M.sp (M.zr x a m) x K) T ∧ e = .returned (.tuple #[.agg #[.int .i64 (M.tl x T), .int .i64 (M.ta (M.zr x a m) x T), .int .i64 (M.tO (M.zr x a m) x K T)], .int .i64 (M.te T)]) ∧ Below w.heap.size w w' := by
  have hz := M.zr_bd hk
  have hSc := Scale_yes x a m
  have hS := Signs_any x a m
  rw [M.zs_yes hk, M.ze_yes hk] at hS
  generalize M.zr x a m = S at *
  have hdec : decide (S < 0) = true := by simpa using hneg
  go_enter Tryd.func26, Tryd.ntmps26
  go_wp2_with fail
  refine (hSc _ (ht.fifs.step (by go_grown)) hk hx).mono ?_
  rintro e w1 ⟨b, hbb, rfl, hb1, hrow⟩
  have z1 := hb1.size
  simp at z1 hbb
  have hb01 : Below w.heap.size w w1 := Below.trans (by go_grown) (hb1.mono (by simp; omega))
  have c0 : w1.cell? ⟨w.heap.size, 0, none⟩ = some (.int .i64 x) := keepC hb1 (by simp; omega) (by simp [go_sem])
  have c1 : w1.cell? ⟨w.heap.size, 1, none⟩ = some (.int .i64 a) := keepC hb1 (by simp; omega) (by simp [go_sem])
  have d0 : w1.cell? ⟨w.heap.size + 1, 0, none⟩ = some (.int .i64 0) := keepC hb1 (by simp) (by simp [go_sem])
  have d1 : w1.cell? ⟨w.heap.size + 1, 1, none⟩ = some (.int .i64 0) := keepC hb1 (by simp) (by simp [go_sem])
  have d2 : w1.cell? ⟨w.heap.size + 1, 2, none⟩ = some (.int .i64 0) := keepC hb1 (by simp) (by simp [go_sem])
  have f0 : w1.frozen? ⟨w.heap.size + 1, 0, none⟩ = false := keepF hb1 (by simp) (by simp [go_sem])
  have f1 : w1.frozen? ⟨w.heap.size + 1, 1, none⟩ = false := keepF hb1 (by simp) (by simp [go_sem])
  have f2 : w1.frozen? ⟨w.heap.size + 1, 2, none⟩ = false := keepF hb1 (by simp) (by simp [go_sem])
  have s1 : w.heap.size + 1 < w1.heap.size := by omega
  have hsev := hrow.sev
  have hl1 := hrow.lt
  clear hrow
  go_wp2_with fail
  refine (hS _ (ht.fifs.step hb01)).mono ?_
  rintro e w2 ⟨rfl, hb2⟩
  have z2 := hb2.size
  have hb02 := hb01.trans (hb2.mono hb01.size)
  replace d0 := keepC hb2 (by omega) d0
  replace d1 := keepC hb2 (by omega) d1
  replace d2 := keepC hb2 (by omega) d2
  replace f0 := keepF hb2 (by omega) f0
  replace f1 := keepF hb2 (by omega) f1
  replace f2 := keepF hb2 (by omega) f2
  have s2 : w.heap.size + 1 < w2.heap.size := by omega
  replace hsev := hsev.step hb2 hl1 (Nat.le_refl _)
  have ht2 := ht.step hb02
  obtain ⟨g5, g0, g1, g2, g3, g4⟩ := hA.step hb02
  go_wp2_with fail
  go_loopw [38] (fun i wr => ∃ k : Nat, k ≤ 5 ∧ i = .int .i64 k ∧ Hid (∀ t, t < 7 * k → M.sp S x K t = false) ∧ Below w2.heap.size w2 wr)
    (fun i _ => 5 - (intOf i).toNat)
  case atStart => exact ⟨0, by omega, rfl, fun t h => by omega, Below.refl _ _⟩
  case round =>
    obtain ⟨k, hk5, rfl, hno, hbr⟩ := hrel
    have zr := hbr.size
    by_cases hlt : k < 5
    · have hdk : decide ((k : Int) < 5) = true := by simp; omega
      have hix := idx_ado k hlt
      have hab := M.ado_bd k
      have ew : Hid (∀ y : Int, y + (if S < 0 then -M.ado k else M.ado k) = y + M.wa S k) := fun y => rfl
      generalize M.ado k = AD at *
      go_wp2_with fail
      go_loopw [43] (fun i wx => ∃ j : Nat, j ≤ 7 ∧ i = .int .i64 j ∧ Hid (∀ t, t < 7 * k + j → M.sp S x K t = false) ∧ Below w2.heap.size w2 wx)
        (fun i _ => 7 - (intOf i).toNat)
      case atStart => exact ⟨0, by omega, rfl, hno, hbr⟩
      case round =>
        rename World => wx
        obtain ⟨j, hj7, rfl, hno2, hbx⟩ := hrel
        have zx := hbx.size
        by_cases hjl : j < 7
        · have q0 := keepC hbx (show b < w2.heap.size by omega) (hsev.c0 j hjl)
          have q1 := keepC hbx (show b < w2.heap.size by omega) (hsev.c1 j hjl)
          have hsp := M.sp_at (S := S) (x := x) (K := K) (k := k) hjl
          rw [← ew.out] at hsp
          have hal := M.al_bd S ((x + j) % 7)
          have hyb : 0 ≤ ((x : Int) + j) % 7 ∧ ((x : Int) + j) % 7 ≤ 6 := by omega
          obtain ⟨y, hy⟩ : ∃ y, ((x : Int) + j) % 7 = y := ⟨_, rfl⟩
          obtain ⟨u, hu⟩ : ∃ u, M.al S y = u := ⟨_, rfl⟩
          rw [hy] at q0 q1 hsp hal hyb
          rw [hu] at q1 hsp hal
          obtain ⟨v, hv⟩ : ∃ v, u + (if S < 0 then -AD else AD) = v := ⟨_, rfl⟩
          have hv2 : v = u + (if S < 0 then -AD else AD) := hv.symm
          rw [hv] at hsp
          rw [if_pos hneg] at hv
          clear hv2
          have Hs : Hid (M.sp S x K (7 * k + j) = M.wk y v K) := hsp
          have HH : Hid (((x : Int) + j) % 7 = y ∧ M.al S y = u) := ⟨hy, hu⟩
          clear hy hu hsp
          go_wp2_with fail
          have hba := hbx.alloc zx (Obj.cells #[.int .i64 y, .int .i64 v] 47)
          refine (withKey_any y v K _ (ht2.tab.step hba) k1 k2).mono ?_
          rintro e w3 ⟨u0, u1, u2, rfl, hu, hb3⟩
          have z3 := hb3.size
          simp at z3
          have hb23 : Below w2.heap.size w2 w3 := hba.trans (hb3.mono (by simp; omega))
          cases hwk : M.wk y v K
          · have hno3 : Hid (∀ t, t < 7 * k + (j + 1) → M.sp S x K t = false) := fun t h => by
              by_cases e : t = 7 * k + j
              · rw [e, Hs.out]; exact hwk
              · exact hno2.out t (by omega)
            clear hu Hs hwk
            go_wp2_with fail
            go_roundw
            case rel => first | exact ⟨j + 1, by omega, by go_num, hno3, hb23.alloc hb23.size _⟩ | ((repeat apply Exists.intro); exact ⟨⟨j + 1, by omega, by go_num, hno3, hb23.alloc hb23.size _⟩, rfl⟩)
            case measure => simp [intOf]; omega
          · obtain ⟨rfl, rfl, rfl⟩ := hu.out hwk
            have hF : M.Fst (M.sp S x K) (7 * k + j) := ⟨by omega, hno2.out, fun _ => by rw [Hs.out]; exact hwk⟩
            have hT := M.t_yes (S := S) (x := x) (K := K) (show 7 * k + j < 35 by omega)
            have e1 : M.sl x (7 * k + j) = u0 := by unfold M.sl; rw [show (7 * k + j) % 7 = j by omega]; exact HH.out.1
            have e2 : M.sa S x (7 * k + j) = u1 := by unfold M.sa; rw [e1, HH.out.2, show (7 * k + j) / 7 = k by omega, ← ew.out]; rw [if_pos hneg]; exact hv
            rw [e1, e2] at hT
            have hTT : Hid (M.tl x (7 * k + j) = u0 ∧ M.ta S x (7 * k + j) = u1 ∧ M.tO S x K (7 * k + j) = M.wko u0 u1 K ∧ M.te (7 * k + j) = 0) := hT
            replace d0 := keepC hb23 (by omega) d0
            replace d1 := keepC hb23 (by omega) d1
            replace d2 := keepC hb23 (by omega) d2
            replace f0 := keepF hb23 (by omega) f0
            replace f1 := keepF hb23 (by omega) f1
            replace f2 := keepF hb23 (by omega) f2
            have s3 : w.heap.size + 1 < w3.heap.size := by omega
            have hb03 := hb02.trans (hb23.mono (by omega))
            generalize M.wko u0 u1 K = oc at *
            clear hT e1 e2 hu Hs hwk
            go_wp2_with fail
            refine bodyPost_ret (v := .tuple #[.agg #[.int .i64 u0, .int .i64 u1, .int .i64 oc], .int .i64 0]) (by simp [results, Tryd.results26, go_sem, d0, d1, d2, s3]) rfl ⟨7 * k + j, hF, by rw [hTT.out.1, hTT.out.2.1, hTT.out.2.2.1, hTT.out.2.2.2], ?_⟩
            have hX := (((hb03.setCell (p := ⟨w.heap.size + 1, 0, none⟩) (show w.heap.size ≤ w.heap.size + 1 by omega) (.int .i64 u0)).setCell (p := ⟨w.heap.size + 1, 1, none⟩) (show w.heap.size ≤ w.heap.size + 1 by omega) (.int .i64 u1)).setCell (p := ⟨w.heap.size + 1, 2, none⟩) (show w.heap.size ≤ w.heap.size + 1 by omega) (.int .i64 oc))
            exact hX.alloc hX.size _
        · have ej : j = 7 := by omega
          have hno3 : Hid (∀ t, t < 7 * (k + 1) → M.sp S x K t = false) := fun t h => hno2.out t (by omega)
          go_wp2_with fail
          go_roundw
          case rel => exact ⟨k + 1, by omega, by go_num, hno3, hbx⟩
          case measure => simp [intOf]; omega
    · have hF : M.Fst (M.sp S x K) 35 := ⟨by omega, fun t h => hno.out t (by omega), fun h => absurd h (by omega)⟩
      have hTT := M.t_no (S := S) (x := x) (K := K)
      have HT : Hid (M.tl x 35 = 0 ∧ M.ta S x 35 = 0 ∧ M.tO S x K 35 = 0 ∧ M.te 35 = 3) := hTT
      clear hTT
      replace d0 := keepC hbr (by omega) d0
      replace d1 := keepC hbr (by omega) d1
      replace d2 := keepC hbr (by omega) d2
      replace f0 := keepF hbr (by omega) f0
      replace f1 := keepF hbr (by omega) f1
      replace f2 := keepF hbr (by omega) f2
      have s3 : w.heap.size + 1 < wr.heap.size := by omega
      have hb03 := hb02.trans (hbr.mono (by omega))
      go_wp2_with fail
      refine bodyPost_ret (v := .tuple #[.agg #[.int .i64 0, .int .i64 0, .int .i64 0], .int .i64 3]) (by simp [results, Tryd.results26, go_sem, d0, d1, d2, s3]) rfl ⟨35, hF, by rw [HT.out.1, HT.out.2.1, HT.out.2.2.1, HT.out.2.2.2], ?_⟩
      exact (((hb03.setCell (p := ⟨w.heap.size + 1, 0, none⟩) (show w.heap.size ≤ w.heap.size + 1 by omega) _).setCell (p := ⟨w.heap.size + 1, 1, none⟩) (show w.heap.size ≤ w.heap.size + 1 by omega) _).setCell (p := ⟨w.heap.size + 1, 2, none⟩) (show w.heap.size ≤ w.heap.size + 1 by omega) _)

set_option maxRecDepth 20000 in
set_option maxHeartbeats 4000000 in
theorem Spell_sharp (K : Int) (x : Nat) (a m : Int) (w : World) (ht : SW w) (hA : Ados w) (hk : M.zk x a m = true) (hneg : ¬ M.zr x a m < 0) (hx : x < 7) (k1 : -9223372036854775808 ≤ K) (k2 : K ≤ 9223372036854775807) :
    Calls Tryd.prog 26 #[.int .i64 K, .agg #[.int .i64 x, .int .i64 a], .int .i64 m] w fun e w' => ∃ T, M.Fst (M.sp (M.zr x a m) x K) T ∧ e = .returned (.tuple #[.agg #[.int .i64 (M.tl x T), .int .i64 (M.ta (M.zr x a m) x T), .int .i64 (M.tO (M.zr x a m) x K T)], .int .i64 (M.te T)]) ∧ Below w.heap.size w w' := by
  have hz := M.zr_bd hk
  have hSc := Scale_yes x a m
  have hS := Signs_any x a m
  rw [M.zs_yes hk, M.ze_yes hk] at hS
  generalize M.zr x a m = S at *
  have hdec : decide (S < 0) = false := by simpa using hneg
  go_enter Tryd.func26, Tryd.ntmps26
  go_wp2_with fail
  refine (hSc _ (ht.fifs.step (by go_grown)) hk hx).mono ?_
  rintro e w1 ⟨b, hbb, rfl, hb1, hrow⟩
  have z1 := hb1.size
  simp at z1 hbb
  have hb01 : Below w.heap.size w w1 := Below.trans (by go_grown) (hb1.mono (by simp; omega))
  have c0 : w1.cell? ⟨w.heap.size, 0, none⟩ = some (.int .i64 x) := keepC hb1 (by simp; omega) (by simp [go_sem])
  have c1 : w1.cell? ⟨w.heap.size, 1, none⟩ = some (.int .i64 a) := keepC hb1 (by simp; omega) (by simp [go_sem])
  have d0 : w1.cell? ⟨w.heap.size + 1, 0, none⟩ = some (.int .i64 0) := keepC hb1 (by simp) (by simp [go_sem])
  have d1 : w1.cell? ⟨w.heap.size + 1, 1, none⟩ = some (.int .i64 0) := keepC hb1 (by simp) (by simp [go_sem])
  have d2 : w1.cell? ⟨w.heap.size + 1, 2, none⟩ = some (.int .i64 0) := keepC hb1 (by simp) (by simp [go_sem])
  have f0 : w1.frozen? ⟨w.heap.size + 1, 0, none⟩ = false := keepF hb1 (by simp) (by simp [go_sem])
  have f1 : w1.frozen? ⟨w.heap.size + 1, 1, none⟩ = false := keepF hb1 (by simp) (by simp [go_sem])
  have f2 : w1.frozen? ⟨w.heap.size + 1, 2, none⟩ = false := keepF hb1 (by simp) (by simp [go_sem])
  have s1 : w.heap.size + 1 < w1.heap.size := by omega
  have hsev := hrow.sev
  have hl1 := hrow.lt
  clear hrow
  go_wp2_with fail
  refine (hS _ (ht.fifs.step hb01)).mono ?_
  rintro e w2 ⟨rfl, hb2⟩
  have z2 := hb2.size
  have hb02 := hb01.trans (hb2.mono hb01.size)
  replace d0 := keepC hb2 (by omega) d0
  replace d1 := keepC hb2 (by omega) d1
  replace d2 := keepC hb2 (by omega) d2
  replace f0 := keepF hb2 (by omega) f0
  replace f1 := keepF hb2 (by omega) f1
  replace f2 := keepF hb2 (by omega) f2
  have s2 : w.heap.size + 1 < w2.heap.size := by omega
  replace hsev := hsev.step hb2 hl1 (Nat.le_refl _)
  have ht2 := ht.step hb02
  obtain ⟨g5, g0, g1, g2, g3, g4⟩ := hA.step hb02
  go_wp2_with fail
  go_loopw [38] (fun i wr => ∃ k : Nat, k ≤ 5 ∧ i = .int .i64 k ∧ Hid (∀ t, t < 7 * k → M.sp S x K t = false) ∧ Below w2.heap.size w2 wr)
    (fun i _ => 5 - (intOf i).toNat)
  case atStart => exact ⟨0, by omega, rfl, fun t h => by omega, Below.refl _ _⟩
  case round =>
    obtain ⟨k, hk5, rfl, hno, hbr⟩ := hrel
    have zr := hbr.size
    by_cases hlt : k < 5
    · have hdk : decide ((k : Int) < 5) = true := by simp; omega
      have hix := idx_ado k hlt
      have hab := M.ado_bd k
      have ew : Hid (∀ y : Int, y + (if S < 0 then -M.ado k else M.ado k) = y + M.wa S k) := fun y => rfl
      generalize M.ado k = AD at *
      go_wp2_with fail
      go_loopw [43] (fun i wx => ∃ j : Nat, j ≤ 7 ∧ i = .int .i64 j ∧ Hid (∀ t, t < 7 * k + j → M.sp S x K t = false) ∧ Below w2.heap.size w2 wx)
        (fun i _ => 7 - (intOf i).toNat)
      case atStart => exact ⟨0, by omega, rfl, hno, hbr⟩
      case round =>
        rename World => wx
        obtain ⟨j, hj7, rfl, hno2, hbx⟩ := hrel
        have zx := hbx.size
        by_cases hjl : j < 7
        · have q0 := keepC hbx (show b < w2.heap.size by omega) (hsev.c0 j hjl)
          have q1 := keepC hbx (show b < w2.heap.size by omega) (hsev.c1 j hjl)
          have hsp := M.sp_at (S := S) (x := x) (K := K) (k := k) hjl
          rw [← ew.out] at hsp
          have hal := M.al_bd S ((x + j) % 7)
          have hyb : 0 ≤ ((x : Int) + j) % 7 ∧ ((x : Int) + j) % 7 ≤ 6 := by omega
          obtain ⟨y, hy⟩ : ∃ y, ((x : Int) + j) % 7 = y := ⟨_, rfl⟩
          obtain ⟨u, hu⟩ : ∃ u, M.al S y = u := ⟨_, rfl⟩
          rw [hy] at q0 q1 hsp hal hyb
          rw [hu] at q1 hsp hal
          obtain ⟨v, hv⟩ : ∃ v, u + (if S < 0 then -AD else AD) = v := ⟨_, rfl⟩
          have hv2 : v = u + (if S < 0 then -AD else AD) := hv.symm
          rw [hv] at hsp
          rw [if_neg (show ¬ S < 0 by omega)] at hv
          clear hv2
          have Hs : Hid (M.sp S x K (7 * k + j) = M.wk y v K) := hsp
          have HH : Hid (((x : Int) + j) % 7 = y ∧ M.al S y = u) := ⟨hy, hu⟩
          clear hy hu hsp
          go_wp2_with fail
          have hba := hbx.alloc zx (Obj.cells #[.int .i64 y, .int .i64 v] 47)
          refine (withKey_any y v K _ (ht2.tab.step hba) k1 k2).mono ?_
          rintro e w3 ⟨u0, u1, u2, rfl, hu, hb3⟩
          have z3 := hb3.size
          simp at z3
          have hb23 : Below w2.heap.size w2 w3 := hba.trans (hb3.mono (by simp; omega))
          cases hwk : M.wk y v K
          · have hno3 : Hid (∀ t, t < 7 * k + (j + 1) → M.sp S x K t = false) := fun t h => by
              by_cases e : t = 7 * k + j
              · rw [e, Hs.out]; exact hwk
              · exact hno2.out t (by omega)
            clear hu Hs hwk
            go_wp2_with fail
            go_roundw
            case rel => first | exact ⟨j + 1, by omega, by go_num, hno3, hb23.alloc hb23.size _⟩ | ((repeat apply Exists.intro); exact ⟨⟨j + 1, by omega, by go_num, hno3, hb23.alloc hb23.size _⟩, rfl⟩)
            case measure => simp [intOf]; omega
          · obtain ⟨rfl, rfl, rfl⟩ := hu.out hwk
            have hF : M.Fst (M.sp S x K) (7 * k + j) := ⟨by omega, hno2.out, fun _ => by rw [Hs.out]; exact hwk⟩
            have hT := M.t_yes (S := S) (x := x) (K := K) (show 7 * k + j < 35 by omega)
            have e1 : M.sl x (7 * k + j) = u0 := by unfold M.sl; rw [show (7 * k + j) % 7 = j by omega]; exact HH.out.1
            have e2 : M.sa S x (7 * k + j) = u1 := by unfold M.sa; rw [e1, HH.out.2, show (7 * k + j) / 7 = k by omega, ← ew.out]; rw [if_neg (show ¬ S < 0 by omega)]; exact hv
            rw [e1, e2] at hT
            have hTT : Hid (M.tl x (7 * k + j) = u0 ∧ M.ta S x (7 * k + j) = u1 ∧ M.tO S x K (7 * k + j) = M.wko u0 u1 K ∧ M.te (7 * k + j) = 0) := hT
            replace d0 := keepC hb23 (by omega) d0
            replace d1 := keepC hb23 (by omega) d1
            replace d2 := keepC hb23 (by omega) d2
            replace f0 := keepF hb23 (by omega) f0
            replace f1 := keepF hb23 (by omega) f1
            replace f2 := keepF hb23 (by omega) f2
            have s3 : w.heap.size + 1 < w3.heap.size := by omega
            have hb03 := hb02.trans (hb23.mono (by omega))
            generalize M.wko u0 u1 K = oc at *
            clear hT e1 e2 hu Hs hwk
            go_wp2_with fail
            refine bodyPost_ret (v := .tuple #[.agg #[.int .i64 u0, .int .i64 u1, .int .i64 oc], .int .i64 0]) (by simp [results, Tryd.results26, go_sem, d0, d1, d2, s3]) rfl ⟨7 * k + j, hF, by rw [hTT.out.1, hTT.out.2.1, hTT.out.2.2.1, hTT.out.2.2.2], ?_⟩
            have hX := (((hb03.setCell (p := ⟨w.heap.size + 1, 0, none⟩) (show w.heap.size ≤ w.heap.size + 1 by omega) (.int .i64 u0)).setCell (p := ⟨w.heap.size + 1, 1, none⟩) (show w.heap.size ≤ w.heap.size + 1 by omega) (.int .i64 u1)).setCell (p := ⟨w.heap.size + 1, 2, none⟩) (show w.heap.size ≤ w.heap.size + 1 by omega) (.int .i64 oc))
            exact hX.alloc hX.size _
        · have ej : j = 7 := by omega
          have hno3 : Hid (∀ t, t < 7 * (k + 1) → M.sp S x K t = false) := fun t h => hno2.out t (by omega)
          go_wp2_with fail
          go_roundw
          case rel => exact ⟨k + 1, by omega, by go_num, hno3, hbx⟩
          case measure => simp [intOf]; omega
    · have hF : M.Fst (M.sp S x K) 35 := ⟨by omega, fun t h => hno.out t (by omega), fun h => absurd h (by omega)⟩
      have hTT := M.t_no (S := S) (x := x) (K := K)
      have HT : Hid (M.tl x 35 = 0 ∧ M.ta S x 35 = 0 ∧ M.tO S x K 35 = 0 ∧ M.te 35 = 3) := hTT
      clear hTT
      replace d0 := keepC hbr (by omega) d0
      replace d1 := keepC hbr (by omega) d1
      replace d2 := keepC hbr (by omega) d2
      replace f0 := keepF hbr (by omega) f0
      replace f1 := keepF hbr (by omega) f1
      replace f2 := keepF hbr (by omega) f2
      have s3 : w.heap.size + 1 < wr.heap.size := by omega
      have hb03 := hb02.trans (hbr.mono (by omega))
      go_wp2_with fail
      refine bodyPost_ret (v := .tuple #[.agg #[.int .i64 0, .int .i64 0, .int .i64 0], .int .i64 3]) (by simp [results, Tryd.results26, go_sem, d0, d1, d2, s3]) rfl ⟨35, hF, by rw [HT.out.1, HT.out.2.1, HT.out.2.2.1, HT.out.2.2.2], ?_⟩
      exact (((hb03.setCell (p := ⟨w.heap.size + 1, 0, none⟩) (show w.heap.size ≤ w.heap.size + 1 by omega) _).setCell (p := ⟨w.heap.size + 1, 1, none⟩) (show w.heap.size ≤ w.heap.size + 1 by omega) _).setCell (p := ⟨w.heap.size + 1, 2, none⟩) (show w.heap.size ≤ w.heap.size + 1 by omega) _)


end Go.Proofs.YtffhegfapefnfabDoor
