/- What the program's lowest and turnOf come to. -/
import Derived.Test.YtgcnmmjgdpdmbacDoorC3
import Derived.Test.YtgcnmmjgdpdmbacDoorS11
namespace Go.Proofs.YtgcnmmjgdpdmbacDoor
open Go.RowKit
attribute [local go_sem ↓] Go.wp_at_zero Go.wp_at_succ
set_option linter.unusedSimpArgs false

theorem turnOf_any (r a l a' o' : Int) (w : World) (h1 : 0 ≤ r) (h2 : r ≤ 6) (h3 : 0 ≤ l) (h4 : l ≤ 6) :
    Calls Tryd.prog 25 #[.agg #[.int .i64 r, .int .i64 a], .agg #[.int .i64 l, .int .i64 a', .int .i64 o']] w fun e w' => e = .returned (.int .i64 (((l - r + 7) % 7) / 2)) ∧ Below w.heap.size w w' := by
  have e1 : (l - r + 7).tmod 7 = (l - r + 7) % 7 := Int.tmod_eq_emod_of_nonneg (by omega)
  obtain ⟨x, hx⟩ : ∃ x, (l - r + 7) % 7 = x := ⟨_, rfl⟩
  have hx2 : 0 ≤ x ∧ x ≤ 6 := by omega
  have e2 : x.tdiv 2 = x / 2 := Int.tdiv_eq_ediv_of_nonneg (by omega)
  rw [hx] at e1
  rw [hx]
  clear hx
  obtain ⟨y, hy⟩ : ∃ y, x / 2 = y := ⟨_, rfl⟩
  have hy2 : 0 ≤ y ∧ y ≤ 6 := by omega
  rw [hy] at e2
  rw [hy]
  clear hy
  go_enter Tryd.func25, Tryd.ntmps25
  go_wp2_with fail
  go_ret
  exact ⟨rfl, by go_grown⟩

theorem M.rt_st' {l a o : Int} (h : M.rt l a o = true) : -84 ≤ M.st l o ∧ M.st l o ≤ 90 := by have := M.rt_yes h; unfold M.st; omega
/-- The pitch of that number is the lowest of the first n. -/
structure M.Low (L O : Nat → Int) (n m : Nat) : Prop where
  lt : m < n
  le : ∀ j, j < n → M.st (L m) (O m) ≤ M.st (L j) (O j)

theorem PB.put' {w : World} {b : Nat} {l a o u0 u1 u2 : Int} (h : PB w b l a o) : PB (((w.setCell ⟨b, 0, none⟩ (.int .i64 u0)).setCell ⟨b, 1, none⟩ (.int .i64 u1)).setCell ⟨b, 2, none⟩ (.int .i64 u2)) b u0 u1 u2 := ((h.put0).put1).put2
theorem PB.oth {w : World} {b b' i : Nat} {l a o : Int} {v : Value} (h : PB w b l a o) (hne : b ≠ b') : PB (w.setCell ⟨b', i, none⟩ v) b l a o :=
  ⟨by simpa using h.lt, by rw [World.cell?_setCell_other _ _ _ _ (by simp [hne])]; exact h.n0, by rw [World.cell?_setCell_other _ _ _ _ (by simp [hne])]; exact h.n1, by rw [World.cell?_setCell_other _ _ _ _ (by simp [hne])]; exact h.n2, by simpa [go_sem] using h.g0, by simpa [go_sem] using h.g1, by simpa [go_sem] using h.g2⟩

set_option maxRecDepth 20000 in
set_option maxHeartbeats 4000000 in
theorem lowest_any (b off n c : Nat) (L A O : Nat → Int) (w : World) (ht : Tab w) (hbl : b < w.heap.size) (q0 : ∀ j, j < n → w.cell? ⟨b, off + j * 3, none⟩ = some (.int .i64 (L j))) (q1 : ∀ j, j < n → w.cell? ⟨b, off + j * 3 + 1, none⟩ = some (.int .i64 (A j))) (q2 : ∀ j, j < n → w.cell? ⟨b, off + j * 3 + 2, none⟩ = some (.int .i64 (O j))) (hrt : ∀ j, j < n → M.rt (L j) (A j) (O j) = true) (hn : 1 ≤ n) (hc : n ≤ c) (hcm : c ≤ 9223372036854775807) :
    Calls Tryd.prog 26 #[.slice (some ⟨b, off, none⟩) n c] w fun e w' => ∃ m, M.Low L O n m ∧ e = .returned (.agg #[.int .i64 (L m), .int .i64 (A m), .int .i64 (O m)]) ∧ Below w.heap.size w w' := by
  have c0 := q0 0 (by omega)
  have c1 := q1 0 (by omega)
  have c2 := q2 0 (by omega)
  simp only [Nat.zero_mul, Nat.add_zero] at c0 c1 c2
  by_cases hc1 : c = 1
  · have hn1 : n = 1 := by omega
    subst hc1
    subst hn1
    go_enter Tryd.func26, Tryd.ntmps26
    go_wp2_with fail
    refine wp_loop_rounds 1 ?_
    rw [rounds_succ]
    go_wp2_with fail
    refine bodyPost_ret (v := .agg #[.int .i64 (L 0), .int .i64 (A 0), .int .i64 (O 0)]) (by simp [results, Tryd.results26, go_sem]) rfl ⟨0, ⟨by omega, fun j hj => by rw [show j = 0 by omega]; exact Int.le_refl _⟩, rfl, ?_⟩
    go_grown
  · have hc2 : 1 < c := by omega
    go_enter Tryd.func26, Tryd.ntmps26
    go_wp2_with fail
    go_loopw [14] (fun i wr => ∃ k m : Nat, k ≤ n - 1 ∧ i = .int .i64 k ∧ Hid (M.Low L O (k + 1) m) ∧ Below w.heap.size w wr ∧ PB wr w.heap.size 0 0 0 ∧ PB wr (w.heap.size + 1) (L m) (A m) (O m))
      (fun i _ => n - 1 - (intOf i).toNat)
    case atStart =>
      refine ⟨0, 0, by omega, rfl, ⟨by omega, fun j hj => by rw [show j = 0 by omega]; exact Int.le_refl _⟩, by go_grown, ?_, ?_⟩
      · exact ⟨by simp; omega, by simp [go_sem], by simp [go_sem], by simp [go_sem], by simp [go_sem], by simp [go_sem], by simp [go_sem]⟩
      · exact ⟨by simp, by simp [go_sem], by simp [go_sem], by simp [go_sem], by simp [go_sem], by simp [go_sem], by simp [go_sem]⟩
    case round =>
      obtain ⟨k, m, hkn, rfl, hlow, hbr, hpd, hpb⟩ := hrel
      have zr := hbr.size
      by_cases hlt : k < n - 1
      · have hbk : b < wr.heap.size := by omega
        have r0 : wr.cell? ⟨b, off + 3 + k * 3, none⟩ = some (.int .i64 (L (k + 1))) := by rw [show off + 3 + k * 3 = off + (k + 1) * 3 by omega]; exact keepC hbr hbl (q0 (k + 1) (by omega))
        have r1 : wr.cell? ⟨b, off + 3 + k * 3 + 1, none⟩ = some (.int .i64 (A (k + 1))) := by rw [show off + 3 + k * 3 + 1 = off + (k + 1) * 3 + 1 by omega]; exact keepC hbr hbl (q1 (k + 1) (by omega))
        have r2 : wr.cell? ⟨b, off + 3 + k * 3 + 2, none⟩ = some (.int .i64 (O (k + 1))) := by rw [show off + 3 + k * 3 + 2 = off + (k + 1) * 3 + 2 by omega]; exact keepC hbr hbl (q2 (k + 1) (by omega))
        have hml := hlow.out.lt
        have hr1 := hrt m (by omega)
        have hr2 := hrt (k + 1) (by omega)
        have hb1 := M.rt_st' hr1
        have hb2 := M.rt_st' hr2
        have hbk2 : M.bk (L m) (A m) (O m) (L (k + 1)) (A (k + 1)) (O (k + 1)) = true := by unfold M.bk; rw [hr1, hr2]; rfl
        have hB := Between_any (L m) (A m) (O m) (L (k + 1)) (A (k + 1)) (O (k + 1))
        rw [M.bs_yes hbk2, M.be_yes hbk2] at hB
        obtain ⟨pl, n0, n1, n2, g0, g1, g2⟩ := hpb
        go_wp2_with fail
        refine (hB _ (ht.step (hbr.alloc zr _))).mono ?_
        rintro e w2 ⟨rfl, hb2'⟩
        have z2 := hb2'.size
        simp at z2
        have k2 : Below wr.heap.size wr w2 := Below.trans (by go_grown) (hb2'.mono (by simp))
        have h02 := hbr.trans (k2.mono zr)
        have t0 : w2.cell? ⟨wr.heap.size, 0, none⟩ = some (.int .i64 (L (k + 1))) := keepC hb2' (by simp) (by simp [go_sem])
        have t1 : w2.cell? ⟨wr.heap.size, 1, none⟩ = some (.int .i64 (A (k + 1))) := keepC hb2' (by simp) (by simp [go_sem])
        have t2 : w2.cell? ⟨wr.heap.size, 2, none⟩ = some (.int .i64 (O (k + 1))) := keepC hb2' (by simp) (by simp [go_sem])
        have st : wr.heap.size < w2.heap.size := by omega
        have hpb2 := (PB.mk pl n0 n1 n2 g0 g1 g2).step k2 pl (Nat.le_refl _)
        have hpd2 := hpd.step k2 hpd.lt (Nat.le_refl _)
        by_cases hlo : M.st (L (k + 1)) (O (k + 1)) - M.st (L m) (O m) < 0
        · have hlow2 : Hid (M.Low L O (k + 1 + 1) (k + 1)) := ⟨by omega, fun j hj => by
            by_cases e : j = k + 1
            · rw [e]; exact Int.le_refl _
            · have := hlow.out.le j (by omega); omega⟩
          generalize M.st (L (k + 1)) (O (k + 1)) - M.st (L m) (O m) = D at *
          generalize M.bh (L m) (A m) (O m) (L (k + 1)) (A (k + 1)) (O (k + 1)) = H at *
          have mkR : Hid (∀ W, Below w2.heap.size w2 W → Below w.heap.size w (((W.setCell ⟨w.heap.size + 1, 0, none⟩ (.int .i64 (L (k + 1)))).setCell ⟨w.heap.size + 1, 1, none⟩ (.int .i64 (A (k + 1)))).setCell ⟨w.heap.size + 1, 2, none⟩ (.int .i64 (O (k + 1)))) ∧ PB (((W.setCell ⟨w.heap.size + 1, 0, none⟩ (.int .i64 (L (k + 1)))).setCell ⟨w.heap.size + 1, 1, none⟩ (.int .i64 (A (k + 1)))).setCell ⟨w.heap.size + 1, 2, none⟩ (.int .i64 (O (k + 1)))) w.heap.size 0 0 0 ∧ PB (((W.setCell ⟨w.heap.size + 1, 0, none⟩ (.int .i64 (L (k + 1)))).setCell ⟨w.heap.size + 1, 1, none⟩ (.int .i64 (A (k + 1)))).setCell ⟨w.heap.size + 1, 2, none⟩ (.int .i64 (O (k + 1)))) (w.heap.size + 1) (L (k + 1)) (A (k + 1)) (O (k + 1))) := fun W h =>
            ⟨(((h02.trans (h.mono h02.size)).setCell (p := ⟨w.heap.size + 1, 0, none⟩) (Nat.le_succ _) _).setCell (p := ⟨w.heap.size + 1, 1, none⟩) (Nat.le_succ _) _).setCell (p := ⟨w.heap.size + 1, 2, none⟩) (Nat.le_succ _) _, (((hpd2.step h hpd2.lt (Nat.le_refl _)).oth (by omega)).oth (by omega)).oth (by omega), (hpb2.step h hpb2.lt (Nat.le_refl _)).put'⟩
          obtain ⟨pl2, n02, n12, n22, g02, g12, g22⟩ := hpb2
          clear hB
          go_wp2_with fail
          go_roundw
          case rel =>
            obtain ⟨hA, hB, hC⟩ := mkR.out w2 (Below.refl _ _)
            first
              | exact ⟨k + 1, k + 1, by omega, by go_num, hlow2, hA.alloc hA.size _, hB.step ((Below.refl _ _).alloc (Nat.le_refl _) _) hB.lt (Nat.le_refl _), hC.step ((Below.refl _ _).alloc (Nat.le_refl _) _) hC.lt (Nat.le_refl _)⟩
              | exact ⟨k + 1, k + 1, by omega, by go_num, hlow2, mkR.out _ ((Below.refl _ _).alloc (Nat.le_refl _) _)⟩
          case measure => simp [intOf]; omega
        · have hlow2 : Hid (M.Low L O (k + 1 + 1) m) := ⟨by omega, fun j hj => by
            by_cases e : j = k + 1
            · rw [e]; omega
            · exact hlow.out.le j (by omega)⟩
          generalize M.st (L (k + 1)) (O (k + 1)) - M.st (L m) (O m) = D at *
          generalize M.bh (L m) (A m) (O m) (L (k + 1)) (A (k + 1)) (O (k + 1)) = H at *
          have mkR : Hid (∀ W, Below w2.heap.size w2 W → Below w.heap.size w W ∧ PB W w.heap.size 0 0 0 ∧ PB W (w.heap.size + 1) (L m) (A m) (O m)) := fun W h => ⟨h02.trans (h.mono h02.size), hpd2.step h hpd2.lt (Nat.le_refl _), hpb2.step h hpb2.lt (Nat.le_refl _)⟩
          clear hB
          go_wp2_with fail
          go_roundw
          case rel => first | exact ⟨k + 1, m, by omega, by go_num, hlow2, mkR.out _ ((Below.refl _ _).alloc (Nat.le_refl _) _)⟩ | ((repeat apply Exists.intro); exact ⟨⟨k + 1, m, by omega, by go_num, hlow2, mkR.out _ ((Below.refl _ _).alloc (Nat.le_refl _) _)⟩, rfl⟩)
          case measure => simp [intOf]; omega
      · have ek : k = n - 1 := by omega
        have hlow2 : Hid (M.Low L O n m) := by have := hlow.out; rw [show k + 1 = n by omega] at this; exact this
        obtain ⟨pl, n0, n1, n2, g0, g1, g2⟩ := hpb
        obtain ⟨dl, d0, d1, d2, f0, f1, f2⟩ := hpd
        clear ek
        go_wp2_with fail
        refine bodyPost_ret (v := .agg #[.int .i64 (L m), .int .i64 (A m), .int .i64 (O m)]) (by simp [results, Tryd.results26, go_sem, d0, d1, d2, dl]) rfl ⟨m, hlow2, rfl, ?_⟩
        exact ((hbr.setCell (p := ⟨w.heap.size, 0, none⟩) (Nat.le_refl _) _).setCell (p := ⟨w.heap.size, 1, none⟩) (Nat.le_refl _) _).setCell (p := ⟨w.heap.size, 2, none⟩) (Nat.le_refl _) _

end Go.Proofs.YtgcnmmjgdpdmbacDoor
