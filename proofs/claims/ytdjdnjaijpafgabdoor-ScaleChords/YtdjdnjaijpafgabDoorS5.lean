/- What the document's Sharps, Major and First come to. -/
import Derived.Test.YtdjdnjaijpafgabDoorS2
import Derived.Test.YtdjdnjaijpafgabDoorSMath2
namespace Go.Proofs.YtdjdnjaijpafgabDoor
open Go.RowKit
set_option linter.unusedSimpArgs false

theorem Sharps_any (w : World) :
    Calls Tryd.prog 88 #[] w fun e w' => e = .returned (.slice (some ⟨w.heap.size, 0, none⟩) 7 7) ∧ Below w.heap.size w w' ∧ w.heap.size < w'.heap.size ∧ ∀ j : Nat, j < 7 → w'.cell? ⟨w.heap.size, j, none⟩ = some (.int .i64 (M.shn j)) := by
  go_enter Tryd.func88, Tryd.ntmps88
  go_wp2_with fail
  go_ret
  refine ⟨rfl, by go_grown, by simp, fun j hj => ?_⟩
  rcases (show j = 0 ∨ j = 1 ∨ j = 2 ∨ j = 3 ∨ j = 4 ∨ j = 5 ∨ j = 6 by omega) with rfl | rfl | rfl | rfl | rfl | rfl | rfl <;> simp [go_sem, M.shn]

/-- A row of seven numbers. -/
structure MRow (w : World) (b : Nat) (f : Nat → Int) : Prop where
  lt : b < w.heap.size
  c : ∀ j : Nat, j < 7 → w.cell? ⟨b, j, none⟩ = some (.int .i64 (f j))
  fro : ∀ j : Nat, j < 7 → w.frozen? ⟨b, j, none⟩ = false
theorem MRow.step {w w' : World} {B b : Nat} {f : Nat → Int} (h : MRow w b f) (hb : Below B w w') (hB : b < B) (hs : B ≤ w.heap.size) : MRow w' b f := by
  have hz := hb.size
  exact ⟨by omega, fun j hj => keepC hb hB (h.c j hj), fun j hj => keepF hb hB (h.fro j hj)⟩
theorem MRow.put {w : World} {b i : Nat} {f g : Nat → Int} {v : Int} (h : MRow w b f) (hi : i < 7) (hg : ∀ j, j < 7 → g j = if j = i then v else f j) :
    MRow (w.setCell ⟨b, i, none⟩ (.int .i64 v)) b g := by
  have hc := h.c i hi
  refine ⟨by simpa using h.lt, fun j hj => ?_, fun j hj => by simpa [go_sem] using h.fro j hj⟩
  rw [hg j hj]
  by_cases e : j = i
  · subst e; rw [if_pos rfl]; simp [go_sem, hc]
  · rw [if_neg e, World.cell?_setCell_other _ _ _ _ (by simp <;> omega)]; exact h.c j hj

set_option maxHeartbeats 1000000 in
theorem Major_any (n : Int) (w : World) (h1 : -7 ≤ n) (h2 : n ≤ 7) :
    Calls Tryd.prog 54 #[.int .i64 n] w fun e w' => ∃ b, w.heap.size ≤ b ∧ e = .returned (.slice (some ⟨b, 0, none⟩) 7 7) ∧ Below w.heap.size w w' ∧ MRow w' b (fun j => M.al n j) := by
  have hmk : ∀ w : World, (Instr.makeSlice 92 (.int .i64 7) (.int .i64 7)).run Tryd.prog w = .ok (.slice (some ⟨w.heap.size, 0, none⟩) 7 7) (w.alloc (.cells #[.int .i64 0, .int .i64 0, .int .i64 0, .int .i64 0, .int .i64 0, .int .i64 0, .int .i64 0] 3)) := fun _ => by kernel_rfl
  obtain ⟨p, hp, hp2⟩ : ∃ p : Nat, (p : Int) ≥ n ∧ (p = 0 ∨ (p : Int) = n) := ⟨n.toNat, by omega, by omega⟩
  obtain ⟨q, hq, hq2⟩ : ∃ q : Nat, (q : Int) ≥ -n ∧ (q = 0 ∨ (q : Int) = -n) := ⟨(-n).toNat, by omega, by omega⟩
  go_enter Tryd.func54, Tryd.ntmps54
  go_wp2_with fail
  go_loopw [4] (fun i wr => ∃ k : Nat, k ≤ p ∧ i = .int .i64 k ∧ Below w.heap.size w wr ∧ MRow wr w.heap.size (fun j => M.al k j))
    (fun i _ => p - (intOf i).toNat)
  case atStart =>
    refine ⟨0, by omega, rfl, (Below.refl _ _).alloc (Nat.le_refl _) _, by simp, fun j hj => ?_, fun j hj => ?_⟩
    · rw [show ((0 : Nat) : Int) = 0 from rfl, M.al_zero hj]
      rcases (show j = 0 ∨ j = 1 ∨ j = 2 ∨ j = 3 ∨ j = 4 ∨ j = 5 ∨ j = 6 by omega) with rfl | rfl | rfl | rfl | rfl | rfl | rfl <;> simp [go_sem]
    · rcases (show j = 0 ∨ j = 1 ∨ j = 2 ∨ j = 3 ∨ j = 4 ∨ j = 5 ∨ j = 6 by omega) with rfl | rfl | rfl | rfl | rfl | rfl | rfl <;> simp [go_sem]
  case round =>
    obtain ⟨k, hkp, rfl, hbr, hrow⟩ := hrel
    have zr := hbr.size
    have hl := hrow.lt
    by_cases hlt : (k : Int) < n
    · have hk7 : k < 7 := by omega
      have hs := M.shn_bd k
      go_wp2_with fail
      refine (Sharps_any _).mono ?_
      rintro e w2 ⟨rfl, hb2, hl2, hsh⟩
      have hck := hsh k hk7
      have hrow2 := hrow.step hb2 hl (Nat.le_refl _)
      have hv := hrow2.c (M.shn k) hs
      have hf := hrow2.fro (M.shn k) hs
      have hl3 := hrow2.lt
      have hrow3 := hrow2.put (v := 1) (g := fun j => M.al ((k : Int) + 1) j) hs (fun j hj => M.al_up hk7 hj)
      clear hsh
      generalize M.shn k = y at *
      go_wp2_with fail
      go_roundw
      case rel => exact ⟨k + 1, by omega, by go_num, (hbr.trans (hb2.mono hbr.size)).setCell (p := ⟨w.heap.size, y, none⟩) (Nat.le_refl _) _, hrow3⟩
      case measure => simp [intOf]; omega
    · have hkn : (k : Int) = p := by omega
      go_wp2_with fail
      go_loopw [5] (fun i wr => ∃ k2 : Nat, k2 ≤ q ∧ i = .int .i64 k2 ∧ Below w.heap.size w wr ∧ MRow wr w.heap.size (fun j => M.al ((p : Int) - k2) j))
        (fun i _ => q - (intOf i).toNat)
      case atStart => exact ⟨0, by omega, rfl, hbr, by rw [show ((p : Int) - ((0 : Nat) : Int)) = k by omega]; exact hrow⟩
      case round =>
        rename World => wx
        obtain ⟨k2, hkq, rfl, hbx, hrowx⟩ := hrel
        have zx := hbx.size
        have hlx := hrowx.lt
        by_cases hlt2 : (k2 : Int) < -n
        · have hk7 : k2 < 7 := by omega
          have hs := M.shn_bd (6 - k2)
          go_wp2_with fail
          refine (Sharps_any _).mono ?_
          rintro e w2 ⟨rfl, hb2, hl2, hsh⟩
          have hck := hsh (6 - k2) (by omega)
          have e6 : ((6 : Int) - (k2 : Int)) = ((6 - k2 : Nat) : Int) := by omega
          have hrow2 := hrowx.step hb2 hlx (Nat.le_refl _)
          have hv := hrow2.c (M.shn (6 - k2)) hs
          have hf := hrow2.fro (M.shn (6 - k2)) hs
          have hl3 := hrow2.lt
          have hrow3 := hrow2.put (v := -1) (g := fun j => M.al ((p : Int) - ((k2 + 1 : Nat) : Int)) j) hs (fun j hj => by rw [show ((p : Int) - ((k2 + 1 : Nat) : Int)) = -((k2 : Int) + 1) by omega, show (p : Int) - (k2 : Int) = -(k2 : Int) by omega]; exact M.al_dn hk7 hj)
          clear hsh
          generalize M.shn (6 - k2) = y at *
          go_wp2_with fail
          go_roundw
          case rel => exact ⟨k2 + 1, by omega, by go_num, (hbx.trans (hb2.mono hbx.size)).setCell (p := ⟨w.heap.size, y, none⟩) (Nat.le_refl _) _, hrow3⟩
          case measure => simp [intOf]; omega
        · have hend : (p : Int) - k2 = n := by omega
          go_wp2_with fail
          go_ret
          exact ⟨w.heap.size, Nat.le_refl _, rfl, hbx, by rw [hend] at hrowx; exact hrowx⟩

theorem First_any (n : Int) (w : World) (h1 : -7 ≤ n) (h2 : n ≤ 7) :
    Calls Tryd.prog 53 #[.int .i64 n] w fun e w' => e = .returned (.int .i64 (M.frs n)) ∧ w' = w := by
  obtain ⟨p, hp, hp2⟩ : ∃ p : Nat, (p : Int) ≥ n ∧ (p = 0 ∨ (p : Int) = n) := ⟨n.toNat, by omega, by omega⟩
  obtain ⟨q, hq, hq2⟩ : ∃ q : Nat, (q : Int) ≥ -n ∧ (q = 0 ∨ (q : Int) = -n) := ⟨(-n).toNat, by omega, by omega⟩
  obtain ⟨FF, hFF⟩ : ∃ FF, M.frs n = FF := ⟨_, rfl⟩
  have HF : Hid (M.frs n = FF) := hFF
  rw [hFF]
  clear hFF
  go_enter Tryd.func53, Tryd.ntmps53
  go_wp2_with fail
  go_loop [3, 4] (fun t i => ∃ k : Nat, k ≤ p ∧ i = .int .i64 k ∧ t = .int .i64 ((4 * k % 7 : Nat) : Int))
    (fun _ i => p - (intOf i).toNat)
  case atStart => exact ⟨0, by omega, rfl, rfl⟩
  case round =>
    obtain ⟨k, hkp, rfl, rfl⟩ := hrel
    by_cases hlt : (k : Int) < n
    · have e1 : (((4 * k % 7 : Nat) : Int) + 4).tmod 7 = ((4 * (k + 1) % 7 : Nat) : Int) := by rw [Int.tmod_eq_emod_of_nonneg (by omega)]; omega
      obtain ⟨y, hy⟩ : ∃ y : Nat, 4 * k % 7 = y := ⟨_, rfl⟩
      obtain ⟨z, hz⟩ : ∃ z : Nat, 4 * (k + 1) % 7 = z := ⟨_, rfl⟩
      have Hz : Hid (4 * (k + 1) % 7 = z) := hz
      have hy7 : y < 7 := by omega
      rw [hy, hz] at e1
      rw [hy]
      clear hz hy
      go_wp2_with fail
      go_round
      case rel => exact ⟨k + 1, by omega, by go_num, by rw [Hz.out]⟩
      case measure => simp [intOf]; omega
    · have hkn : k = p := by omega
      subst hkn
      obtain ⟨y, hy⟩ : ∃ y : Nat, 4 * k % 7 = y := ⟨_, rfl⟩
      have Hy : Hid (4 * k % 7 = y) := hy
      rw [hy]
      clear hy
      go_wp2_with fail
      go_loop [3, 5] (fun t i => ∃ k2 : Nat, k2 ≤ q ∧ i = .int .i64 k2 ∧ t = .int .i64 (((4 * k % 7 + 3 * k2) % 7 : Nat) : Int))
        (fun _ i => q - (intOf i).toNat)
      case atStart => exact ⟨0, by omega, rfl, by rw [← Hy.out]; simp⟩
      case round =>
        obtain ⟨k2, hkq, rfl, rfl⟩ := hrel
        by_cases hlt2 : (k2 : Int) < -n
        · have e1 : ((((4 * k % 7 + 3 * k2) % 7 : Nat) : Int) + 3).tmod 7 = (((4 * k % 7 + 3 * (k2 + 1)) % 7 : Nat) : Int) := by rw [Int.tmod_eq_emod_of_nonneg (by omega)]; omega
          obtain ⟨y2, hy2⟩ : ∃ y2 : Nat, (4 * k % 7 + 3 * k2) % 7 = y2 := ⟨_, rfl⟩
          obtain ⟨z, hz⟩ : ∃ z : Nat, (4 * k % 7 + 3 * (k2 + 1)) % 7 = z := ⟨_, rfl⟩
          have Hz : Hid ((4 * k % 7 + 3 * (k2 + 1)) % 7 = z) := hz
          have hy7 : y2 < 7 := by omega
          rw [hy2, hz] at e1
          rw [hy2]
          clear hz hy2
          go_wp2_with fail
          go_round
          case rel => exact ⟨k2 + 1, by omega, by go_num, by rw [Hz.out]⟩
          case measure => simp [intOf]; omega
        · have hend : (((4 * k % 7 + 3 * k2) % 7 : Nat) : Int) = FF := by
            rw [← HF.out]; unfold M.frs
            rcases (show n = 0 ∨ 0 < n ∨ n < 0 by omega) with h | h | h
            · have k0 : k = 0 := by omega
              have k20 : k2 = 0 := by omega
              rw [h, k0, k20]; rfl
            · have k20 : k2 = 0 := by omega
              have k0 : n = (k : Int) := by omega
              rw [k20, k0]; omega
            · have k0 : k = 0 := by omega
              have k20 : n = -(k2 : Int) := by omega
              rw [k0, k20]; omega
          rw [hend]
          go_wp2_with fail
          go_ret
          exact ⟨rfl, rfl⟩

end Go.Proofs.YtdjdnjaijpafgabDoor
