/- What the program's gather comes to. -/
import Derived.Test.YtgcnmmjgdpdmbacDoorC1
import Derived.BigQuiet
namespace Go.Proofs.YtgcnmmjgdpdmbacDoor
open Go.RowKit
attribute [local go_sem ↓] Go.wp_at_zero Go.wp_at_succ
set_option linter.unusedSimpArgs false

/-- Which letters the first k pitches have. -/
def M.gh (L : Nat → Int) : Nat → Nat → Bool
  | 0, _ => false
  | k + 1, y => if (y : Int) = L k then true else M.gh L k y
/-- How each is altered. -/
def M.ga (L A : Nat → Int) : Nat → Nat → Int
  | 0, _ => 0
  | k + 1, y => if (y : Int) = L k then A k else M.ga L A k y
/-- No letter is altered in two ways. -/
def M.gk (L A : Nat → Int) : Nat → Bool
  | 0 => true
  | k + 1 => M.gk L A k && !(M.gh L k (L k).toNat && M.ga L A k (L k).toNat != A k)
theorem M.gk_le {L A : Nat → Int} {n k : Nat} (h : M.gk L A n = true) (hk : k ≤ n) : M.gk L A k = true := by
  induction n with
  | zero => rw [show k = 0 by omega]; exact h
  | succ n ih =>
    by_cases e : k = n + 1
    · rw [e]; exact h
    · simp only [M.gk, Bool.and_eq_true] at h; exact ih h.1 (by omega)
theorem M.gk_no {L A : Nat → Int} {n k : Nat} (hk : k < n) (h : M.gk L A (k + 1) = false) : M.gk L A n = false := by
  cases hn : M.gk L A n
  · rfl
  · have := M.gk_le hn hk; rw [h] at this; exact absurd this (by decide)

/-- The classes of some pitches, in a block of their own. -/
structure CB (w : World) (b : Nat) (h : Nat → Bool) (t : Nat → Int) : Prop where
  lt : b < w.heap.size
  c : ∀ y, y < 7 → w.cell? ⟨b, y, none⟩ = some (.bool (h y))
  d : ∀ y, y < 7 → w.cell? ⟨b, 7 + y, none⟩ = some (.int .i64 (t y))
  f : ∀ y, y < 14 → w.frozen? ⟨b, y, none⟩ = false
theorem CB.step {w w' : World} {B b : Nat} {h : Nat → Bool} {t : Nat → Int} (hc : CB w b h t) (hb : Below B w w') (hB : b < B) (hs : B ≤ w.heap.size) : CB w' b h t := by
  have hz := hb.size
  exact ⟨by omega, fun y hy => keepC hb hB (hc.c y hy), fun y hy => keepC hb hB (hc.d y hy), fun y hy => keepF hb hB (hc.f y hy)⟩
theorem CB.put {w : World} {b y : Nat} {h : Nat → Bool} {t : Nat → Int} {v : Int} (hc : CB w b h t) (hy : y < 7) :
    CB ((w.setCell ⟨b, y, none⟩ (.bool true)).setCell ⟨b, 7 + y, none⟩ (.int .i64 v)) b (fun z => if z = y then true else h z) (fun z => if z = y then v else t z) := by
  have c1 := hc.c y hy
  have d1 := hc.d y hy
  refine ⟨by simpa using hc.lt, fun z hz => ?_, fun z hz => ?_, fun z hz => by simpa [go_sem] using hc.f z hz⟩
  · rw [World.cell?_setCell_other _ _ _ _ (by simp <;> omega)]
    by_cases e : z = y
    · subst e; rw [if_pos rfl]; simp [go_sem, c1]
    · rw [if_neg e, World.cell?_setCell_other _ _ _ _ (by simp <;> omega)]; exact hc.c z hz
  · by_cases e : z = y
    · subst e; rw [if_pos rfl]
      have : (w.setCell ⟨b, z, none⟩ (.bool true)).cell? ⟨b, 7 + z, none⟩ = some (.int .i64 (t z)) := by rw [World.cell?_setCell_other _ _ _ _ (by simp <;> omega)]; exact d1
      simp [go_sem, this]
    · rw [if_neg e, World.cell?_setCell_other _ _ _ _ (by simp <;> omega), World.cell?_setCell_other _ _ _ _ (by simp <;> omega)]; exact hc.d z hz
theorem CB.other {w : World} {b b' o : Nat} {h : Nat → Bool} {t : Nat → Int} {v : Value} (hc : CB w b h t) (hne : b ≠ b') : CB (w.setCell ⟨b', o, none⟩ v) b h t :=
  ⟨by simpa using hc.lt, fun y hy => by rw [World.cell?_setCell_other _ _ _ _ (by simp [hne])]; exact hc.c y hy, fun y hy => by rw [World.cell?_setCell_other _ _ _ _ (by simp [hne])]; exact hc.d y hy, fun y hy => by simpa [go_sem] using hc.f y hy⟩
def clsV (h : Nat → Bool) (t : Nat → Int) : Value := .agg #[.bool (h 0), .bool (h 1), .bool (h 2), .bool (h 3), .bool (h 4), .bool (h 5), .bool (h 6), .int .i64 (t 0), .int .i64 (t 1), .int .i64 (t 2), .int .i64 (t 3), .int .i64 (t 4), .int .i64 (t 5), .int .i64 (t 6)]

set_option maxRecDepth 20000 in
set_option maxHeartbeats 4000000 in
theorem gather_any (ao : Option Addr) (n c : Nat) (L A O : Nat → Int) (w : World) (hp : PL w ao n L A O) (hL : ∀ j, j < n → 0 ≤ L j ∧ L j ≤ 6) (hn : n ≤ 9223372036854775807) :
    Calls Tryd.prog 23 #[.slice ao n c] w fun e w' => Below w.heap.size w w' ∧ (M.gk L A n = true → e = .returned (.tuple #[clsV (M.gh L n) (M.ga L A n), .bool true])) ∧ (M.gk L A n = false → e = .returned (.tuple #[clsV (fun _ => false) (fun _ => 0), .bool false])) := by
  go_enter Tryd.func23, Tryd.ntmps23
  go_wp2_with fail
  go_loopw [9] (fun i wr => ∃ k : Nat, k ≤ n ∧ i = .int .i64 k ∧ M.gk L A k = true ∧ Below w.heap.size w wr ∧ CB wr w.heap.size (fun _ => false) (fun _ => 0) ∧ CB wr (w.heap.size + 1) (M.gh L k) (M.ga L A k))
    (fun i _ => n - (intOf i).toNat)
  case atStart =>
    refine ⟨0, by omega, rfl, rfl, by go_grown, ⟨by simp; omega, fun y hy => ?_, fun y hy => ?_, fun y hy => ?_⟩, ⟨by simp, fun y hy => ?_, fun y hy => ?_, fun y hy => ?_⟩⟩
    all_goals (rcases (show y = 0 ∨ y = 1 ∨ y = 2 ∨ y = 3 ∨ y = 4 ∨ y = 5 ∨ y = 6 ∨ y = 7 ∨ y = 8 ∨ y = 9 ∨ y = 10 ∨ y = 11 ∨ y = 12 ∨ y = 13 by omega) with rfl | rfl | rfl | rfl | rfl | rfl | rfl | rfl | rfl | rfl | rfl | rfl | rfl | rfl <;> first | (exfalso; omega) | simp [go_sem, M.gh, M.ga])
  case round =>
    obtain ⟨k, hkn, rfl, hgk, hbr, hcd, hcb⟩ := hrel
    have zr := hbr.size
    have hl := hcb.lt
    by_cases hlt : k < n
    · obtain ⟨b, off, rfl, hbl, q0, q1, q2⟩ := hp.at' (by omega)
      have r0 := keepC hbr hbl (q0 k hlt)
      have r1 := keepC hbr hbl (q1 k hlt)
      have r2 := keepC hbr hbl (q2 k hlt)
      have hLk := hL k hlt
      obtain ⟨y, hy⟩ : ∃ y : Nat, L k = y := ⟨(L k).toNat, by omega⟩
      have hy7 : y < 7 := by omega
      have hbk : b < wr.heap.size := by omega
      rw [hy] at r0
      have eg : M.gh L (k + 1) = fun z => if z = y then true else M.gh L k z := by
        funext z; simp only [M.gh, hy]
        by_cases e : z = y
        · simp [e]
        · rw [if_neg (by omega), if_neg e]
      have ea : M.ga L A (k + 1) = fun z => if z = y then A k else M.ga L A k z := by
        funext z; simp only [M.ga, hy]
        by_cases e : z = y
        · simp [e]
        · rw [if_neg (by omega), if_neg e]
      have ek : M.gk L A (k + 1) = !(M.gh L k y && M.ga L A k y != A k) := by
        simp only [M.gk, hgk, hy, Bool.true_and, Int.toNat_natCast]
      have mkR : ∀ W, Below wr.heap.size wr W → Below w.heap.size w ((W.setCell ⟨w.heap.size + 1, y, none⟩ (.bool true)).setCell ⟨w.heap.size + 1, 7 + y, none⟩ (.int .i64 (A k))) ∧ CB ((W.setCell ⟨w.heap.size + 1, y, none⟩ (.bool true)).setCell ⟨w.heap.size + 1, 7 + y, none⟩ (.int .i64 (A k))) w.heap.size (fun _ => false) (fun _ => 0) ∧ CB ((W.setCell ⟨w.heap.size + 1, y, none⟩ (.bool true)).setCell ⟨w.heap.size + 1, 7 + y, none⟩ (.int .i64 (A k))) (w.heap.size + 1) (M.gh L (k + 1)) (M.ga L A (k + 1)) := fun W h =>
        ⟨((hbr.trans (h.mono zr)).setCell (p := ⟨w.heap.size + 1, y, none⟩) (Nat.le_succ _) _).setCell (p := ⟨w.heap.size + 1, 7 + y, none⟩) (Nat.le_succ _) _, ((hcd.step h (by omega) (Nat.le_refl _)).other (by omega)).other (by omega), by rw [eg, ea]; exact (hcb.step h hl (Nat.le_refl _)).put hy7⟩
      have MK : Hid (∀ W, Below wr.heap.size wr W → Below w.heap.size w ((W.setCell ⟨w.heap.size + 1, y, none⟩ (.bool true)).setCell ⟨w.heap.size + 1, 7 + y, none⟩ (.int .i64 (A k))) ∧ CB ((W.setCell ⟨w.heap.size + 1, y, none⟩ (.bool true)).setCell ⟨w.heap.size + 1, 7 + y, none⟩ (.int .i64 (A k))) w.heap.size (fun _ => false) (fun _ => 0) ∧ CB ((W.setCell ⟨w.heap.size + 1, y, none⟩ (.bool true)).setCell ⟨w.heap.size + 1, 7 + y, none⟩ (.int .i64 (A k))) (w.heap.size + 1) (M.gh L (k + 1)) (M.ga L A (k + 1))) := mkR
      have cc := hcb.c y hy7
      have cd := hcb.d y hy7
      have fc := hcb.f y (by omega)
      have fd := hcb.f (7 + y) (by omega)
      clear q0 q1 q2 eg ea mkR hy hLk
      cases hg : M.gh L k y
      · have hgk2 : M.gk L A (k + 1) = true := by rw [ek, hg]; rfl
        rw [hg] at cc
        clear ek hg hgk
        generalize M.ga L A k y = T at *
        go_wp2_with fail
        go_quiet (fail)
        go_wp2_with fail
        go_roundw
        case rel => exact ⟨k + 1, by omega, by go_num, hgk2, MK.out _ (below_drewN ((Below.refl _ _).alloc (Nat.le_refl _) _) _)⟩
        case measure => simp [intOf]; omega
      · by_cases hne : M.ga L A k y = A k
        · have hgk2 : M.gk L A (k + 1) = true := by rw [ek, hg, hne]; simp
          rw [hg] at cc
          rw [hne] at cd
          clear ek hg hgk hne
          go_wp2_with fail
          go_quiet (fail)
          go_wp2_with fail
          go_roundw
          case rel => exact ⟨k + 1, by omega, by go_num, hgk2, MK.out _ (below_drewN ((Below.refl _ _).alloc (Nat.le_refl _) _) _)⟩
          case measure => simp [intOf]; omega
        · have hgk2 : M.gk L A (k + 1) = false := by rw [ek, hg]; simp [hne]
          have hno := M.gk_no hlt hgk2
          rw [hg] at cc
          have hneb : (M.ga L A k y != A k) = true := by simpa using hne
          generalize M.ga L A k y = T at *
          clear ek hg hgk hgk2 MK
          have xc0 : wr.cell? ⟨w.heap.size, 0, none⟩ = some (.bool false) := hcd.c 0 (by omega)
          have xc1 : wr.cell? ⟨w.heap.size, 1, none⟩ = some (.bool false) := hcd.c 1 (by omega)
          have xc2 : wr.cell? ⟨w.heap.size, 2, none⟩ = some (.bool false) := hcd.c 2 (by omega)
          have xc3 : wr.cell? ⟨w.heap.size, 3, none⟩ = some (.bool false) := hcd.c 3 (by omega)
          have xc4 : wr.cell? ⟨w.heap.size, 4, none⟩ = some (.bool false) := hcd.c 4 (by omega)
          have xc5 : wr.cell? ⟨w.heap.size, 5, none⟩ = some (.bool false) := hcd.c 5 (by omega)
          have xc6 : wr.cell? ⟨w.heap.size, 6, none⟩ = some (.bool false) := hcd.c 6 (by omega)
          have xd0 : wr.cell? ⟨w.heap.size, 7, none⟩ = some (.int .i64 (0)) := hcd.d 0 (by omega)
          have xd1 : wr.cell? ⟨w.heap.size, 8, none⟩ = some (.int .i64 (0)) := hcd.d 1 (by omega)
          have xd2 : wr.cell? ⟨w.heap.size, 9, none⟩ = some (.int .i64 (0)) := hcd.d 2 (by omega)
          have xd3 : wr.cell? ⟨w.heap.size, 10, none⟩ = some (.int .i64 (0)) := hcd.d 3 (by omega)
          have xd4 : wr.cell? ⟨w.heap.size, 11, none⟩ = some (.int .i64 (0)) := hcd.d 4 (by omega)
          have xd5 : wr.cell? ⟨w.heap.size, 12, none⟩ = some (.int .i64 (0)) := hcd.d 5 (by omega)
          have xd6 : wr.cell? ⟨w.heap.size, 13, none⟩ = some (.int .i64 (0)) := hcd.d 6 (by omega)
          have xf0 : wr.frozen? ⟨w.heap.size, 0, none⟩ = false := hcd.f 0 (by omega)
          have xf1 : wr.frozen? ⟨w.heap.size, 1, none⟩ = false := hcd.f 1 (by omega)
          have xf2 : wr.frozen? ⟨w.heap.size, 2, none⟩ = false := hcd.f 2 (by omega)
          have xf3 : wr.frozen? ⟨w.heap.size, 3, none⟩ = false := hcd.f 3 (by omega)
          have xf4 : wr.frozen? ⟨w.heap.size, 4, none⟩ = false := hcd.f 4 (by omega)
          have xf5 : wr.frozen? ⟨w.heap.size, 5, none⟩ = false := hcd.f 5 (by omega)
          have xf6 : wr.frozen? ⟨w.heap.size, 6, none⟩ = false := hcd.f 6 (by omega)
          have xf7 : wr.frozen? ⟨w.heap.size, 7, none⟩ = false := hcd.f 7 (by omega)
          have xf8 : wr.frozen? ⟨w.heap.size, 8, none⟩ = false := hcd.f 8 (by omega)
          have xf9 : wr.frozen? ⟨w.heap.size, 9, none⟩ = false := hcd.f 9 (by omega)
          have xf10 : wr.frozen? ⟨w.heap.size, 10, none⟩ = false := hcd.f 10 (by omega)
          have xf11 : wr.frozen? ⟨w.heap.size, 11, none⟩ = false := hcd.f 11 (by omega)
          have xf12 : wr.frozen? ⟨w.heap.size, 12, none⟩ = false := hcd.f 12 (by omega)
          have xf13 : wr.frozen? ⟨w.heap.size, 13, none⟩ = false := hcd.f 13 (by omega)
          have sd : w.heap.size < wr.heap.size := by omega
          go_wp2_with fail
          go_quiet (fail)
          go_wp2_with fail
          refine bodyPost_ret (v := .tuple #[clsV (fun _ => false) (fun _ => 0), .bool false]) (by simp [results, Tryd.results23, go_sem, clsV, sd, xc0, xc1, xc2, xc3, xc4, xc5, xc6, xd0, xd1, xd2, xd3, xd4, xd5, xd6]) rfl ⟨?_, fun h => absurd (hno ▸ h) (by decide), fun _ => rfl⟩
          have hX := below_drewN (hbr.alloc zr (Obj.cells #[.int .i64 y, .int .i64 (A k), .int .i64 (O k)] 26)) nq
          exact ((((((((((((((hX.setCell (p := ⟨w.heap.size, 0, none⟩) (Nat.le_refl _) _).setCell (p := ⟨w.heap.size, 1, none⟩) (Nat.le_refl _) _).setCell (p := ⟨w.heap.size, 2, none⟩) (Nat.le_refl _) _).setCell (p := ⟨w.heap.size, 3, none⟩) (Nat.le_refl _) _).setCell (p := ⟨w.heap.size, 4, none⟩) (Nat.le_refl _) _).setCell (p := ⟨w.heap.size, 5, none⟩) (Nat.le_refl _) _).setCell (p := ⟨w.heap.size, 6, none⟩) (Nat.le_refl _) _).setCell (p := ⟨w.heap.size, 7, none⟩) (Nat.le_refl _) _).setCell (p := ⟨w.heap.size, 8, none⟩) (Nat.le_refl _) _).setCell (p := ⟨w.heap.size, 9, none⟩) (Nat.le_refl _) _).setCell (p := ⟨w.heap.size, 10, none⟩) (Nat.le_refl _) _).setCell (p := ⟨w.heap.size, 11, none⟩) (Nat.le_refl _) _).setCell (p := ⟨w.heap.size, 12, none⟩) (Nat.le_refl _) _).setCell (p := ⟨w.heap.size, 13, none⟩) (Nat.le_refl _) _)
    · have e : k = n := by omega
      subst e
      have hf : M.gk L A k = true := hgk
      have xc0 : wr.cell? ⟨w.heap.size, 0, none⟩ = some (.bool (false)) := hcd.c 0 (by omega)
      have xc1 : wr.cell? ⟨w.heap.size, 1, none⟩ = some (.bool (false)) := hcd.c 1 (by omega)
      have xc2 : wr.cell? ⟨w.heap.size, 2, none⟩ = some (.bool (false)) := hcd.c 2 (by omega)
      have xc3 : wr.cell? ⟨w.heap.size, 3, none⟩ = some (.bool (false)) := hcd.c 3 (by omega)
      have xc4 : wr.cell? ⟨w.heap.size, 4, none⟩ = some (.bool (false)) := hcd.c 4 (by omega)
      have xc5 : wr.cell? ⟨w.heap.size, 5, none⟩ = some (.bool (false)) := hcd.c 5 (by omega)
      have xc6 : wr.cell? ⟨w.heap.size, 6, none⟩ = some (.bool (false)) := hcd.c 6 (by omega)
      have xd0 : wr.cell? ⟨w.heap.size, 7, none⟩ = some (.int .i64 (0)) := hcd.d 0 (by omega)
      have xd1 : wr.cell? ⟨w.heap.size, 8, none⟩ = some (.int .i64 (0)) := hcd.d 1 (by omega)
      have xd2 : wr.cell? ⟨w.heap.size, 9, none⟩ = some (.int .i64 (0)) := hcd.d 2 (by omega)
      have xd3 : wr.cell? ⟨w.heap.size, 10, none⟩ = some (.int .i64 (0)) := hcd.d 3 (by omega)
      have xd4 : wr.cell? ⟨w.heap.size, 11, none⟩ = some (.int .i64 (0)) := hcd.d 4 (by omega)
      have xd5 : wr.cell? ⟨w.heap.size, 12, none⟩ = some (.int .i64 (0)) := hcd.d 5 (by omega)
      have xd6 : wr.cell? ⟨w.heap.size, 13, none⟩ = some (.int .i64 (0)) := hcd.d 6 (by omega)
      have xf0 : wr.frozen? ⟨w.heap.size, 0, none⟩ = false := hcd.f 0 (by omega)
      have xf1 : wr.frozen? ⟨w.heap.size, 1, none⟩ = false := hcd.f 1 (by omega)
      have xf2 : wr.frozen? ⟨w.heap.size, 2, none⟩ = false := hcd.f 2 (by omega)
      have xf3 : wr.frozen? ⟨w.heap.size, 3, none⟩ = false := hcd.f 3 (by omega)
      have xf4 : wr.frozen? ⟨w.heap.size, 4, none⟩ = false := hcd.f 4 (by omega)
      have xf5 : wr.frozen? ⟨w.heap.size, 5, none⟩ = false := hcd.f 5 (by omega)
      have xf6 : wr.frozen? ⟨w.heap.size, 6, none⟩ = false := hcd.f 6 (by omega)
      have xf7 : wr.frozen? ⟨w.heap.size, 7, none⟩ = false := hcd.f 7 (by omega)
      have xf8 : wr.frozen? ⟨w.heap.size, 8, none⟩ = false := hcd.f 8 (by omega)
      have xf9 : wr.frozen? ⟨w.heap.size, 9, none⟩ = false := hcd.f 9 (by omega)
      have xf10 : wr.frozen? ⟨w.heap.size, 10, none⟩ = false := hcd.f 10 (by omega)
      have xf11 : wr.frozen? ⟨w.heap.size, 11, none⟩ = false := hcd.f 11 (by omega)
      have xf12 : wr.frozen? ⟨w.heap.size, 12, none⟩ = false := hcd.f 12 (by omega)
      have xf13 : wr.frozen? ⟨w.heap.size, 13, none⟩ = false := hcd.f 13 (by omega)
      have yc0 : wr.cell? ⟨w.heap.size + 1, 0, none⟩ = some (.bool (M.gh L k 0)) := hcb.c 0 (by omega)
      have yc1 : wr.cell? ⟨w.heap.size + 1, 1, none⟩ = some (.bool (M.gh L k 1)) := hcb.c 1 (by omega)
      have yc2 : wr.cell? ⟨w.heap.size + 1, 2, none⟩ = some (.bool (M.gh L k 2)) := hcb.c 2 (by omega)
      have yc3 : wr.cell? ⟨w.heap.size + 1, 3, none⟩ = some (.bool (M.gh L k 3)) := hcb.c 3 (by omega)
      have yc4 : wr.cell? ⟨w.heap.size + 1, 4, none⟩ = some (.bool (M.gh L k 4)) := hcb.c 4 (by omega)
      have yc5 : wr.cell? ⟨w.heap.size + 1, 5, none⟩ = some (.bool (M.gh L k 5)) := hcb.c 5 (by omega)
      have yc6 : wr.cell? ⟨w.heap.size + 1, 6, none⟩ = some (.bool (M.gh L k 6)) := hcb.c 6 (by omega)
      have yd0 : wr.cell? ⟨w.heap.size + 1, 7, none⟩ = some (.int .i64 (M.ga L A k 0)) := hcb.d 0 (by omega)
      have yd1 : wr.cell? ⟨w.heap.size + 1, 8, none⟩ = some (.int .i64 (M.ga L A k 1)) := hcb.d 1 (by omega)
      have yd2 : wr.cell? ⟨w.heap.size + 1, 9, none⟩ = some (.int .i64 (M.ga L A k 2)) := hcb.d 2 (by omega)
      have yd3 : wr.cell? ⟨w.heap.size + 1, 10, none⟩ = some (.int .i64 (M.ga L A k 3)) := hcb.d 3 (by omega)
      have yd4 : wr.cell? ⟨w.heap.size + 1, 11, none⟩ = some (.int .i64 (M.ga L A k 4)) := hcb.d 4 (by omega)
      have yd5 : wr.cell? ⟨w.heap.size + 1, 12, none⟩ = some (.int .i64 (M.ga L A k 5)) := hcb.d 5 (by omega)
      have yd6 : wr.cell? ⟨w.heap.size + 1, 13, none⟩ = some (.int .i64 (M.ga L A k 6)) := hcb.d 6 (by omega)
      have sd : w.heap.size < wr.heap.size := by omega
      clear hp hL hcb hcd hgk
      go_wp2_with fail
      refine bodyPost_ret (v := .tuple #[clsV (M.gh L k) (M.ga L A k), .bool true]) (by simp [results, Tryd.results23, go_sem, clsV, sd, xc0, xc1, xc2, xc3, xc4, xc5, xc6, xd0, xd1, xd2, xd3, xd4, xd5, xd6]) rfl ⟨?_, fun _ => rfl, fun h => absurd (hf ▸ h) (by decide)⟩
      exact ((((((((((((((hbr.setCell (p := ⟨w.heap.size, 0, none⟩) (Nat.le_refl _) _).setCell (p := ⟨w.heap.size, 1, none⟩) (Nat.le_refl _) _).setCell (p := ⟨w.heap.size, 2, none⟩) (Nat.le_refl _) _).setCell (p := ⟨w.heap.size, 3, none⟩) (Nat.le_refl _) _).setCell (p := ⟨w.heap.size, 4, none⟩) (Nat.le_refl _) _).setCell (p := ⟨w.heap.size, 5, none⟩) (Nat.le_refl _) _).setCell (p := ⟨w.heap.size, 6, none⟩) (Nat.le_refl _) _).setCell (p := ⟨w.heap.size, 7, none⟩) (Nat.le_refl _) _).setCell (p := ⟨w.heap.size, 8, none⟩) (Nat.le_refl _) _).setCell (p := ⟨w.heap.size, 9, none⟩) (Nat.le_refl _) _).setCell (p := ⟨w.heap.size, 10, none⟩) (Nat.le_refl _) _).setCell (p := ⟨w.heap.size, 11, none⟩) (Nat.le_refl _) _).setCell (p := ⟨w.heap.size, 12, none⟩) (Nat.le_refl _) _).setCell (p := ⟨w.heap.size, 13, none⟩) (Nat.le_refl _) _)

end Go.Proofs.YtgcnmmjgdpdmbacDoor
