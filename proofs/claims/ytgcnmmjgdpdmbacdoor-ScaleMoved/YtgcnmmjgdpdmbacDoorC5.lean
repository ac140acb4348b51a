/- What the program's What comes to. -/
import Derived.Test.YtgcnmmjgdpdmbacDoorC4
namespace Go.Proofs.YtgcnmmjgdpdmbacDoor
open Go.RowKit
attribute [local go_sem ↓] Go.wp_at_zero Go.wp_at_succ
set_option linter.unusedSimpArgs false

theorem M.ga_bd {L A O : Nat → Int} {n : Nat} (hrt : ∀ j, j < n → M.rt (L j) (A j) (O j) = true) (y : Nat) : -3 ≤ M.ga L A n y ∧ M.ga L A n y ≤ 3 := by
  induction n with
  | zero => simp [M.ga]
  | succ n ih =>
    simp only [M.ga]
    split
    · have := M.rt_yes (hrt n (by omega)); omega
    · exact ih fun j hj => hrt j (by omega)
theorem M.gh_yes {L : Nat → Int} {n j : Nat} (hj : j < n) {y : Nat} (h : L j = y) : M.gh L n y = true := by
  induction n with
  | zero => omega
  | succ n ih =>
    simp only [M.gh]
    by_cases e : j = n
    · rw [if_pos (by rw [← e]; exact h.symm)]
    · split
      · rfl
      · exact ih (by omega)
/-- Where nothing is, no chord is. -/
theorem M.isC_some {L A : Nat → Int} {n r : Nat} {a k : Int} (hr : M.rt r a 0 = true) (h : M.isC (M.gh L n) (M.ga L A n) r a k = true) : 1 ≤ n := by
  unfold M.isC at h
  simp only [Bool.and_eq_true] at h
  have h7 := M.rt_yes hr
  have h1 := (M.ceq_iff.1 h.2 r (by omega)).1
  have h2 : M.ch r a k r = true := M.gh_yes (j := 0) (by omega) (by rw [(M.n_zero hr).1])
  rw [h2] at h1
  cases n with
  | zero => simp [M.gh] at h1
  | succ n => omega

theorem idx7 (t : Nat → Int) (i : Nat) (hi : i < 7) (w : World) : (Instr.index 62 (.agg #[.int .i64 (t 0), .int .i64 (t 1), .int .i64 (t 2), .int .i64 (t 3), .int .i64 (t 4), .int .i64 (t 5), .int .i64 (t 6)]) (.int .i64 i)).run Tryd.prog w = .ok (.int .i64 (t i)) w := by
  rcases (show i = 0 ∨ i = 1 ∨ i = 2 ∨ i = 3 ∨ i = 4 ∨ i = 5 ∨ i = 6 by omega) with rfl | rfl | rfl | rfl | rfl | rfl | rfl <;> kernel_rfl

/-- A chord in a block of its own. -/
structure KB (w : World) (b : Nat) : Prop where
  lt : b < w.heap.size
  n0 : w.cell? ⟨b, 0, none⟩ = some (.int .i64 0)
  n1 : w.cell? ⟨b, 1, none⟩ = some (.int .i64 0)
  n2 : w.cell? ⟨b, 2, none⟩ = some (.int .i64 0)
  n3 : w.cell? ⟨b, 3, none⟩ = some (.int .i64 0)
  g0 : w.frozen? ⟨b, 0, none⟩ = false
  g1 : w.frozen? ⟨b, 1, none⟩ = false
  g2 : w.frozen? ⟨b, 2, none⟩ = false
  g3 : w.frozen? ⟨b, 3, none⟩ = false
theorem KB.step {w w' : World} {B b : Nat} (h : KB w b) (hb : Below B w w') (hB : b < B) (hs : B ≤ w.heap.size) : KB w' b := by
  have hz := hb.size
  exact ⟨by omega, keepC hb hB h.n0, keepC hb hB h.n1, keepC hb hB h.n2, keepC hb hB h.n3, keepF hb hB h.g0, keepF hb hB h.g1, keepF hb hB h.g2, keepF hb hB h.g3⟩
def chV (a b c d : Int) : Value := .agg #[.int .i64 a, .int .i64 b, .int .i64 c, .int .i64 d]

/-- What comes of it. -/
def WhatRes (L A O : Nat → Int) (n : Nat) (e : Ending) : Prop :=
  ((∃ j, j < n ∧ M.rt (L j) (A j) (O j) = false) ∧ e = .returned (.tuple #[chV 0 0 0 0, .int .i64 2])) ∨
  ((∀ j, j < n → M.rt (L j) (A j) (O j) = true) ∧
    ((M.gk L A n = false ∧ e = .returned (.tuple #[chV 0 0 0 0, .int .i64 6])) ∨
     (M.gk L A n = true ∧ (∀ y k : Nat, y < 7 → 1 ≤ k → k ≤ 9 → M.isC (M.gh L n) (M.ga L A n) y (M.ga L A n y) k = false) ∧ e = .returned (.tuple #[chV 0 0 0 0, .int .i64 6])) ∨
     (M.gk L A n = true ∧ ∃ y k m : Nat, y < 7 ∧ 1 ≤ k ∧ k ≤ 9 ∧ M.isC (M.gh L n) (M.ga L A n) y (M.ga L A n y) k = true ∧ M.Low L O n m ∧ e = .returned (.tuple #[chV y (M.ga L A n y) k (((L m - y + 7) % 7) / 2), .int .i64 0]))))

set_option maxRecDepth 20000 in
set_option maxHeartbeats 8000000 in
theorem What_any (ao : Option Addr) (n c : Nat) (L A O : Nat → Int) (w : World) (ht : Tab w) (hOv : Over w) (hp : PL w ao n L A O) (hc : n ≤ c) (hcm : c ≤ 9223372036854775807) :
    Calls Tryd.prog 7 #[.slice ao n c] w fun e w' => WhatRes L A O n e ∧ Below w.heap.size w w' := by
  go_enter Tryd.func7, Tryd.ntmps7
  go_wp2_with fail
  go_loopw [14] (fun i wr => ∃ k : Nat, k ≤ n ∧ i = .int .i64 k ∧ Hid (∀ j, j < k → M.rt (L j) (A j) (O j) = true) ∧ Below w.heap.size w wr ∧ KB wr w.heap.size)
    (fun i _ => n - (intOf i).toNat)
  case atStart => exact ⟨0, by omega, rfl, fun j hj => by omega, by go_grown, by simp, by simp [go_sem], by simp [go_sem], by simp [go_sem], by simp [go_sem], by simp [go_sem], by simp [go_sem], by simp [go_sem], by simp [go_sem]⟩
  case round =>
    obtain ⟨k, hkn, rfl, hall, hbr, hkb⟩ := hrel
    have zr := hbr.size
    by_cases hlt : k < n
    · obtain ⟨b, off, rfl, hbl, q0, q1, q2⟩ := hp.at' (by omega)
      have r0 := keepC hbr hbl (q0 k hlt)
      have r1 := keepC hbr hbl (q1 k hlt)
      have r2 := keepC hbr hbl (q2 k hlt)
      have hbk : b < wr.heap.size := by omega
      clear q0 q1 q2
      go_wp2_with fail
      refine (Right_any (L k) (A k) (O k) _).mono ?_
      rintro e w1 ⟨rfl, hb1⟩
      have z1 := hb1.size
      simp at z1
      have k1 : Below wr.heap.size wr w1 := Below.trans (by go_grown) (hb1.mono (by simp))
      have h01 := hbr.trans (k1.mono zr)
      have hkb1 := hkb.step k1 hkb.lt (Nat.le_refl _)
      cases hr : M.rt (L k) (A k) (O k)
      · obtain ⟨dl, d0, d1, d2, d3, f0, f1, f2, f3⟩ := hkb1
        go_wp2_with fail
        refine bodyPost_ret (v := .tuple #[chV 0 0 0 0, .int .i64 2]) (by simp [results, Tryd.results7, go_sem, chV, d0, d1, d2, d3, dl]) rfl ⟨.inl ⟨⟨k, hlt, hr⟩, rfl⟩, ?_⟩
        exact (((h01.setCell (p := ⟨w.heap.size, 0, none⟩) (Nat.le_refl _) _).setCell (p := ⟨w.heap.size, 1, none⟩) (Nat.le_refl _) _).setCell (p := ⟨w.heap.size, 2, none⟩) (Nat.le_refl _) _).setCell (p := ⟨w.heap.size, 3, none⟩) (Nat.le_refl _) _
      · have hall2 : Hid (∀ j, j < k + 1 → M.rt (L j) (A j) (O j) = true) := fun j hj => by
          by_cases e : j = k
          · rw [e]; exact hr
          · exact hall.out j (by omega)
        go_wp2_with fail
        go_roundw
        case rel => first | exact ⟨k + 1, by omega, by go_num, hall2, h01, hkb1⟩ | ((repeat apply Exists.intro); exact ⟨⟨k + 1, by omega, by go_num, hall2, h01, hkb1⟩, rfl⟩)
        case measure => simp [intOf]; omega
    · have ek : k = n := by omega
      subst ek
      have hG := gather_any ao k c L A O wr (hp.step hbr) (fun j hj => by have := M.rt_yes (hall.out j hj); omega) (by omega)
      go_wp2_with fail
      refine hG.mono ?_
      rintro e w1 ⟨hb1, hyes, hno⟩
      have z1 := hb1.size
      have h01 := hbr.trans (hb1.mono zr)
      have hkb1 := hkb.step hb1 hkb.lt (Nat.le_refl _)
      cases hg : M.gk L A k
      · obtain rfl := hno hg
        obtain ⟨dl, d0, d1, d2, d3, f0, f1, f2, f3⟩ := hkb1
        unfold clsV
        go_wp2_with fail
        refine bodyPost_ret (v := .tuple #[chV 0 0 0 0, .int .i64 6]) (by simp [results, Tryd.results7, go_sem, chV, d0, d1, d2, d3, dl]) rfl ⟨.inr ⟨hall.out, .inl ⟨hg, rfl⟩⟩, ?_⟩
        have hX := (((h01.setCell (p := ⟨w.heap.size, 0, none⟩) (Nat.le_refl _) (.int .i64 0)).setCell (p := ⟨w.heap.size, 1, none⟩) (Nat.le_refl _) (.int .i64 0)).setCell (p := ⟨w.heap.size, 2, none⟩) (Nat.le_refl _) (.int .i64 0)).setCell (p := ⟨w.heap.size, 3, none⟩) (Nat.le_refl _) (.int .i64 0)
        exact hX.alloc hX.size _
      · obtain rfl := hyes hg
        have htb := M.ga_bd hall.out
        have hsome : ∀ (y : Nat) (a q : Int), M.rt y a 0 = true → M.isC (M.gh L k) (M.ga L A k) y a q = true → 1 ≤ k := fun y a q h1 h2 => M.isC_some h1 h2
        obtain ⟨h, eh⟩ : ∃ h, M.gh L k = h := ⟨_, rfl⟩
        obtain ⟨t, et⟩ : ∃ t, M.ga L A k = t := ⟨_, rfl⟩
        have HE : Hid (M.gh L k = h ∧ M.ga L A k = t) := ⟨eh, et⟩
        rw [eh, et] at hsome
        rw [et] at htb
        rw [eh, et]
        have HP : Hid (PL w ao k L A O) := hp
        have HG : Hid (M.gk L A k = true) := hg
        have HS : Hid (∀ (y : Nat) (a q : Int), M.rt y a 0 = true → M.isC h t y a q = true → 1 ≤ k) := hsome
        clear eh et hG hno hyes hp hg hsome
        have hcb : CB (w1.alloc (Obj.cells #[.bool (h 0), .bool (h 1), .bool (h 2), .bool (h 3), .bool (h 4), .bool (h 5), .bool (h 6), .int .i64 (t 0), .int .i64 (t 1), .int .i64 (t 2), .int .i64 (t 3), .int .i64 (t 4), .int .i64 (t 5), .int .i64 (t 6)] 64)) w1.heap.size h t := by
          refine ⟨by simp, fun y hy => ?_, fun y hy => ?_, fun y hy => ?_⟩
          · rcases (show y = 0 ∨ y = 1 ∨ y = 2 ∨ y = 3 ∨ y = 4 ∨ y = 5 ∨ y = 6 by omega) with rfl | rfl | rfl | rfl | rfl | rfl | rfl <;> simp [go_sem]
          · rcases (show y = 0 ∨ y = 1 ∨ y = 2 ∨ y = 3 ∨ y = 4 ∨ y = 5 ∨ y = 6 by omega) with rfl | rfl | rfl | rfl | rfl | rfl | rfl <;> simp [go_sem]
          · rcases (show y = 0 ∨ y = 1 ∨ y = 2 ∨ y = 3 ∨ y = 4 ∨ y = 5 ∨ y = 6 ∨ y = 7 ∨ y = 8 ∨ y = 9 ∨ y = 10 ∨ y = 11 ∨ y = 12 ∨ y = 13 by omega) with rfl | rfl | rfl | rfl | rfl | rfl | rfl | rfl | rfl | rfl | rfl | rfl | rfl | rfl <;> simp [go_sem]
        have hkb2 := hkb1.step ((Below.refl _ _).alloc (Nat.le_refl _) (Obj.cells #[.bool (h 0), .bool (h 1), .bool (h 2), .bool (h 3), .bool (h 4), .bool (h 5), .bool (h 6), .int .i64 (t 0), .int .i64 (t 1), .int .i64 (t 2), .int .i64 (t 3), .int .i64 (t 4), .int .i64 (t 5), .int .i64 (t 6)] 64)) hkb1.lt (Nat.le_refl _)
        have h0W : Below w.heap.size w (w1.alloc (Obj.cells #[.bool (h 0), .bool (h 1), .bool (h 2), .bool (h 3), .bool (h 4), .bool (h 5), .bool (h 6), .int .i64 (t 0), .int .i64 (t 1), .int .i64 (t 2), .int .i64 (t 3), .int .i64 (t 4), .int .i64 (t 5), .int .i64 (t 6)] 64)) := h01.alloc h01.size _
        unfold clsV
        go_wp2_with fail
        go_loopw [33] (fun i wy => ∃ y : Nat, y ≤ 7 ∧ i = .int .i64 y ∧ Hid (∀ y' k' : Nat, y' < y → 1 ≤ k' → k' ≤ 9 → M.isC h t y' (t y') k' = false) ∧ Below w.heap.size w wy ∧ CB wy w1.heap.size h t ∧ KB wy w.heap.size)
          (fun i _ => 7 - (intOf i).toNat)
        case atStart => exact ⟨0, by omega, rfl, fun y' k' h1 => by omega, h0W, hcb, hkb2⟩
        case round =>
          clear hkb hkb1 hkb2 hcb h0W hkn hlt
          rename World => wy
          obtain ⟨y, hy7, rfl, hnone, hby, hcby, hkby⟩ := hrel
          have zy := hby.size
          by_cases hyl : y < 7
          · have hdy : decide ((y : Int) < 7) = true := by simp; omega
            have hix := idx7 t y hyl
            have hrty : M.rt y (t y) 0 = true := M.rt_mk (by have := htb y; omega)
            have hcl := hcby.lt
            go_wp2_with fail
            have c5 : (wy.alloc (Obj.cells #[.int .i64 y, .int .i64 (t y)] 30)).cell? ⟨wy.heap.size, 0, none⟩ = some (.int .i64 y) := by simp [go_sem]
            have c6 : (wy.alloc (Obj.cells #[.int .i64 y, .int .i64 (t y)] 30)).cell? ⟨wy.heap.size, 1, none⟩ = some (.int .i64 (t y)) := by simp [go_sem]
            have stp : Below wy.heap.size wy (wy.alloc (Obj.cells #[.int .i64 y, .int .i64 (t y)] 30)) := (Below.refl _ _).alloc (Nat.le_refl _) _
            go_loopw [11] (fun i wq => ∃ q : Nat, 1 ≤ q ∧ q ≤ 10 ∧ i = .int .i64 q ∧ Hid (∀ k' : Nat, 1 ≤ k' → k' < q → M.isC h t y (t y) k' = false) ∧ Below (wy.heap.size + 1) (wy.alloc (Obj.cells #[.int .i64 y, .int .i64 (t y)] 30)) wq)
              (fun i _ => 10 - (intOf i).toNat)
            case atStart => exact ⟨1, by omega, by omega, rfl, fun k' h1 h2 => by omega, Below.refl _ _⟩
            case round =>
              rename World => wq
              obtain ⟨q, hq1, hq2, rfl, hnq, hbq⟩ := hrel
              have zq := hbq.size
              simp at zq
              have kq : Below wy.heap.size wy wq := stp.trans (hbq.mono (by omega))
              have h0q := hby.trans (kq.mono zy)
              have hcbq := hcby.step kq hcl (Nat.le_refl _)
              have hkbq := hkby.step kq hkby.lt (Nat.le_refl _)
              by_cases hq9 : q ≤ 9
              · have t5 := keepC hbq (by omega) c5
                have t6 := keepC hbq (by omega) c6
                have sx : wy.heap.size < wq.heap.size := by omega
                have hlq := hcbq.lt
                have yc0 : wq.cell? ⟨w1.heap.size, 0, none⟩ = some (.bool (h 0)) := hcbq.c 0 (by omega)
                have yc1 : wq.cell? ⟨w1.heap.size, 1, none⟩ = some (.bool (h 1)) := hcbq.c 1 (by omega)
                have yc2 : wq.cell? ⟨w1.heap.size, 2, none⟩ = some (.bool (h 2)) := hcbq.c 2 (by omega)
                have yc3 : wq.cell? ⟨w1.heap.size, 3, none⟩ = some (.bool (h 3)) := hcbq.c 3 (by omega)
                have yc4 : wq.cell? ⟨w1.heap.size, 4, none⟩ = some (.bool (h 4)) := hcbq.c 4 (by omega)
                have yc5 : wq.cell? ⟨w1.heap.size, 5, none⟩ = some (.bool (h 5)) := hcbq.c 5 (by omega)
                have yc6 : wq.cell? ⟨w1.heap.size, 6, none⟩ = some (.bool (h 6)) := hcbq.c 6 (by omega)
                have yd0 : wq.cell? ⟨w1.heap.size, 7, none⟩ = some (.int .i64 (t 0)) := hcbq.d 0 (by omega)
                have yd1 : wq.cell? ⟨w1.heap.size, 8, none⟩ = some (.int .i64 (t 1)) := hcbq.d 1 (by omega)
                have yd2 : wq.cell? ⟨w1.heap.size, 9, none⟩ = some (.int .i64 (t 2)) := hcbq.d 2 (by omega)
                have yd3 : wq.cell? ⟨w1.heap.size, 10, none⟩ = some (.int .i64 (t 3)) := hcbq.d 3 (by omega)
                have yd4 : wq.cell? ⟨w1.heap.size, 11, none⟩ = some (.int .i64 (t 4)) := hcbq.d 4 (by omega)
                have yd5 : wq.cell? ⟨w1.heap.size, 12, none⟩ = some (.int .i64 (t 5)) := hcbq.d 5 (by omega)
                have yd6 : wq.cell? ⟨w1.heap.size, 13, none⟩ = some (.int .i64 (t 6)) := hcbq.d 6 (by omega)
                have hI := isChord_any h t y q (t y)
                unfold clsV at hI
                have hkq : M.kok q = true := decide_eq_true (by omega)
                go_wp2_with fail
                refine (hI _ (ht.step h0q) (hOv.step h0q) hrty hkq).mono ?_
                rintro e w2 ⟨rfl, hb2⟩
                have z2 := hb2.size
                have h02 := h0q.trans (hb2.mono h0q.size)
                have hbq2 := hbq.trans (hb2.mono (by omega))
                cases hC : M.isC h t y (t y) q
                · have hnq2 : Hid (∀ k' : Nat, 1 ≤ k' → k' < q + 1 → M.isC h t y (t y) k' = false) := fun k' h1 h2 => by
                    by_cases e : k' = q
                    · rw [e]; exact hC
                    · exact hnq.out k' h1 (by omega)
                  clear hI
                  clear yc0 yd0 yc1 yd1 yc2 yd2 yc3 yd3 yc4 yd4 yc5 yd5 yc6 yd6
                  go_wp2_with fail
                  go_roundw
                  case rel => first | exact ⟨q + 1, by omega, by omega, by go_num, hnq2, hbq2⟩ | ((repeat apply Exists.intro); exact ⟨⟨q + 1, by omega, by omega, by go_num, hnq2, hbq2⟩, rfl⟩)
                  case measure => simp [intOf]; omega
                · have hk1 := HS.out y (t y) q hrty hC
                  clear hI
                  clear yc0 yd0 yc1 yd1 yc2 yd2 yc3 yd3 yc4 yd4 yc5 yd5 yc6 yd6
                  obtain ⟨b, off, rfl, hbl, q0, q1, q2⟩ := HP.out.at' hk1
                  have t52 := keepC hb2 sx t5
                  have t62 := keepC hb2 sx t6
                  have hkb2 := hkbq.step hb2 hkbq.lt (Nat.le_refl _)
                  have sx2 : wy.heap.size < w2.heap.size := by omega
                  have mkL : ∀ W, Below w2.heap.size w2 W → Calls Tryd.prog 26 #[.slice (some ⟨b, off, none⟩) k c] W fun e w' => ∃ m, M.Low L O k m ∧ e = .returned (.agg #[.int .i64 (L m), .int .i64 (A m), .int .i64 (O m)]) ∧ Below W.heap.size W w' := fun W hW => by
                    have h0W := h02.trans (hW.mono h02.size)
                    have hzW := h0W.size
                    exact lowest_any b off k c L A O W (ht.step h0W) (by omega) (fun j hj => keepC h0W hbl (q0 j hj)) (fun j hj => keepC h0W hbl (q1 j hj)) (fun j hj => keepC h0W hbl (q2 j hj)) hall.out hk1 hc hcm
                  have mkF : ∀ W, Below w2.heap.size w2 W → W.cell? ⟨wy.heap.size, 0, none⟩ = some (.int .i64 y) ∧ W.cell? ⟨wy.heap.size, 1, none⟩ = some (.int .i64 (t y)) ∧ wy.heap.size < W.heap.size ∧ KB W w.heap.size ∧ Below w.heap.size w W := fun W hW =>
                    ⟨keepC hW sx2 t52, keepC hW sx2 t62, Nat.lt_of_lt_of_le sx2 hW.size, hkb2.step hW hkb2.lt (Nat.le_refl _), h02.trans (hW.mono h02.size)⟩
                  clear q0 q1 q2 hkb2 hkbq
                  go_wp2_with fail
                  go_region_with
                    (first
                      | (go_at_call 26; refine (mkL _ ?_).mono ?_; (all_goals first | (solve | go_grown) | skip); rintro e wa ⟨m, hlow, rfl, hba⟩; have hml := hlow.lt; have hrm := M.rt_yes (hall.out m hml); have h2a : Below w2.heap.size w2 wa := Below.trans (by go_grown) (hba.mono (by simp)); have nn := mkF wa h2a; obtain ⟨a5, a6, sa, ⟨dl, d0, d1, d2, d3, f0, f1, f2, f3⟩, h0a⟩ := nn)
                      | (go_at_call 25; refine (turnOf_any y (t y) (L m) (A m) (O m) _ ?_ ?_ ?_ ?_).mono ?_; (all_goals first | omega | skip); rintro e wb ⟨rfl, hbb⟩; have h2b : Below w2.heap.size w2 wb := h2a.trans (hbb.mono h2a.size); have nn := mkF wb h2b; obtain ⟨a5, a6, sa, ⟨dl, d0, d1, d2, d3, f0, f1, f2, f3⟩, h0a⟩ := nn))
                  all_goals
                    go_wp2_with fail
                    have hF : WhatRes L A O k (.returned (.tuple #[chV y (t y) q (((L m - y + 7) % 7) / 2), .int .i64 0])) := .inr ⟨hall.out, .inr (.inr ⟨HG.out, y, q, m, hyl, hq1, hq9, by rw [HE.out.1, HE.out.2]; exact hC, hlow, by rw [HE.out.2]⟩)⟩
                    refine bodyPost_ret (v := .tuple #[chV y (t y) q (((L m - y + 7) % 7) / 2), .int .i64 0]) (by simp [results, Tryd.results7, go_sem, chV, d0, d1, d2, d3, dl]) rfl ⟨hF, ?_⟩
                    exact (((h0a.setCell (p := ⟨w.heap.size, 0, none⟩) (Nat.le_refl _) _).setCell (p := ⟨w.heap.size, 1, none⟩) (Nat.le_refl _) _).setCell (p := ⟨w.heap.size, 2, none⟩) (Nat.le_refl _) _).setCell (p := ⟨w.heap.size, 3, none⟩) (Nat.le_refl _) _
              · have hq10 : q = 10 := by omega
                have hnone2 : Hid (∀ y' k' : Nat, y' < y + 1 → 1 ≤ k' → k' ≤ 9 → M.isC h t y' (t y') k' = false) := fun y' k' h1 h2 h3 => by
                  by_cases e : y' = y
                  · rw [e]; exact hnq.out k' h2 (by omega)
                  · exact hnone.out y' k' (by omega) h2 h3
                go_wp2_with fail
                go_roundw
                case rel => first | exact ⟨y + 1, by omega, by go_num, hnone2, h0q, hcbq, hkbq⟩ | ((repeat apply Exists.intro); exact ⟨⟨y + 1, by omega, by go_num, hnone2, h0q, hcbq, hkbq⟩, rfl⟩)
                case measure => simp [intOf]; omega
          · have hres : WhatRes L A O k (.returned (.tuple #[chV 0 0 0 0, .int .i64 6])) := .inr ⟨hall.out, .inr (.inl ⟨HG.out, fun y' k' h1 h2 h3 => by rw [HE.out.1, HE.out.2]; exact hnone.out y' k' (by omega) h2 h3, rfl⟩)⟩
            have HR : Hid (WhatRes L A O k (.returned (.tuple #[chV 0 0 0 0, .int .i64 6]))) := hres
            clear hres
            obtain ⟨dl, d0, d1, d2, d3, f0, f1, f2, f3⟩ := hkby
            go_wp2_with fail
            refine bodyPost_ret (v := .tuple #[chV 0 0 0 0, .int .i64 6]) (by simp [results, Tryd.results7, go_sem, chV, d0, d1, d2, d3, dl]) rfl ⟨HR.out, ?_⟩
            exact (((hby.setCell (p := ⟨w.heap.size, 0, none⟩) (Nat.le_refl _) _).setCell (p := ⟨w.heap.size, 1, none⟩) (Nat.le_refl _) _).setCell (p := ⟨w.heap.size, 2, none⟩) (Nat.le_refl _) _).setCell (p := ⟨w.heap.size, 3, none⟩) (Nat.le_refl _) _

end Go.Proofs.YtgcnmmjgdpdmbacDoor
