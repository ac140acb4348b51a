/- The document's Breaks at every place, and its Check. -/
import Derived.Test.YtmgkbnlmdhnjnaeUR2b
import Derived.Test.YtmgkbnlmdhnjnaeUR2c
namespace Go.Proofs.Ytmgkbnlmdhnjnae.U
open Go.RowKit Go.Maps Go.Sort
set_option linter.unusedVariables false
set_option linter.unusedSimpArgs false

theorem Breaks_any (r : M.Ru) (ao : Option Addr) (n c i : Nat) (g : Nat → Int) (bo : Option Addr) (l d : Nat) (x : Nat → Int) (w : World) (hp : LI w ao n g) (hc : n ≤ c) (hcm : c ≤ 9223372036854775807) (hq : LI w bo l x) (hd : l ≤ d) (hdm : d ≤ 9223372036854775807)
    (hr : r.Ok) (hi : i < n) (hil : i < l) (hn : n ≤ 64) (hg : ∀ j, j < n → 0 ≤ g j ∧ g j ≤ 127) (hk : 0 ≤ x i ∧ x i ≤ 127) (hpk : 1 ≤ i → 0 ≤ x (i - 1) ∧ x (i - 1) ≤ 127) :
    Calls Try.prog 39 #[.agg #[.int .i64 r.low, .int .i64 r.high, .bool r.above, .int .i64 r.leap, .int .i64 r.classes], .slice ao n c, .slice bo l d, .int .i64 (i : Int)] w fun e w' => e = .returned (.int .i64 (M.bq r g n i (x i) (x (i - 1)) (decide (1 < i ∧ x (i - 2) = x (i - 1))))) ∧ Below w.heap.size w w' := by
  by_cases h0 : M.ba r g n i (x i) = 0
  · rw [M.bq_bb h0]
    by_cases e1 : i = 0
    · rw [M.bb_first e1]
      exact Breaks_first r ao n c i g bo l d x w hp hc hcm hq hd hdm hr hi hil hn hg hk h0 e1
    · exact Breaks_behind r ao n c i g bo l d x w hp hc hcm hq hd hdm hr hi hil hn hg hk h0 e1 (hpk (by omega))
  · rw [M.bq_ba h0]
    exact Breaks_alone r ao n c i g bo l d x w hp hc hcm hq hd hdm hr hi hil hn hg hk h0
theorem M.bq_br {r : M.Ru} {g : Nat → Int} {n i : Nat} {x : Nat → Int} (hx : ∀ j, j < i → 0 ≤ x j) : M.bq r g n i (x i) (x (i - 1)) (decide (1 < i ∧ x (i - 2) = x (i - 1))) = M.br r g n x i := by
  by_cases h0 : M.ba r g n i (x i) = 0
  · rw [M.bq_bb h0, M.br_bb h0]
    match i with
    | 0 => rw [M.bb_first rfl, M.bb_first rfl]
    | 1 =>
      have h1 : M.sta x 1 = false := by simp only [M.sta, M.stk]; have := hx 0 (by omega); simp; omega
      rw [h1]
      simp [M.stk]
    | j + 2 =>
      have h1 : M.sta x (j + 2) = decide (1 < j + 2 ∧ x (j + 2 - 2) = x (j + 2 - 1)) := by
        simp only [M.sta, M.stk]
        by_cases e : x j = x (j + 1)
        · simp [e]
        · have : ¬ x (j + 1) = x j := fun h => e h.symm
          simp [e, this]
      rw [h1]; rfl
  · rw [M.bq_ba h0, M.br_ba h0]

set_option maxRecDepth 100000 in
set_option maxHeartbeats 8000000 in
theorem refCheck_any (r : M.Ru) (ao : Option Addr) (n c : Nat) (g : Nat → Int) (bo : Option Addr) (l d : Nat) (x : Nat → Int) (w : World) (hp : LI w ao n g) (hc : n ≤ c) (hcm : c ≤ 9223372036854775807) (hq : LI w bo l x) (hd : l ≤ d) (hdm : d ≤ 9223372036854775807) :
    Calls Try.prog 20 #[.agg #[.int .i64 r.low, .int .i64 r.high, .bool r.above, .int .i64 r.leap, .int .i64 r.classes], .slice ao n c, .slice bo l d] w fun e w' => (∃ W I E, e = .returned (.tuple #[.int .i64 W, .int .i64 I, .int .i64 E]) ∧ CkR r g n x l W I E) ∧ Below w.heap.size w w' := by
  have HW := fun w hp => refWrong_any r ao n c g w hp hc hcm
  by_cases hw : M.wr r g n = 0
  rotate_left
  · have hw' : (M.wr r g n != 0) = true := by simp [hw]
    have HR : Hid (CkR r g n x l 0 0 (M.wr r g n)) := Or.inl ⟨hw, rfl, rfl, rfl⟩
    generalize M.wr r g n = X at *
    go_enter Try.func20, Try.ntmps20
    go_wp2_with fail
    refine (HW _ (hp.step (by go_grown))).mono ?_
    rintro e w1 ⟨rfl, hb1⟩
    go_wp2_with fail
    go_returns
    exact ⟨⟨_, _, _, rfl, HR.out⟩, Below.trans (by go_grown) (hb1.mono (by simp))⟩
  obtain ⟨h1, h2, h3, h4⟩ := M.wr_zero hw
  rw [hw] at HW
  by_cases hl : l = n
  rotate_left
  · have hl' : ((l : Int) != (n : Int)) = true := by simp; omega
    have HR : Hid (CkR r g n x l 0 0 8) := Or.inr (Or.inl ⟨hw, hl, rfl, rfl, rfl⟩)
    clear hl hw
    go_enter Try.func20, Try.ntmps20
    go_wp2_with fail
    refine (HW _ (hp.step (by go_grown))).mono ?_
    rintro e w1 ⟨rfl, hb1⟩
    go_wp2_with fail
    go_returns
    exact ⟨⟨_, _, _, rfl, HR.out⟩, Below.trans (by go_grown) (hb1.mono (by simp))⟩
  subst hl
  have HK : Hid (∀ j, j < l → (x j < 0 ∨ 127 < x j) → CkR r g l x l 0 0 3) := fun j hj h => Or.inr (Or.inr (Or.inl ⟨hw, rfl, M.ks_no hj h, rfl, rfl, rfl⟩))
  have HR : Hid ((∀ j, j < l → 0 ≤ x j ∧ x j ≤ 127) → ∀ W I, CkQ (M.br r g l x) l W I → CkR r g l x l W I 0) := fun hk W I h => Or.inr (Or.inr (Or.inr ⟨hw, rfl, M.ks_iff.2 hk, rfl, h⟩))
  have HB : ∀ i w, LI w ao l g → LI w bo l x → i < l → (∀ j, j < l → 0 ≤ x j ∧ x j ≤ 127) → Calls Try.prog 39 #[.agg #[.int .i64 r.low, .int .i64 r.high, .bool r.above, .int .i64 r.leap, .int .i64 r.classes], .slice ao l c, .slice bo l d, .int .i64 (i : Int)] w fun e w' => e = .returned (.int .i64 (M.br r g l x i)) ∧ Below w.heap.size w w' := fun i w hp hq hi hx => by
    have := Breaks_any r ao l c i g bo l d x w hp hc hcm hq hd hdm h4 hi hi h2 h3 (hx i hi) (fun _ => hx (i - 1) (by omega))
    rw [M.bq_br (fun j hj => (hx j (by omega)).1)] at this
    exact this
  generalize M.br r g l x = BR at *
  obtain ⟨xb, xo, rfl, hxl, q⟩ := hq.at' (by omega)
  clear hw
  go_enter Try.func20, Try.ntmps20
  go_wp2_with fail
  obtain ⟨W, hW⟩ : ∃ x, x = w.alloc (.cells #[.int .i64 r.low, .int .i64 r.high, .bool r.above, .int .i64 r.leap, .int .i64 r.classes] 38) := ⟨_, rfl⟩
  rw [← hW]
  have hbW : Below w.heap.size w W := by rw [hW]; go_grown
  have sW : w.heap.size < W.heap.size := by rw [hW]; simp
  have q0 : W.cell? ⟨w.heap.size, 0, none⟩ = some (.int .i64 r.low) := by rw [hW]; simp [go_sem]
  have q1 : W.cell? ⟨w.heap.size, 1, none⟩ = some (.int .i64 r.high) := by rw [hW]; simp [go_sem]
  have q2 : W.cell? ⟨w.heap.size, 2, none⟩ = some (.bool r.above) := by rw [hW]; simp [go_sem]
  have q3 : W.cell? ⟨w.heap.size, 3, none⟩ = some (.int .i64 r.leap) := by rw [hW]; simp [go_sem]
  have q4 : W.cell? ⟨w.heap.size, 4, none⟩ = some (.int .i64 r.classes) := by rw [hW]; simp [go_sem]
  clear hW
  refine (HW _ (hp.step hbW)).mono ?_
  rintro e w1 ⟨rfl, hb1⟩
  have k1 : Below w.heap.size w w1 := hbW.trans (hb1.mono (by omega))
  have p0 := keepC hb1 sW q0
  have p1 := keepC hb1 sW q1
  have p2 := keepC hb1 sW q2
  have p3 := keepC hb1 sW q3
  have p4 := keepC hb1 sW q4
  have s1 : w.heap.size < w1.heap.size := by have := hb1.size; omega
  clear q0 q1 q2 q3 q4 hb1 hbW sW HW
  go_wp2_with fail
  go_loopw [27] (fun s wr => ∃ i : Nat, i ≤ l ∧ s = .int .i64 (i : Int) ∧ wr = w1 ∧ Hid (∀ j, j < i → 0 ≤ x j ∧ x j ≤ 127)) (fun s _ => l - (intOf s).toNat)
  case atStart => exact ⟨0, by omega, rfl, rfl, fun j hj => by omega⟩
  case round =>
    obtain ⟨i, hil, rfl, hwr, hxs⟩ := hrel
    subst hwr
    by_cases hi : i < l
    · have hxi := keepC k1 hxl (q i hi)
      have zx : xb < wr.heap.size := by omega
      have wi1 : IntKind.i64.wrap ((i : Int) + 1) = (i : Int) + 1 := wid (by omega) (by omega)
      by_cases c1 : x i < 0
      · have hV : Hid (CkR r g l x l 0 0 3) := HK.out i hi (Or.inl c1)
        clear HK HR HB q
        go_wp2_with fail
        go_returns
        exact ⟨⟨_, _, _, rfl, hV.out⟩, k1⟩
      by_cases c2 : 127 < x i
      · have hV : Hid (CkR r g l x l 0 0 3) := HK.out i hi (Or.inr c2)
        clear HK HR HB q
        go_wp2_with fail
        go_returns
        exact ⟨⟨_, _, _, rfl, hV.out⟩, k1⟩
      have hx2 : Hid (∀ j, j < i + 1 → 0 ≤ x j ∧ x j ≤ 127) := fun j hj => by
        rcases Nat.lt_succ_iff_lt_or_eq.1 hj with h | rfl
        · exact hxs.out j h
        · omega
      clear HK HR HB q hxs
      go_wp2_with fail
      go_roundw
      case rel => exact ⟨i + 1, by omega, by push_cast; rfl, by first | rfl | trivial, hx2⟩
      case measure => simp [intOf]; omega
    · have hx : ∀ j, j < l → 0 ≤ x j ∧ x j ≤ 127 := fun j hj => hxs.out j (by omega)
      have HB2 := fun i w hp hq hi => HB i w hp hq hi hx
      have HR2 : Hid (∀ W I, CkQ BR l W I → CkR r g l x l W I 0) := HR.out hx
      obtain ⟨wa, hwa⟩ : ∃ y, y = wr := ⟨wr, rfl⟩
      subst hwa
      clear HB HR HK hxs hx q hxl
      go_wp2_with fail
      go_loopw [40] (fun s wr => ∃ i : Nat, i ≤ l ∧ s = .int .i64 (i : Int) ∧ Below wa.heap.size wa wr ∧ Hid (∀ j, j < i → BR j = 0)) (fun s _ => l - (intOf s).toNat)
      case atStart => exact ⟨0, by omega, rfl, Below.refl _ _, fun j hj => by omega⟩
      case round =>
        obtain ⟨m, hml, rfl, hbr, hbr0⟩ := hrel
        have zr := hbr.size
        have kr := k1.trans (hbr.mono (by omega))
        by_cases hm : m < l
        · have HBm := HB2 m wr (hp.step kr) (hq.step kr) hm
          have m0 := keepC hbr s1 p0
          have m1 := keepC hbr s1 p1
          have m2 := keepC hbr s1 p2
          have m3 := keepC hbr s1 p3
          have m4 := keepC hbr s1 p4
          have zw : w.heap.size < wr.heap.size := by omega
          have wi1 : IntKind.i64.wrap ((m : Int) + 1) = (m : Int) + 1 := wid (by omega) (by omega)
          by_cases cb : BR m = 0
          · have cb' : (BR m != 0) = false := by simp [cb]
            have HN : Hid (∀ j, j < m + 1 → BR j = 0) := fun j hj => by
              rcases Nat.lt_succ_iff_lt_or_eq.1 hj with h | rfl
              · exact hbr0.out j h
              · exact cb
            generalize BR m = X at *
            clear HR2 HB2 hbr0 cb
            go_wp2_with fail
            refine HBm.mono ?_
            rintro e w4 ⟨rfl, hb4⟩
            go_wp2_with fail
            go_roundw
            case rel => exact ⟨m + 1, by omega, by push_cast; rfl, hbr.trans (hb4.mono zr), HN⟩
            case measure => simp [intOf]; omega
          · have hV : Hid (CkR r g l x l (BR m) (m : Int) 0) := HR2.out _ _ (Or.inr ⟨m, hm, rfl, rfl, cb, hbr0.out⟩)
            have cb' : (BR m != 0) = true := by simp [cb]
            generalize BR m = X at *
            clear HR2 HB2 hbr0 cb
            go_wp2_with fail
            refine HBm.mono ?_
            rintro e w4 ⟨rfl, hb4⟩
            go_wp2_with fail
            go_returns
            exact ⟨⟨_, _, _, rfl, hV.out⟩, kr.trans (hb4.mono (by omega))⟩
        · have hV : Hid (CkR r g l x l 0 0 0) := HR2.out 0 0 (Or.inl ⟨rfl, rfl, fun j hj => hbr0.out j (by omega)⟩)
          clear HR2 HB2 hbr0
          go_wp2_with fail
          go_returns
          exact ⟨⟨_, _, _, rfl, hV.out⟩, kr⟩
end Go.Proofs.Ytmgkbnlmdhnjnae.U
