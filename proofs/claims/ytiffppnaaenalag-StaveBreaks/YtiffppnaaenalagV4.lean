/- What the document's Line and Cost come to. -/
import Derived.Test.YtiffppnaaenalagV3
namespace Go.Proofs.Ytiffppnaaenalag.V
open Go.RowKit
set_option linter.unusedVariables false
set_option linter.unusedSimpArgs false

set_option maxHeartbeats 8000000 in
theorem Line_any (b : M.Bx) (ao : Option Addr) (n c A E : Nat) (w : World) (hp : BL w ao n b) (hc : n ≤ c) (hcm : c ≤ 9223372036854775807) (hr : M.rt b n) (hn : n ≤ 1024) (w1b : 1 ≤ b.wide) (w2b : b.wide ≤ 10000) (hAE : A < E) (hEn : E ≤ n) :
    Calls Try.prog 16 #[.slice ao n c, .int .i64 b.wide, .int .i64 (A : Int), .int .i64 (E : Int)] w fun e w' => e = .returned (.tuple #[.int .i64 (if M.ft b A E = true then M.cs b n A E else 0), .bool (M.ft b A E)]) ∧ Below w.heap.size w w' := by
  have ef : M.ft b A E = decide (M.nd b A (E - A) ≤ b.wide) := rfl
  have ec : M.cs b n A E = M.cz (M.sm b.W A (E - A)) b.wide (decide (E = n)) := rfl
  have cb := M.cs_bd hr hn w1b w2b (a := A) (e := E) (by omega) (by omega)
  have HE : Hid (M.cz (M.sm b.W A (E - A)) b.wide (decide (E = n)) = if 0 < M.sm b.W A (E - A) - b.wide then 4 * (M.sm b.W A (E - A) - b.wide) * (M.sm b.W A (E - A) - b.wide) else if decide (E = n) = true then 0 else (M.sm b.W A (E - A) - b.wide) * (M.sm b.W A (E - A) - b.wide)) := rfl
  rw [ef, ec]
  rw [ec] at cb
  clear ef ec
  obtain ⟨q, off, rfl, hbl, q0, q1⟩ := hp.at' (by omega)
  have hEA : ((E : Int) - (A : Int)).toNat = E - A := by omega
  have hEA2 : ¬ (E : Int) < A := by omega
  have hcE : (E : Int) ≤ c := by omega
  have hcb : (E : Int) < 9223372036854775808 := by omega
  have hA9 : A ≠ c := by omega
  obtain ⟨N, hN⟩ : ∃ N, E - A = N := ⟨_, rfl⟩
  have hNE : Hid (E = A + N) := by show E = _; omega
  have ws : ∀ j, j < N → w.cell? ⟨q, off + A * 2 + j * 2, none⟩ = some (.int .i64 (b.W (A + j))) := fun j hj => by
    have := hNE.out
    rw [show off + A * 2 + j * 2 = off + (A + j) * 2 by omega]; exact q0 (A + j) (by omega)
  have gs : ∀ j, j < N → w.cell? ⟨q, off + A * 2 + j * 2 + 1, none⟩ = some (.int .i64 (b.G (A + j))) := fun j hj => by
    have := hNE.out
    rw [show off + A * 2 + j * 2 + 1 = off + (A + j) * 2 + 1 by omega]; exact q1 (A + j) (by omega)
  rw [hN] at cb HE ⊢
  generalize hV : M.cz (M.sm b.W A N) b.wide (decide (E = n)) = V at *
  clear q0 q1 hp hV
  have HT : Hid (M.nd b A N ≤ b.wide → (if decide (M.nd b A N ≤ b.wide) = true then V else 0) = V ∧ decide (M.nd b A N ≤ b.wide) = true) := fun h => by rw [decide_eq_true h]; simp
  have HNo : Hid (¬ M.nd b A N ≤ b.wide → (if decide (M.nd b A N ≤ b.wide) = true then V else 0) = 0 ∧ decide (M.nd b A N ≤ b.wide) = false) := fun h => by rw [decide_eq_false h]; simp
  generalize (if decide (M.nd b A N ≤ b.wide) = true then V else 0) = R at *
  generalize decide (M.nd b A N ≤ b.wide) = F at *
  go_enter Try.func16, Try.ntmps16
  go_wp2_with (simp only [hN])
  go_loopw [10, 11, 19] (fun s t i wr => ∃ k : Nat, k ≤ N ∧ i = .int .i64 (k : Int) ∧ s = .int .i64 (M.sm b.W A k) ∧ t = .int .i64 (M.nd b A k) ∧ Below w.heap.size w wr) (fun _ _ i _ => N - (intOf i).toNat)
  case atStart => exact ⟨0, by omega, rfl, rfl, by simp [M.nd, M.sm], Below.refl _ _⟩
  case round =>
    obtain ⟨k, hkm, rfl, rfl, rfl, hbr⟩ := hrel
    have b1 := M.sm_bd (f := b.W) (n := n) (lo := 0) (hi := 10000) (fun j hj => by have := hr j hj; omega) A k (by have := hNE.out; omega)
    have b2 := M.sm_bd (f := b.G) (n := n) (lo := 0) (hi := 10000) (fun j hj => by have := hr j hj; omega) A k (by have := hNE.out; omega)
    have hkk : k ≤ 1024 := by have := hNE.out; omega
    have b3 : -10240000 ≤ M.nd b A k ∧ M.nd b A k ≤ 10240000 := by unfold M.nd; omega
    by_cases hlt : k < N
    · have r0 := keepC hbr hbl (ws k hlt)
      have r1 := keepC hbr hbl (gs k hlt)
      have hbl2 : q < wr.heap.size := by have := hbr.size; omega
      have w3 : IntKind.i64.wrap ((k : Int) + 1) = (k : Int) + 1 := wid (by omega) (by omega)
      have hB := hr (A + k) (by have := hNE.out; omega)
      have HE1 : Hid (M.sm b.W A (k + 1) = M.sm b.W A k + b.W (A + k)) := rfl
      have HE2 : Hid (M.nd b A (k + 1) = M.nd b A k + b.W (A + k) - b.G (A + k)) := by show M.nd b A (k + 1) = _; rw [M.nd_succ]; omega
      clear ws gs HE HT HNo
      generalize M.sm b.W A k = S at *
      generalize M.nd b A k = T at *
      generalize b.W (A + k) = X at *
      generalize b.G (A + k) = Y at *
      have wa : IntKind.i64.wrap (S + X) = S + X := wid (by omega) (by omega)
      have wb : IntKind.i64.wrap (T + X) = T + X := wid (by omega) (by omega)
      have wc : IntKind.i64.wrap (T + X - Y) = T + X - Y := wid (by omega) (by omega)
      go_wp2_with fail
      go_quiet (fail)
      go_wp2_with fail
      go_roundw
      case rel => exact ⟨k + 1, by omega, by go_num, by rw [HE1.out], by rw [HE2.out], below_drewN (hbr.alloc hbr.size _) _⟩
      case measure => simp [intOf]; omega
    · obtain rfl : k = N := by omega
      clear ws gs
      generalize M.sm b.W A k = S at *
      generalize M.nd b A k = T at *
      obtain ⟨o, ho⟩ : ∃ o, S - b.wide = o := ⟨_, rfl⟩
      have ho2 : b.wide - S = -o := by omega
      rw [ho] at HE
      have h5 := M.sq_bd (x := o) (m := 10240000) (by omega) (by omega)
      by_cases d1 : T ≤ b.wide
      rotate_left
      · obtain ⟨e1, e2⟩ := HNo.out (by omega)
        subst e1 e2
        have d2 : b.wide < T := by omega
        clear HE HT HNo
        go_wp2_with fail
        go_returns
        exact ⟨rfl, hbr⟩
      obtain ⟨e1, e2⟩ := HT.out d1
      subst e1 e2
      have d2 : ¬ b.wide < T := by omega
      clear HT HNo
      by_cases d3 : b.wide < S
      · have hV : R = 4 * o * o := by have := HE.out; rw [if_pos (by omega)] at this; exact this
        have e : 4 * o * o = 4 * (o * o) := Int.mul_assoc ..
        subst hV
        clear HE cb
        go_wp2_with (simp only [ho])
        go_returns
        exact ⟨rfl, hbr⟩
      · by_cases d4 : E = n
        · have hV : R = 0 := by have := HE.out; rw [if_neg (by omega), if_pos (by simp [d4])] at this; exact this
          subst hV
          have d5 : ((E : Int) == (n : Int)) = true := by simp [d4]
          clear HE cb
          go_wp2_with (simp only [d5])
          go_returns
          exact ⟨rfl, hbr⟩
        · have hV : R = o * o := by have := HE.out; rw [if_neg (by omega), if_neg (by simp [d4])] at this; exact this
          have e : -o * -o = o * o := by grind
          subst hV
          have d5 : ((E : Int) == (n : Int)) = false := by simp; omega
          clear HE cb
          go_wp2_with (simp only [d5, ho2])
          go_returns
          exact ⟨rfl, hbr⟩
set_option maxHeartbeats 8000000 in
theorem refCost_any (b : M.Bx) (ao : Option Addr) (n c : Nat) (bo : Option Addr) (m d : Nat) (g : Nat → Int) (w : World) (hp : BL w ao n b) (hc : n ≤ c) (hcm : c ≤ 9223372036854775807) (hq : LI w bo m g) (hd : m ≤ d) (hdm : d ≤ 9223372036854775807) :
    Calls Try.prog 12 #[.slice ao n c, .int .i64 b.wide, .slice bo m d] w fun e w' => e = .returned (.tuple #[.int .i64 (cw b n g m).1, .int .i64 (cw b n g m).2]) ∧ Below w.heap.size w w' := by
  have HW := fun w hp => refWrong_any b ao n c w hp hc hcm
  by_cases hw : M.wr b n = 0
  rotate_left
  · have hw' : (M.wr b n != 0) = true := by simp [hw]
    have e1 : cw b n g m = (0, M.wr b n) := by unfold cw; rw [if_neg hw]
    rw [e1]
    clear e1 hw
    generalize M.wr b n = X at *
    go_enter Try.func12, Try.ntmps12
    go_wp2_with fail
    refine (HW _ (hp.step (by go_grown))).mono ?_
    rintro e w1 ⟨rfl, hb1⟩
    go_wp2_with fail
    go_returns
    exact ⟨rfl, hb1⟩
  obtain ⟨hn, w1b, w2b, hr⟩ := M.wr_zero hw
  have e1 : cw b n g m = M.cq b n g m := by unfold cw; rw [if_pos hw]
  rw [hw] at HW
  rw [e1]
  have HQ : Hid (M.cq b n g m = if (M.cl b n g m).1 = 0 then (if (M.cl b n g m).2.1 < n then (0, 8) else ((M.cl b n g m).2.2, 0)) else (0, (M.cl b n g m).1)) := rfl
  clear e1 hw
  generalize M.cq b n g m = Q at *
  go_enter Try.func12, Try.ntmps12
  go_wp2_with fail
  refine (HW _ hp).mono ?_
  rintro e w1 ⟨rfl, hb1⟩
  clear HW
  go_wp2_with fail
  go_loopw [9, 10, 23] (fun st cst i wr => ∃ k : Nat, k ≤ m ∧ i = .int .i64 (k : Int) ∧ Hid ((M.cl b n g k).1 = 0) ∧ st = .int .i64 ((M.cl b n g k).2.1 : Int) ∧ cst = .int .i64 (M.cl b n g k).2.2 ∧ Below w.heap.size w wr) (fun _ _ i _ => m - (intOf i).toNat)
  case atStart => exact ⟨0, by omega, rfl, rfl, rfl, rfl, hb1⟩
  case round =>
    obtain ⟨k, hkm, rfl, hk, rfl, rfl, hbr⟩ := hrel
    clear hb1
    obtain ⟨i1, i2, i3, i4⟩ := M.cl_wy hk.out
    have l1 := M.wy_len i1
    rw [M.ls_len] at l1
    have c1 := M.co_bd hr hn w1b w2b i1
    rw [← i2, M.ls_len] at c1
    clear i1 i2 i4
    by_cases hlt : k < m
    · obtain ⟨q2, off2, rfl, hbl2, q0⟩ := (hq.step hbr).at' (by omega)
      have r0 := q0 k hlt
      have w3 : IntKind.i64.wrap ((k : Int) + 1) = (k : Int) + 1 := wid (by omega) (by omega)
      have HF := M.cl_fit hk.out
      have HNo := M.cl_none hk.out
      have HS := M.cl_step hk.out
      have HSt : Hid ((M.cl b n g (k + 1)).1 ≠ 0 → Q = (0, (M.cl b n g (k + 1)).1)) := fun h => by
        have h2 := M.cl_stay h (m - (k + 1))
        rw [show k + 1 + (m - (k + 1)) = m by omega] at h2
        rw [HQ.out, h2, if_neg h]
      have HF' : Hid (g k ≤ ((M.cl b n g k).2.1 : Int) ∨ (n : Int) < g k → Q = (0, 8)) := fun h => by rw [HSt.out (by rw [HF h]; decide), HF h]
      have HN' : Hid (¬ (g k ≤ ((M.cl b n g k).2.1 : Int) ∨ (n : Int) < g k) → M.ft b (M.cl b n g k).2.1 (g k).toNat = false → Q = (0, 6)) := fun h h3 => by rw [HSt.out (by rw [HNo h h3]; decide), HNo h h3]
      have HS' : Hid (¬ (g k ≤ ((M.cl b n g k).2.1 : Int) ∨ (n : Int) < g k) → M.ft b (M.cl b n g k).2.1 (g k).toNat = true → M.cl b n g (k + 1) = (0, (g k).toNat, (M.cl b n g k).2.2 + M.cs b n (M.cl b n g k).2.1 (g k).toNat)) := HS
      clear HF HNo HS HSt HQ hk q0
      generalize (M.cl b n g k).2.1 = A at *
      generalize (M.cl b n g k).2.2 = C at *
      by_cases d1 : g k ≤ (A : Int)
      · have hV := HF'.out (Or.inl d1)
        subst hV
        clear HF' HN' HS'
        go_wp2_with fail
        go_returns
        exact ⟨rfl, hbr⟩
      by_cases d2 : (n : Int) < g k
      · have hV := HF'.out (Or.inr d2)
        subst hV
        clear HF' HN' HS'
        go_wp2_with fail
        go_returns
        exact ⟨rfl, hbr⟩
      have hno : ¬ (g k ≤ (A : Int) ∨ (n : Int) < g k) := by omega
      replace HN' : Hid (M.ft b A (g k).toNat = false → Q = (0, 6)) := HN'.out hno
      replace HS' : Hid (M.ft b A (g k).toNat = true → M.cl b n g (k + 1) = (0, (g k).toNat, C + M.cs b n A (g k).toNat)) := HS'.out hno
      clear HF' hno
      obtain ⟨E, hE⟩ : ∃ E : Nat, g k = (E : Int) := ⟨(g k).toNat, by omega⟩
      rw [hE] at HN' HS' d1 d2 r0
      rw [Int.toNat_natCast] at HN' HS'
      clear hE
      have HL := fun w h => Line_any b ao n c A E w h hc hcm hr hn w1b w2b (by omega) (by omega)
      have cb := M.cs_bd hr hn w1b w2b (a := A) (e := E) (by omega) (by omega)
      cases hf : M.ft b A E
      · rw [hf] at HN' HL
        have hV := HN'.out rfl
        subst hV
        clear HN' HS'
        go_wp2_with fail
        refine (HL _ (hp.step hbr)).mono ?_
        rintro e w2 ⟨rfl, hb2⟩
        go_wp2_with fail
        go_returns
        exact ⟨rfl, hbr.trans (hb2.mono hbr.size)⟩
      · rw [hf, if_pos rfl] at HL
        rw [hf] at HS'
        have hV : Hid (M.cl b n g (k + 1) = (0, E, C + M.cs b n A E)) := HS'.out rfl
        clear HN' HS'
        generalize M.cs b n A E = K at *
        have cbb : C + K ≤ 9223372036854775807 := by omega
        go_wp2_with fail
        refine (HL _ (hp.step hbr)).mono ?_
        rintro e w2 ⟨rfl, hb2⟩
        have k4 : Below w.heap.size w w2 := hbr.trans (hb2.mono hbr.size)
        clear HL hb2
        go_wp2_with fail
        go_roundw
        case rel => exact ⟨k + 1, by omega, by go_num, by show (M.cl b n g (k + 1)).1 = 0; rw [hV.out], by rw [hV.out], by rw [hV.out], k4⟩
        case measure => simp [intOf]; omega
    · obtain rfl : k = m := by omega
      by_cases h5 : (M.cl b n g k).2.1 < n
      · have hV : Q = (0, 8) := by have := HQ.out; rw [if_pos hk.out, if_pos h5] at this; exact this
        subst hV
        clear HQ hk
        generalize (M.cl b n g k).2.1 = A at *
        generalize (M.cl b n g k).2.2 = C at *
        go_wp2_with fail
        go_returns
        exact ⟨rfl, hbr⟩
      · have hV : Q = ((M.cl b n g k).2.2, 0) := by have := HQ.out; rw [if_pos hk.out, if_neg h5] at this; exact this
        clear HQ hk
        generalize (M.cl b n g k).2.1 = A at *
        generalize (M.cl b n g k).2.2 = C at *
        subst hV
        go_wp2_with fail
        go_returns
        exact ⟨rfl, hbr⟩
end Go.Proofs.Ytiffppnaaenalag.V
