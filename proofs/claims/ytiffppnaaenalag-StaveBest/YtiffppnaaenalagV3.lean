/- What the program's Cost comes to. -/
import Derived.Test.YtiffppnaaenalagV2
namespace Go.Proofs.Ytiffppnaaenalag.V
open Go.RowKit
set_option linter.unusedVariables false
set_option linter.unusedSimpArgs false

/-- The boxes from a on. -/
def sh (b : M.Bx) (a : Nat) : M.Bx := ⟨b.wide, fun j => b.W (a + j), fun j => b.G (a + j)⟩
theorem sh_rt {b : M.Bx} {n a m : Nat} (h : M.rt b n) (ha : a + m ≤ n) : M.rt (sh b a) m := fun j hj => h (a + j) (by omega)
theorem BL.from {w : World} {q off n : Nat} {b : M.Bx} {a m : Nat} (h : BL w (some ⟨q, off, none⟩) n b) (hm : a + m ≤ n) : BL w (some ⟨q, off + a * 2, none⟩) m (sh b a) := by
  refine ⟨fun hn => ?_⟩
  obtain ⟨q', off', e, h2, h3, h4⟩ := h.at' (by omega)
  cases e
  refine ⟨q, _, rfl, h2, fun j hj => ?_, fun j hj => ?_⟩
  · rw [show off + a * 2 + j * 2 = off + (a + j) * 2 by omega]; exact h3 (a + j) (by omega)
  · rw [show off + a * 2 + j * 2 + 1 = off + (a + j) * 2 + 1 by omega]; exact h4 (a + j) (by omega)
/-- What Cost answers. -/
def cw (b : M.Bx) (n : Nat) (g : Nat → Int) (m : Nat) : Int × Int := if M.wr b n = 0 then M.cq b n g m else (0, M.wr b n)

set_option maxHeartbeats 8000000 in
theorem Cost_any (b : M.Bx) (ao : Option Addr) (n c : Nat) (bo : Option Addr) (m d : Nat) (g : Nat → Int) (w : World) (hp : BL w ao n b) (hc : n ≤ c) (hcm : c ≤ 9223372036854775807) (hq : LI w bo m g) (hd : m ≤ d) (hdm : d ≤ 9223372036854775807) :
    Calls Try.prog 11 #[.slice ao n c, .int .i64 b.wide, .slice bo m d] w fun e w' => e = .returned (.tuple #[.int .i64 (cw b n g m).1, .int .i64 (cw b n g m).2]) ∧ Below w.heap.size w w' := by
  have HW := fun w hp => Wrong_any b ao n c w hp hc hcm
  by_cases hw : M.wr b n = 0
  rotate_left
  · have hw' : (M.wr b n != 0) = true := by simp [hw]
    have e1 : cw b n g m = (0, M.wr b n) := by unfold cw; rw [if_neg hw]
    rw [e1]
    clear e1 hw
    generalize M.wr b n = X at *
    go_enter Try.func11, Try.ntmps11
    go_wp2_with fail
    refine (HW _ (hp.step (by go_grown))).mono ?_
    rintro e w1 ⟨rfl, hb1⟩
    go_wp2_with fail
    go_returns
    exact ⟨rfl, hb1⟩
  obtain ⟨hn, w1b, w2b, hr⟩ := M.wr_zero hw
  have e1 : cw b n g m = M.cq b n g m := by unfold cw; rw [if_pos hw]
  rw [hw] at HW
  rw [e1]
  have HQ : Hid (M.cq b n g m = if (M.cl b n g m).1 = 0 then (if (M.cl b n g m).2.1 < n then (0, 8) else ((M.cl b n g m).2.2, 0)) else (0, (M.cl b n g m).1)) := rfl
  clear e1 hw
  generalize M.cq b n g m = Q at *
  go_enter Try.func11, Try.ntmps11
  go_wp2_with fail
  refine (HW _ hp).mono ?_
  rintro e w1 ⟨rfl, hb1⟩
  clear HW
  go_wp2_with fail
  go_loopw [9, 10, 22] (fun cst st i wr => ∃ k : Nat, k ≤ m ∧ i = .int .i64 (k : Int) ∧ Hid ((M.cl b n g k).1 = 0) ∧ st = .int .i64 ((M.cl b n g k).2.1 : Int) ∧ cst = .int .i64 (M.cl b n g k).2.2 ∧ Below w.heap.size w wr) (fun _ _ i _ => m - (intOf i).toNat)
  case atStart => exact ⟨0, by omega, rfl, rfl, rfl, rfl, hb1⟩
  case round =>
    obtain ⟨k, hkm, rfl, hk, rfl, rfl, hbr⟩ := hrel
    clear hb1
    obtain ⟨i1, i2, i3, i4⟩ := M.cl_wy hk.out
    have l1 := M.wy_len i1
    rw [M.ls_len] at l1
    have c1 := M.co_bd hr hn w1b w2b i1
    rw [← i2, M.ls_len] at c1
    clear i1 i2 i4
    by_cases hlt : k < m
    · obtain ⟨q2, off2, rfl, hbl2, q0⟩ := (hq.step hbr).at' (by omega)
      have r0 := q0 k hlt
      have w3 : IntKind.i64.wrap ((k : Int) + 1) = (k : Int) + 1 := wid (by omega) (by omega)
      have HF := M.cl_fit hk.out
      have HNo := M.cl_none hk.out
      have HS := M.cl_step hk.out
      have HSt : Hid ((M.cl b n g (k + 1)).1 ≠ 0 → Q = (0, (M.cl b n g (k + 1)).1)) := fun h => by
        have h2 := M.cl_stay h (m - (k + 1))
        rw [show k + 1 + (m - (k + 1)) = m by omega] at h2
        rw [HQ.out, h2, if_neg h]
      have HF' : Hid (g k ≤ ((M.cl b n g k).2.1 : Int) ∨ (n : Int) < g k → Q = (0, 8)) := fun h => by rw [HSt.out (by rw [HF h]; decide), HF h]
      have HN' : Hid (¬ (g k ≤ ((M.cl b n g k).2.1 : Int) ∨ (n : Int) < g k) → M.ft b (M.cl b n g k).2.1 (g k).toNat = false → Q = (0, 6)) := fun h h3 => by rw [HSt.out (by rw [HNo h h3]; decide), HNo h h3]
      have HS' : Hid (¬ (g k ≤ ((M.cl b n g k).2.1 : Int) ∨ (n : Int) < g k) → M.ft b (M.cl b n g k).2.1 (g k).toNat = true → M.cl b n g (k + 1) = (0, (g k).toNat, (M.cl b n g k).2.2 + M.cs b n (M.cl b n g k).2.1 (g k).toNat)) := HS
      clear HF HNo HS HSt HQ hk q0
      generalize (M.cl b n g k).2.1 = A at *
      generalize (M.cl b n g k).2.2 = C at *
      by_cases d1 : g k ≤ (A : Int)
      · have hV := HF'.out (Or.inl d1)
        subst hV
        clear HF' HN' HS'
        go_wp2_with fail
        go_returns
        exact ⟨rfl, hbr⟩
      by_cases d2 : (n : Int) < g k
      · have hV := HF'.out (Or.inr d2)
        subst hV
        clear HF' HN' HS'
        go_wp2_with fail
        go_returns
        exact ⟨rfl, hbr⟩
      have hno : ¬ (g k ≤ (A : Int) ∨ (n : Int) < g k) := by omega
      replace HN' : Hid (M.ft b A (g k).toNat = false → Q = (0, 6)) := HN'.out hno
      replace HS' : Hid (M.ft b A (g k).toNat = true → M.cl b n g (k + 1) = (0, (g k).toNat, C + M.cs b n A (g k).toNat)) := HS'.out hno
      clear HF' hno
      obtain ⟨E, hE⟩ : ∃ E : Nat, g k = (E : Int) := ⟨(g k).toNat, by omega⟩
      rw [hE] at HN' HS' d1 d2 r0
      rw [Int.toNat_natCast] at HN' HS'
      clear hE
      obtain ⟨q, off, rfl, hbl, _⟩ := (hp.step hbr).at' (by omega)
      have hsub := fun w (h : BL w (some ⟨q, off, none⟩) n b) => BL.from (a := A) (m := E - A) h (by omega)
      have hrs : M.rt (sh b A) (E - A) := sh_rt hr (by omega)
      have HL := fun w h => lineOf_any (sh b A) (some ⟨q, off + A * 2, none⟩) (E - A) (c - A) w (hsub w h) (by omega) (by omega) hrs (by omega)
      have es1 : M.sm (sh b A).W 0 (E - A) = M.sm b.W A (E - A) := M.sm_shift b.W A 0 (E - A)
      have es2 : M.sm (sh b A).G 0 (E - A) = M.sm b.G A (E - A) := M.sm_shift b.G A 0 (E - A)
      rw [es1, es2] at HL
      clear es1 es2 hsub hrs
      have b1 := M.sm_bd (f := b.W) (n := n) (lo := 0) (hi := 10000) (fun j hj => by have := hr j hj; omega) A (E - A) (by omega)
      have b2 := M.sm_bd (f := b.G) (n := n) (lo := 0) (hi := 10000) (fun j hj => by have := hr j hj; omega) A (E - A) (by omega)
      have cb := M.cs_bd hr hn w1b w2b (a := A) (e := E) (by omega) (by omega)
      have ef : M.ft b A E = decide (M.sm b.W A (E - A) - M.sm b.G A (E - A) ≤ b.wide) := rfl
      have ec : M.cs b n A E = M.cz (M.sm b.W A (E - A)) b.wide (decide (E = n)) := rfl
      rw [ef] at HN' HS'
      have HC := fun w => costs_any (M.sm b.W A (E - A)) (M.sm b.G A (E - A)) b.wide (decide (E = n)) w (by omega) (by omega) w1b w2b
      have HFi := fun w => fits_any (M.sm b.W A (E - A)) (M.sm b.G A (E - A)) b.wide w (by omega) (by omega)
      rw [← ec] at HC
      clear ef ec
      have hEA : ((E : Int) - (A : Int)).toNat = E - A := by omega
      have hEA2 : ¬ (E : Int) < A := by omega
      have hcE : (E : Int) ≤ c := by omega
      have hcb : (E : Int) < 9223372036854775808 := by omega
      generalize M.cs b n A E = K at *
      generalize M.sm b.W A (E - A) = S at *
      generalize M.sm b.G A (E - A) = T at *
      have hA9 : A ≠ c := by omega
      have hdn : decide (E = n) = ((E : Int) == (n : Int)) := by by_cases h : E = n <;> simp [h]; omega
      rw [hdn] at HC
      clear hdn
      go_wp2_with fail
      refine (HL _ (hp.step hbr)).mono ?_
      rintro e w2 ⟨rfl, hb2⟩
      have k2 : Below w.heap.size w w2 := hbr.trans (hb2.mono hbr.size)
      clear HL hb2
      go_wp2_with fail
      refine (HFi _).mono ?_
      rintro e w3 ⟨rfl, hb3⟩
      have k3 : Below w.heap.size w w3 := (k2.alloc k2.size _).trans (hb3.mono (by have := k2.size; simp; omega))
      have p0 := keepC hb3 (b := w2.heap.size) (o := 0) (v := .int .i64 S) (by simp) (by simp [go_sem])
      have p1 := keepC hb3 (b := w2.heap.size) (o := 1) (v := .int .i64 T) (by simp) (by simp [go_sem])
      have z3 : w2.heap.size < w3.heap.size := by have := hb3.size; simp at this; omega
      clear HFi hb3
      cases hf : decide (S - T ≤ b.wide)
      · rw [hf] at HN'
        have hV := HN'.out rfl
        subst hV
        clear HN' HS'
        go_wp2_with fail
        go_returns
        exact ⟨rfl, k3⟩
      · rw [hf] at HS'
        have hV : Hid (M.cl b n g (k + 1) = (0, E, C + K)) := HS'.out rfl
        clear HN' HS'
        go_wp2_with fail
        refine (HC _).mono ?_
        rintro e w4 ⟨rfl, hb4⟩
        have k4 : Below w.heap.size w w4 := k3.trans (hb4.mono k3.size)
        have cbb : C + K ≤ 9223372036854775807 := by omega
        clear HC hb4
        go_wp2_with fail
        go_roundw
        case rel => exact ⟨k + 1, by omega, by go_num, by show (M.cl b n g (k + 1)).1 = 0; rw [hV.out], by rw [hV.out], by rw [hV.out], k4⟩
        case measure => simp [intOf]; omega
    · obtain rfl : k = m := by omega
      by_cases h5 : (M.cl b n g k).2.1 < n
      · have hV : Q = (0, 8) := by have := HQ.out; rw [if_pos hk.out, if_pos h5] at this; exact this
        subst hV
        clear HQ hk
        generalize (M.cl b n g k).2.1 = A at *
        generalize (M.cl b n g k).2.2 = C at *
        go_wp2_with fail
        go_returns
        exact ⟨rfl, hbr⟩
      · have hV : Q = ((M.cl b n g k).2.2, 0) := by have := HQ.out; rw [if_pos hk.out, if_neg h5] at this; exact this
        clear HQ hk
        generalize (M.cl b n g k).2.1 = A at *
        generalize (M.cl b n g k).2.2 = C at *
        subst hV
        go_wp2_with fail
        go_returns
        exact ⟨rfl, hbr⟩
end Go.Proofs.Ytiffppnaaenalag.V
