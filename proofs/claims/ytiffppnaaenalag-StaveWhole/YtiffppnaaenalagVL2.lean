/- The law StaveWhole: its walk. -/
import Derived.Test.YtiffppnaaenalagVL1
namespace Go.Proofs.Ytiffppnaaenalag.V
open Go.RowKit Go.Sort Go.Maps
set_option linter.unusedVariables false
set_option linter.unusedSimpArgs false

set_option maxRecDepth 20000 in
set_option maxHeartbeats 8000000 in
theorem whole_walk (b : M.Bx) (ao : Option Addr) (n c : Nat) (w : World) (hp : BL w ao n b) (hc : n ≤ c) (hcm : c ≤ 9223372036854775807) :
    Calls Try.prog 5 #[.slice ao n c, .int .i64 b.wide] w fun e w' => e = .returned (.bool true) ∧ Below w.heap.size w w' := by
  have HB := fun w hp => Break_any b ao n c w hp hc hcm
  have HW := fun w hp => Wrong_any b ao n c w hp hc hcm
  go_enter Try.func5, Try.ntmps5
  go_wp2_with fail
  refine (alive_any _).mono ?_
  rintro e w1 ⟨rfl, k1⟩
  go_wp2_with fail
  refine (HB _ (hp.step k1)).mono ?_
  rintro e w2 ⟨⟨xo, m, xd, x, C, E, rfl, h1, h2, hli, hB⟩, hb2⟩
  have k2 : Below w.heap.size w w2 := k1.trans (hb2.mono k1.size)
  have hB' : Hid (M.BrR b n x m C E) := hB
  clear HB hb2 hB k1
  go_wp2_with fail
  refine (HW _ (hp.step k2)).mono ?_
  rintro e w3 ⟨rfl, hb3⟩
  have k3 : Below w.heap.size w w3 := k2.trans (hb3.mono k2.size)
  have hli3 := hli.step hb3
  clear HW hb3 hli
  by_cases hw : M.wr b n = 0
  rotate_left
  · have hw' : (M.wr b n != 0) = true := by simp [hw]
    have hE : E = M.wr b n := by
      rcases hB'.out with ⟨_, _, _, h⟩ | ⟨h, _⟩ | ⟨h, _⟩
      · exact h
      · exact absurd h hw
      · exact absurd h hw
    subst hE
    clear hB' hw
    generalize M.wr b n = X at *
    go_wp2_with fail
    go_ret
    exact ⟨rfl, k3⟩
  obtain ⟨hn, w1b, w2b, hr⟩ := M.wr_zero hw
  rw [hw]
  have HF1 : Hid (fb b n = true → E = 0) := fun h => by
    obtain ⟨l, hl⟩ := ways_are (fb_iff.1 h) n (Nat.le_refl n)
    rw [Nat.sub_self] at hl
    exact BrR.some hB'.out hw hl
  have HF2 : Hid (fb b n = false → E = 6) := fun h => by
    refine BrR.none hB'.out hw (fun l hl => ?_)
    have : fb b n = true := fb_iff.2 (fun j hj => ways_fit hr hl j (by omega) hj)
    rw [h] at this; exact absurd this (by decide)
  go_wp2_with fail
  go_loopw [8, 33] (fun f i wr => ∃ k : Nat, k ≤ n ∧ i = .int .i64 (k : Int) ∧ f = .bool (fb b k) ∧ Below w3.heap.size w3 wr) (fun _ i _ => n - (intOf i).toNat)
  case atStart => exact ⟨0, by omega, rfl, rfl, Below.refl _ _⟩
  case round =>
    obtain ⟨k, hkn, rfl, rfl, hbr⟩ := hrel
    have k4 : Below w.heap.size w wr := k3.trans (hbr.mono k3.size)
    by_cases hlt : k < n
    · obtain ⟨q, off, rfl, hbl, q0, q1⟩ := (hp.step k4).at' (by omega)
      have r0 := q0 k hlt
      have r1 := q1 k hlt
      have w3' : IntKind.i64.wrap ((k : Int) + 1) = (k : Int) + 1 := wid (by omega) (by omega)
      have hBx := hr k hlt
      have HE : Hid (fb b (k + 1) = (fb b k && decide (b.W k - b.G k ≤ b.wide))) := rfl
      clear q0 q1 HF1 HF2 hB'
      generalize b.W k = X at *
      generalize b.G k = Y at *
      have wxy : IntKind.i64.wrap (X - Y) = X - Y := wid (by omega) (by omega)
      cases hf : fb b k
      · rw [hf] at HE
        have HE2 : Hid (fb b (k + 1) = false) := HE.out
        clear HE hf
        go_wp2_with fail
        go_roundw
        case rel => exact ⟨k + 1, by omega, by go_num, by rw [HE2.out], hbr.alloc hbr.size _⟩
        case measure => simp [intOf]; omega
      · rw [hf] at HE
        have HE2 : Hid (fb b (k + 1) = decide (X - Y ≤ b.wide)) := HE.out
        clear HE hf
        go_wp2_with fail
        go_roundw
        case rel => exact ⟨k + 1, by omega, by go_num, by rw [HE2.out], hbr.alloc hbr.size _⟩
        case measure => simp [intOf]; omega
    obtain rfl : k = n := by omega
    have hli4 := hli3.step hbr
    clear hbr hli3 k3
    cases hf : fb b k
    · obtain rfl := HF2.out hf
      clear HF1 HF2 hB' hf
      go_wp2_with fail
      go_ret
      exact ⟨rfl, k4⟩
    obtain rfl := HF1.out hf
    clear HF1 HF2 hf
    by_cases hk0 : k = 0
    · obtain ⟨_, g2, _, g3, _⟩ := BrR.cost hB'.out
      have hm : m = 0 := by have := M.wy_len g2.1; rw [M.ls_len] at this; omega
      have hC : C = 0 := by rw [g3, hm]; rfl
      subst hk0 hm hC
      clear hB' g2 g3
      go_wp2_with fail
      go_ret
      exact ⟨rfl, k4⟩
    obtain ⟨hm0, A, hA0, hA1, hA2, hBeh⟩ := BrR.behind hB'.out (by omega)
    have e1 := (BrR.cost hB'.out).1
    have HC2 := fun w hp hq => Cost_any b ao k c xo m xd x w hp hc hcm hq h1 h2
    rw [e1] at HC2
    have hBeh' : Hid (∀ (y : Nat → Int) (q : Nat) (D E : Int), M.BrR (sh b A) (k - A) y q D E → E = 0 ∧ q + 1 = m ∧ D ≤ C ∧ ∀ j, j < q → y j + A = x (j + 1)) := hBeh
    obtain ⟨q, off, rfl, hbl, _⟩ := (hp.step k4).at' (by omega)
    obtain ⟨q2, off2, rfl, hbl2, q0⟩ := hli4.at' (by omega)
    have r0 := q0 0 (by omega)
    rw [hA0, Nat.add_zero] at r0
    have hkk : ((k : Int) == 0) = false := by simp; omega
    have hmm : ((m : Int) == 0) = false := by simp; omega
    have hA3 : ¬ (A : Int) < 1 := by omega
    have hA4 : ¬ (k : Int) < (A : Int) := by omega
    have hkc : (k : Int) ≤ c := by omega
    have hsub : ∀ W, Below wr.heap.size wr W → BL W (if A = c then some ⟨q, off, none⟩ else some ⟨q, off + A * 2, none⟩) (k - A) (sh b A) := fun W hW => by
      by_cases hAc : A = c
      · exact ⟨fun h => by omega⟩
      · rw [if_neg hAc]; exact ((hp.step k4).step hW).from (by omega)
    have hA0' : Hid (x 0 = (A : Int)) := hA0
    have hxb : Hid (∀ j, j < m → 0 ≤ x j ∧ x j ≤ k) := (BrR.cost hB'.out).2.2.2.2
    clear hB' hBeh e1 hA0 q0
    by_cases hAc : A = c
    · rw [if_pos hAc] at hsub
      have ez : k - A = 0 := by omega
      have ey : c - A = 0 := by omega
      rw [ez] at hsub hBeh'
      have HBb := fun w hp => Break_any (sh b A) (some ⟨q, off, none⟩) 0 0 w hp (by omega) (by omega)
      go_wp2_with fail
      refine (HBb _ (hsub _ (Below.refl _ _))).mono ?_
      rintro e w5 ⟨⟨yo, mk, yd, y, D, E2, rfl, g1, g2, hly, hB2⟩, hb5⟩
      obtain ⟨rfl, hkm, hDC, hyx⟩ := hBeh'.out y mk D E2 hB2
      have hyx' : Hid (∀ j, j < mk → y j + A = x (j + 1)) := hyx
      have k5 : Below w.heap.size w w5 := k4.trans (hb5.mono k4.size)
      have hli5 := hli4.step hb5
      have hnm : ((mk : Int) + 1 != (m : Int)) = false := by simp; omega
      have hDC' : ¬ C < D := by omega
      have hyb : Hid (∀ s, s < mk → -10000000 ≤ y s ∧ y s ≤ 10000000) := fun s hs => by
        have h7 := hyx'.out s hs
        have h8 := hxb.out (s + 1) (by omega)
        omega
      clear HBb hB2 hb5 hBeh' hyx hsub r0 hli4
      go_wp2_with fail
      refine (HC2 _ (BL.step hp k5) hli5).mono ?_
      rintro e w6 ⟨rfl, hb6⟩
      have k6 : Below w.heap.size w w6 := k5.trans (hb6.mono k5.size)
      have hli6 := hli5.step hb6
      have hly6 := hly.step hb6
      clear HC2 hb6 hli5 hly k5
      have wm : IntKind.i64.wrap ((mk : Int) + 1) = (mk : Int) + 1 := wid (by omega) (by omega)
      go_wp2_with fail
      go_loopw [126] (fun i wr => ∃ s : Nat, s ≤ mk ∧ i = .int .i64 (s : Int) ∧ Below w6.heap.size w6 wr) (fun i _ => mk - (intOf i).toNat)
      case atStart => exact ⟨0, by omega, rfl, Below.refl _ _⟩
      case round =>
        obtain ⟨s, hsm, rfl, hbs⟩ := hrel
        have k7 : Below w.heap.size w wr := k6.trans (hbs.mono k6.size)
        by_cases hlt : s < mk
        · obtain ⟨q3, off3, rfl, hbl3, y0⟩ := (hly6.step hbs).at' (by omega)
          obtain ⟨q4, off4, e4, hbl4, x0⟩ := (hli6.step hbs).at' (by omega)
          cases e4
          have r0 := x0 0 (by omega)
          have r1 := x0 (s + 1) (by omega)
          have r2 := y0 s hlt
          rw [← hyx'.out s hlt] at r1
          rw [hA0'.out, Nat.add_zero] at r0
          have ybd := hyb.out s hlt
          have w8 : IntKind.i64.wrap ((s : Int) + 1) = (s : Int) + 1 := wid (by omega) (by omega)
          have w9 : IntKind.i64.wrap (y s + (A : Int)) = y s + (A : Int) := wid (by omega) (by omega)
          clear x0 y0 hyx'
          generalize y s = Y at *
          have hs1 : ((s : Int) + 1) < (m : Int) := by omega
          have hs2 : s + 1 < m := by omega
          go_wp2_with fail
          go_quiet (fail)
          go_wp2_with fail
          go_roundw
          case rel => exact ⟨s + 1, by omega, by go_num, below_drewN hbs _⟩
          case measure => simp [intOf]; omega
        · obtain rfl : s = mk := by omega
          go_wp2_with fail
          go_ret
          exact ⟨rfl, k7⟩
    · rw [if_neg hAc] at hsub
      have HBb := fun w hp => Break_any (sh b A) (some ⟨q, off + A * 2, none⟩) (k - A) (c - A) w hp (by omega) (by omega)
      go_wp2_with fail
      refine (HBb _ (hsub _ (Below.refl _ _))).mono ?_
      rintro e w5 ⟨⟨yo, mk, yd, y, D, E2, rfl, g1, g2, hly, hB2⟩, hb5⟩
      obtain ⟨rfl, hkm, hDC, hyx⟩ := hBeh'.out y mk D E2 hB2
      have hyx' : Hid (∀ j, j < mk → y j + A = x (j + 1)) := hyx
      have k5 : Below w.heap.size w w5 := k4.trans (hb5.mono k4.size)
      have hli5 := hli4.step hb5
      have hnm : ((mk : Int) + 1 != (m : Int)) = false := by simp; omega
      have hDC' : ¬ C < D := by omega
      have hyb : Hid (∀ s, s < mk → -10000000 ≤ y s ∧ y s ≤ 10000000) := fun s hs => by
        have h7 := hyx'.out s hs
        have h8 := hxb.out (s + 1) (by omega)
        omega
      clear HBb hB2 hb5 hBeh' hyx hsub r0 hli4
      go_wp2_with fail
      refine (HC2 _ (BL.step hp k5) hli5).mono ?_
      rintro e w6 ⟨rfl, hb6⟩
      have k6 : Below w.heap.size w w6 := k5.trans (hb6.mono k5.size)
      have hli6 := hli5.step hb6
      have hly6 := hly.step hb6
      clear HC2 hb6 hli5 hly k5
      have wm : IntKind.i64.wrap ((mk : Int) + 1) = (mk : Int) + 1 := wid (by omega) (by omega)
      go_wp2_with fail
      go_loopw [126] (fun i wr => ∃ s : Nat, s ≤ mk ∧ i = .int .i64 (s : Int) ∧ Below w6.heap.size w6 wr) (fun i _ => mk - (intOf i).toNat)
      case atStart => exact ⟨0, by omega, rfl, Below.refl _ _⟩
      case round =>
        obtain ⟨s, hsm, rfl, hbs⟩ := hrel
        have k7 : Below w.heap.size w wr := k6.trans (hbs.mono k6.size)
        by_cases hlt : s < mk
        · obtain ⟨q3, off3, rfl, hbl3, y0⟩ := (hly6.step hbs).at' (by omega)
          obtain ⟨q4, off4, e4, hbl4, x0⟩ := (hli6.step hbs).at' (by omega)
          cases e4
          have r0 := x0 0 (by omega)
          have r1 := x0 (s + 1) (by omega)
          have r2 := y0 s hlt
          rw [← hyx'.out s hlt] at r1
          rw [hA0'.out, Nat.add_zero] at r0
          have ybd := hyb.out s hlt
          have w8 : IntKind.i64.wrap ((s : Int) + 1) = (s : Int) + 1 := wid (by omega) (by omega)
          have w9 : IntKind.i64.wrap (y s + (A : Int)) = y s + (A : Int) := wid (by omega) (by omega)
          clear x0 y0 hyx'
          generalize y s = Y at *
          have hs1 : ((s : Int) + 1) < (m : Int) := by omega
          have hs2 : s + 1 < m := by omega
          go_wp2_with fail
          go_quiet (fail)
          go_wp2_with fail
          go_roundw
          case rel => exact ⟨s + 1, by omega, by go_num, below_drewN hbs _⟩
          case measure => simp [intOf]; omega
        · obtain rfl : s = mk := by omega
          go_wp2_with fail
          go_ret
          exact ⟨rfl, k7⟩
end Go.Proofs.Ytiffppnaaenalag.V
