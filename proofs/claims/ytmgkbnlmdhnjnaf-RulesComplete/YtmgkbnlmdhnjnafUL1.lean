/- The law RulesComplete: its walk. -/
import Derived.Test.YtmgkbnlmdhnjnafU13
namespace Go.Proofs.Ytmgkbnlmdhnjnaf.U
open Go.RowKit Go.Maps Go.Sort
set_option linter.unusedVariables false
set_option linter.unusedSimpArgs false

theorem M.cn_ok {r : M.Ru} {g : Nat → Int} {n : Nat} (h : M.wr r g n = 0) : M.cn r g n = M.ct r g n n (-1) false := by unfold M.cn; rw [if_pos h]
theorem M.cn_no {r : M.Ru} {g : Nat → Int} {n : Nat} (h : M.wr r g n ≠ 0) : M.cn r g n = 0 := by unfold M.cn; rw [if_neg h]

set_option maxRecDepth 100000 in
set_option maxHeartbeats 8000000 in
theorem complete_walk (r : M.Ru) (ao : Option Addr) (n c : Nat) (g : Nat → Int) (bo : Option Addr) (l d : Nat) (y : Nat → Int) (w : World) (hp : LI w ao n g) (hc : n ≤ c) (hcm : c ≤ 9223372036854775807) (hq : LI w bo l y) (hd : l ≤ d) (hdm : d ≤ 9223372036854775807) :
    Calls Try.prog 3 #[.agg #[.int .i64 r.low, .int .i64 r.high, .bool r.above, .int .i64 r.leap, .int .i64 r.classes], .slice ao n c, .slice bo l d] w fun e w' => e = .returned (.bool true) ∧ Below w.heap.size w w' := by
  have HF := fun w hp => Find_any r ao n c g w hp hc hcm
  have HC := fun w hp => Count_any r ao n c g w hp hc hcm
  have HK := fun w hp hq => Check_any r ao n c g bo l d y w hp hc hcm hq hd hdm
  go_enter Try.func3, Try.ntmps3
  go_wp2_with fail
  obtain ⟨W, hW⟩ : ∃ x, x = w.alloc (.cells #[.int .i64 r.low, .int .i64 r.high, .bool r.above, .int .i64 r.leap, .int .i64 r.classes] 23) := ⟨_, rfl⟩
  rw [← hW]
  have hbW : Below w.heap.size w W := by rw [hW]; go_grown
  have sW : w.heap.size < W.heap.size := by rw [hW]; simp
  have q0 : W.cell? ⟨w.heap.size, 0, none⟩ = some (.int .i64 r.low) := by rw [hW]; simp [go_sem]
  have q1 : W.cell? ⟨w.heap.size, 1, none⟩ = some (.int .i64 r.high) := by rw [hW]; simp [go_sem]
  have q2 : W.cell? ⟨w.heap.size, 2, none⟩ = some (.bool r.above) := by rw [hW]; simp [go_sem]
  have q3 : W.cell? ⟨w.heap.size, 3, none⟩ = some (.int .i64 r.leap) := by rw [hW]; simp [go_sem]
  have q4 : W.cell? ⟨w.heap.size, 4, none⟩ = some (.int .i64 r.classes) := by rw [hW]; simp [go_sem]
  clear hW
  have kW := hbW
  refine (alive_any _).mono ?_
  rintro e w1 ⟨rfl, hb⟩
  have kw1 : Below w.heap.size w w1 := kW.trans (hb.mono kW.size)
  have sw1 : w.heap.size < w1.heap.size := by have := hb.size; omega
  replace q0 := keepC hb sW q0
  replace q1 := keepC hb sW q1
  replace q2 := keepC hb sW q2
  replace q3 := keepC hb sW q3
  replace q4 := keepC hb sW q4
  skip
  clear hb
  go_wp2_with fail
  refine (HF _ (hp.step kw1)).mono ?_
  rintro e w2 ⟨⟨fo, m, fd, x, E, rfl, hmd, hfd, hli, hFn⟩, hb⟩
  have kw2 : Below w.heap.size w w2 := kw1.trans (hb.mono kw1.size)
  have sw2 : w.heap.size < w2.heap.size := by have := hb.size; omega
  replace q0 := keepC hb sw1 q0
  replace q1 := keepC hb sw1 q1
  replace q2 := keepC hb sw1 q2
  replace q3 := keepC hb sw1 q3
  replace q4 := keepC hb sw1 q4
  skip
  clear hb
  have hFn' : Hid (FnR r g n x m E) := hFn
  clear hFn
  go_wp2_with fail
  refine (HC _ (hp.step kw2)).mono ?_
  rintro e w3 ⟨rfl, hb⟩
  have kw3 : Below w.heap.size w w3 := kw2.trans (hb.mono kw2.size)
  have sw3 : w.heap.size < w3.heap.size := by have := hb.size; omega
  replace q0 := keepC hb sw2 q0
  replace q1 := keepC hb sw2 q1
  replace q2 := keepC hb sw2 q2
  replace q3 := keepC hb sw2 q3
  replace q4 := keepC hb sw2 q4
  replace hli := hli.step hb
  clear hb
  by_cases hw : M.wr r g n = 0
  rotate_left
  · obtain ⟨h1, h2⟩ : m = 0 ∧ E = M.wr r g n := by
      rcases hFn'.out with h | h | h
      · exact h.2
      · exact absurd h.1 hw
      · exact absurd h.1 hw
    subst h2
    have hcn := M.cn_no hw
    rw [hcn]
    have hwv := M.wr_vals (r := r) (g := g) (n := n)
    have t1 : (M.wr r g n == 0) = false := by simp [hw]
    have t2 : (M.wr r g n != 0) = true := by simp [hw]
    have t3 : (M.wr r g n == 6) = false := by rcases hwv with h | h | h <;> simp [h]
    have HKW : Hid (∀ W I E, CkR r g n y l W I E → W = 0 ∧ I = 0 ∧ E = M.wr r g n) := fun W I E h => CkR.wrong hw h
    clear hcn hwv hw hFn'
    generalize M.wr r g n = X at *
    go_wp2_with fail
    refine (HK _ (hp.step kw3) (hq.step kw3)).mono ?_
    rintro e w4 ⟨⟨W', I', E', rfl, hck⟩, hb⟩
    obtain ⟨u1, u2, u3⟩ := HKW.out _ _ _ hck
    clear HKW hck
    subst u1 u2 u3
    go_wp2_with fail
    go_returns
    exact ⟨rfl, kw3.trans (hb.mono kw3.size)⟩
  have hcn := M.cn_ok hw
  have hw0 := hw
  rw [hcn, hw]
  obtain ⟨z1, z2, z3, hr⟩ := M.wr_zero hw
  rcases hFn'.out with h | ⟨_, h1, h2, h3⟩ | ⟨_, h1, h2, h3⟩
  · exact absurd hw h.1
  · subst h1 h2
    rw [h3]
    have HNo : Hid (∀ I, CkR r g n y l 0 I 0 → False) := fun I h => by
      have := (CkR.fine h).2.2.all hr
      rw [h3] at this; omega
    clear hcn hw hw0 h3 hFn'
    go_wp2_with fail
    refine (HK _ (hp.step kw3) (hq.step kw3)).mono ?_
    rintro e w4 ⟨⟨W', I', E', rfl, hck⟩, hb⟩
    by_cases u1 : E' = 0
    · by_cases u2 : W' = 0
      · subst u1 u2; exact absurd (HNo.out _ hck) id
      · have v1 : (E' != 0) = false := by simp [u1]
        have v2 : (W' != 0) = true := by simp [u2]
        clear HNo hck u1 u2
        go_wp2_with fail
        go_returns
        exact ⟨rfl, kw3.trans (hb.mono kw3.size)⟩
    · have v1 : (E' != 0) = true := by simp [u1]
      clear HNo hck u1
      go_wp2_with fail
      go_returns
      exact ⟨rfl, kw3.trans (hb.mono kw3.size)⟩
  · subst h1 h2
    have hpos : 1 ≤ M.ct r g m m (-1) false := by have := (FQ.fine h3).all hr; omega
    have HKX := fun w hp hq => Check_any r ao m c g fo m fd x w hp hc hcm hq hmd hfd
    have HX : Hid (∀ W I E, CkR r g m x m W I E → W = 0 ∧ E = 0) := fun W I E h => CkR.found hw h3 h
    have HLs : Hid (∀ I, CkR r g m y l 0 I 0 → m ≤ l ∧ ∀ i, i < m → (∀ j, j < i → x j = y j) → x i ≤ y i) := fun I h => by
      obtain ⟨u1, u2, u3⟩ := CkR.fine h
      exact ⟨by omega, fun i hi he => FQ.first hr h3 u3 hi he⟩
    have HLe := fun w hp hq hnm hl => Less_yes fo bo m fd l d x y w hp hmd hfd hq hd hdm hnm hl
    clear hcn hw hw0 h3 hFn'
    generalize M.ct r g m m (-1) false = CT at *
    have p1 : ¬ CT < 1 := by omega
    go_wp2_with fail
    refine (HKX _ (hp.step kw3) hli).mono ?_
    rintro e w4 ⟨⟨W', I', E', rfl, hck⟩, hb⟩
    have kw4 : Below w.heap.size w w4 := kw3.trans (hb.mono kw3.size)
    have sw4 : w.heap.size < w4.heap.size := by have := hb.size; omega
    replace q0 := keepC hb sw3 q0
    replace q1 := keepC hb sw3 q1
    replace q2 := keepC hb sw3 q2
    replace q3 := keepC hb sw3 q3
    replace q4 := keepC hb sw3 q4
    replace hli := hli.step hb
    clear hb
    obtain ⟨u1, u2⟩ := HX.out _ _ _ hck
    subst u1 u2
    clear hck HX HKX
    go_wp2_with fail
    refine (HK _ (hp.step kw4) (hq.step kw4)).mono ?_
    rintro e w5 ⟨⟨W', I2, E', rfl, hck⟩, hb⟩
    have kw5 : Below w.heap.size w w5 := kw4.trans (hb.mono kw4.size)
    have sw5 : w.heap.size < w5.heap.size := by have := hb.size; omega
    replace q0 := keepC hb sw4 q0
    replace q1 := keepC hb sw4 q1
    replace q2 := keepC hb sw4 q2
    replace q3 := keepC hb sw4 q3
    replace q4 := keepC hb sw4 q4
    replace hli := hli.step hb
    clear hb
    by_cases u1 : E' = 0
    · by_cases u2 : W' = 0
      · subst u1 u2
        obtain ⟨hnm, hl⟩ := HLs.out _ hck
        clear HLs hck
        go_wp2_with fail
        refine (HLe _ hli (hq.step kw5) hnm hl).mono ?_
        rintro e w6 ⟨rfl, hb⟩
        go_wp2_with fail
        go_returns
        exact ⟨rfl, kw5.trans (hb.mono kw5.size)⟩
      · have v1 : (E' != 0) = false := by simp [u1]
        have v2 : (W' != 0) = true := by simp [u2]
        clear HLs hck u1 u2 HLe
        go_wp2_with fail
        go_returns
        exact ⟨rfl, kw5⟩
    · have v1 : (E' != 0) = true := by simp [u1]
      clear HLs hck u1 HLe
      go_wp2_with fail
      go_returns
      exact ⟨rfl, kw5⟩
end Go.Proofs.Ytmgkbnlmdhnjnaf.U
