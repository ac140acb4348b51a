/- The document's Breaks: behind another key. -/
import Derived.Test.YtmgkbnlmdhnjnaeUR2a
namespace Go.Proofs.Ytmgkbnlmdhnjnae.U
open Go.RowKit Go.Maps Go.Sort
set_option linter.unusedVariables false
set_option linter.unusedSimpArgs false

set_option maxRecDepth 100000 in
set_option maxHeartbeats 40000000 in
theorem Breaks_behind (r : M.Ru) (ao : Option Addr) (n c i : Nat) (g : Nat → Int) (bo : Option Addr) (l d : Nat) (x : Nat → Int) (w : World) (hp : LI w ao n g) (hc : n ≤ c) (hcm : c ≤ 9223372036854775807) (hq : LI w bo l x) (hd : l ≤ d) (hdm : d ≤ 9223372036854775807)
    (hr : r.Ok) (hi : i < n) (hil : i < l) (hn : n ≤ 64) (hg : ∀ j, j < n → 0 ≤ g j ∧ g j ≤ 127) (hk : 0 ≤ x i ∧ x i ≤ 127) (h0 : M.ba r g n i (x i) = 0) (e1 : ¬ i = 0) (hpk : 0 ≤ x (i - 1) ∧ x (i - 1) ≤ 127) :
    Calls Try.prog 39 #[.agg #[.int .i64 r.low, .int .i64 r.high, .bool r.above, .int .i64 r.leap, .int .i64 r.classes], .slice ao n c, .slice bo l d, .int .i64 (i : Int)] w fun e w' => e = .returned (.int .i64 (M.bb r g i (x (i - 1)) (decide (1 < i ∧ x (i - 2) = x (i - 1))) (x i))) ∧ Below w.heap.size w w' := by
  obtain ⟨b, off, rfl, hbl, q⟩ := hp.at' (by omega)
  obtain ⟨b2, off2, rfl, hbl2, q2⟩ := hq.at' (by omega)
  have gi := hg i hi
  have r0 := q i hi
  have x0 := q2 i hil
  have HS := fun w => refSound_any (x i) (g i) w (by omega) (by omega) (by omega) (by omega)
  have HM := fun w => May_any r.classes (x i) w hr.c0 hr.cm hk.1 hk.2
  have hilI : (i : Int) < (l : Int) := by omega
  have hiI : (i : Int) < (n : Int) := by omega
  obtain ⟨G1, c4, c5, hE⟩ := M.ba_zero h0
  have c1 : ¬ x i < r.low := fun h => G1 (Or.inl h)
  have c2 : ¬ r.high < x i := fun h => G1 (Or.inr (Or.inl h))
  have hbd01 : 0 ≤ M.bit r.classes (x i) ∧ M.bit r.classes (x i) ≤ 1 := by unfold M.bit; omega
  have hm1 : decide (M.bit r.classes (x i) = 1) = true := by simp; omega
  rw [hm1] at HM
  have d3 : r.above = false ∨ (r.above = true ∧ ¬ x i < g i) := by
    cases h : r.above
    · exact Or.inl rfl
    · exact Or.inr ⟨rfl, fun h2 => c4 ⟨h, h2⟩⟩
  have hs6 : ¬ _ := fun h => c5 ((M.hs_iff _).2 h)
  have gj := hg (i - 1) (by omega)
  have r1 := q (i - 1) (by omega)
  have x1 := q2 (i - 1) (by omega)
  have e1' : ((i : Int) == 0) = false := by simp; omega
  have k1 : (0 : Int) < i := by omega
  have k2 : decide (0 < i) = true := by simp; omega
  have k3 : IntKind.i64.wrap ((i : Int) - 1) = ((i - 1 : Nat) : Int) := by rw [wid (by omega) (by omega)]; omega
  have k4 : ((i - 1 : Nat) : Int) < l := by omega
  have k5 : ((i - 1 : Nat) : Int) < n := by omega
  have k6 : i - 1 < l := by omega
  have k7 : i - 1 < n := by omega
  have HA := fun w => Abs_ap (x i) (x (i - 1)) w (by omega) (by omega) (by omega) (by omega)
  have HT := fun w => refSound_any (x (i - 1)) (g (i - 1)) w (by omega) (by omega) (by omega) (by omega)
  have hAb := M.ap_bd (a := x i) (b := x (i - 1)) (by omega) (by omega) (by omega) (by omega)
  have hAz : Hid (M.ap (x i) (x (i - 1)) = 0 → x i = x (i - 1)) := fun h => by unfold M.ap at h; split at h <;> omega
  have BB2 : Hid (∀ pa, (r.leap < M.ap (x i) (x (i - 1)) ∨ M.ap (x i) (x (i - 1)) = 6) → M.bb r g i (x (i - 1)) pa (x i) = 5) := fun pa => M.bb_leap e1
  have BB3 : Hid (∀ pa, ¬ (r.leap < M.ap (x i) (x (i - 1)) ∨ M.ap (x i) (x (i - 1)) = 6) → (M.ap (x i) (x (i - 1)) ≠ 0 ∧ M.pf (M.so (x i) (g i)) = true ∧ M.so (x i) (g i) = M.so (x (i - 1)) (g (i - 1))) → M.bb r g i (x (i - 1)) pa (x i) = 6) := fun pa h h2 => M.bb_par e1 h h2
  have BB4 : Hid (∀ pa, ¬ (r.leap < M.ap (x i) (x (i - 1)) ∨ M.ap (x i) (x (i - 1)) = 6) → ¬ (M.ap (x i) (x (i - 1)) ≠ 0 ∧ M.pf (M.so (x i) (g i)) = true ∧ M.so (x i) (g i) = M.so (x (i - 1)) (g (i - 1))) → (M.ap (x i) (x (i - 1)) = 0 ∧ pa = true) → M.bb r g i (x (i - 1)) pa (x i) = 7) := fun pa h h2 => M.bb_rep e1 h h2
  have BB5 : Hid (∀ pa, ¬ (r.leap < M.ap (x i) (x (i - 1)) ∨ M.ap (x i) (x (i - 1)) = 6) → ¬ (M.ap (x i) (x (i - 1)) ≠ 0 ∧ M.pf (M.so (x i) (g i)) = true ∧ M.so (x i) (g i) = M.so (x (i - 1)) (g (i - 1))) → ¬ (M.ap (x i) (x (i - 1)) = 0 ∧ pa = true) → M.bb r g i (x (i - 1)) pa (x i) = 0) := fun pa h h2 => M.bb_none e1 h h2
  have hpt := M.pf_yes (M.so (x i) (g i))
  have HPT : Hid (M.pf (M.so (x i) (g i)) = true ↔ (M.so (x i) (g i) = 0 ∨ M.so (x i) (g i) = 7)) := hpt
  have lp := hr.lp
  generalize hPA : decide (1 < i ∧ x (i - 2) = x (i - 1)) = PA at *
  clear hpt
  have hE2 : i + 1 = n → M.so (x i) (g i) = 0 := fun h => by
    by_cases a : M.so (x i) (g i) = 0
    · exact a
    · exact absurd (Or.inr ⟨h, a⟩) hE
  clear hE q hp hq hg hr h0 c4 hm1 hbd01 G1 c5
  replace BB2 : Hid ((r.leap < M.ap (x i) (x (i - 1)) ∨ M.ap (x i) (x (i - 1)) = 6) → M.bb r g i (x (i - 1)) PA (x i) = 5) := BB2.out PA
  replace BB3 : Hid (¬ (r.leap < M.ap (x i) (x (i - 1)) ∨ M.ap (x i) (x (i - 1)) = 6) → (M.ap (x i) (x (i - 1)) ≠ 0 ∧ M.pf (M.so (x i) (g i)) = true ∧ M.so (x i) (g i) = M.so (x (i - 1)) (g (i - 1))) → M.bb r g i (x (i - 1)) PA (x i) = 6) := BB3.out PA
  replace BB4 : Hid (¬ (r.leap < M.ap (x i) (x (i - 1)) ∨ M.ap (x i) (x (i - 1)) = 6) → ¬ (M.ap (x i) (x (i - 1)) ≠ 0 ∧ M.pf (M.so (x i) (g i)) = true ∧ M.so (x i) (g i) = M.so (x (i - 1)) (g (i - 1))) → (M.ap (x i) (x (i - 1)) = 0 ∧ PA = true) → M.bb r g i (x (i - 1)) PA (x i) = 7) := BB4.out PA
  replace BB5 : Hid (¬ (r.leap < M.ap (x i) (x (i - 1)) ∨ M.ap (x i) (x (i - 1)) = 6) → ¬ (M.ap (x i) (x (i - 1)) ≠ 0 ∧ M.pf (M.so (x i) (g i)) = true ∧ M.so (x i) (g i) = M.so (x (i - 1)) (g (i - 1))) → ¬ (M.ap (x i) (x (i - 1)) = 0 ∧ PA = true) → M.bb r g i (x (i - 1)) PA (x i) = 0) := BB5.out PA
  generalize M.bb r g i (x (i - 1)) PA (x i) = V at *
  generalize M.ap (x i) (x (i - 1)) = A at *
  generalize M.so (x (i - 1)) (g (i - 1)) = T at *
  generalize M.so (x i) (g i) = S at *
  have s1 : (S == 1) = false := by simp; omega
  have s2 : (S == 2) = false := by simp; omega
  have s5 : (S == 5) = false := by simp; omega
  have s6 : (S == 6) = false := by simp; omega
  have s10 : (S == 10) = false := by simp; omega
  have s11 : (S == 11) = false := by simp; omega
  clear hs6
  go_enter Try.func39, Try.ntmps39
  go_wp2_with fail
  refine (HS _).mono ?_
  rintro e w1 ⟨rfl, hw⟩
  rw [hw]
  clear hw
  go_wp2_with fail
  refine (HM _).mono ?_
  rintro e w1 ⟨rfl, hw⟩
  rw [hw]
  clear hw
  obtain ⟨W, hW⟩ : ∃ y, y = w.alloc (.cells #[.int .i64 r.low, .int .i64 r.high, .bool r.above, .int .i64 r.leap, .int .i64 r.classes] 38) := ⟨_, rfl⟩
  have hbW : Below w.heap.size w W := by rw [hW]; go_grown
  have sW : w.heap.size < W.heap.size := by rw [hW]; simp
  have w0 : W.cell? ⟨w.heap.size, 0, none⟩ = some (.int .i64 r.low) := by rw [hW]; simp [go_sem]
  have w1' : W.cell? ⟨w.heap.size, 1, none⟩ = some (.int .i64 r.high) := by rw [hW]; simp [go_sem]
  have w2 : W.cell? ⟨w.heap.size, 2, none⟩ = some (.bool r.above) := by rw [hW]; simp [go_sem]
  have w3 : W.cell? ⟨w.heap.size, 3, none⟩ = some (.int .i64 r.leap) := by rw [hW]; simp [go_sem]
  have p0 := keepC hbW hbl r0
  have p1 := keepC hbW hbl r1
  have p2 := keepC hbW hbl2 x0
  have p3 := keepC hbW hbl2 x1
  have z1 : b < W.heap.size := by omega
  have z2 : b2 < W.heap.size := by omega
  have q3 : Hid (1 < i → W.cell? ⟨b2, off2 + (i - 2), none⟩ = some (.int .i64 (x (i - 2)))) := fun h => keepC hbW hbl2 (q2 (i - 2) (by omega))
  rw [← hW]
  clear hW r0 r1 x0 x1 q2
  go_upto_region 5 with fail
  go_cut [48] (fun t wx => t = .bool false ∧ wx = W)
  case first =>
    rcases d3 with d3 | ⟨d3, d4⟩
    all_goals
      rw [d3] at w2
      go_wp2_with fail
      go_meet
      case rel => first | exact ⟨rfl, rfl⟩ | exact ⟨by congr 1; simp; omega, rfl⟩
  case rest =>
    obtain ⟨rfl, hcw⟩ := hcut
    subst hcw
    go_upto_region 9 with fail
    go_cut [91] (fun t wx => t = .bool false ∧ wx = wc)
    case first =>
      by_cases tl : i + 1 = n
      · have v0 : ((i : Int) == (n : Int) - 1) = true := by simp; omega
        have u1 : (S != 0) = false := by simp [hE2 tl]
        clear hE2 tl
        go_wp2_with fail
        go_meet
        case rel => exact ⟨rfl, rfl⟩
      · have v0 : ((i : Int) == (n : Int) - 1) = false := by simp; omega
        clear hE2 tl
        go_wp2_with fail
        go_meet
        case rel => exact ⟨rfl, rfl⟩
    case rest =>
      obtain ⟨rfl, hcw⟩ := hcut
      rename World => wd
      subst hcw
      clear hE2
      go_wp2_with fail
      refine (HA _).mono ?_
      rintro e w1 ⟨rfl, hw⟩
      rw [hw]
      clear hw
      by_cases l1 : r.leap < A
      · skip
        have hV : V = 5 := BB2.out (Or.inl l1)
        subst hV
        clear BB2 BB3 BB4 BB5 hAz HPT 
        go_wp2_with fail
        go_returns
        exact ⟨rfl, hbW⟩
      by_cases l2 : A = 6
      · have l2' : (A == 6) = true := by simp [l2]
        have hV : V = 5 := BB2.out (Or.inr l2)
        subst hV
        clear BB2 BB3 BB4 BB5 hAz HPT l2
        go_wp2_with fail
        go_returns
        exact ⟨rfl, hbW⟩
      have l2' : (A == 6) = false := by simp [l2]
      have G4 : Hid (¬ (r.leap < A ∨ A = 6)) := fun h => by omega
      clear l2
      by_cases a0 : A = 0
      · have a1 : ¬ 0 < A := by omega
        have a1' : decide (0 < A) = false := decide_eq_false a1
        have a2 : (A == 0) = true := by simp [a0]
        have G5 : Hid (¬ (A ≠ 0 ∧ M.pf S = true ∧ S = T)) := fun h => h.1 a0
        have hxe := hAz.out a0
        by_cases i1 : 1 < i
        · have i1' : (1 : Int) < (i : Int) := by omega
          have x2 := q3.out i1
          have k9 : IntKind.i64.wrap ((i : Int) - 2) = ((i - 2 : Nat) : Int) := by rw [wid (by omega) (by omega)]; omega
          have k10 : ((i - 2 : Nat) : Int) < l := by omega
          have k11 : i - 2 < l := by omega
          by_cases rp : x (i - 2) = x (i - 1)
          · have rp' : (x (i - 2) == x i) = true := by rw [hxe, rp]; simp
            have hPA1 : PA = true := by rw [← hPA]; simp [i1, rp]
            have hV : V = 7 := BB4.out G4.out G5.out ⟨a0, hPA1⟩
            subst hV
            clear BB2 BB3 BB4 BB5 hAz HPT G4 G5 a0 hxe rp hPA hPA1 q3
            go_wp2_with fail
            go_quiet (first | (go_at_call 52; exact Calls.quiet_of_same (HT _)))
            go_wp2_with fail
            go_returns
            exact ⟨rfl, below_drewN hbW _⟩
          · have rp' : (x (i - 2) == x i) = false := by rw [hxe]; simp [rp]
            have hPA1 : PA = false := by rw [← hPA]; simp [rp]
            have hV : V = 0 := BB5.out G4.out G5.out (fun h => by rw [hPA1] at h; cases h.2)
            subst hV
            clear BB2 BB3 BB4 BB5 hAz HPT G4 G5 a0 hxe rp hPA hPA1 q3
            go_wp2_with fail
            go_quiet (first | (go_at_call 52; exact Calls.quiet_of_same (HT _)))
            go_wp2_with fail
            go_returns
            exact ⟨rfl, below_drewN hbW _⟩
        · have i1' : ¬ (1 : Int) < (i : Int) := by omega
          have hPA1 : PA = false := by rw [← hPA]; simp [i1]
          have hV : V = 0 := BB5.out G4.out G5.out (fun h => by rw [hPA1] at h; cases h.2)
          subst hV
          clear BB2 BB3 BB4 BB5 hAz HPT G4 G5 a0 hxe hPA hPA1 i1 q3
          go_wp2_with fail
          go_quiet (first | (go_at_call 52; exact Calls.quiet_of_same (HT _)))
          go_wp2_with fail
          go_returns
          exact ⟨rfl, below_drewN hbW _⟩
      have a1 : 0 < A := by omega
      have a1' : decide (0 < A) = true := decide_eq_true a1
      have a2 : (A == 0) = false := by simp [a0]
      have G6 : Hid (¬ (A = 0 ∧ PA = true)) := fun h => a0 h.1
      clear hPA q3
      by_cases t0 : S = 0
      · have u0 : (S == 0) = true := by simp [t0]
        have u7 : (S == 7) = false := by simp [t0]
        by_cases st : S = T
        · have st' : (T == S) = true := by simp [st]
          have hV : V = 6 := BB3.out G4.out ⟨a0, HPT.out.2 (Or.inl t0), st⟩
          subst hV
          clear BB2 BB3 BB4 BB5 hAz HPT G4 G6 a0 st t0
          go_wp2_with fail
          go_quiet (first | (go_at_call 52; exact Calls.quiet_of_same (HT _)))
          go_wp2_with fail
          all_goals go_returns
          all_goals exact ⟨rfl, below_drewN hbW _⟩
        · have st' : (T == S) = false := by simp; omega
          have hV : V = 0 := BB5.out G4.out (fun h => st h.2.2) G6.out
          subst hV
          clear BB2 BB3 BB4 BB5 hAz HPT G4 G6 a0 st t0
          go_wp2_with fail
          go_quiet (first | (go_at_call 52; exact Calls.quiet_of_same (HT _)))
          go_wp2_with fail
          all_goals go_returns
          all_goals exact ⟨rfl, below_drewN hbW _⟩
      by_cases t7 : S = 7
      · have u0 : (S == 0) = false := by simp [t7]
        have u7 : (S == 7) = true := by simp [t7]
        by_cases st : S = T
        · have st' : (T == S) = true := by simp [st]
          have hV : V = 6 := BB3.out G4.out ⟨a0, HPT.out.2 (Or.inr t7), st⟩
          subst hV
          clear BB2 BB3 BB4 BB5 hAz HPT G4 G6 a0 st t0 t7
          go_wp2_with fail
          go_quiet (first | (go_at_call 52; exact Calls.quiet_of_same (HT _)))
          go_wp2_with fail
          all_goals go_returns
          all_goals exact ⟨rfl, below_drewN hbW _⟩
        · have st' : (T == S) = false := by simp; omega
          have hV : V = 0 := BB5.out G4.out (fun h => st h.2.2) G6.out
          subst hV
          clear BB2 BB3 BB4 BB5 hAz HPT G4 G6 a0 st t0 t7
          go_wp2_with fail
          go_quiet (first | (go_at_call 52; exact Calls.quiet_of_same (HT _)))
          go_wp2_with fail
          all_goals go_returns
          all_goals exact ⟨rfl, below_drewN hbW _⟩
      have u0 : (S == 0) = false := by simp [t0]
      have u7 : (S == 7) = false := by simp [t7]
      have hV : V = 0 := BB5.out G4.out (fun h => by have := HPT.out.1 h.2.1; omega) G6.out
      subst hV
      clear BB2 BB3 BB4 BB5 hAz HPT G4 G6 a0 t0 t7
      go_wp2_with fail
      go_quiet (first | (go_at_call 52; exact Calls.quiet_of_same (HT _)))
      go_wp2_with fail
      all_goals go_returns
      all_goals exact ⟨rfl, below_drewN hbW _⟩
end Go.Proofs.Ytmgkbnlmdhnjnae.U
