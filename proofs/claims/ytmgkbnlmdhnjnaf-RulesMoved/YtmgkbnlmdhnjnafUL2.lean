/- The law RulesMoved: its walk. -/
import Derived.Test.YtmgkbnlmdhnjnafUL2a
namespace Go.Proofs.Ytmgkbnlmdhnjnaf.U
open Go.RowKit Go.Maps Go.Sort
set_option linter.unusedVariables false
set_option linter.unusedSimpArgs false

theorem M.pow_bd (i : Nat) (h : i ≤ 12) : (1 : Int) ≤ 2 ^ i ∧ (2 : Int) ^ i ≤ 4096 := by
  match i, h with
  | 0, _ => exact ⟨by decide, by decide⟩
  | 1, _ => exact ⟨by decide, by decide⟩
  | 2, _ => exact ⟨by decide, by decide⟩
  | 3, _ => exact ⟨by decide, by decide⟩
  | 4, _ => exact ⟨by decide, by decide⟩
  | 5, _ => exact ⟨by decide, by decide⟩
  | 6, _ => exact ⟨by decide, by decide⟩
  | 7, _ => exact ⟨by decide, by decide⟩
  | 8, _ => exact ⟨by decide, by decide⟩
  | 9, _ => exact ⟨by decide, by decide⟩
  | 10, _ => exact ⟨by decide, by decide⟩
  | 11, _ => exact ⟨by decide, by decide⟩
  | 12, _ => exact ⟨by decide, by decide⟩
theorem M.cls_bd (c : Int) (b k : Nat) (h : k ≤ 12) : 0 ≤ M.cls c b k ∧ M.cls c b k ≤ 4095 * 12 := by
  have : ∀ k : Nat, 0 ≤ M.cls c b k ∧ M.cls c b k ≤ 4095 * k := by
    intro k
    induction k with
    | zero => simp [M.cls]
    | succ k ih =>
      simp only [M.cls]
      have h1 : 0 ≤ c / 2 ^ k % 2 ∧ c / 2 ^ k % 2 ≤ 1 := by omega
      have h2 := M.pow_bd ((k + b) % 12) (by omega)
      have h3 : (2 : Int) ^ ((k + b) % 12) ≤ 4095 := by
        have h4 : (k + b) % 12 < 12 := by omega
        generalize (k + b) % 12 = q at *
        match q, h4 with
        | 0, _ => exact (by decide)
        | 1, _ => exact (by decide)
        | 2, _ => exact (by decide)
        | 3, _ => exact (by decide)
        | 4, _ => exact (by decide)
        | 5, _ => exact (by decide)
        | 6, _ => exact (by decide)
        | 7, _ => exact (by decide)
        | 8, _ => exact (by decide)
        | 9, _ => exact (by decide)
        | 10, _ => exact (by decide)
        | 11, _ => exact (by decide)
      have h5 : c / 2 ^ k % 2 * 2 ^ ((k + b) % 12) ≤ 4095 := by
        have : c / 2 ^ k % 2 = 0 ∨ c / 2 ^ k % 2 = 1 := by omega
        rcases this with e | e <;> rw [e] <;> omega
      have h6 : 0 ≤ c / 2 ^ k % 2 * 2 ^ ((k + b) % 12) := Int.mul_nonneg h1.1 (by omega)
      push_cast
      omega
  have := this k
  omega

set_option maxRecDepth 100000 in
set_option maxHeartbeats 8000000 in
theorem moved_walk (r : M.Ru) (ao : Option Addr) (n c : Nat) (g : Nat → Int) (y : Int) (w : World) (hp : LI w ao n g) (hc : n ≤ c) (hcm : c ≤ 9223372036854775807) (hby : n * 8 ≤ 140737488355328) (bl : B64 r.low) (bh : B64 r.high) (bc : B64 r.classes) (hy : B64 y) :
    Calls Try.prog 4 #[.agg #[.int .i64 r.low, .int .i64 r.high, .bool r.above, .int .i64 r.leap, .int .i64 r.classes], .slice ao n c, .int .i64 y] w fun e w' => e = .returned (.bool true) ∧ Below w.heap.size w w' := by
  by_cases he : y < 1 ∨ 127 < y ∨ r.high < 0 ∨ 127 < r.low ∨ 127 < IntKind.i64.wrap (r.high + y) ∨ r.classes < 0 ∨ 4095 < r.classes
  · exact moved_early r ao n c g y w hp hc hcm hby bl bh bc hy he
  obtain ⟨bl0, bl1⟩ := bl
  obtain ⟨bh0, bh1⟩ := bh
  have c1 : ¬ y < 1 := fun h => he (Or.inl h)
  have c2 : ¬ 127 < y := fun h => he (Or.inr (Or.inl h))
  have c3 : ¬ r.high < 0 := fun h => he (Or.inr (Or.inr (Or.inl h)))
  have c4 : ¬ 127 < r.low := fun h => he (Or.inr (Or.inr (Or.inr (Or.inl h))))
  have c5' : ¬ 127 < IntKind.i64.wrap (r.high + y) := fun h => he (Or.inr (Or.inr (Or.inr (Or.inr (Or.inl h)))))
  have c6 : ¬ r.classes < 0 := fun h => he (Or.inr (Or.inr (Or.inr (Or.inr (Or.inr (Or.inl h))))))
  have c7 : ¬ 4095 < r.classes := fun h => he (Or.inr (Or.inr (Or.inr (Or.inr (Or.inr (Or.inr h))))))
  clear he
  obtain ⟨b, rfl⟩ : ∃ b : Nat, y = b := ⟨y.toNat, by omega⟩
  obtain ⟨H, hH⟩ : ∃ H, IntKind.i64.wrap (r.high + (b : Int)) = H := ⟨_, rfl⟩
  have hH2 : H = r.high + b ∨ (H < 0 ∧ 127 < r.high) := by rw [← hH, IntKind.wrap_i64]; omega
  rw [hH] at c5'
  have c5 : ¬ 127 < H := c5'
  clear c5'
  have HH : Hid (H = r.high + b ∨ (H < 0 ∧ 127 < r.high)) := hH2
  clear hH2 bc
  obtain ⟨i0, hi0, hz0, hz1, hz2⟩ := info_parts info3
  go_enter Try.func4, Try.ntmps4
  go_wp2_with fail
  refine (alive_any _).mono ?_
  rintro e w1 ⟨rfl, hb1⟩
  have q0 := keepC hb1 (by simp) (show (w.alloc (.cells #[.int .i64 r.low, .int .i64 r.high, .bool r.above, .int .i64 r.leap, .int .i64 r.classes] 23)).cell? ⟨w.heap.size, 0, none⟩ = some (.int .i64 r.low) by simp [go_sem])
  have q1 := keepC hb1 (by simp) (show (w.alloc (.cells #[.int .i64 r.low, .int .i64 r.high, .bool r.above, .int .i64 r.leap, .int .i64 r.classes] 23)).cell? ⟨w.heap.size, 1, none⟩ = some (.int .i64 r.high) by simp [go_sem])
  have q2 := keepC hb1 (by simp) (show (w.alloc (.cells #[.int .i64 r.low, .int .i64 r.high, .bool r.above, .int .i64 r.leap, .int .i64 r.classes] 23)).cell? ⟨w.heap.size, 2, none⟩ = some (.bool r.above) by simp [go_sem])
  have q3 := keepC hb1 (by simp) (show (w.alloc (.cells #[.int .i64 r.low, .int .i64 r.high, .bool r.above, .int .i64 r.leap, .int .i64 r.classes] 23)).cell? ⟨w.heap.size, 3, none⟩ = some (.int .i64 r.leap) by simp [go_sem])
  have q4 := keepC hb1 (by simp) (show (w.alloc (.cells #[.int .i64 r.low, .int .i64 r.high, .bool r.above, .int .i64 r.leap, .int .i64 r.classes] 23)).cell? ⟨w.heap.size, 4, none⟩ = some (.int .i64 r.classes) by simp [go_sem])
  have sW : w.heap.size < w1.heap.size := by have := hb1.size; simp at this; omega
  have k1 : Below w.heap.size w w1 := Below.trans (by go_grown) (hb1.mono (by simp))
  clear hb1
  go_wp2_with fail
  go_loopw [7, 60] (fun v s wr => ∃ j : Nat, j ≤ n ∧ s = .int .i64 (j : Int) ∧ Below w1.heap.size w1 wr ∧ wr.ownsRow w1.heap.size 3 1 v j (rows (ic (M.mvg g b)) j) ∧ Hid (∀ i, i < j → 0 ≤ g i ∧ g i ≤ 127 - b)) (fun _ s _ => n - (intOf s).toNat)
  case atStart => exact ⟨0, by omega, rfl, Below.refl _ _, World.ownsRow_nil _ _ _ _, fun i hi => by omega⟩
  case round =>
    obtain ⟨j, hjn, rfl, hbr, hown, hg⟩ := hrel
    have zr := hbr.size
    by_cases hlt : j < n
    · obtain ⟨ab, ofs, rfl, hal, q⟩ := hp.at' (by omega)
      have r0 := keepC (k1.trans (hbr.mono (by omega))) hal (q j hlt)
      have za : ab < wr.heap.size := by omega
      have wj : IntKind.i64.wrap ((j : Int) + 1) = (j : Int) + 1 := wid (by omega) (by omega)
      by_cases d1 : g j < 0
      · clear q hp hown hg HH
        go_wp2_with fail
        go_returns
        exact ⟨rfl, k1.trans (hbr.mono (by omega))⟩
      by_cases d2 : 127 - (b : Int) < g j
      · clear q hp hown hg HH
        go_wp2_with fail
        go_returns
        exact ⟨rfl, k1.trans (hbr.mono (by omega))⟩
      have hg2 : Hid (∀ i, i < j + 1 → 0 ≤ g i ∧ g i ≤ 127 - b) := fun i hi => by
        rcases Nat.lt_succ_iff_lt_or_eq.1 hi with h | rfl
        · exact hg.out i h
        · omega
      have hrow : Hid (rows (ic (M.mvg g b)) j ++ [.int .i64 (g j + b)] = rows (ic (M.mvg g b)) (j + 1)) := rfl
      clear q hp hg HH
      go_wp2_with (at_builtin; refine wpList_append_own _ rfl (.tmp 72) (.tmp 76) 24 rfl w1.heap.size 3 i0 (.int .i64 0) 1 8 Try.underlying24 hi0 hz0 hz1 hz2 rfl (by decide) _ j (rows (ic (M.mvg g b)) j) rfl (hown.alloc _) ⟨wr.heap.size, 0, none⟩ 1 1 [.int .i64 (g j + b)] rfl rfl ?z1 ?z2 ?z3 ?z4 ?z5 ?_)
      case z2 => first | rfl | (intro u hu; simp at hu; subst hu; rfl)
      case z3 => unfold maxLen; omega
      case z4 => omega
      case z5 => first | omega | (simp; omega)
      intro v2 w2 hown2 hgrow _
      rw [hrow.out] at hown2
      have k2 : Below w1.heap.size w1 w2 := (hbr.alloc hbr.size _).grown hgrow (by simp; omega) (own_block hown)
      clear hgrow hown hrow
      go_wp2_with fail
      go_roundw
      case rel => exact ⟨j + 1, by omega, by push_cast; rfl, k2, hown2, hg2⟩
      case measure => simp [intOf]; omega
    · have hje : j = n := by omega
      subst hje
      obtain ⟨wa, hwa⟩ : ∃ x, x = wr := ⟨wr, rfl⟩
      subst hwa
      have p0 := keepC hbr sW q0
      have p1 := keepC hbr sW q1
      have p2 := keepC hbr sW q2
      have p3 := keepC hbr sW q3
      have p4 := keepC hbr sW q4
      have kr : Below w.heap.size w wa := k1.trans (hbr.mono (by omega))
      have sr : w.heap.size < wa.heap.size := by omega
      have hne : u7.ownBlock ≠ some wa.heap.size := fun h => by have := (hown.lt _ h).2; omega
      have hownr := own_base hown (Nat.le_of_lt sW)
      clear q0 q1 q2 q3 q4 k1 hbr hown sW zr
      go_wp2_with fail
      go_region
      go_wp2_with fail
      obtain ⟨W3, hW3⟩ : ∃ x, x = (wa.alloc (.cells #[.int .i64 (r.low + (b : Int)), .int .i64 H, .bool r.above, .int .i64 r.leap, .int .i64 0] 23)).drew := ⟨_, rfl⟩
      rw [← hW3]
      have hI0 : MvI w W3 wa.heap.size r (r.low + b) H (M.cls r.classes b 0) u7 j (M.mvg g b) := by
        have hb3 : Below wa.heap.size wa W3 := by rw [hW3]; go_grown
        refine ⟨kr.trans (hb3.mono (by omega)), by rw [hW3]; simp; omega, by rw [hW3]; simp, sr, keepC hb3 sr p0, keepC hb3 sr p1, keepC hb3 sr p2, keepC hb3 sr p3, keepC hb3 sr p4, ?_, ?_, ?_, ?_, ?_, ?_, own_step hownr hb3, hne⟩
        · rw [hW3]; simp [go_sem]
        · rw [hW3]; simp [go_sem]
        · rw [hW3]; simp [go_sem]
        · rw [hW3]; simp [go_sem]
        · rw [hW3]; simp [go_sem, M.cls]
        · rw [hW3]; simp [go_sem]
      clear hW3 hne hownr p0 p1 p2 p3 p4
      have HM := fun k w k0 k1 => May_any r.classes k w (by omega) (by omega) k0 k1
      have HAns := Mv.answers (r := r) (g := g) (n := j) (b := b) (H := H) (by omega)
      go_loopw [11] (fun s wx => ∃ k : Nat, k ≤ 12 ∧ s = .int .i64 (k : Int) ∧ MvI w wx wa.heap.size r (r.low + b) H (M.cls r.classes b k) u7 j (M.mvg g b)) (fun s _ => 12 - (intOf s).toNat)
      case atStart => exact ⟨0, by omega, rfl, hI0⟩
      case round =>
        obtain ⟨k, hk, rfl, hI⟩ := hrel
        obtain ⟨wx, hwx⟩ : ∃ x, x = wr := ⟨wr, rfl⟩
        subst hwx
        have y4 := hI.r4
        have ys := hI.rs
        have x4 := hI.s4
        have xs := hI.ss
        have xf := hI.f4
        by_cases hk12 : k < 12
        · have HMk := HM k wx (by omega) (by omega)
          have wk1 : IntKind.i64.wrap ((k : Int) + 1) = (k : Int) + 1 := wid (by omega) (by omega)
          have hbit : M.bit r.classes (k : Int) = r.classes / 2 ^ k % 2 := by
            unfold M.bit
            rw [show ((k : Int) % 12).toNat = k by omega]
          have hstep : Hid (M.cls r.classes b (k + 1) = M.cls r.classes b k + r.classes / 2 ^ k % 2 * 2 ^ ((k + b) % 12)) := rfl
          rw [hbit] at HMk
          have hdg0 : 0 ≤ r.classes / 2 ^ k % 2 ∧ r.classes / 2 ^ k % 2 ≤ 1 := by omega
          generalize r.classes / 2 ^ k % 2 = DG at *
          by_cases hd : DG = 1
          · subst hd
            have HMt : Calls Try.prog 10 #[.int .i64 r.classes, .int .i64 (k : Int)] wx fun e w' => e = .returned (.bool true) ∧ w' = wx := by simpa using HMk
            obtain ⟨p, hp12, hpe⟩ : ∃ p : Nat, p < 12 ∧ (k + b) % 12 = p := ⟨(k + b) % 12, by omega, rfl⟩
            rw [hpe] at hstep
            have hpi : ((k : Int) + (b : Int)) % 12 = (p : Int) := by omega
            have hC := hI
            have hCb : 0 ≤ M.cls r.classes b k ∧ M.cls r.classes b k ≤ 4095 * 12 := M.cls_bd r.classes b k hk
            have hpw : ∀ i : Nat, i ≤ 12 → (1 : Int) ≤ 2 ^ i ∧ (2 : Int) ^ i ≤ 4096 := M.pow_bd
            generalize M.cls r.classes b k = CK at *
            clear HMk hbit HM HAns HH
            go_wp2_with fail
            refine HMt.mono ?_
            rintro e w' ⟨rfl, hw'⟩
            rw [hw']
            clear hw' HMt
            go_wp2_with fail
            go_loopw [12, 13] (fun t s wy => ∃ i : Nat, i ≤ p ∧ t = .int .i64 (2 ^ i) ∧ s = .int .i64 (i : Int) ∧ wy = wx) (fun _ s _ => p - (intOf s).toNat)
            case atStart => exact ⟨0, by omega, rfl, rfl, rfl⟩
            case round =>
              obtain ⟨i, hip, rfl, rfl, hwy⟩ := hrel
              subst hwy
              have hpwi := hpw i (by omega)
              have hpw1 : Hid ((2 : Int) * 2 ^ i = 2 ^ (i + 1)) := by show _ = _; rw [Int.pow_succ]; omega
              have wi1 : IntKind.i64.wrap ((i : Int) + 1) = (i : Int) + 1 := wid (by omega) (by omega)
              by_cases hi : i < p
              · have t1 : (i : Int) < ((k : Int) + (b : Int)) % 12 := by omega
                clear hstep hI hC
                generalize hPW : (2 : Int) ^ i = PW at *
                go_wp2_with fail
                go_roundw
                case rel => exact ⟨i + 1, by omega, by rw [← hpw1.out], by push_cast; rfl, by first | rfl | trivial⟩
                case measure => simp [intOf]; omega
              · have hie : i = p := by omega
                subst hie
                have t1 : ¬ (i : Int) < ((k : Int) + (b : Int)) % 12 := by omega
                have hst : Hid (CK + 2 ^ i = M.cls r.classes b (k + 1)) := by show _ = _; rw [hstep.out]; omega
                have hset := hI.set (CK + 2 ^ i)
                rw [hst.out] at hset
                clear hstep hpw hpw1
                generalize hPW : (2 : Int) ^ i = PW at *
                go_wp2_with fail
                go_roundw
                case rel => exact ⟨k + 1, by omega, by push_cast; rfl, by rw [hst.out]; exact hset⟩
                case measure => simp [intOf]; omega
          · have hd0 : DG = 0 := by omega
            subst hd0
            have HMt : Calls Try.prog 10 #[.int .i64 r.classes, .int .i64 (k : Int)] wx fun e w' => e = .returned (.bool false) ∧ w' = wx := by simpa using HMk
            have hst : Hid (M.cls r.classes b k = M.cls r.classes b (k + 1)) := by show _ = _; rw [hstep.out]; omega
            rw [hst.out] at hI
            clear HMk hbit HM HAns HH hd hstep
            go_wp2_with fail
            refine HMt.mono ?_
            rintro e w' ⟨rfl, hw'⟩
            rw [hw']
            go_wp2_with fail
            go_roundw
            case rel => exact ⟨k + 1, by omega, by push_cast; rfl, hI⟩
            case measure => simp [intOf]; omega
        · have hk12e : k = 12 := by omega
          subst hk12e
          have y0 := hI.r0
          have y1 := hI.r1
          by_cases g1 : r.low < 0
          · clear HM HAns HH
            go_wp2_with fail
            go_returns
            exact ⟨rfl, hI.bel⟩
          by_cases g2 : r.high < r.low
          · clear HM HAns HH
            go_wp2_with fail
            go_returns
            exact ⟨rfl, hI.bel⟩
          have hA := HAns (by omega) (by omega) (by omega) HH.out (by omega) (by omega) hg.out
          obtain ⟨eW, eC, eF⟩ := hA
          obtain ⟨uo, ud, hu7, hud, hudm, _⟩ := own_LI hI.own
          subst hu7
          have hli : ∀ {wz : World}, MvI w wz wa.heap.size r (r.low + b) H (M.cls r.classes b 12) (.slice uo j ud) j (M.mvg g b) → LI wz uo j (M.mvg g b) := fun h => by
            obtain ⟨uo', ud', h1, _, _, h2⟩ := own_LI h.own
            cases h1; exact h2
          have HC1 := fun w hp => Count_any r ao j c g w hp hc hcm
          have HC2 : ∀ w, LI w uo j (M.mvg g b) → Calls Try.prog 7 #[.agg #[.int .i64 (r.low + b), .int .i64 H, .bool r.above, .int .i64 r.leap, .int .i64 (M.cls r.classes b 12)], .slice uo j ud] w fun e w' => e = .returned (.tuple #[.int .i64 (M.cn r g j), .int .i64 (M.wr r g j)]) ∧ Below w.heap.size w w' := fun w hp => by
            have := Count_any (M.mvr r b H) uo j ud (M.mvg g b) w hp hud hudm
            rw [eW, eC] at this
            exact this
          have HF1 := fun w hp => Find_any r ao j c g w hp hc hcm
          have HF2 : ∀ w, LI w uo j (M.mvg g b) → Calls Try.prog 6 #[.agg #[.int .i64 (r.low + b), .int .i64 H, .bool r.above, .int .i64 r.leap, .int .i64 (M.cls r.classes b 12)], .slice uo j ud] w fun e w' => (∃ bo m d x E, e = .returned (.tuple #[.slice bo m d, .int .i64 E]) ∧ m ≤ d ∧ d ≤ 9223372036854775807 ∧ LI w' bo m x ∧ FnR (M.mvr r b H) (M.mvg g b) j x m E) ∧ Below w.heap.size w w' := fun w hp => Find_any (M.mvr r b H) uo j ud (M.mvg g b) w hp hud hudm
          have EF : Hid (∀ (x : Nat → Int) (m : Nat) (E : Int) (y : Nat → Int) (m' : Nat) (E' : Int), FnR r g j x m E → FnR (M.mvr r b H) (M.mvg g b) j y m' E' → E' = E ∧ m' = m ∧ ∀ i, i < m → y i = x i + b ∧ 0 ≤ x i ∧ x i ≤ 127) := eF
          clear HM HAns HH hg eW eC eF
          generalize M.cn r g j = CN at *
          generalize M.wr r g j = WR at *
          generalize M.cls r.classes b 12 = CL at *
          have z2 := hI.r2
          have z3 := hI.r3
          go_wp2_with fail
          refine (HC1 _ (hp.step hI.bel)).mono ?_
          rintro e wb ⟨rfl, hb⟩
          have hI2 := hI.step hb
          have a0 := hI2.s0
          have a1 := hI2.s1
          have a2 := hI2.s2
          have a3 := hI2.s3
          have a4 := hI2.s4
          have asz := hI2.ss
          clear hb hI HC1 y0 y1 y4 z2 z3 ys x4 xs xf
          go_wp2_with fail
          refine (HC2 _ (hli hI2)).mono ?_
          rintro e wc ⟨rfl, hb⟩
          have hI3 := hI2.step hb
          have b0 := hI3.r0
          have b1 := hI3.r1
          have b2 := hI3.r2
          have b3 := hI3.r3
          have b4 := hI3.r4
          have bs := hI3.rs
          clear hb hI2 HC2 a0 a1 a2 a3 a4 asz
          go_wp2_with fail
          refine (HF1 _ (hp.step hI3.bel)).mono ?_
          rintro e wd ⟨⟨xo, m, xd, x, E, rfl, hmd, hxd, hlx, hFx⟩, hb⟩
          have hI4 := hI3.step hb
          have d0 := hI4.s0
          have d1 := hI4.s1
          have d2 := hI4.s2
          have d3 := hI4.s3
          have d4 := hI4.s4
          have ds := hI4.ss
          clear hb hI3 HF1 b0 b1 b2 b3 b4 bs
          go_wp2_with fail
          refine (HF2 _ (hli hI4)).mono ?_
          rintro e we ⟨⟨yo, m2, yd, y, E2, rfl, hmd2, hyd, hly, hFy⟩, hb⟩
          replace hlx := hlx.step hb
          have hI5 := hI4.step hb
          obtain ⟨e1, e2, e3⟩ := EF.out x m E y m2 E2 hFx hFy
          have E3 : Hid (∀ i, i < m → y i = x i + b ∧ 0 ≤ x i ∧ x i ≤ 127) := e3
          subst E2 m2
          have hbel := hI5.bel
          clear hb hI4 hI5 HF2 d0 d1 d2 d3 d4 ds EF hFx hFy e3 hli
          have n1 : (WR != WR) = false := by simp
          have n2 : (CN != CN) = false := by simp
          have n3 : (E != E) = false := by simp
          have n4 : ((m : Int) != (m : Int)) = false := by simp
          go_wp2_with fail
          by_cases hm0 : m = 0
          · subst hm0
            refine wp_loop_rounds 1 ?_
            rw [rounds_succ]
            go_wp2_with fail
            go_returns
            exact ⟨rfl, hbel⟩
          obtain ⟨xb, xof, rfl, hxl, qx⟩ := hlx.at' (by omega)
          obtain ⟨yb, yof, rfl, hyl, qy⟩ := hly.at' (by omega)
          clear hlx hly
          go_loopw [170] (fun s wz => ∃ i : Nat, i ≤ m ∧ s = .int .i64 (i : Int) ∧ Below we.heap.size we wz) (fun s _ => m - (intOf s).toNat)
          case atStart => exact ⟨0, by omega, rfl, Below.refl _ _⟩
          case round =>
            obtain ⟨i, him, rfl, hbz⟩ := hrel
            have zz := hbz.size
            by_cases hi : i < m
            · obtain ⟨t1, t2, t3⟩ := E3.out i hi
              have o1 := keepC hbz hxl (qx i hi)
              have o2 := keepC hbz hyl (qy i hi)
              rw [t1] at o2
              have o3 : xb < wr.heap.size := by omega
              have o4 : yb < wr.heap.size := by omega
              have wi1 : IntKind.i64.wrap ((i : Int) + 1) = (i : Int) + 1 := wid (by omega) (by omega)
              have wx1 : IntKind.i64.wrap (x i + (b : Int)) = x i + (b : Int) := wid (by omega) (by omega)
              have n5 : (x i + (b : Int) != x i + (b : Int)) = false := by simp
              clear E3 qx qy t1
              go_wp2_with fail
              go_region
              go_wp2_with fail
              go_roundw
              case rel => exact ⟨i + 1, by omega, by push_cast; rfl, by first | exact hbz | go_grown⟩
              case measure => simp [intOf]; omega
            · clear E3 qx qy
              go_wp2_with fail
              go_returns
              exact ⟨rfl, hbel.trans (hbz.mono hbel.size)⟩
end Go.Proofs.Ytmgkbnlmdhnjnaf.U
