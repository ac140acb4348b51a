/- What the program's statesAt comes to. -/
import Derived.Test.YtmgkbnlmdhnjnaeU8
import Derived.Test.YtmgkbnlmdhnjnaeU3
namespace Go.Proofs.Ytmgkbnlmdhnjnae.U
open Go.RowKit Go.Maps Go.Sort
set_option linter.unusedVariables false
set_option linter.unusedSimpArgs false

/-- What has been laid so far: all below lim, and of lim itself j states. -/
def M.vt (r : M.Ru) (g : Nat → Int) (n i : Nat) (Wb : Int → Bool → Int) (lim : Int) (j : Nat) (k : Int) (a : Bool) : Option Int :=
  if (k < lim ∨ (k = lim ∧ (if a = true then 1 else 0) < j)) ∧ M.ba r g n i k = 0 ∧ 0 < Wb k a then some (Wb k a) else none
theorem M.vt_low {r : M.Ru} {g : Nat → Int} {n i : Nat} {Wb : Int → Bool → Int} : M.vt r g n i Wb r.low 0 = fun _ _ => none := by
  funext k a
  unfold M.vt
  rw [if_neg]
  rintro ⟨h1, h2, _⟩
  rcases h1 with h1 | h1
  · rw [M.ba_range (Or.inl h1)] at h2; cases h2
  · exact absurd h1.2 (by split <;> omega)
theorem M.vt_skip {r : M.Ru} {g : Nat → Int} {n i : Nat} {Wb : Int → Bool → Int} {lim : Int} (h : M.ba r g n i lim ≠ 0) : M.vt r g n i Wb lim 0 = M.vt r g n i Wb (lim + 1) 0 := by
  funext k a
  unfold M.vt
  by_cases e : k = lim
  · subst e
    rw [if_neg (fun x => h x.2.1), if_neg (fun x => h x.2.1)]
  · have : (k < lim ∨ (k = lim ∧ (if a = true then 1 else 0) < 0)) ↔ (k < lim + 1 ∨ (k = lim + 1 ∧ (if a = true then 1 else 0) < 0)) := by omega
    simp only [this]
theorem M.vt_done {r : M.Ru} {g : Nat → Int} {n i : Nat} {Wb : Int → Bool → Int} {lim : Int} : M.vt r g n i Wb lim 2 = M.vt r g n i Wb (lim + 1) 0 := by
  funext k a
  unfold M.vt
  have : (k < lim ∨ (k = lim ∧ (if a = true then 1 else 0) < 2)) ↔ (k < lim + 1 ∨ (k = lim + 1 ∧ (if a = true then 1 else 0) < 0)) := by split <;> omega
  simp only [this]
theorem M.vt_none {r : M.Ru} {g : Nat → Int} {n i : Nat} {Wb : Int → Bool → Int} {lim : Int} {a : Bool} {j : Nat} (hj : j = if a = true then 1 else 0) (h : ¬ 0 < Wb lim a) : M.vt r g n i Wb lim j = M.vt r g n i Wb lim (j + 1) := by
  funext k a'
  unfold M.vt
  by_cases e : k = lim ∧ a' = a
  · obtain ⟨rfl, rfl⟩ := e
    rw [if_neg (fun x => h x.2.2), if_neg (fun x => h x.2.2)]
  · have : (k < lim ∨ (k = lim ∧ (if a' = true then 1 else 0) < j)) ↔ (k < lim ∨ (k = lim ∧ (if a' = true then 1 else 0) < j + 1)) := by
      cases a <;> cases a' <;> simp at hj e ⊢ <;> omega
    simp only [this]
theorem M.vt_put {r : M.Ru} {g : Nat → Int} {n i : Nat} {Wb : Int → Bool → Int} {lim : Int} {a : Bool} {j : Nat} (hj : j = if a = true then 1 else 0) (hb : M.ba r g n i lim = 0) (h : 0 < Wb lim a) : upd (M.vt r g n i Wb lim j) lim a (Wb lim a) = M.vt r g n i Wb lim (j + 1) := by
  funext k a'
  unfold M.vt upd
  by_cases e : k = lim ∧ a' = a
  · rw [if_pos e]
    obtain ⟨rfl, rfl⟩ := e
    rw [if_pos ⟨Or.inr ⟨rfl, by omega⟩, hb, h⟩]
  · rw [if_neg e]
    have : (k < lim ∨ (k = lim ∧ (if a' = true then 1 else 0) < j)) ↔ (k < lim ∨ (k = lim ∧ (if a' = true then 1 else 0) < j + 1)) := by
      cases a <;> cases a' <;> simp at hj e ⊢ <;> omega
    simp only [this]
/-- All that there is at place i. -/
def M.vs (r : M.Ru) (g : Nat → Int) (n i : Nat) (Wb : Int → Bool → Int) (k : Int) (a : Bool) : Option Int :=
  if M.ba r g n i k = 0 ∧ 0 < Wb k a then some (Wb k a) else none
theorem M.vt_end {r : M.Ru} {g : Nat → Int} {n i : Nat} {Wb : Int → Bool → Int} : M.vt r g n i Wb (r.high + 1) 0 = M.vs r g n i Wb := by
  funext k a
  unfold M.vt M.vs
  by_cases h : M.ba r g n i k = 0
  · have : k ≤ r.high := by
      by_cases e : r.high < k
      · rw [M.ba_range (Or.inr (Or.inl e))] at h; cases h
      · omega
    have h2 : (k < r.high + 1 ∨ (k = r.high + 1 ∧ (if a = true then 1 else 0) < 0)) := Or.inl (by omega)
    simp only [h2, true_and]
  · rw [if_neg (fun x => h x.2.1), if_neg (fun x => h x.1)]

set_option maxRecDepth 100000 in
set_option maxHeartbeats 8000000 in
theorem states_at (r : M.Ru) (ao : Option Addr) (n c i : Nat) (g : Nat → Int) (sb wb : Nat) (w : World) (hs : SR w sb r ao n c g wb) (hc : n ≤ c) (hcm : c ≤ 9223372036854775807)
    (hr : r.Ok) (hi : i < n) (hn : n ≤ 64) (hg : ∀ j, j < n → 0 ≤ g j ∧ g j ≤ 127) (Wb : Int → Bool → Int) (hW0 : ∀ k a, 0 ≤ Wb k a ∧ Wb k a ≤ 1000000000)
    (HW : ∀ k a w', Below w.heap.size w w' → 0 ≤ k → k ≤ 127 → Calls Try.prog 41 #[.pointer (some ⟨sb, 0, none⟩), .int .i64 ((i : Int) + 1), .agg #[.int .i64 k, .bool a]] w' fun e w'' => e = .returned (.int .i64 (Wb k a)) ∧ Below w'.heap.size w' w'') :
    Calls Try.prog 55 #[.pointer (some ⟨sb, 0, none⟩), .int .i64 (i : Int)] w fun e w' => e = .returned (.map (some w.heap.size)) ∧ MapAt w' w.heap.size 256 (M.vs r g n i Wb) ∧ Below w.heap.size w w' := by
  have hmm := @run_makeMap Try.prog
  have h0 := hs.c0
  have h1 := hs.c1
  have hl := hs.lt
  have r1 := hr.l0
  have r2 := hr.hm
  have r3 := hr.lh
  have HB := fun k w hp h0 hm => breaksAlone_any r ao n c i g k w hp hc hcm hr h0 hm hi hn hg
  have e1 : (w.alloc (.map #[] 0)).heap.size = w.heap.size + 1 := by simp
  have ix0 : ∀ (k : Int) (w : World), (Instr.index 81 (.agg #[.int .i64 k, .bool false, .int .i64 k, .bool true]) (.int .i64 0)).run Try.prog w = .ok (.agg #[.int .i64 k, .bool false]) w := fun _ _ => by kernel_rfl
  have ix1 : ∀ (k : Int) (w : World), (Instr.index 81 (.agg #[.int .i64 k, .bool false, .int .i64 k, .bool true]) (.int .i64 1)).run Try.prog w = .ok (.agg #[.int .i64 k, .bool true]) w := fun _ _ => by kernel_rfl
  have E0 : Hid (MapAt (w.alloc (.map #[] 0)) w.heap.size 0 (M.vt r g n i Wb r.low 0)) := by show MapAt _ _ _ _; rw [M.vt_low]; exact MapAt.made w
  have E1 : Hid (∀ lim, M.ba r g n i lim ≠ 0 → M.vt r g n i Wb lim 0 = M.vt r g n i Wb (lim + 1) 0) := fun lim => M.vt_skip
  have E2 : Hid (∀ lim, M.vt r g n i Wb lim 2 = M.vt r g n i Wb (lim + 1) 0) := fun lim => M.vt_done
  have E3 : Hid (∀ lim, ¬ 0 < Wb lim false → M.vt r g n i Wb lim 0 = M.vt r g n i Wb lim 1) := fun lim h => M.vt_none (a := false) rfl h
  have E4 : Hid (∀ lim, ¬ 0 < Wb lim true → M.vt r g n i Wb lim 1 = M.vt r g n i Wb lim 2) := fun lim h => M.vt_none (a := true) rfl h
  have E5 : Hid (∀ lim, M.ba r g n i lim = 0 → 0 < Wb lim false → upd (M.vt r g n i Wb lim 0) lim false (Wb lim false) = M.vt r g n i Wb lim 1) := fun lim h h2 => M.vt_put (a := false) rfl h h2
  have E6 : Hid (∀ lim, M.ba r g n i lim = 0 → 0 < Wb lim true → upd (M.vt r g n i Wb lim 1) lim true (Wb lim true) = M.vt r g n i Wb lim 2) := fun lim h h2 => M.vt_put (a := true) rfl h h2
  have E7 : Hid (M.vt r g n i Wb (r.high + 1) 0 = M.vs r g n i Wb) := M.vt_end
  generalize M.vt r g n i Wb = VT at *
  generalize M.vs r g n i Wb = VS at *
  generalize M.ba r g n i = BA at *
  go_enter Try.func55, Try.ntmps55
  go_wp2_with fail
  go_loopw [6] (fun s wr => ∃ (k : Int) (m : Nat), s = .int .i64 k ∧ r.low ≤ k ∧ k ≤ r.high + 1 ∧ (m : Int) ≤ 2 * (k - r.low) ∧ MapAt wr w.heap.size m (VT k 0) ∧ Below w.heap.size w wr) (fun s _ => (r.high + 1 - intOf s).toNat)
  case atStart => exact ⟨r.low, 0, rfl, by omega, by omega, by omega, E0.out, (Below.refl _ _).alloc (Nat.le_refl _) _⟩
  case round =>
    obtain ⟨k, m, rfl, k0, k1, hm, hmap, hbr⟩ := hrel
    have zr := hbr.size
    have hsr := hs.step hbr
    have y0 := hsr.c0
    have y1 := hsr.c1
    have y2 := hsr.c2
    have y3 := hsr.c3
    have y4 := hsr.c4
    have y5 := hsr.c5
    have hl1 := hsr.lt
    by_cases hk : k ≤ r.high
    · have HBk := fun w hp => HB k w hp (by omega) (by omega)
      have cB : ∀ d os, Calls Try.prog 36 #[.agg #[.int .i64 r.low, .int .i64 r.high, .bool r.above, .int .i64 r.leap, .int .i64 r.classes], .slice ao n c, .int .i64 (i : Int), .int .i64 k] (grow (redrawn wr d) os) fun e w'' => e = .returned (.int .i64 (BA k)) ∧ ∃ p : Regrown, w'' = grow (redrawn wr p.d) p.os := fun d os => Calls.regrown_of (HBk _ (hsr.li.step (below_regrown wr d os)))
      have kx0 := cell_regrown y0
      have kx1 := cell_regrown y1
      have kx2 := cell_regrown y2
      have kx3 := cell_regrown y3
      have kx4 := cell_regrown y4
      have kx5 := cell_regrown y5
      have wk1 : IntKind.i64.wrap (k + 1) = k + 1 := wid (by omega) (by omega)
      have wi1 : IntKind.i64.wrap ((i : Int) + 1) = (i : Int) + 1 := wid (by omega) (by omega)
      clear HB HBk
      by_cases hb : BA k = 0
      · have hb' : (BA k != 0) = false := by simp [hb]
        clear E0 E1 E7
        go_wp2_with fail
        refine wp_region_quiet_below (by kernel_rfl) (by kernel_rfl) ?_
        repeat (go_big_quiet_step (first | exact cB _ _))
        refine wpQuiet_nil ?_
        intro _ hw'
        obtain ⟨⟨dq, osq⟩, hw''⟩ := hw'
        subst hw''
        have hBx0 := hbr.trans ((below_regrown wr dq osq).mono zr)
        have hMx0 := hmap.step (below_regrown wr dq osq)
        obtain ⟨x, hx⟩ : ∃ x, x = grow (redrawn wr dq) osq := ⟨_, rfl⟩
        rw [← hx] at hBx0 hMx0 ⊢
        have hBx := hBx0
        have hMx := hMx0
        have zx := hBx.size
        clear hBx0 hMx0 hx cB kx0 kx1 kx2 kx3 kx4 kx5 y0 y1 y2 y3 y4 y5 hl1 hsr
        go_wp2_with fail
        refine wp_loop_rounds 3 ?_
        rw [rounds_succ]
        go_wp2_with fail
        refine (HW k false _ (hBx.trans (((Below.refl _ _).alloc (Nat.le_refl _) _).mono (by omega))) (by omega) (by omega)).mono ?_
        rintro e xn ⟨rfl, hq⟩
        have kq : Below x.heap.size x xn := ((Below.refl _ _).alloc (Nat.le_refl _) _).trans (hq.mono (by simp))
        have g0 := keepC hq (by simp) (show (x.alloc (.cells #[.int .i64 k, .bool false] 55)).cell? ⟨x.heap.size, 0, none⟩ = some (.int .i64 k) by simp [go_sem])
        have g1 := keepC hq (by simp) (show (x.alloc (.cells #[.int .i64 k, .bool false] 55)).cell? ⟨x.heap.size, 1, none⟩ = some (.bool false) by simp [go_sem])
        have sq : x.heap.size < xn.heap.size := by have := hq.size; simp at this; omega
        have hBxn : Below w.heap.size w xn := hBx.trans (kq.mono zx)
        have hMxn := hMx.step kq
        have zxn := hBxn.size
        clear hq kq hBx hMx
        by_cases c0 : 0 < Wb k false
        · have hu : Hid (upd (VT k 0) k false (Wb k false) = VT k 1) := E5.out k hb c0
          have hwv := hW0 k false
          obtain ⟨D, hown, hD⟩ := hMxn
          go_wp2_with (first
            | (at_mapUpdate; refine wpList_mapUpdate_own _ rfl _ _ _ 76 rfl 55 3 stLaw Try.underlying76 _ w.heap.size (m) _ rfl hown (by unfold maxLen; omega) _ _ _ rfl rfl (keyOf_st k false (wfk (by omega) (by omega))) _ [] (plainElem_int Try.underlying3 (wfk (by omega) (by omega))) ?_; intro xp hown2 hg2; go_frame)
            | go_in)
          have hMxp : MapAt xp w.heap.size (m + 1) (VT k 1) := by rw [← hu.out]; exact ⟨_, hown2, MapAt.put hown.isMap hD (wfk (by omega) (by omega))⟩
          have hBxp : Below w.heap.size w xp := hBxn.grown hg2 hBxn.size (fun j hj => by cases hj; exact Nat.le_refl _)
          have zxp := hBxp.size
          clear hown hD hown2 hg2 hBxn hu g0 g1
          rw [rounds_succ]
          go_wp2_with fail
          refine (HW k true _ (hBxp.trans (((Below.refl _ _).alloc (Nat.le_refl _) _).mono (by omega))) (by omega) (by omega)).mono ?_
          rintro e xpn ⟨rfl, hq⟩
          have kq : Below xp.heap.size xp xpn := ((Below.refl _ _).alloc (Nat.le_refl _) _).trans (hq.mono (by simp))
          have g0 := keepC hq (by simp) (show (xp.alloc (.cells #[.int .i64 k, .bool true] 55)).cell? ⟨xp.heap.size, 0, none⟩ = some (.int .i64 k) by simp [go_sem])
          have g1 := keepC hq (by simp) (show (xp.alloc (.cells #[.int .i64 k, .bool true] 55)).cell? ⟨xp.heap.size, 1, none⟩ = some (.bool true) by simp [go_sem])
          have sq : xp.heap.size < xpn.heap.size := by have := hq.size; simp at this; omega
          have hBxpn : Below w.heap.size w xpn := hBxp.trans (kq.mono zxp)
          have hMxpn := hMxp.step kq
          have zxpn := hBxpn.size
          clear hq kq hBxp hMxp
          by_cases c1 : 0 < Wb k true
          · have hu : Hid (upd (VT k 1) k true (Wb k true) = VT k 2) := E6.out k hb c1
            have hwv := hW0 k true
            obtain ⟨D, hown, hD⟩ := hMxpn
            go_wp2_with (first
              | (at_mapUpdate; refine wpList_mapUpdate_own _ rfl _ _ _ 76 rfl 55 3 stLaw Try.underlying76 _ w.heap.size (m + 1) _ rfl hown (by unfold maxLen; omega) _ _ _ rfl rfl (keyOf_st k true (wfk (by omega) (by omega))) _ [] (plainElem_int Try.underlying3 (wfk (by omega) (by omega))) ?_; intro xpp hown2 hg2; go_frame)
              | go_in)
            have hMxpp : MapAt xpp w.heap.size (m + 1 + 1) (VT k 2) := by rw [← hu.out]; exact ⟨_, hown2, MapAt.put hown.isMap hD (wfk (by omega) (by omega))⟩
            have hBxpp : Below w.heap.size w xpp := hBxpn.grown hg2 hBxpn.size (fun j hj => by cases hj; exact Nat.le_refl _)
            have zxpp := hBxpp.size
            clear hown hD hown2 hg2 hBxpn hu g0 g1
            have hd : Hid (VT k 2 = VT (k + 1) 0) := E2.out k
            rw [rounds_succ]
            go_wp2_with fail
            go_roundw
            case rel => exact ⟨k + 1, m + 1 + 1, rfl, by omega, by omega, by omega, by rw [← hd.out]; exact hMxpp, hBxpp⟩
            case measure => simp [intOf]; omega
          · have hu : Hid (VT k 1 = VT k 2) := E4.out k (by omega)
            have hwv := hW0 k true
            rw [hu.out] at hMxpn
            clear g0 g1 hu
            go_wp2_with fail
            have hd : Hid (VT k 2 = VT (k + 1) 0) := E2.out k
            rw [rounds_succ]
            go_wp2_with fail
            go_roundw
            case rel => exact ⟨k + 1, m + 1, rfl, by omega, by omega, by omega, by rw [← hd.out]; exact hMxpn, hBxpn⟩
            case measure => simp [intOf]; omega
        · have hu : Hid (VT k 0 = VT k 1) := E3.out k (by omega)
          have hwv := hW0 k false
          rw [hu.out] at hMxn
          clear g0 g1 hu
          go_wp2_with fail
          rw [rounds_succ]
          go_wp2_with fail
          refine (HW k true _ (hBxn.trans (((Below.refl _ _).alloc (Nat.le_refl _) _).mono (by omega))) (by omega) (by omega)).mono ?_
          rintro e xnn ⟨rfl, hq⟩
          have kq : Below xn.heap.size xn xnn := ((Below.refl _ _).alloc (Nat.le_refl _) _).trans (hq.mono (by simp))
          have g0 := keepC hq (by simp) (show (xn.alloc (.cells #[.int .i64 k, .bool true] 55)).cell? ⟨xn.heap.size, 0, none⟩ = some (.int .i64 k) by simp [go_sem])
          have g1 := keepC hq (by simp) (show (xn.alloc (.cells #[.int .i64 k, .bool true] 55)).cell? ⟨xn.heap.size, 1, none⟩ = some (.bool true) by simp [go_sem])
          have sq : xn.heap.size < xnn.heap.size := by have := hq.size; simp at this; omega
          have hBxnn : Below w.heap.size w xnn := hBxn.trans (kq.mono zxn)
          have hMxnn := hMxn.step kq
          have zxnn := hBxnn.size
          clear hq kq hBxn hMxn
          by_cases c1 : 0 < Wb k true
          · have hu : Hid (upd (VT k 1) k true (Wb k true) = VT k 2) := E6.out k hb c1
            have hwv := hW0 k true
            obtain ⟨D, hown, hD⟩ := hMxnn
            go_wp2_with (first
              | (at_mapUpdate; refine wpList_mapUpdate_own _ rfl _ _ _ 76 rfl 55 3 stLaw Try.underlying76 _ w.heap.size (m) _ rfl hown (by unfold maxLen; omega) _ _ _ rfl rfl (keyOf_st k true (wfk (by omega) (by omega))) _ [] (plainElem_int Try.underlying3 (wfk (by omega) (by omega))) ?_; intro xnp hown2 hg2; go_frame)
              | go_in)
            have hMxnp : MapAt xnp w.heap.size (m + 1) (VT k 2) := by rw [← hu.out]; exact ⟨_, hown2, MapAt.put hown.isMap hD (wfk (by omega) (by omega))⟩
            have hBxnp : Below w.heap.size w xnp := hBxnn.grown hg2 hBxnn.size (fun j hj => by cases hj; exact Nat.le_refl _)
            have zxnp := hBxnp.size
            clear hown hD hown2 hg2 hBxnn hu g0 g1
            have hd : Hid (VT k 2 = VT (k + 1) 0) := E2.out k
            rw [rounds_succ]
            go_wp2_with fail
            go_roundw
            case rel => exact ⟨k + 1, m + 1, rfl, by omega, by omega, by omega, by rw [← hd.out]; exact hMxnp, hBxnp⟩
            case measure => simp [intOf]; omega
          · have hu : Hid (VT k 1 = VT k 2) := E4.out k (by omega)
            have hwv := hW0 k true
            rw [hu.out] at hMxnn
            clear g0 g1 hu
            go_wp2_with fail
            have hd : Hid (VT k 2 = VT (k + 1) 0) := E2.out k
            rw [rounds_succ]
            go_wp2_with fail
            go_roundw
            case rel => exact ⟨k + 1, m, rfl, by omega, by omega, by omega, by rw [← hd.out]; exact hMxnn, hBxnn⟩
            case measure => simp [intOf]; omega
      · have hb' : (BA k != 0) = true := by simp [hb]
        have hsk : Hid (VT k 0 = VT (k + 1) 0) := E1.out k hb
        clear E0 E1 E2 E3 E4 E5 E6 E7 HW
        go_wp2_with fail
        refine wp_region_quiet_below (by kernel_rfl) (by kernel_rfl) ?_
        repeat (go_big_quiet_step (first | exact cB _ _))
        refine wpQuiet_nil ?_
        intro _ hw'
        obtain ⟨⟨dq, osq⟩, hw''⟩ := hw'
        subst hw''
        go_wp2_with fail
        go_roundw
        case rel => exact ⟨k + 1, m, rfl, by omega, by omega, by omega, by rw [← hsk.out]; exact hmap.step (below_regrown wr dq osq), hbr.trans ((below_regrown wr dq osq).mono zr)⟩
        case measure => simp [intOf]; omega
    · have hke : k = r.high + 1 := by omega
      subst hke
      have hm2 : m ≤ 256 := by omega
      have E := E7.out
      rw [E] at hmap
      clear E0 E1 E2 E3 E4 E5 E6 E7 HW HB E
      go_wp2_with fail
      go_returns
      exact ⟨rfl, hmap.mono hm2, hbr⟩
end Go.Proofs.Ytmgkbnlmdhnjnae.U
