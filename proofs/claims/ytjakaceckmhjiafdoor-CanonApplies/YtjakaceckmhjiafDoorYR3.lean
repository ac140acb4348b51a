/- What the document's Order comes to. -/
import Derived.Test.YtjakaceckmhjiafDoorYR1
import Derived.Test.YtjakaceckmhjiafDoorYR2
import Derived.Test.YtjakaceckmhjiafDoorY8
import Derived.LoopTactic
namespace Go.Proofs.YtjakaceckmhjiafDoor.Y
open Go.RowKit Go.Sort
set_option linter.unusedVariables false
set_option linter.unusedSimpArgs false

/-- What comes of Order. -/
def OrdQ (Y : Nat → Tn) (n : Nat) (w : World) (e : Ending) (w' : World) : Prop := ∃ v Z, e = .returned v ∧ w'.ownsRow w.heap.size 44 5 v n (rows (tc Z) n) ∧ (tab Z n).Perm (tab Y n) ∧ Ord (tab Z n)

theorem add_block (a : Addr) (j : Nat) : (a.add j).block = a.block := by unfold Addr.add; by_cases h : j = 0 <;> simp [h]
theorem own_lower {w : World} {base b : Nat} {e : TypeId} {size : Nat} {v : Value} {n : Nat} {xs : List Value} (h : w.ownsRow base e size v n xs) (hb : b ≤ base) : w.ownsRow b e size v n xs := by
  refine ⟨h.1, ?_⟩
  rcases h.2 with hn | ⟨g, cap, cur, rfl, h1, rest⟩
  · exact .inl hn
  · exact .inr ⟨g, cap, cur, rfl, by omega, rest⟩
theorem own_third (w : World) (C : Obj) : (((w.alloc C).alloc (Obj.cells #[] 44)).drew).ownsRow w.heap.size 44 5 (.slice (some ⟨w.heap.size + 1, 0, none⟩) 0 0) 0 [] := by
  have h := (World.ownsRow_lit (base := w.heap.size) (e := 44) (size := 5) (w.alloc C) #[] 0 (by simp) (by decide) rfl).drew
  simp only [World.size_alloc] at h
  exact h
theorem tone_news (x : Tn) (W : World) (b : Nat) (h0 : W.cell? ⟨b, 0, none⟩ = some (.int .i64 x.t)) (h1 : W.cell? ⟨b, 1, none⟩ = some (.int .i64 x.g)) (h2 : W.cell? ⟨b, 2, none⟩ = some (.int .i64 x.l)) (h3 : W.cell? ⟨b, 3, none⟩ = some (.int .i64 x.a)) (h4 : W.cell? ⟨b, 4, none⟩ = some (.int .i64 x.o)) :
    ∀ j u, (rows (tc fun _ => x) 1)[j]? = some u → W.cell? ((⟨b, 0, none⟩ : Addr).add j) = some u :=
  line_news (off := 0) (n := 1) (T := fun _ => x) (fun j hj => by rw [show j = 0 by omega]; exact h0) (fun j hj => by rw [show j = 0 by omega]; exact h1) (fun j hj => by rw [show j = 0 by omega]; exact h2) (fun j hj => by rw [show j = 0 by omega]; exact h3) (fun j hj => by rw [show j = 0 by omega]; exact h4)
theorem part_news {W : World} {g q k : Nat} {Z : Nat → Tn} (h : TL W (some ⟨g, 0, none⟩) q Z) (hk : k ≤ q) : ∀ j u, (rows (tc Z) k)[j]? = some u → W.cell? ((⟨g, 0, none⟩ : Addr).add j) = some u := by
  by_cases h0 : k = 0
  · subst h0; intro j u hj; simp [rows] at hj
  · obtain ⟨b, off, e, _, q0, q1, q2, q3, q4⟩ := h.at' (by omega)
    cases e
    exact line_news (fun j hj => q0 j (by omega)) (fun j hj => q1 j (by omega)) (fun j hj => q2 j (by omega)) (fun j hj => q3 j (by omega)) (fun j hj => q4 j (by omega))
theorem rest_news {W : World} {g q k : Nat} {Z : Nat → Tn} (h : TL W (some ⟨g, 0, none⟩) q Z) (hk : k ≤ q) : ∀ j u, (rows (tc fun j => Z (k + j)) (q - k))[j]? = some u → W.cell? ((⟨g, k * 5, none⟩ : Addr).add j) = some u := by
  by_cases h0 : q - k = 0
  · rw [h0]; intro j u hj; simp [rows] at hj
  · obtain ⟨b, off, e, _, q0, q1, q2, q3, q4⟩ := h.at' (by omega)
    cases e
    have c : ∀ j i, k * 5 + j * 5 + i = 0 + (k + j) * 5 + i := fun j i => by omega
    refine line_news (fun j hj => ?_) (fun j hj => ?_) (fun j hj => ?_) (fun j hj => ?_) (fun j hj => ?_)
    · have := q0 (k + j) (by omega); rw [show k * 5 + j * 5 = 0 + (k + j) * 5 by omega]; exact this
    · rw [c]; exact q1 (k + j) (by omega)
    · rw [c]; exact q2 (k + j) (by omega)
    · rw [c]; exact q3 (k + j) (by omega)
    · rw [c]; exact q4 (k + j) (by omega)

set_option maxRecDepth 20000 in
set_option maxHeartbeats 8000000 in
theorem Order_any (ao : Option Addr) (n cap : Nat) (Y : Nat → Tn) (w : World) (hp : TL w ao n Y) (hn : n ≤ 1024) (hc : n ≤ cap) :
    Calls Tryd.prog 28 #[.slice ao n cap] w fun e w' => OrdQ Y n w e w' ∧ Go.RowKit.Below w.heap.size w w' := by
  obtain ⟨i0, hi, hz0, hz1, hz2⟩ := info_of infoT
  go_enter Tryd.func28, Tryd.ntmps28
  go_wp2_with fail
  go_loopw [3, 9] (fun v i wr => ∃ (q : Nat) (Z : Nat → Tn), q ≤ n ∧ i = .int .i64 q ∧ wr.ownsRow w.heap.size 44 5 v q (rows (tc Z) q) ∧ Hid ((tab Z q).Perm (tab Y q) ∧ ∀ i j, i < j → j < q → lt (Z j) (Z i) = false) ∧ Go.RowKit.Below w.heap.size w wr) (fun _ i _ => n - (intOf i).toNat)
  case atStart => exact ⟨0, Y, by omega, rfl, World.ownsRow_nil _ _ _ _, ⟨List.Perm.refl _, fun i j h1 h2 => by omega⟩, Below.refl _ _⟩
  case round =>
    obtain ⟨q, Z, hqn, rfl, hown, HZ, hbr⟩ := hrel
    obtain ⟨w1, hw1⟩ : ∃ x, x = wr := ⟨wr, rfl⟩
    subst hw1
    by_cases hlt : q < n
    · obtain ⟨b, off, rfl, hbl, p0, p1, p2, p3, p4⟩ := (hp.keep hbr).at' (by omega)
      have r0 := p0 q hlt
      have r1 := p1 q hlt
      have r2 := p2 q hlt
      have r3 := p3 q hlt
      have r4 := p4 q hlt
      obtain ⟨bo, bc, rfl, hqc, hbc, hTL, hform⟩ := own_TL hown
      have HX : Hid (∃ x, x = Y q) := ⟨_, rfl⟩
      clear p0 p1 p2 p3 p4
      generalize hx : Y q = x at *
      have hxx : Hid (Y q = x) := hx
      clear hx HX
      go_wp2_with fail
      have h1a : Go.RowKit.Below w1.heap.size w1 (w1.alloc (Obj.cells #[.int .i64 x.t, .int .i64 x.g, .int .i64 x.l, .int .i64 x.a, .int .i64 x.o] 44)) := by go_grown
      have X0 : (w1.alloc (Obj.cells #[.int .i64 x.t, .int .i64 x.g, .int .i64 x.l, .int .i64 x.a, .int .i64 x.o] 44)).cell? ⟨w1.heap.size, 0, none⟩ = some (.int .i64 x.t) := by simp [go_sem]
      have X1 : (w1.alloc (Obj.cells #[.int .i64 x.t, .int .i64 x.g, .int .i64 x.l, .int .i64 x.a, .int .i64 x.o] 44)).cell? ⟨w1.heap.size, 1, none⟩ = some (.int .i64 x.g) := by simp [go_sem]
      have X2 : (w1.alloc (Obj.cells #[.int .i64 x.t, .int .i64 x.g, .int .i64 x.l, .int .i64 x.a, .int .i64 x.o] 44)).cell? ⟨w1.heap.size, 2, none⟩ = some (.int .i64 x.l) := by simp [go_sem]
      have X3 : (w1.alloc (Obj.cells #[.int .i64 x.t, .int .i64 x.g, .int .i64 x.l, .int .i64 x.a, .int .i64 x.o] 44)).cell? ⟨w1.heap.size, 3, none⟩ = some (.int .i64 x.a) := by simp [go_sem]
      have X4 : (w1.alloc (Obj.cells #[.int .i64 x.t, .int .i64 x.g, .int .i64 x.l, .int .i64 x.a, .int .i64 x.o] 44)).cell? ⟨w1.heap.size, 4, none⟩ = some (.int .i64 x.o) := by simp [go_sem]
      have za : (w1.alloc (Obj.cells #[.int .i64 x.t, .int .i64 x.g, .int .i64 x.l, .int .i64 x.a, .int .i64 x.o] 44)).heap.size = w1.heap.size + 1 := by simp
      generalize (w1.alloc (Obj.cells #[.int .i64 x.t, .int .i64 x.g, .int .i64 x.l, .int .i64 x.a, .int .i64 x.o] 44)) = w2 at *
      clear r0 r1 r2 r3 r4
      go_loopw [6] (fun kv wi => ∃ k : Nat, k ≤ q ∧ kv = .int .i64 k ∧ Hid (∀ j, j < k → lt x (Z j) = false) ∧ Go.RowKit.Below (w1.heap.size + 1) w2 wi) (fun kv _ => q - (intOf kv).toNat)
      case atStart => exact ⟨0, by omega, rfl, fun j hj => by omega, Below.refl _ _⟩
      case round =>
        obtain ⟨k, hkq, rfl, hk, hbi⟩ := hrel
        have x0 := keepC hbi (by omega) X0
        have x1 := keepC hbi (by omega) X1
        have x2 := keepC hbi (by omega) X2
        have x3 := keepC hbi (by omega) X3
        have x4 := keepC hbi (by omega) X4
        have zi := hbi.size
        have h1i : Go.RowKit.Below w1.heap.size w1 wr := h1a.trans (hbi.mono (by omega))
        have hTi := hTL.keep h1i
        have hwi : w1.heap.size < wr.heap.size := by omega
        by_cases hkl : k < q
        · obtain ⟨g, off', eg, hgl, q0, q1, q2, q3, q4⟩ := hTi.at' (by omega)
          subst eg
          have u0 := cell_regrown x0
          have u1 := cell_regrown x1
          have u2 := cell_regrown x2
          have u3 := cell_regrown x3
          have u4 := cell_regrown x4
          have s0 := cell_regrown (q0 k hkl)
          have s1 := cell_regrown (q1 k hkl)
          have s2 := cell_regrown (q2 k hkl)
          have s3 := cell_regrown (q3 k hkl)
          have s4 := cell_regrown (q4 k hkl)
          have cL : ∀ d os, Calls Tryd.prog 23 #[.agg #[.int .i64 x.t, .int .i64 x.g, .int .i64 x.l, .int .i64 x.a, .int .i64 x.o], .agg #[.int .i64 (Z k).t, .int .i64 (Z k).g, .int .i64 (Z k).l, .int .i64 (Z k).a, .int .i64 (Z k).o]] (grow (redrawn wr d) os) fun e w'' => e = .returned (.bool (lt x (Z k))) ∧ ∃ p : Regrown, w'' = grow (redrawn wr p.d) p.os := fun d os => Calls.regrown_of (Less_any x (Z k) _)
          have ek : decide ((k : Int) < (q : Int)) = true := by simp; omega
          cases hl : lt x (Z k)
          · simp only [hl] at cL
            have HN : Hid (∀ j, j < k + 1 → lt x (Z j) = false) := fun j hj => by
              by_cases ej : j = k
              · rw [ej]; exact hl
              · exact hk.out j (by omega)
            clear hl hk q0 q1 q2 q3 q4 x0 x1 x2 x3 x4 hTi
            go_wp2_with fail
            refine wp_region_quiet_below (by kernel_rfl) (by kernel_rfl) ?_
            repeat (go_big_quiet_step (exact cL _ _))
            refine wpQuiet_nil ?_
            intro _ hw'
            obtain ⟨⟨dq, osq⟩, hw''⟩ := hw'
            subst hw''
            go_wp2_with fail
            go_roundw
            case rel => exact ⟨k + 1, by omega, by go_num, HN, hbi.trans ((below_regrown wr dq osq).mono (by omega))⟩
            case measure => simp [intOf]; omega
          · simp only [hl] at cL
            have HT : Hid (k < q → lt x (Z k) = true) := fun _ => hl
            clear hl q0 q1 q2 q3 q4
            go_wp2_with fail
            refine wp_region_quiet_below (by kernel_rfl) (by kernel_rfl) ?_
            repeat (go_big_quiet_step (exact cL _ _))
            refine wpQuiet_nil ?_
            rintro w3 ⟨⟨dq, osq⟩, hw3⟩
            have hr3 : Go.RowKit.Below wr.heap.size wr w3 := by rw [hw3]; exact below_regrown wr dq osq
            clear hw3
            have x0 := keepC hr3 hwi x0
            have x1 := keepC hr3 hwi x1
            have x2 := keepC hr3 hwi x2
            have x3 := keepC hr3 hwi x3
            have x4 := keepC hr3 hwi x4
            have z3 := hr3.size
            have h13 : Go.RowKit.Below w1.heap.size w1 w3 := h1i.trans (hr3.mono (by omega))
            have hT3 := hTL.keep h13
            have hown3 := own_keep hown h13
            have hs3 : w1.heap.size < w3.heap.size := by omega
            have h03 : Go.RowKit.Below w.heap.size w w3 := hbr.trans (h13.mono hbr.size)
            go_wp2_with fail
            have HI : Hid ((tab (ins Z k x) (q + 1)).Perm (tab Y (q + 1)) ∧ ∀ i j, i < j → j < q + 1 → lt (ins Z k x j) (ins Z k x i) = false) := ⟨by have h1 := ins_perm (k := k) hkq HZ.out.1; rw [hxx.out] at h1; exact h1, ins_ord hkq HZ.out.2 hk.out HT.out⟩
            have hq1024 : q ≤ 1024 := by omega
            have hz30 := h03.size
            have hfin0 : ∀ (v : Value) (W : World), W.ownsRow w3.heap.size 44 5 v (0 + k + 1 + (q - k)) (([] ++ rows (tc Z) k) ++ rows (tc fun _ => x) 1 ++ rows (tc fun j => Z (k + j)) (q - k)) → Go.RowKit.Below w3.heap.size w3 W → W.ownsRow w.heap.size 44 5 v (q + 1) (rows (tc (ins Z k x)) (q + 1)) ∧ Go.RowKit.Below w.heap.size w W := fun v W ho hb => by
              rw [show 0 + k + 1 + (q - k) = q + 1 by omega] at ho
              rw [ins_rows Z k q x hkq]
              exact ⟨own_lower ho hz30, h03.trans (hb.mono hz30)⟩
            rcases hform with ⟨e, hq0, hc0⟩ | ⟨g2, eg2, hg1, hg2⟩
            · cases e
            · cases eg2
              have N1 : ∀ W, Go.RowKit.Below w3.heap.size w3 W → ∀ j u, (rows (tc Z) k)[j]? = some u → W.cell? ((⟨g, 0, none⟩ : Addr).add j) = some u := fun W hW => part_news (hT3.keep hW) hkq
              have N2 : ∀ W, Go.RowKit.Below w3.heap.size w3 W → ∀ j u, (rows (tc fun j => Z (k + j)) (q - k))[j]? = some u → W.cell? ((⟨g, k * 5, none⟩ : Addr).add j) = some u := fun W hW => rest_news (hT3.keep hW) hkq
              have hkc : k ≤ bc := by omega
              have hks : (k : Int) ≤ (bc : Int) := by omega
              by_cases hcap : bc = k
              · exact absurd hkl (by omega)
              · have hcap2 : ¬ (bc = k) := hcap
                have O1 : ((w3.alloc (Obj.cells #[] 44)).drew).ownsRow w3.heap.size 44 5 (.slice (some ⟨w3.heap.size, 0, none⟩) 0 0) 0 [] := (World.ownsRow_lit w3 #[] 0 (Nat.le_refl _) (by decide) rfl).drew
                have O2 : (((w3.alloc (Obj.cells #[] 44)).alloc (Obj.cells #[.int .i64 x.t, .int .i64 x.g, .int .i64 x.l, .int .i64 x.a, .int .i64 x.o] 44)).drew).ownsRow w3.heap.size 44 5 (.slice (some ⟨w3.heap.size, 0, none⟩) 0 0) 0 [] := ((World.ownsRow_lit w3 #[] 0 (Nat.le_refl _) (by decide) rfl).alloc _).drew
                have O3 : (((w3.alloc (Obj.cells #[.int .i64 x.t, .int .i64 x.g, .int .i64 x.l, .int .i64 x.a, .int .i64 x.o] 44)).alloc (Obj.cells #[] 44)).drew).ownsRow w3.heap.size 44 5 (.slice (some ⟨w3.heap.size + 1, 0, none⟩) 0 0) 0 [] := own_third w3 (Obj.cells #[.int .i64 x.t, .int .i64 x.g, .int .i64 x.l, .int .i64 x.a, .int .i64 x.o] 44)
                have D1 : Go.RowKit.Below w3.heap.size w3 ((w3.alloc (Obj.cells #[] 44)).drew) := by go_grown
                have D2 : Go.RowKit.Below w3.heap.size w3 (((w3.alloc (Obj.cells #[] 44)).alloc (Obj.cells #[.int .i64 x.t, .int .i64 x.g, .int .i64 x.l, .int .i64 x.a, .int .i64 x.o] 44)).drew) := by go_grown
                have D3 : Go.RowKit.Below w3.heap.size w3 (((w3.alloc (Obj.cells #[.int .i64 x.t, .int .i64 x.g, .int .i64 x.l, .int .i64 x.a, .int .i64 x.o] 44)).alloc (Obj.cells #[] 44)).drew) := by go_grown
                have S1 : w3.heap.size ≤ ((w3.alloc (Obj.cells #[] 44)).drew).heap.size := D1.size
                have S2 : w3.heap.size ≤ (((w3.alloc (Obj.cells #[] 44)).alloc (Obj.cells #[.int .i64 x.t, .int .i64 x.g, .int .i64 x.l, .int .i64 x.a, .int .i64 x.o] 44)).drew).heap.size := D2.size
                have S3 : w3.heap.size ≤ (((w3.alloc (Obj.cells #[.int .i64 x.t, .int .i64 x.g, .int .i64 x.l, .int .i64 x.a, .int .i64 x.o] 44)).alloc (Obj.cells #[] 44)).drew).heap.size := D3.size
                have C2 : ∀ j u, (rows (tc fun _ => x) 1)[j]? = some u → (((w3.alloc (Obj.cells #[] 44)).alloc (Obj.cells #[.int .i64 x.t, .int .i64 x.g, .int .i64 x.l, .int .i64 x.a, .int .i64 x.o] 44)).drew).cell? ((⟨w3.heap.size + 1, 0, none⟩ : Addr).add j) = some u := tone_news x _ _ (by simp [go_sem]) (by simp [go_sem]) (by simp [go_sem]) (by simp [go_sem]) (by simp [go_sem])
                have C3 : ∀ j u, (rows (tc fun _ => x) 1)[j]? = some u → (((w3.alloc (Obj.cells #[.int .i64 x.t, .int .i64 x.g, .int .i64 x.l, .int .i64 x.a, .int .i64 x.o] 44)).alloc (Obj.cells #[] 44)).drew).cell? ((⟨w3.heap.size, 0, none⟩ : Addr).add j) = some u := tone_news x _ _ (by simp [go_sem]) (by simp [go_sem]) (by simp [go_sem]) (by simp [go_sem]) (by simp [go_sem])
                have hbk : ∀ (v : Value) (W : World) (m : Nat) (xs : List Value), W.ownsRow w3.heap.size 44 5 v m xs → ∀ j, v.ownBlock = some j → w3.heap.size ≤ j := fun v W m xs ho j hj => (ho.lt j hj).1
                go_region_law (first
                  | (refine step_append_line (w := (w3.alloc (Obj.cells #[] 44)).drew) (by rfl) _ _ _ (by rfl) w3.heap.size 44 i0 _ Tryd.underlying22 hi hz0 hz1 hz2 rfl (.slice (some ⟨w3.heap.size, 0, none⟩) 0 0) 0 [] (by rfl) O1 (some ⟨g, 0, none⟩) k bc Z (by rfl) (.inr ⟨g, 0, rfl, N1 _ D1⟩) (by omega) S1 ?_; intro v1 W1 hown1 hgrow1 hat1; have hb1 : Go.RowKit.Below w3.heap.size w3 W1 := D1.grown hgrow1 S1 (hbk _ _ _ _ O1); have hz1' := hb1.size; have y0 := keepC hb1 hs3 x0; have y1 := keepC hb1 hs3 x1; have y2 := keepC hb1 hs3 x2; have y3 := keepC hb1 hs3 x3; have y4 := keepC hb1 hs3 x4; have ys : w1.heap.size < W1.heap.size := Nat.lt_of_lt_of_le hs3 hz1')
                  | (refine step_append_line (w := ((w3.alloc (Obj.cells #[] 44)).alloc (Obj.cells #[.int .i64 x.t, .int .i64 x.g, .int .i64 x.l, .int .i64 x.a, .int .i64 x.o] 44)).drew) (by rfl) _ _ _ (by rfl) w3.heap.size 44 i0 _ Tryd.underlying22 hi hz0 hz1 hz2 rfl (.slice (some ⟨w3.heap.size, 0, none⟩) 0 0) 0 [] (by rfl) O2 (some ⟨g, 0, none⟩) k bc Z (by rfl) (.inr ⟨g, 0, rfl, N1 _ D2⟩) (by omega) S2 ?_; intro v1 W1 hown1 hgrow1 hat1; have hb1 : Go.RowKit.Below w3.heap.size w3 W1 := D2.grown hgrow1 S2 (hbk _ _ _ _ O2); have T1 : ∀ j u, (rows (tc fun _ => x) 1)[j]? = some u → W1.cell? ((⟨w3.heap.size + 1, 0, none⟩ : Addr).add j) = some u := fun j u hj => hgrow1.cell (C2 j u hj) (by rw [show ((⟨w3.heap.size + 1, 0, none⟩ : Addr).add j).block = w3.heap.size + 1 from add_block _ _]; simp [Value.ownBlock]); have hz1' := hb1.size; have y0 := keepC hb1 hs3 x0; have y1 := keepC hb1 hs3 x1; have y2 := keepC hb1 hs3 x2; have y3 := keepC hb1 hs3 x3; have y4 := keepC hb1 hs3 x4; have ys : w1.heap.size < W1.heap.size := Nat.lt_of_lt_of_le hs3 hz1')
                  | (refine step_append_line (w := ((w3.alloc (Obj.cells #[.int .i64 x.t, .int .i64 x.g, .int .i64 x.l, .int .i64 x.a, .int .i64 x.o] 44)).alloc (Obj.cells #[] 44)).drew) (by rfl) _ _ _ (by rfl) w3.heap.size 44 i0 _ Tryd.underlying22 hi hz0 hz1 hz2 rfl (.slice (some ⟨w3.heap.size + 1, 0, none⟩) 0 0) 0 [] (by rfl) O3 (some ⟨g, 0, none⟩) k bc Z (by rfl) (.inr ⟨g, 0, rfl, N1 _ D3⟩) (by omega) S3 ?_; intro v1 W1 hown1 hgrow1 hat1; have hb1 : Go.RowKit.Below w3.heap.size w3 W1 := D3.grown hgrow1 S3 (hbk _ _ _ _ O3); have T1 : ∀ j u, (rows (tc fun _ => x) 1)[j]? = some u → W1.cell? ((⟨w3.heap.size, 0, none⟩ : Addr).add j) = some u := fun j u hj => hgrow1.cell (C3 j u hj) (by rw [show ((⟨w3.heap.size, 0, none⟩ : Addr).add j).block = w3.heap.size from add_block _ _]; simp [Value.ownBlock]); have hz1' := hb1.size; have y0 := keepC hb1 hs3 x0; have y1 := keepC hb1 hs3 x1; have y2 := keepC hb1 hs3 x2; have y3 := keepC hb1 hs3 x3; have y4 := keepC hb1 hs3 x4; have ys : w1.heap.size < W1.heap.size := Nat.lt_of_lt_of_le hs3 hz1')
                  | (refine step_append_line (w := W1.alloc (Obj.cells #[.int .i64 x.t, .int .i64 x.g, .int .i64 x.l, .int .i64 x.a, .int .i64 x.o] 44)) (by rfl) _ _ _ (by rfl) w3.heap.size 44 i0 _ Tryd.underlying22 hi hz0 hz1 hz2 rfl v1 (0 + k) _ (by rfl) (hown1.alloc _) (some ⟨W1.heap.size, 0, none⟩) 1 1 (fun _ => x) (by rfl) (.inr ⟨W1.heap.size, 0, rfl, tone_news x _ _ (by simp [go_sem]) (by simp [go_sem]) (by simp [go_sem]) (by simp [go_sem]) (by simp [go_sem])⟩) (by omega) (by simp; omega) ?_; intro v2 W2 hown2 hgrow2 hat2; have hb2 : Go.RowKit.Below w3.heap.size w3 W2 := (hb1.alloc hz1' _).grown hgrow2 (by simp; omega) (hbk _ _ _ _ hown1); have hz2' := hb2.size)
                  | (refine step_append_line (w := W1) (by rfl) _ _ _ (by rfl) w3.heap.size 44 i0 _ Tryd.underlying22 hi hz0 hz1 hz2 rfl v1 (0 + k) _ (by rfl) hown1 (some ⟨w3.heap.size + 1, 0, none⟩) 1 1 (fun _ => x) (by rfl) (.inr ⟨w3.heap.size + 1, 0, rfl, T1⟩) (by omega) hz1' ?_; intro v2 W2 hown2 hgrow2 hat2; have hb2 : Go.RowKit.Below w3.heap.size w3 W2 := hb1.grown hgrow2 hz1' (hbk _ _ _ _ hown1); have hz2' := hb2.size)
                  | (refine step_append_line (w := W1) (by rfl) _ _ _ (by rfl) w3.heap.size 44 i0 _ Tryd.underlying22 hi hz0 hz1 hz2 rfl v1 (0 + k) _ (by rfl) hown1 (some ⟨w3.heap.size, 0, none⟩) 1 1 (fun _ => x) (by rfl) (.inr ⟨w3.heap.size, 0, rfl, T1⟩) (by omega) hz1' ?_; intro v2 W2 hown2 hgrow2 hat2; have hb2 : Go.RowKit.Below w3.heap.size w3 W2 := hb1.grown hgrow2 hz1' (hbk _ _ _ _ hown1); have hz2' := hb2.size)
                  | (refine step_append_line (w := W2) (by rfl) _ _ _ (by rfl) w3.heap.size 44 i0 _ Tryd.underlying22 hi hz0 hz1 hz2 rfl v2 (0 + k + 1) _ (by rfl) hown2 (some ⟨g, k * 5, none⟩) (q - k) (bc - k) (fun j => Z (k + j)) (by rfl) (.inr ⟨g, k * 5, rfl, N2 _ hb2⟩) (by omega) hz2' ?_; intro v3 W3 hown3' hgrow3 hat3; have hb3 : Go.RowKit.Below w3.heap.size w3 W3 := hb2.grown hgrow3 hz2' (hbk _ _ _ _ hown2)))
                all_goals
                  have hfin := hfin0 _ _ hown3' hb3
                  clear hown1 hown2 hown3' hgrow1 hgrow2 hgrow3 hat1 hat2 hat3 hb1 hb2 O1 O2 O3 D1 D2 D3 C2 C3
                  go_wp2_with fail
                  go_roundw
                  case rel => exact ⟨q + 1, ins Z k x, by omega, by go_num, hfin.1, HI, hfin.2⟩
                  case measure => simp [intOf]; omega
        · have HT : Hid (k < q → lt x (Z k) = true) := fun h => absurd h hkl
          have ek : decide ((k : Int) < (q : Int)) = false := by simp; omega
          go_wp2_with fail
          refine wp_region_quiet_below (by kernel_rfl) (by kernel_rfl) ?_
          repeat (go_big_quiet_step (fail))
          refine wpQuiet_nil ?_
          rintro w3 ⟨⟨dq, osq⟩, hw3⟩
          have hr3 : Go.RowKit.Below wr.heap.size wr w3 := by rw [hw3]; exact below_regrown wr dq osq
          clear hw3
          have x0 := keepC hr3 hwi x0
          have x1 := keepC hr3 hwi x1
          have x2 := keepC hr3 hwi x2
          have x3 := keepC hr3 hwi x3
          have x4 := keepC hr3 hwi x4
          have z3 := hr3.size
          have h13 : Go.RowKit.Below w1.heap.size w1 w3 := h1i.trans (hr3.mono (by omega))
          have hT3 := hTL.keep h13
          have hown3 := own_keep hown h13
          have hs3 : w1.heap.size < w3.heap.size := by omega
          have h03 : Go.RowKit.Below w.heap.size w w3 := hbr.trans (h13.mono hbr.size)
          go_wp2_with fail
          have HI : Hid ((tab (ins Z k x) (q + 1)).Perm (tab Y (q + 1)) ∧ ∀ i j, i < j → j < q + 1 → lt (ins Z k x j) (ins Z k x i) = false) := ⟨by have h1 := ins_perm (k := k) hkq HZ.out.1; rw [hxx.out] at h1; exact h1, ins_ord hkq HZ.out.2 hk.out HT.out⟩
          have hq1024 : q ≤ 1024 := by omega
          have hz30 := h03.size
          have hfin0 : ∀ (v : Value) (W : World), W.ownsRow w3.heap.size 44 5 v (0 + k + 1 + (q - k)) (([] ++ rows (tc Z) k) ++ rows (tc fun _ => x) 1 ++ rows (tc fun j => Z (k + j)) (q - k)) → Go.RowKit.Below w3.heap.size w3 W → W.ownsRow w.heap.size 44 5 v (q + 1) (rows (tc (ins Z k x)) (q + 1)) ∧ Go.RowKit.Below w.heap.size w W := fun v W ho hb => by
            rw [show 0 + k + 1 + (q - k) = q + 1 by omega] at ho
            rw [ins_rows Z k q x hkq]
            exact ⟨own_lower ho hz30, h03.trans (hb.mono hz30)⟩
          rcases hform with ⟨e, hq0, hc0⟩ | ⟨g2, eg2, hg1, hg2⟩
          · subst e hc0 hq0
            obtain rfl : k = 0 := by omega
            have O1 : ((w3.alloc (Obj.cells #[] 44)).drew).ownsRow w3.heap.size 44 5 (.slice (some ⟨w3.heap.size, 0, none⟩) 0 0) 0 [] := (World.ownsRow_lit w3 #[] 0 (Nat.le_refl _) (by decide) rfl).drew
            have O2 : (((w3.alloc (Obj.cells #[] 44)).alloc (Obj.cells #[.int .i64 x.t, .int .i64 x.g, .int .i64 x.l, .int .i64 x.a, .int .i64 x.o] 44)).drew).ownsRow w3.heap.size 44 5 (.slice (some ⟨w3.heap.size, 0, none⟩) 0 0) 0 [] := ((World.ownsRow_lit w3 #[] 0 (Nat.le_refl _) (by decide) rfl).alloc _).drew
            have O3 : (((w3.alloc (Obj.cells #[.int .i64 x.t, .int .i64 x.g, .int .i64 x.l, .int .i64 x.a, .int .i64 x.o] 44)).alloc (Obj.cells #[] 44)).drew).ownsRow w3.heap.size 44 5 (.slice (some ⟨w3.heap.size + 1, 0, none⟩) 0 0) 0 [] := own_third w3 (Obj.cells #[.int .i64 x.t, .int .i64 x.g, .int .i64 x.l, .int .i64 x.a, .int .i64 x.o] 44)
            have D1 : Go.RowKit.Below w3.heap.size w3 ((w3.alloc (Obj.cells #[] 44)).drew) := by go_grown
            have D2 : Go.RowKit.Below w3.heap.size w3 (((w3.alloc (Obj.cells #[] 44)).alloc (Obj.cells #[.int .i64 x.t, .int .i64 x.g, .int .i64 x.l, .int .i64 x.a, .int .i64 x.o] 44)).drew) := by go_grown
            have D3 : Go.RowKit.Below w3.heap.size w3 (((w3.alloc (Obj.cells #[.int .i64 x.t, .int .i64 x.g, .int .i64 x.l, .int .i64 x.a, .int .i64 x.o] 44)).alloc (Obj.cells #[] 44)).drew) := by go_grown
            have S1 : w3.heap.size ≤ ((w3.alloc (Obj.cells #[] 44)).drew).heap.size := D1.size
            have S2 : w3.heap.size ≤ (((w3.alloc (Obj.cells #[] 44)).alloc (Obj.cells #[.int .i64 x.t, .int .i64 x.g, .int .i64 x.l, .int .i64 x.a, .int .i64 x.o] 44)).drew).heap.size := D2.size
            have S3 : w3.heap.size ≤ (((w3.alloc (Obj.cells #[.int .i64 x.t, .int .i64 x.g, .int .i64 x.l, .int .i64 x.a, .int .i64 x.o] 44)).alloc (Obj.cells #[] 44)).drew).heap.size := D3.size
            have C2 : ∀ j u, (rows (tc fun _ => x) 1)[j]? = some u → (((w3.alloc (Obj.cells #[] 44)).alloc (Obj.cells #[.int .i64 x.t, .int .i64 x.g, .int .i64 x.l, .int .i64 x.a, .int .i64 x.o] 44)).drew).cell? ((⟨w3.heap.size + 1, 0, none⟩ : Addr).add j) = some u := tone_news x _ _ (by simp [go_sem]) (by simp [go_sem]) (by simp [go_sem]) (by simp [go_sem]) (by simp [go_sem])
            have C3 : ∀ j u, (rows (tc fun _ => x) 1)[j]? = some u → (((w3.alloc (Obj.cells #[.int .i64 x.t, .int .i64 x.g, .int .i64 x.l, .int .i64 x.a, .int .i64 x.o] 44)).alloc (Obj.cells #[] 44)).drew).cell? ((⟨w3.heap.size, 0, none⟩ : Addr).add j) = some u := tone_news x _ _ (by simp [go_sem]) (by simp [go_sem]) (by simp [go_sem]) (by simp [go_sem]) (by simp [go_sem])
            have hbk : ∀ (v : Value) (W : World) (m : Nat) (xs : List Value), W.ownsRow w3.heap.size 44 5 v m xs → ∀ j, v.ownBlock = some j → w3.heap.size ≤ j := fun v W m xs ho j hj => (ho.lt j hj).1
            go_region_law (first
              | (refine step_append_line (w := (w3.alloc (Obj.cells #[] 44)).drew) (by rfl) _ _ _ (by rfl) w3.heap.size 44 i0 _ Tryd.underlying22 hi hz0 hz1 hz2 rfl (.slice (some ⟨w3.heap.size, 0, none⟩) 0 0) 0 [] (by rfl) O1 none 0 0 Z (by rfl) (.inl ⟨rfl, rfl, rfl⟩) (by omega) S1 ?_; intro v1 W1 hown1 hgrow1 hat1; have hb1 : Go.RowKit.Below w3.heap.size w3 W1 := D1.grown hgrow1 S1 (hbk _ _ _ _ O1); have hz1' := hb1.size; have y0 := keepC hb1 hs3 x0; have y1 := keepC hb1 hs3 x1; have y2 := keepC hb1 hs3 x2; have y3 := keepC hb1 hs3 x3; have y4 := keepC hb1 hs3 x4; have ys : w1.heap.size < W1.heap.size := Nat.lt_of_lt_of_le hs3 hz1')
              | (refine step_append_line (w := ((w3.alloc (Obj.cells #[] 44)).alloc (Obj.cells #[.int .i64 x.t, .int .i64 x.g, .int .i64 x.l, .int .i64 x.a, .int .i64 x.o] 44)).drew) (by rfl) _ _ _ (by rfl) w3.heap.size 44 i0 _ Tryd.underlying22 hi hz0 hz1 hz2 rfl (.slice (some ⟨w3.heap.size, 0, none⟩) 0 0) 0 [] (by rfl) O2 none 0 0 Z (by rfl) (.inl ⟨rfl, rfl, rfl⟩) (by omega) S2 ?_; intro v1 W1 hown1 hgrow1 hat1; have hb1 : Go.RowKit.Below w3.heap.size w3 W1 := D2.grown hgrow1 S2 (hbk _ _ _ _ O2); have T1 : ∀ j u, (rows (tc fun _ => x) 1)[j]? = some u → W1.cell? ((⟨w3.heap.size + 1, 0, none⟩ : Addr).add j) = some u := fun j u hj => hgrow1.cell (C2 j u hj) (by rw [show ((⟨w3.heap.size + 1, 0, none⟩ : Addr).add j).block = w3.heap.size + 1 from add_block _ _]; simp [Value.ownBlock]); have hz1' := hb1.size; have y0 := keepC hb1 hs3 x0; have y1 := keepC hb1 hs3 x1; have y2 := keepC hb1 hs3 x2; have y3 := keepC hb1 hs3 x3; have y4 := keepC hb1 hs3 x4; have ys : w1.heap.size < W1.heap.size := Nat.lt_of_lt_of_le hs3 hz1')
              | (refine step_append_line (w := ((w3.alloc (Obj.cells #[.int .i64 x.t, .int .i64 x.g, .int .i64 x.l, .int .i64 x.a, .int .i64 x.o] 44)).alloc (Obj.cells #[] 44)).drew) (by rfl) _ _ _ (by rfl) w3.heap.size 44 i0 _ Tryd.underlying22 hi hz0 hz1 hz2 rfl (.slice (some ⟨w3.heap.size + 1, 0, none⟩) 0 0) 0 [] (by rfl) O3 none 0 0 Z (by rfl) (.inl ⟨rfl, rfl, rfl⟩) (by omega) S3 ?_; intro v1 W1 hown1 hgrow1 hat1; have hb1 : Go.RowKit.Below w3.heap.size w3 W1 := D3.grown hgrow1 S3 (hbk _ _ _ _ O3); have T1 : ∀ j u, (rows (tc fun _ => x) 1)[j]? = some u → W1.cell? ((⟨w3.heap.size, 0, none⟩ : Addr).add j) = some u := fun j u hj => hgrow1.cell (C3 j u hj) (by rw [show ((⟨w3.heap.size, 0, none⟩ : Addr).add j).block = w3.heap.size from add_block _ _]; simp [Value.ownBlock]); have hz1' := hb1.size; have y0 := keepC hb1 hs3 x0; have y1 := keepC hb1 hs3 x1; have y2 := keepC hb1 hs3 x2; have y3 := keepC hb1 hs3 x3; have y4 := keepC hb1 hs3 x4; have ys : w1.heap.size < W1.heap.size := Nat.lt_of_lt_of_le hs3 hz1')
              | (refine step_append_line (w := W1.alloc (Obj.cells #[.int .i64 x.t, .int .i64 x.g, .int .i64 x.l, .int .i64 x.a, .int .i64 x.o] 44)) (by rfl) _ _ _ (by rfl) w3.heap.size 44 i0 _ Tryd.underlying22 hi hz0 hz1 hz2 rfl v1 (0 + 0) _ (by rfl) (hown1.alloc _) (some ⟨W1.heap.size, 0, none⟩) 1 1 (fun _ => x) (by rfl) (.inr ⟨W1.heap.size, 0, rfl, tone_news x _ _ (by simp [go_sem]) (by simp [go_sem]) (by simp [go_sem]) (by simp [go_sem]) (by simp [go_sem])⟩) (by omega) (by simp; omega) ?_; intro v2 W2 hown2 hgrow2 hat2; have hb2 : Go.RowKit.Below w3.heap.size w3 W2 := (hb1.alloc hz1' _).grown hgrow2 (by simp; omega) (hbk _ _ _ _ hown1); have hz2' := hb2.size)
              | (refine step_append_line (w := W1) (by rfl) _ _ _ (by rfl) w3.heap.size 44 i0 _ Tryd.underlying22 hi hz0 hz1 hz2 rfl v1 (0 + 0) _ (by rfl) hown1 (some ⟨w3.heap.size + 1, 0, none⟩) 1 1 (fun _ => x) (by rfl) (.inr ⟨w3.heap.size + 1, 0, rfl, T1⟩) (by omega) hz1' ?_; intro v2 W2 hown2 hgrow2 hat2; have hb2 : Go.RowKit.Below w3.heap.size w3 W2 := hb1.grown hgrow2 hz1' (hbk _ _ _ _ hown1); have hz2' := hb2.size)
              | (refine step_append_line (w := W1) (by rfl) _ _ _ (by rfl) w3.heap.size 44 i0 _ Tryd.underlying22 hi hz0 hz1 hz2 rfl v1 (0 + 0) _ (by rfl) hown1 (some ⟨w3.heap.size, 0, none⟩) 1 1 (fun _ => x) (by rfl) (.inr ⟨w3.heap.size, 0, rfl, T1⟩) (by omega) hz1' ?_; intro v2 W2 hown2 hgrow2 hat2; have hb2 : Go.RowKit.Below w3.heap.size w3 W2 := hb1.grown hgrow2 hz1' (hbk _ _ _ _ hown1); have hz2' := hb2.size)
              | (refine step_append_line (w := W2) (by rfl) _ _ _ (by rfl) w3.heap.size 44 i0 _ Tryd.underlying22 hi hz0 hz1 hz2 rfl v2 (0 + 0 + 1) _ (by rfl) hown2 none 0 0 (fun j => Z (0 + j)) (by rfl) (.inl ⟨rfl, rfl, rfl⟩) (by omega) hz2' ?_; intro v3 W3 hown3' hgrow3 hat3; have hb3 : Go.RowKit.Below w3.heap.size w3 W3 := hb2.grown hgrow3 hz2' (hbk _ _ _ _ hown2)))
            all_goals
              have hfin := hfin0 _ _ hown3' hb3
              clear hown1 hown2 hown3' hgrow1 hgrow2 hgrow3 hat1 hat2 hat3 hb1 hb2 O1 O2 O3 D1 D2 D3 C2 C3
              go_wp2_with fail
              go_roundw
              case rel => exact ⟨0 + 1, ins Z 0 x, by omega, by go_num, hfin.1, HI, hfin.2⟩
              case measure => simp [intOf]; omega
          · subst eg2
            have N1 : ∀ W, Go.RowKit.Below w3.heap.size w3 W → ∀ j u, (rows (tc Z) k)[j]? = some u → W.cell? ((⟨g2, 0, none⟩ : Addr).add j) = some u := fun W hW => part_news (hT3.keep hW) hkq
            have N2 : ∀ W, Go.RowKit.Below w3.heap.size w3 W → ∀ j u, (rows (tc fun j => Z (k + j)) (q - k))[j]? = some u → W.cell? ((⟨g2, k * 5, none⟩ : Addr).add j) = some u := fun W hW => rest_news (hT3.keep hW) hkq
            have hkc : k ≤ bc := by omega
            have hks : (k : Int) ≤ (bc : Int) := by omega
            by_cases hcap : bc = k
            · have N3 : ∀ (a : Addr) (W : World) j u, (rows (tc fun j => Z (k + j)) (q - k))[j]? = some u → W.cell? (a.add j) = some u := fun a W j u hj => by rw [show q - k = 0 by omega] at hj; simp [rows] at hj
              have O1 : ((w3.alloc (Obj.cells #[] 44)).drew).ownsRow w3.heap.size 44 5 (.slice (some ⟨w3.heap.size, 0, none⟩) 0 0) 0 [] := (World.ownsRow_lit w3 #[] 0 (Nat.le_refl _) (by decide) rfl).drew
              have O2 : (((w3.alloc (Obj.cells #[] 44)).alloc (Obj.cells #[.int .i64 x.t, .int .i64 x.g, .int .i64 x.l, .int .i64 x.a, .int .i64 x.o] 44)).drew).ownsRow w3.heap.size 44 5 (.slice (some ⟨w3.heap.size, 0, none⟩) 0 0) 0 [] := ((World.ownsRow_lit w3 #[] 0 (Nat.le_refl _) (by decide) rfl).alloc _).drew
              have O3 : (((w3.alloc (Obj.cells #[.int .i64 x.t, .int .i64 x.g, .int .i64 x.l, .int .i64 x.a, .int .i64 x.o] 44)).alloc (Obj.cells #[] 44)).drew).ownsRow w3.heap.size 44 5 (.slice (some ⟨w3.heap.size + 1, 0, none⟩) 0 0) 0 [] := own_third w3 (Obj.cells #[.int .i64 x.t, .int .i64 x.g, .int .i64 x.l, .int .i64 x.a, .int .i64 x.o] 44)
              have D1 : Go.RowKit.Below w3.heap.size w3 ((w3.alloc (Obj.cells #[] 44)).drew) := by go_grown
              have D2 : Go.RowKit.Below w3.heap.size w3 (((w3.alloc (Obj.cells #[] 44)).alloc (Obj.cells #[.int .i64 x.t, .int .i64 x.g, .int .i64 x.l, .int .i64 x.a, .int .i64 x.o] 44)).drew) := by go_grown
              have D3 : Go.RowKit.Below w3.heap.size w3 (((w3.alloc (Obj.cells #[.int .i64 x.t, .int .i64 x.g, .int .i64 x.l, .int .i64 x.a, .int .i64 x.o] 44)).alloc (Obj.cells #[] 44)).drew) := by go_grown
              have S1 : w3.heap.size ≤ ((w3.alloc (Obj.cells #[] 44)).drew).heap.size := D1.size
              have S2 : w3.heap.size ≤ (((w3.alloc (Obj.cells #[] 44)).alloc (Obj.cells #[.int .i64 x.t, .int .i64 x.g, .int .i64 x.l, .int .i64 x.a, .int .i64 x.o] 44)).drew).heap.size := D2.size
              have S3 : w3.heap.size ≤ (((w3.alloc (Obj.cells #[.int .i64 x.t, .int .i64 x.g, .int .i64 x.l, .int .i64 x.a, .int .i64 x.o] 44)).alloc (Obj.cells #[] 44)).drew).heap.size := D3.size
              have C2 : ∀ j u, (rows (tc fun _ => x) 1)[j]? = some u → (((w3.alloc (Obj.cells #[] 44)).alloc (Obj.cells #[.int .i64 x.t, .int .i64 x.g, .int .i64 x.l, .int .i64 x.a, .int .i64 x.o] 44)).drew).cell? ((⟨w3.heap.size + 1, 0, none⟩ : Addr).add j) = some u := tone_news x _ _ (by simp [go_sem]) (by simp [go_sem]) (by simp [go_sem]) (by simp [go_sem]) (by simp [go_sem])
              have C3 : ∀ j u, (rows (tc fun _ => x) 1)[j]? = some u → (((w3.alloc (Obj.cells #[.int .i64 x.t, .int .i64 x.g, .int .i64 x.l, .int .i64 x.a, .int .i64 x.o] 44)).alloc (Obj.cells #[] 44)).drew).cell? ((⟨w3.heap.size, 0, none⟩ : Addr).add j) = some u := tone_news x _ _ (by simp [go_sem]) (by simp [go_sem]) (by simp [go_sem]) (by simp [go_sem]) (by simp [go_sem])
              have hbk : ∀ (v : Value) (W : World) (m : Nat) (xs : List Value), W.ownsRow w3.heap.size 44 5 v m xs → ∀ j, v.ownBlock = some j → w3.heap.size ≤ j := fun v W m xs ho j hj => (ho.lt j hj).1
              go_region_law (first
                | (refine step_append_line (w := (w3.alloc (Obj.cells #[] 44)).drew) (by rfl) _ _ _ (by rfl) w3.heap.size 44 i0 _ Tryd.underlying22 hi hz0 hz1 hz2 rfl (.slice (some ⟨w3.heap.size, 0, none⟩) 0 0) 0 [] (by rfl) O1 (some ⟨g2, 0, none⟩) k k Z (by rfl) (.inr ⟨g2, 0, rfl, N1 _ D1⟩) (by omega) S1 ?_; intro v1 W1 hown1 hgrow1 hat1; have hb1 : Go.RowKit.Below w3.heap.size w3 W1 := D1.grown hgrow1 S1 (hbk _ _ _ _ O1); have hz1' := hb1.size; have y0 := keepC hb1 hs3 x0; have y1 := keepC hb1 hs3 x1; have y2 := keepC hb1 hs3 x2; have y3 := keepC hb1 hs3 x3; have y4 := keepC hb1 hs3 x4; have ys : w1.heap.size < W1.heap.size := Nat.lt_of_lt_of_le hs3 hz1')
                | (refine step_append_line (w := ((w3.alloc (Obj.cells #[] 44)).alloc (Obj.cells #[.int .i64 x.t, .int .i64 x.g, .int .i64 x.l, .int .i64 x.a, .int .i64 x.o] 44)).drew) (by rfl) _ _ _ (by rfl) w3.heap.size 44 i0 _ Tryd.underlying22 hi hz0 hz1 hz2 rfl (.slice (some ⟨w3.heap.size, 0, none⟩) 0 0) 0 [] (by rfl) O2 (some ⟨g2, 0, none⟩) k k Z (by rfl) (.inr ⟨g2, 0, rfl, N1 _ D2⟩) (by omega) S2 ?_; intro v1 W1 hown1 hgrow1 hat1; have hb1 : Go.RowKit.Below w3.heap.size w3 W1 := D2.grown hgrow1 S2 (hbk _ _ _ _ O2); have T1 : ∀ j u, (rows (tc fun _ => x) 1)[j]? = some u → W1.cell? ((⟨w3.heap.size + 1, 0, none⟩ : Addr).add j) = some u := fun j u hj => hgrow1.cell (C2 j u hj) (by rw [show ((⟨w3.heap.size + 1, 0, none⟩ : Addr).add j).block = w3.heap.size + 1 from add_block _ _]; simp [Value.ownBlock]); have hz1' := hb1.size; have y0 := keepC hb1 hs3 x0; have y1 := keepC hb1 hs3 x1; have y2 := keepC hb1 hs3 x2; have y3 := keepC hb1 hs3 x3; have y4 := keepC hb1 hs3 x4; have ys : w1.heap.size < W1.heap.size := Nat.lt_of_lt_of_le hs3 hz1')
                | (refine step_append_line (w := ((w3.alloc (Obj.cells #[.int .i64 x.t, .int .i64 x.g, .int .i64 x.l, .int .i64 x.a, .int .i64 x.o] 44)).alloc (Obj.cells #[] 44)).drew) (by rfl) _ _ _ (by rfl) w3.heap.size 44 i0 _ Tryd.underlying22 hi hz0 hz1 hz2 rfl (.slice (some ⟨w3.heap.size + 1, 0, none⟩) 0 0) 0 [] (by rfl) O3 (some ⟨g2, 0, none⟩) k k Z (by rfl) (.inr ⟨g2, 0, rfl, N1 _ D3⟩) (by omega) S3 ?_; intro v1 W1 hown1 hgrow1 hat1; have hb1 : Go.RowKit.Below w3.heap.size w3 W1 := D3.grown hgrow1 S3 (hbk _ _ _ _ O3); have T1 : ∀ j u, (rows (tc fun _ => x) 1)[j]? = some u → W1.cell? ((⟨w3.heap.size, 0, none⟩ : Addr).add j) = some u := fun j u hj => hgrow1.cell (C3 j u hj) (by rw [show ((⟨w3.heap.size, 0, none⟩ : Addr).add j).block = w3.heap.size from add_block _ _]; simp [Value.ownBlock]); have hz1' := hb1.size; have y0 := keepC hb1 hs3 x0; have y1 := keepC hb1 hs3 x1; have y2 := keepC hb1 hs3 x2; have y3 := keepC hb1 hs3 x3; have y4 := keepC hb1 hs3 x4; have ys : w1.heap.size < W1.heap.size := Nat.lt_of_lt_of_le hs3 hz1')
                | (refine step_append_line (w := W1.alloc (Obj.cells #[.int .i64 x.t, .int .i64 x.g, .int .i64 x.l, .int .i64 x.a, .int .i64 x.o] 44)) (by rfl) _ _ _ (by rfl) w3.heap.size 44 i0 _ Tryd.underlying22 hi hz0 hz1 hz2 rfl v1 (0 + k) _ (by rfl) (hown1.alloc _) (some ⟨W1.heap.size, 0, none⟩) 1 1 (fun _ => x) (by rfl) (.inr ⟨W1.heap.size, 0, rfl, tone_news x _ _ (by simp [go_sem]) (by simp [go_sem]) (by simp [go_sem]) (by simp [go_sem]) (by simp [go_sem])⟩) (by omega) (by simp; omega) ?_; intro v2 W2 hown2 hgrow2 hat2; have hb2 : Go.RowKit.Below w3.heap.size w3 W2 := (hb1.alloc hz1' _).grown hgrow2 (by simp; omega) (hbk _ _ _ _ hown1); have hz2' := hb2.size)
                | (refine step_append_line (w := W1) (by rfl) _ _ _ (by rfl) w3.heap.size 44 i0 _ Tryd.underlying22 hi hz0 hz1 hz2 rfl v1 (0 + k) _ (by rfl) hown1 (some ⟨w3.heap.size + 1, 0, none⟩) 1 1 (fun _ => x) (by rfl) (.inr ⟨w3.heap.size + 1, 0, rfl, T1⟩) (by omega) hz1' ?_; intro v2 W2 hown2 hgrow2 hat2; have hb2 : Go.RowKit.Below w3.heap.size w3 W2 := hb1.grown hgrow2 hz1' (hbk _ _ _ _ hown1); have hz2' := hb2.size)
                | (refine step_append_line (w := W1) (by rfl) _ _ _ (by rfl) w3.heap.size 44 i0 _ Tryd.underlying22 hi hz0 hz1 hz2 rfl v1 (0 + k) _ (by rfl) hown1 (some ⟨w3.heap.size, 0, none⟩) 1 1 (fun _ => x) (by rfl) (.inr ⟨w3.heap.size, 0, rfl, T1⟩) (by omega) hz1' ?_; intro v2 W2 hown2 hgrow2 hat2; have hb2 : Go.RowKit.Below w3.heap.size w3 W2 := hb1.grown hgrow2 hz1' (hbk _ _ _ _ hown1); have hz2' := hb2.size)
                | (refine step_append_line (w := W2) (by rfl) _ _ _ (by rfl) w3.heap.size 44 i0 _ Tryd.underlying22 hi hz0 hz1 hz2 rfl v2 (0 + k + 1) _ (by rfl) hown2 (some ⟨g2, 0, none⟩) (q - k) 0 (fun j => Z (k + j)) (by rfl) (.inr ⟨g2, 0, rfl, N3 _ _⟩) (by omega) hz2' ?_; intro v3 W3 hown3' hgrow3 hat3; have hb3 : Go.RowKit.Below w3.heap.size w3 W3 := hb2.grown hgrow3 hz2' (hbk _ _ _ _ hown2)))
              all_goals
                have hfin := hfin0 _ _ hown3' hb3
                clear hown1 hown2 hown3' hgrow1 hgrow2 hgrow3 hat1 hat2 hat3 hb1 hb2 O1 O2 O3 D1 D2 D3 C2 C3
                go_wp2_with fail
                go_roundw
                case rel => exact ⟨q + 1, ins Z k x, by omega, by go_num, hfin.1, HI, hfin.2⟩
                case measure => simp [intOf]; omega
            · have hcap2 : ¬ (bc = k) := hcap
              have O1 : ((w3.alloc (Obj.cells #[] 44)).drew).ownsRow w3.heap.size 44 5 (.slice (some ⟨w3.heap.size, 0, none⟩) 0 0) 0 [] := (World.ownsRow_lit w3 #[] 0 (Nat.le_refl _) (by decide) rfl).drew
              have O2 : (((w3.alloc (Obj.cells #[] 44)).alloc (Obj.cells #[.int .i64 x.t, .int .i64 x.g, .int .i64 x.l, .int .i64 x.a, .int .i64 x.o] 44)).drew).ownsRow w3.heap.size 44 5 (.slice (some ⟨w3.heap.size, 0, none⟩) 0 0) 0 [] := ((World.ownsRow_lit w3 #[] 0 (Nat.le_refl _) (by decide) rfl).alloc _).drew
              have O3 : (((w3.alloc (Obj.cells #[.int .i64 x.t, .int .i64 x.g, .int .i64 x.l, .int .i64 x.a, .int .i64 x.o] 44)).alloc (Obj.cells #[] 44)).drew).ownsRow w3.heap.size 44 5 (.slice (some ⟨w3.heap.size + 1, 0, none⟩) 0 0) 0 [] := own_third w3 (Obj.cells #[.int .i64 x.t, .int .i64 x.g, .int .i64 x.l, .int .i64 x.a, .int .i64 x.o] 44)
              have D1 : Go.RowKit.Below w3.heap.size w3 ((w3.alloc (Obj.cells #[] 44)).drew) := by go_grown
              have D2 : Go.RowKit.Below w3.heap.size w3 (((w3.alloc (Obj.cells #[] 44)).alloc (Obj.cells #[.int .i64 x.t, .int .i64 x.g, .int .i64 x.l, .int .i64 x.a, .int .i64 x.o] 44)).drew) := by go_grown
              have D3 : Go.RowKit.Below w3.heap.size w3 (((w3.alloc (Obj.cells #[.int .i64 x.t, .int .i64 x.g, .int .i64 x.l, .int .i64 x.a, .int .i64 x.o] 44)).alloc (Obj.cells #[] 44)).drew) := by go_grown
              have S1 : w3.heap.size ≤ ((w3.alloc (Obj.cells #[] 44)).drew).heap.size := D1.size
              have S2 : w3.heap.size ≤ (((w3.alloc (Obj.cells #[] 44)).alloc (Obj.cells #[.int .i64 x.t, .int .i64 x.g, .int .i64 x.l, .int .i64 x.a, .int .i64 x.o] 44)).drew).heap.size := D2.size
              have S3 : w3.heap.size ≤ (((w3.alloc (Obj.cells #[.int .i64 x.t, .int .i64 x.g, .int .i64 x.l, .int .i64 x.a, .int .i64 x.o] 44)).alloc (Obj.cells #[] 44)).drew).heap.size := D3.size
              have C2 : ∀ j u, (rows (tc fun _ => x) 1)[j]? = some u → (((w3.alloc (Obj.cells #[] 44)).alloc (Obj.cells #[.int .i64 x.t, .int .i64 x.g, .int .i64 x.l, .int .i64 x.a, .int .i64 x.o] 44)).drew).cell? ((⟨w3.heap.size + 1, 0, none⟩ : Addr).add j) = some u := tone_news x _ _ (by simp [go_sem]) (by simp [go_sem]) (by simp [go_sem]) (by simp [go_sem]) (by simp [go_sem])
              have C3 : ∀ j u, (rows (tc fun _ => x) 1)[j]? = some u → (((w3.alloc (Obj.cells #[.int .i64 x.t, .int .i64 x.g, .int .i64 x.l, .int .i64 x.a, .int .i64 x.o] 44)).alloc (Obj.cells #[] 44)).drew).cell? ((⟨w3.heap.size, 0, none⟩ : Addr).add j) = some u := tone_news x _ _ (by simp [go_sem]) (by simp [go_sem]) (by simp [go_sem]) (by simp [go_sem]) (by simp [go_sem])
              have hbk : ∀ (v : Value) (W : World) (m : Nat) (xs : List Value), W.ownsRow w3.heap.size 44 5 v m xs → ∀ j, v.ownBlock = some j → w3.heap.size ≤ j := fun v W m xs ho j hj => (ho.lt j hj).1
              go_region_law (first
                | (refine step_append_line (w := (w3.alloc (Obj.cells #[] 44)).drew) (by rfl) _ _ _ (by rfl) w3.heap.size 44 i0 _ Tryd.underlying22 hi hz0 hz1 hz2 rfl (.slice (some ⟨w3.heap.size, 0, none⟩) 0 0) 0 [] (by rfl) O1 (some ⟨g2, 0, none⟩) k bc Z (by rfl) (.inr ⟨g2, 0, rfl, N1 _ D1⟩) (by omega) S1 ?_; intro v1 W1 hown1 hgrow1 hat1; have hb1 : Go.RowKit.Below w3.heap.size w3 W1 := D1.grown hgrow1 S1 (hbk _ _ _ _ O1); have hz1' := hb1.size; have y0 := keepC hb1 hs3 x0; have y1 := keepC hb1 hs3 x1; have y2 := keepC hb1 hs3 x2; have y3 := keepC hb1 hs3 x3; have y4 := keepC hb1 hs3 x4; have ys : w1.heap.size < W1.heap.size := Nat.lt_of_lt_of_le hs3 hz1')
                | (refine step_append_line (w := ((w3.alloc (Obj.cells #[] 44)).alloc (Obj.cells #[.int .i64 x.t, .int .i64 x.g, .int .i64 x.l, .int .i64 x.a, .int .i64 x.o] 44)).drew) (by rfl) _ _ _ (by rfl) w3.heap.size 44 i0 _ Tryd.underlying22 hi hz0 hz1 hz2 rfl (.slice (some ⟨w3.heap.size, 0, none⟩) 0 0) 0 [] (by rfl) O2 (some ⟨g2, 0, none⟩) k bc Z (by rfl) (.inr ⟨g2, 0, rfl, N1 _ D2⟩) (by omega) S2 ?_; intro v1 W1 hown1 hgrow1 hat1; have hb1 : Go.RowKit.Below w3.heap.size w3 W1 := D2.grown hgrow1 S2 (hbk _ _ _ _ O2); have T1 : ∀ j u, (rows (tc fun _ => x) 1)[j]? = some u → W1.cell? ((⟨w3.heap.size + 1, 0, none⟩ : Addr).add j) = some u := fun j u hj => hgrow1.cell (C2 j u hj) (by rw [show ((⟨w3.heap.size + 1, 0, none⟩ : Addr).add j).block = w3.heap.size + 1 from add_block _ _]; simp [Value.ownBlock]); have hz1' := hb1.size; have y0 := keepC hb1 hs3 x0; have y1 := keepC hb1 hs3 x1; have y2 := keepC hb1 hs3 x2; have y3 := keepC hb1 hs3 x3; have y4 := keepC hb1 hs3 x4; have ys : w1.heap.size < W1.heap.size := Nat.lt_of_lt_of_le hs3 hz1')
                | (refine step_append_line (w := ((w3.alloc (Obj.cells #[.int .i64 x.t, .int .i64 x.g, .int .i64 x.l, .int .i64 x.a, .int .i64 x.o] 44)).alloc (Obj.cells #[] 44)).drew) (by rfl) _ _ _ (by rfl) w3.heap.size 44 i0 _ Tryd.underlying22 hi hz0 hz1 hz2 rfl (.slice (some ⟨w3.heap.size + 1, 0, none⟩) 0 0) 0 [] (by rfl) O3 (some ⟨g2, 0, none⟩) k bc Z (by rfl) (.inr ⟨g2, 0, rfl, N1 _ D3⟩) (by omega) S3 ?_; intro v1 W1 hown1 hgrow1 hat1; have hb1 : Go.RowKit.Below w3.heap.size w3 W1 := D3.grown hgrow1 S3 (hbk _ _ _ _ O3); have T1 : ∀ j u, (rows (tc fun _ => x) 1)[j]? = some u → W1.cell? ((⟨w3.heap.size, 0, none⟩ : Addr).add j) = some u := fun j u hj => hgrow1.cell (C3 j u hj) (by rw [show ((⟨w3.heap.size, 0, none⟩ : Addr).add j).block = w3.heap.size from add_block _ _]; simp [Value.ownBlock]); have hz1' := hb1.size; have y0 := keepC hb1 hs3 x0; have y1 := keepC hb1 hs3 x1; have y2 := keepC hb1 hs3 x2; have y3 := keepC hb1 hs3 x3; have y4 := keepC hb1 hs3 x4; have ys : w1.heap.size < W1.heap.size := Nat.lt_of_lt_of_le hs3 hz1')
                | (refine step_append_line (w := W1.alloc (Obj.cells #[.int .i64 x.t, .int .i64 x.g, .int .i64 x.l, .int .i64 x.a, .int .i64 x.o] 44)) (by rfl) _ _ _ (by rfl) w3.heap.size 44 i0 _ Tryd.underlying22 hi hz0 hz1 hz2 rfl v1 (0 + k) _ (by rfl) (hown1.alloc _) (some ⟨W1.heap.size, 0, none⟩) 1 1 (fun _ => x) (by rfl) (.inr ⟨W1.heap.size, 0, rfl, tone_news x _ _ (by simp [go_sem]) (by simp [go_sem]) (by simp [go_sem]) (by simp [go_sem]) (by simp [go_sem])⟩) (by omega) (by simp; omega) ?_; intro v2 W2 hown2 hgrow2 hat2; have hb2 : Go.RowKit.Below w3.heap.size w3 W2 := (hb1.alloc hz1' _).grown hgrow2 (by simp; omega) (hbk _ _ _ _ hown1); have hz2' := hb2.size)
                | (refine step_append_line (w := W1) (by rfl) _ _ _ (by rfl) w3.heap.size 44 i0 _ Tryd.underlying22 hi hz0 hz1 hz2 rfl v1 (0 + k) _ (by rfl) hown1 (some ⟨w3.heap.size + 1, 0, none⟩) 1 1 (fun _ => x) (by rfl) (.inr ⟨w3.heap.size + 1, 0, rfl, T1⟩) (by omega) hz1' ?_; intro v2 W2 hown2 hgrow2 hat2; have hb2 : Go.RowKit.Below w3.heap.size w3 W2 := hb1.grown hgrow2 hz1' (hbk _ _ _ _ hown1); have hz2' := hb2.size)
                | (refine step_append_line (w := W1) (by rfl) _ _ _ (by rfl) w3.heap.size 44 i0 _ Tryd.underlying22 hi hz0 hz1 hz2 rfl v1 (0 + k) _ (by rfl) hown1 (some ⟨w3.heap.size, 0, none⟩) 1 1 (fun _ => x) (by rfl) (.inr ⟨w3.heap.size, 0, rfl, T1⟩) (by omega) hz1' ?_; intro v2 W2 hown2 hgrow2 hat2; have hb2 : Go.RowKit.Below w3.heap.size w3 W2 := hb1.grown hgrow2 hz1' (hbk _ _ _ _ hown1); have hz2' := hb2.size)
                | (refine step_append_line (w := W2) (by rfl) _ _ _ (by rfl) w3.heap.size 44 i0 _ Tryd.underlying22 hi hz0 hz1 hz2 rfl v2 (0 + k + 1) _ (by rfl) hown2 (some ⟨g2, k * 5, none⟩) (q - k) (bc - k) (fun j => Z (k + j)) (by rfl) (.inr ⟨g2, k * 5, rfl, N2 _ hb2⟩) (by omega) hz2' ?_; intro v3 W3 hown3' hgrow3 hat3; have hb3 : Go.RowKit.Below w3.heap.size w3 W3 := hb2.grown hgrow3 hz2' (hbk _ _ _ _ hown2)))
              all_goals
                have hfin := hfin0 _ _ hown3' hb3
                clear hown1 hown2 hown3' hgrow1 hgrow2 hgrow3 hat1 hat2 hat3 hb1 hb2 O1 O2 O3 D1 D2 D3 C2 C3
                go_wp2_with fail
                go_roundw
                case rel => exact ⟨q + 1, ins Z k x, by omega, by go_num, hfin.1, HI, hfin.2⟩
                case measure => simp [intOf]; omega
    · obtain rfl : q = n := by omega
      have HF : Hid (OrdQ Y q w (.returned _) w1) := ⟨_, Z, rfl, hown, HZ.out.1, ord_tab.2 HZ.out.2⟩
      go_wp2_with fail
      go_ret
      exact ⟨HF.out, hbr⟩
end Go.Proofs.YtjakaceckmhjiafDoor.Y
