/- What the program's waysBehind comes to, over a map whatever it holds. -/
import Derived.Test.YtmgkbnlmdhnjnaeU6
import Derived.Test.YtmgkbnlmdhnjnaeUMath2
import Derived.Deep.DeepCutAuto
namespace Go.Proofs.Ytmgkbnlmdhnjnae.U
open Go.RowKit Go.Maps
set_option linter.unusedVariables false
set_option linter.unusedSimpArgs false

theorem ranges_step {H : Type} {P : Program} {t : TypeId} {R : Value → Option (DataW H × List MemPlace)} {w w' : World} {b r n : Nat} {D : DataW H} {left : Lit → Bool} {cnt : Nat} (h : w.ranges P t R b r n D left cnt) (hb : Below w.heap.size w w') : w'.ranges P t R b r n D left cnt := by
  have h1 := h.owns.lt
  have h2 := h.lt
  obtain ⟨es, clock, since, seen, c0, hb', F, hs, hD, hr, rest⟩ := h
  exact ⟨es, clock, since, seen, c0, (hb.block b h1).trans hb', F, hs, hD, (hb.block r h2).trans hr, rest⟩

theorem ways_end (r : M.Ru) (ao : Option Addr) (n c : Nat) (g : Nat → Int) (sb wb : Nat) (pk : Int) (pa : Bool) (w : World) (hs : SR w sb r ao n c g wb) :
    Calls Try.prog 41 #[.pointer (some ⟨sb, 0, none⟩), .int .i64 (n : Int), .agg #[.int .i64 pk, .bool pa]] w fun e w' => e = .returned (.int .i64 1) ∧ Below w.heap.size w w' := by
  have h5 := hs.c5
  have hl := hs.lt
  go_enter Try.func41, Try.ntmps41
  go_wp2_with fail
  go_returns
  exact ⟨rfl, by go_grown⟩

set_option maxRecDepth 100000 in
set_option maxHeartbeats 4000000 in
theorem ways_at (r : M.Ru) (ao : Option Addr) (n c i : Nat) (g : Nat → Int) (sb wb : Nat) (pk : Int) (pa : Bool) (w : World) (hs : SR w sb r ao n c g wb) (hc : n ≤ c) (hcm : c ≤ 9223372036854775807)
    (hp0 : -1 ≤ pk) (hpm : pk ≤ 127) (hi : i < n) (hn : n ≤ 64) (hg : ∀ j, j < n → 0 ≤ g j ∧ g j ≤ 127)
    (b m : Nat) (V : Int → Bool → Option Int) (hwb : wb < w.heap.size) (hcell : w.cell? ⟨wb, i, none⟩ = some (.map (some b))) (hmap : MapAt w b m V)
    (hV : ∀ k a c, V k a = some c → 0 ≤ k ∧ k ≤ 127 ∧ 0 ≤ c ∧ c ≤ 1000000000) :
    Calls Try.prog 41 #[.pointer (some ⟨sb, 0, none⟩), .int .i64 (i : Int), .agg #[.int .i64 pk, .bool pa]] w fun e w' => e = .returned (.int .i64 (M.wy V (M.fo r g i pk pa))) ∧ Below w.heap.size w w' := by
  have h5 := hs.c5
  have h6 := hs.c6
  have hl := hs.lt
  have hne : ((i : Int) == (n : Int)) = false := by simp; omega
  have hV0 : ∀ k a c, V k a = some c → 0 ≤ c := fun k a c h => (hV k a c h).2.2.1
  obtain ⟨D, hown, hD⟩ := hmap
  have HF := fun k a w hs h0 hm => follows_any r ao n c i g sb wb pk pa k a w hs hc hcm h0 hm hp0 hpm hi hn hg
  have HE : Hid (∀ L : Int → Bool → Bool, (∀ j, j < 256 → L (M.ck j) (M.ca j) = false) → M.wl V (M.fo r g i pk pa) L = M.wy V (M.fo r g i pk pa)) := fun L h => M.wl_end h
  have HB : Hid (∀ L : Int → Bool → Bool, 0 ≤ M.wl V (M.fo r g i pk pa) L ∧ M.wl V (M.fo r g i pk pa) L ≤ 1000000000) := fun L => M.wl_bd hV0
  have HST : Hid (∀ L : Int → Bool → Bool, (∀ j, j < 256 → L (M.ck j) (M.ca j) = (V (M.ck j) (M.ca j)).isSome) → M.wl V (M.fo r g i pk pa) L = 0) := fun L h => M.wl_start h
  have HN : Hid (∀ (L L' : Int → Bool → Bool) k a c, 0 ≤ k → k ≤ 127 → V k a = some c → L k a = true → L' k a = false → (∀ k' a', (k' ≠ k ∨ a' ≠ a) → 0 ≤ k' → k' ≤ 127 → L' k' a' = L k' a') → M.wl V (M.fo r g i pk pa) L' = min (M.wl V (M.fo r g i pk pa) L + (if M.fo r g i pk pa k a = true then c else 0)) 1000000000) := fun L L' k a c h0 hm hc hL hL' ho => M.wl_step hV0 h0 hm hc hL hL' ho
  generalize M.wy V (M.fo r g i pk pa) = RES at *
  generalize hFO : M.fo r g i pk pa = FO at *
  clear hFO
  go_enter Try.func41, Try.ntmps41
  go_wp2_with (first
    | (at_range; refine wpList_range_own _ rfl _ 76 rfl 55 3 stLaw Try.underlying76 _ b m _ rfl (hown.alloc _) ?_; intro w0 hrg0 hg0 hs0)
    | go_in)
  go_frame
  have e1 : (w.alloc (.cells #[.int .i64 pk, .bool pa] 55)).heap.size = w.heap.size + 1 := by simp
  rw [e1] at hrg0 hs0 ⊢
  have hb0 : Below w.heap.size w w0 := ((Below.refl _ _).alloc (Nat.le_refl _) _).grown hg0 (by simp) (fun j hj => by cases hj)
  have x0 : w0.cell? ⟨w.heap.size, 0, none⟩ = some (.int .i64 pk) := by
    rw [World.cell?_of_block (w := w.alloc (.cells #[.int .i64 pk, .bool pa] 55)) (a := ⟨w.heap.size, 0, none⟩) (hg0.block _ (by simp) (by simp))]; simp [go_sem]
  have x1 : w0.cell? ⟨w.heap.size, 1, none⟩ = some (.bool pa) := by
    rw [World.cell?_of_block (w := w.alloc (.cells #[.int .i64 pk, .bool pa] 55)) (a := ⟨w.heap.size, 1, none⟩) (hg0.block _ (by simp) (by simp))]; simp [go_sem]
  clear hg0 e1 hown
  go_loopw [7] (fun s wr => ∃ (left : Lit → Bool) (cnt : Nat), wr.ranges Try.prog 55 (plainElem Try.prog 3) b (w.heap.size + 1) m D left cnt ∧ (∀ l, left l = true → Maps.has D l = true) ∧ s = .int .i64 (M.wl V FO (fun k a => left (kl k a))) ∧ Below w.heap.size w wr ∧
      wr.cell? ⟨w.heap.size, 0, none⟩ = some (.int .i64 pk) ∧ wr.cell? ⟨w.heap.size, 1, none⟩ = some (.bool pa))
    (fun _ wr => wr.rangeLeft b (w.heap.size + 1))
  case atStart =>
    refine ⟨_, _, hrg0, fun l h => h, ?_, hb0, x0, x1⟩
    rw [HST.out _ (fun j hj => (hD _ _ (wfk (by unfold M.ck; omega) (by unfold M.ck; omega))).1)]
  case round =>
    obtain ⟨left, cnt, hrg, hle, rfl, hbr, z0, z1⟩ := hrel
    have zr := hbr.size
    have hrl := hrg.lt
    go_wp2_with (first
      | (at_next; refine next_st _ rfl _ rfl b (w.heap.size + 1) m _ _ _ rfl hrg ?_ ?_)
      | go_in)
    · intro hc0 hl0
      have hR : M.wl V FO (fun k a => left (kl k a)) = RES := HE.out _ (fun j hj => hl0 _)
      rw [hR]
      clear hR HE HB HST HN HF
      go_wp2_with fail
      go_returns
      exact ⟨rfl, hbr⟩
    · intro xx cc w1 cnt1 hwx hwc hlx hat hrg1 hlt hg1 hs1 hen
      obtain ⟨k, x⟩ := xx
      simp only at hwx hlx hat hrg1 hen ⊢
      have hsome : (V k x).isSome = true := by rw [← (hD k x hwx).1]; exact hle _ hlx
      obtain ⟨cv, hcv⟩ := Option.isSome_iff_exists.1 hsome
      have hcc : cv = cc := by
        have h1 := (hD k x hwx).2 cv (.lit (.int .i64 0)) hcv
        rw [hat] at h1
        simp at h1
        exact h1.symm
      subst hcc
      obtain ⟨b0, b1, b2, b3⟩ := hV k x cv hcv
      have hB1 := HB.out (fun k a => left (kl k a))
      have hN1 : Hid (M.wl V FO (fun k' a' => left (kl k' a') && !(kl k' a').sameKey (kl k x)) = min (M.wl V FO (fun k a => left (kl k a)) + (if FO k x = true then cv else 0)) 1000000000) := HN.out _ _ k x cv b0 b1 hcv hlx (by simp [WideAt.sameKey_self (stLaw.key (keyOf_st k x hwx))]) (fun k' a' hne h0 hm => by
        have : (kl k' a').sameKey (kl k x) = false := sameKey_ne (fun h => by
          have := kl_inj (wfk (by omega) (by omega)) hwx h
          rcases hne with h | h
          · exact h this.1
          · exact h this.2)
        simp [this])
      have hb1 : Below w.heap.size w w1 := hbr.grown hg1 hbr.size (fun j hj => by cases hj; omega)
      have u0 : w1.cell? ⟨w.heap.size, 0, none⟩ = some (.int .i64 pk) := by
        rw [World.cell?_of_block (w := wr) (a := ⟨w.heap.size, 0, none⟩) (hg1.block _ (by show w.heap.size < _; omega) (by simp))]; exact z0
      have u1 : w1.cell? ⟨w.heap.size, 1, none⟩ = some (.bool pa) := by
        rw [World.cell?_of_block (w := wr) (a := ⟨w.heap.size, 1, none⟩) (hg1.block _ (by show w.heap.size < _; omega) (by simp))]; exact z1
      obtain ⟨S, hS⟩ : ∃ S, S = M.wl V FO (fun k a => left (kl k a)) := ⟨_, rfl⟩
      rw [← hS] at hB1 hN1 ⊢
      clear hS HE HB HST HN hD hcv hsome hat hlx z0 z1
      have s1 : w.heap.size < w1.heap.size := by omega
      have hsr := hs.step hb1
      clear hs1
      have HF1 := fun w hs => HF k x w hs b0 b1
      clear HF
      go_wp2_with fail
      refine (HF1 _ (hsr.step (by go_grown))).mono ?_
      rintro e w2 ⟨rfl, hb2⟩
      have k2 : Below w1.heap.size w1 w2 := ((Below.refl _ _).alloc (Nat.le_refl _) _).trans (hb2.mono (by simp))
      have hb2w : Below w.heap.size w w2 := hb1.trans (k2.mono (by omega))
      have hrg2 := ranges_step hrg1 k2
      have v0 := keepC k2 s1 u0
      have v1 := keepC k2 s1 u1
      clear hb2 k2 hrg1 u0 u1 HF1 hsr hb1 hen
      cases hfo : FO k x
      · have hN2 : Hid (S = M.wl V FO (fun k' a' => left (kl k' a') && !(kl k' a').sameKey (kl k x))) := by
          show _ = _
          rw [hN1.out, hfo]; simp only [Bool.false_eq_true, if_false]; omega
        clear hN1 hfo
        go_wp2_with fail
        go_roundw
        case rel => exact ⟨_, cnt1, hrg2, fun l h => hle l (by simp at h; exact h.1), by rw [hN2.out], hb2w, v0, v1⟩
        case measure => rw [hrg2.left_eq, hrg.left_eq]; exact hlt
      · have hN2 : Hid (min (S + cv) 1000000000 = M.wl V FO (fun k' a' => left (kl k' a') && !(kl k' a').sameKey (kl k x))) := by
          show _ = _
          rw [hN1.out, hfo]; simp only [if_true]
        clear hN1 hfo
        go_wp2_with fail
        go_roundw
        case rel => exact ⟨_, cnt1, hrg2, fun l h => hle l (by simp at h; exact h.1), by rw [← hN2.out]; congr 1; split <;> omega, hb2w, v0, v1⟩
        case measure => rw [hrg2.left_eq, hrg.left_eq]; exact hlt
end Go.Proofs.Ytmgkbnlmdhnjnae.U
