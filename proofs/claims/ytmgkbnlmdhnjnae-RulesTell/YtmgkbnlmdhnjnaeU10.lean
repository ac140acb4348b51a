/- What the program's waysBehind and newSearch come to. -/
import Derived.Test.YtmgkbnlmdhnjnaeUMath3
import Derived.Deep.OwnRows
namespace Go.Proofs.Ytmgkbnlmdhnjnae.U
open Go.RowKit Go.Maps Go.Sort
set_option linter.unusedVariables false
set_option linter.unusedSimpArgs false

/-- The maps of the places from i on. -/
structure MS (w : World) (wb : Nat) (r : M.Ru) (g : Nat → Int) (n i : Nat) : Prop where
  lt : wb < w.heap.size
  at' : ∀ j, i ≤ j → j < n → ∃ b, w.cell? ⟨wb, j, none⟩ = some (.map (some b)) ∧ MapAt w b 256 (M.vs r g n j (M.ct r g n (n - (j + 1))))
theorem MS.step {w w' : World} {wb : Nat} {r : M.Ru} {g : Nat → Int} {n i : Nat} (h : MS w wb r g n i) (hb : Below w.heap.size w w') : MS w' wb r g n i :=
  ⟨Nat.lt_of_lt_of_le h.lt hb.size, fun j h1 h2 => by
    obtain ⟨b, x, y⟩ := h.at' j h1 h2
    exact ⟨b, keepC hb h.lt x, y.step hb⟩⟩

theorem ways_any (r : M.Ru) (ao : Option Addr) (n c i : Nat) (g : Nat → Int) (sb wb : Nat) (pk : Int) (pa : Bool) (w : World) (hs : SR w sb r ao n c g wb) (hc : n ≤ c) (hcm : c ≤ 9223372036854775807)
    (hr : r.Ok) (hp0 : -1 ≤ pk) (hpm : pk ≤ 127) (hi : i ≤ n) (hn : n ≤ 64) (hg : ∀ j, j < n → 0 ≤ g j ∧ g j ≤ 127) (hm : MS w wb r g n i) :
    Calls Try.prog 41 #[.pointer (some ⟨sb, 0, none⟩), .int .i64 (i : Int), .agg #[.int .i64 pk, .bool pa]] w fun e w' => e = .returned (.int .i64 (M.ct r g n (n - i) pk pa)) ∧ Below w.heap.size w w' := by
  by_cases e : i = n
  · subst e
    rw [Nat.sub_self]
    exact ways_end r ao i c g sb wb pk pa w hs
  · obtain ⟨b, h1, h2⟩ := hm.at' i (Nat.le_refl _) (by omega)
    rw [M.ct_step r g n i (by omega)]
    exact ways_at r ao n c i g sb wb pk pa w hs hc hcm hp0 hpm (by omega) hn hg b 256 _ hm.lt h1 h2 (M.vs_bd hr)

theorem SR.set {w : World} {sb : Nat} {r : M.Ru} {ao : Option Addr} {n c : Nat} {g : Nat → Int} {wb : Nat} (h : SR w sb r ao n c g wb) {b o : Nat} {v : Value} (hne : sb ≠ b) (hl : LI (w.setCell ⟨b, o, none⟩ v) ao n g) : SR (w.setCell ⟨b, o, none⟩ v) sb r ao n c g wb := by
  have k : ∀ {j : Nat} {u : Value}, w.cell? ⟨sb, j, none⟩ = some u → (w.setCell ⟨b, o, none⟩ v).cell? ⟨sb, j, none⟩ = some u := fun h => (World.cell?_setCell_other _ _ _ _ (by intro e; cases e; exact hne rfl)).trans h
  exact ⟨by simpa using h.lt, k h.c0, k h.c1, k h.c2, k h.c3, k h.c4, k h.c5, k h.c6, hl⟩
theorem MapAt.set {w : World} {b m : Nat} {V : Int → Bool → Option Int} (h : MapAt w b m V) {a : Addr} (ha : b ≠ a.block) (u : Value) : MapAt (w.setCell a u) b m V := by
  obtain ⟨D, h1, h2⟩ := h; exact ⟨D, h1.setCell ha u, h2⟩
theorem MapAt.ne_row {w : World} {b m wb n : Nat} {t : TypeId} {f : Nat → Value} {V : Int → Bool → Option Int} (h : MapAt w b m V) (hr : w.rowIs wb t n f) : b ≠ wb := by
  intro e
  obtain ⟨D, ⟨es, clock, h0, _⟩, _⟩ := h
  obtain ⟨c, hb, _⟩ := hr
  rw [← e, h0] at hb
  cases hb

set_option maxRecDepth 100000 in
set_option maxHeartbeats 8000000 in
theorem newSearch_any (r : M.Ru) (ao : Option Addr) (n c : Nat) (g : Nat → Int) (w : World) (hp : LI w ao n g) (hc : n ≤ c) (hcm : c ≤ 9223372036854775807)
    (hr : r.Ok) (h1n : 1 ≤ n) (hn : n ≤ 64) (hg : ∀ j, j < n → 0 ≤ g j ∧ g j ≤ 127) :
    Calls Try.prog 40 #[.agg #[.int .i64 r.low, .int .i64 r.high, .bool r.above, .int .i64 r.leap, .int .i64 r.classes], .slice ao n c] w fun e w' => (∃ sb wb, e = .returned (.pointer (some ⟨sb, 0, none⟩)) ∧ SR w' sb r ao n c g wb ∧ MS w' wb r g n 0) ∧ Below w.heap.size w w' := by
  have hmk := run_make_row' (P := Try.prog) 73 76 (.map none) 8 Try.underlying73 (by kernel_rfl) rfl .i64 .i64 n (by omega) (by omega)
  go_enter Try.func40, Try.ntmps40
  go_wp2_with fail
  go_region
  go_wp2_with fail
  obtain ⟨W0, hW0⟩ : ∃ x, x = (((w.alloc (.cells #[.int .i64 r.low, .int .i64 r.high, .bool r.above, .int .i64 r.leap, .int .i64 r.classes] 38)).alloc (.cells (madeCells #[.map none] n) 76)).alloc (.cells #[.int .i64 r.low, .int .i64 r.high, .bool r.above, .int .i64 r.leap, .int .i64 r.classes, .slice ao n c, .slice (some ⟨w.heap.size + 1, 0, none⟩) n n] 75)).drew := ⟨_, rfl⟩
  rw [← hW0]
  have hb0 : Below w.heap.size w W0 := by rw [hW0]; go_grown
  have z0 : W0.heap.size = w.heap.size + 3 := by rw [hW0]; simp
  have hsr0 : SR W0 (w.heap.size + 2) r ao n c g (w.heap.size + 1) := ⟨by omega, by rw [hW0]; simp [go_sem], by rw [hW0]; simp [go_sem], by rw [hW0]; simp [go_sem], by rw [hW0]; simp [go_sem], by rw [hW0]; simp [go_sem], by rw [hW0]; simp [go_sem], by rw [hW0]; simp [go_sem], hp.step hb0⟩
  have hrow0 : W0.rowIs (w.heap.size + 1) 76 n (fun _ => .map none) := by
    rw [hW0]
    have := World.rowIs_made (w.alloc (.cells #[.int .i64 r.low, .int .i64 r.high, .bool r.above, .int .i64 r.leap, .int .i64 r.classes] 38)) (.map none) n 76
    simp only [World.size_alloc] at this
    exact (this.alloc _).drew
  clear hW0
  go_loopw [6] (fun s wr => ∃ (j : Nat) (f : Nat → Value), j ≤ n ∧ s = .int .i64 ((j : Int) - 1) ∧ Below w.heap.size w wr ∧ SR wr (w.heap.size + 2) r ao n c g (w.heap.size + 1) ∧ wr.rowIs (w.heap.size + 1) 76 n f ∧
      (∀ k, j ≤ k → k < n → ∃ b, f k = .map (some b) ∧ MapAt wr b 256 (M.vs r g n k (M.ct r g n (n - (k + 1)))))) (fun s _ => (intOf s + 1).toNat)
  case atStart => exact ⟨n, _, Nat.le_refl _, rfl, hb0, hsr0, hrow0, fun k h1 h2 => by omega⟩
  case round =>
    obtain ⟨j, f, hjn, rfl, hbr, hsr, hrow, hmaps⟩ := hrel
    have zr := hbr.size
    by_cases hj : j = 0
    · subst hj
      go_wp2_with fail
      go_returns
      exact ⟨⟨_, _, rfl, hsr, hrow.lt, fun k h1 h2 => by
        obtain ⟨b, h3, h4⟩ := hmaps k h1 h2
        exact ⟨b, by rw [← h3]; exact hrow.cell h2, h4⟩⟩, hbr⟩
    · obtain ⟨i, rfl⟩ : ∃ i, j = i + 1 := ⟨j - 1, by omega⟩
      have ei : ((i + 1 : Nat) : Int) - 1 = (i : Int) := by omega
      rw [ei]
      have c6 := hsr.c6
      have hl := hsr.lt
      have hrl := hrow.lt
      have HS : ∀ W, Below wr.heap.size wr W → Calls Try.prog 55 #[.pointer (some ⟨w.heap.size + 2, 0, none⟩), .int .i64 (i : Int)] W fun e w' => e = .returned (.map (some W.heap.size)) ∧ MapAt w' W.heap.size 256 (M.vs r g n i (M.ct r g n (n - (i + 1)))) ∧ Below W.heap.size W w' := fun W hbW => by
        refine states_at r ao n c i g _ _ W (hsr.step hbW) hc hcm hr (by omega) hn hg _ (M.ct_bd r g n _) (fun k a w' hb' h0 hm => ?_)
        have hms : MS W (w.heap.size + 1) r g n (i + 1) := ⟨Nat.lt_of_lt_of_le hrl hbW.size, fun k h1 h2 => by
          obtain ⟨b, h3, h4⟩ := hmaps k h1 h2
          exact ⟨b, keepC hbW hrl (by rw [← h3]; exact hrow.cell h2), h4.step hbW⟩⟩
        have := ways_any r ao n c (i + 1) g _ _ k a w' ((hsr.step hbW).step hb') hc hcm hr (by omega) (by omega) (by omega) hn hg (hms.step hb')
        simpa using this
      have hil : (i : Int) < n := by omega
      have hil' : i < n := by omega
      have c6' : wr.cell? ⟨w.heap.size + 1 + 1, 6, none⟩ = some (.slice (some ⟨w.heap.size + 1, 0, none⟩) n n) := c6
      have HS' : ∀ W, Below wr.heap.size wr W → Calls Try.prog 55 #[.pointer (some ⟨w.heap.size + 1 + 1, 0, none⟩), .int .i64 (i : Int)] W fun e w' => e = .returned (.map (some W.heap.size)) ∧ MapAt w' W.heap.size 256 (M.vs r g n i (M.ct r g n (n - (i + 1)))) ∧ Below W.heap.size W w' := HS
      have hl' : w.heap.size + 1 + 1 < wr.heap.size := hl
      have d0 : wr.cell? ⟨w.heap.size + 1, i, none⟩ = some (f i) := hrow.cell hil'
      have f0 : wr.frozen? ⟨w.heap.size + 1, i, none⟩ = false := hrow.frozen i
      clear hmk c6 HS
      go_wp2_with fail
      go_region_with (go_at_call 55; refine (HS' _ (by go_grown)).mono ?_; rintro e wa ⟨rfl, hma, hba⟩; have hw : Below wr.heap.size wr wa := Below.trans (by go_grown) (hba.mono (by simp)); have e6 := keepC hw hl' c6'; have d1 := keepC hw hrl d0; have f1 := keepF hw hrl f0; have za := hw.size; have pz : w.heap.size + 1 < wa.heap.size := (by omega); have pz' : w.heap.size + 1 + 1 < wa.heap.size := (by omega))
      all_goals
        go_wp2_with fail
        go_roundw
        case rel =>
          have hrow2 : wa.rowIs (w.heap.size + 1) 76 n f := hrow.of_block (hw.block _ hrl)
          refine ⟨i, _, by omega, rfl, (hbr.trans (hw.mono zr)).setCell (by simp) _, (hsr.step hw).set (by omega) (hp.step ((hbr.trans (hw.mono zr)).setCell (by simp) _)), hrow2.set i _, fun k h1 h2 => ?_⟩
          by_cases e : k = i
          · subst e
            exact ⟨_, if_pos rfl, hma.set (hma.ne_row hrow2) _⟩
          · obtain ⟨b, h3, h4⟩ := hmaps k (by omega) h2
            exact ⟨b, (if_neg e).trans h3, (h4.step hw).set ((h4.step hw).ne_row hrow2) _⟩
        case measure => simp [intOf]
end Go.Proofs.Ytmgkbnlmdhnjnae.U
