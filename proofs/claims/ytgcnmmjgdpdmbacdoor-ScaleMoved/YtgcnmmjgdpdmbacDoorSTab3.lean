/- What ScaleChords' row says of its two variables, and what the walks ask of them. -/
import Derived.Test.YtgcnmmjgdpdmbacDoorQTab
import Derived.Test.YtgcnmmjgdpdmbacDoorC1
import Derived.Lib.LaidTab
import Derived.Stop.LaidErr
namespace Go.Proofs.YtgcnmmjgdpdmbacDoor
open Go.ChangeShapes Go.WideShapes Go.ChangeAt Go.WideMaps Go.WideElems Go.RowKit

def chordsList : List (String × DataW Unit) := [("cantus/pitch.aboveC", Rows.laid_cantus_pitch_aboveC), ("cantus/scale.overRoot", Rows.laid_cantus_scale_overRoot)]

theorem tab_of5 {W : World} {rest : List (String × DataW Unit)} (h : laidMet Tryd.prog (("cantus/pitch.aboveC", Rows.laid_cantus_pitch_aboveC) :: rest) W) : Tab W := by
  have hT : Lib.TabIs Tryd.prog W "cantus/pitch.aboveC" .i64 [0, 2, 4, 5, 7, 9, 11] :=
    Lib.tabIs_of_head (rest := rest) gTab tTab Tryd.underlying62 Tryd.underlying3 (by kernel_rfl) (by kernel_rfl) h
  have c := fun i hi => Lib.TabIs.cell hT gTab i hi
  exact ⟨block_lt_of_cell (c 0 (by decide)), c 0 (by decide), c 1 (by decide), c 2 (by decide), c 3 (by decide), c 4 (by decide), c 5 (by decide), c 6 (by decide)⟩
theorem gOv : Tryd.prog.globalNamed "cantus/scale.overRoot" = some 0 := by kernel_rfl
theorem tOv : (Tryd.prog.globals[0]?).map (·.type) = some 75 := by kernel_rfl
theorem c99 : Tryd.prog.cellsOf 74 = 3 := by kernel_rfl

theorem over_of {W : World} {rest : List (String × DataW Unit)} (h : laidMet Tryd.prog (("cantus/scale.overRoot", Rows.laid_cantus_scale_overRoot) :: rest) W) : Over W := by
  obtain ⟨ps, ⟨g0, t0, cs0, f0, p0, q0, hg0, ht0, hv0, hd0, _, _⟩, _, _⟩ := h
  obtain rfl := Option.some.inj (gOv.symm.trans hg0)
  obtain rfl := Option.some.inj (tOv.symm.trans ht0)
  obtain ⟨xs, m1, rfl, hx1, hlen, hn, hel⟩ := DataW.trod_array Tryd.underlying75 hd0
  simp only [Prod.mk.injEq, DataW.agg.injEq, Rows.laid_cantus_scale_overRoot] at hx1
  have key : ∀ (k i : Nat) (row : List (DataW Unit)) (n : Int), k < 10 → i < 3 → (xs.map (·.1))[k]? = some (.agg row) → row[i]? = some (.lit (.int .i64 n)) → W.cell? ⟨0, k * 3 + i, none⟩ = some (.int .i64 n) := by
    intro k i row n hk hi hd hrow
    have hc := World.var?_cell hg0 hv0 (k * 3 + i)
    rw [List.getElem?_map] at hd
    obtain ⟨x, hx, hxe⟩ := Option.map_eq_some_iff.1 hd
    have he := hel k hk
    rw [hx, c99] at he
    obtain ⟨ys, m2, rfl, hy1, hylen, hyn, hyel⟩ := DataW.trod_array Tryd.underlying74 he
    subst hy1
    simp only [DataW.agg.injEq] at hxe
    rw [← hxe, List.getElem?_map] at hrow
    obtain ⟨z, hz, hze⟩ := Option.map_eq_some_iff.1 hrow
    have he2 := hyel i hi
    rw [hz, c3, Nat.mul_one] at he2
    obtain ⟨v, e1, e2, _⟩ := DataW.trod_int Tryd.underlying3 he2
    rw [e2] at hze
    obtain rfl : v = n := by simpa using hze
    have h1 : (List.take 1 (List.drop i (List.take 3 (List.drop (k * 3) cs0.toList))))[0]? = some (Value.int .i64 v) := by rw [e1]; rfl
    rw [List.getElem?_take_of_lt (by omega), List.getElem?_drop, Nat.add_zero, List.getElem?_take_of_lt (by omega), List.getElem?_drop] at h1
    rw [hc, ← Array.getElem?_toList]; exact h1
  have c0 := key 0 0 _ 0 (by omega) (by omega) (by rw [← hx1.1]; rfl) rfl
  refine ⟨block_lt_of_cell c0, fun k i h1 h2 h3 => ?_⟩
  rcases (show k = 1 ∨ k = 2 ∨ k = 3 ∨ k = 4 ∨ k = 5 ∨ k = 6 ∨ k = 7 ∨ k = 8 ∨ k = 9 by omega) with rfl | rfl | rfl | rfl | rfl | rfl | rfl | rfl | rfl
  all_goals
    rcases (show i = 0 ∨ i = 1 ∨ i = 2 by omega) with rfl | rfl | rfl
    all_goals exact key _ _ _ _ (by omega) (by omega) (by rw [← hx1.1]; rfl) rfl

theorem chords_of_laid {W : World} (h : laidMetH Tryd.prog chordsList W) : Tab W ∧ Over W := by
  rw [MakeChecks.laidMetH_plain _ _ _ (by kernel_rfl)] at h
  exact ⟨tab_of5 h, over_of h.tail⟩

/-- The door's own heap meets the condition. -/
theorem door_met5 (os : Os) (args : Array Value) : laidMetH Tryd.prog chordsList ((World.doorLaid Tryd.prog 400 os).forCall (fun _ _ => 0) ⟨#[], args, []⟩).memory :=
  laidMetH_of_parts3 (fuel := 8) (laidMet_of_run' 8 (by kernel_rfl) (by kernel_rfl)) (by kernel_rfl) (by kernel_rfl)
end Go.Proofs.YtgcnmmjgdpdmbacDoor
