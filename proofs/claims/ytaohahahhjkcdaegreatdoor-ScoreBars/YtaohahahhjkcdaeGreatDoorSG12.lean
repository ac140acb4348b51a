/- What the row says of the table of half tones, and what the walks ask of it. -/
import Derived.Test.YtaohahahhjkcdaeGreatDoorRows
import Derived.Test.YtaohahahhjkcdaeGreatDoorSG6
import Derived.ProofKit
import Derived.LaidMore
import Derived.OpenShut
import Derived.Stop.Joined
namespace Go.Proofs.YtaohahahhjkcdaeGreatDoor
open Go.ChangeShapes Go.WideShapes Go.ChangeAt Go.WideMaps Go.WideElems Go.RowKit

def tabList : List (String × DataW Unit) := [("cantus/pitch.aboveC", Rows.laid_cantus_pitch_aboveC)]
theorem own : ownKnob Tryz.prog.godebug = none := by kernel_rfl
theorem laidOut : laidOutB Tryz.prog = true := by kernel_rfl
theorem ibd {n : Int} (h : (Lit.int .i64 n).wf = true) : -9223372036854775808 ≤ n ∧ n ≤ 9223372036854775807 := by
  have := bounds_i64 h; omega
theorem gTab : Tryz.prog.globalNamed "cantus/pitch.aboveC" = some 5 := by kernel_rfl
theorem tTab : (Tryz.prog.globals[5]?).map (·.type) = some 190 := by kernel_rfl
theorem c3 : Tryz.prog.cellsOf 3 = 1 := by kernel_rfl

theorem tab_of_laid {W : World} (h : laidMetH Tryz.prog tabList W) : Tab W := by
  rw [MakeChecks.laidMetH_plain _ _ _ (by kernel_rfl)] at h
  obtain ⟨ps, ⟨g0, t0, cs0, f0, p0, q0, hg0, ht0, hv0, hd0, _, _⟩, _, _⟩ := h
  obtain rfl := Option.some.inj (gTab.symm.trans hg0)
  obtain rfl := Option.some.inj (tTab.symm.trans ht0)
  obtain ⟨xs, m1, rfl, hx1, hlen, hn, hel⟩ := DataW.trod_array Tryz.underlying190 hd0
  simp only [Prod.mk.injEq, DataW.agg.injEq, Rows.laid_cantus_pitch_aboveC] at hx1
  have key : ∀ (j : Nat) (n : Int), j < 7 → (xs.map (·.1))[j]? = some (.lit (.int .i64 n)) → W.cell? ⟨5, j, none⟩ = some (.int .i64 n) := by
    intro j n hj hd
    have hc := World.var?_cell hg0 hv0 j
    rw [List.getElem?_map] at hd
    obtain ⟨x, hx, hxe⟩ := Option.map_eq_some_iff.1 hd
    have he := hel j hj
    rw [hx, c3, Nat.mul_one] at he
    obtain ⟨k, e1, e2, _⟩ := DataW.trod_int Tryz.underlying3 he
    rw [e2] at hxe
    obtain rfl : k = n := by simpa using hxe
    have h1 : (List.take 1 (List.drop j cs0.toList))[0]? = some (Value.int .i64 k) := by rw [e1]; rfl
    rw [List.getElem?_take_of_lt (by omega), List.getElem?_drop, Nat.add_zero] at h1
    rw [hc, ← Array.getElem?_toList]; exact h1
  have c0 := key 0 0 (by omega) (by rw [← hx1.1]; rfl)
  exact ⟨block_lt_of_cell c0, c0, key 1 2 (by omega) (by rw [← hx1.1]; rfl), key 2 4 (by omega) (by rw [← hx1.1]; rfl), key 3 5 (by omega) (by rw [← hx1.1]; rfl), key 4 7 (by omega) (by rw [← hx1.1]; rfl), key 5 9 (by omega) (by rw [← hx1.1]; rfl), key 6 11 (by omega) (by rw [← hx1.1]; rfl)⟩

/-- The door's own heap meets the condition. -/
theorem door_met (os : Os) (args : Array Value) : laidMetH Tryz.prog tabList ((World.doorLaid Tryz.prog 400 os).forCall (fun _ _ => 0) ⟨#[], args, []⟩).memory :=
  laidMetH_of_parts3 (fuel := 8) (laidMet_of_run' 8 (by kernel_rfl) (by kernel_rfl)) (by kernel_rfl) (by kernel_rfl)
end Go.Proofs.YtaohahahhjkcdaeGreatDoor
