/- What the rows of TuneSwings and TuneRises say of their two variables, and what the walks ask of them. -/
import Derived.Test.YtdjdnjaijpafgacDoorQTab
import Derived.Test.YtdjdnjaijpafgacDoorT3
import Derived.Lib.LaidTab
import Derived.Stop.LaidErr
namespace Go.Proofs.YtdjdnjaijpafgacDoor
open Go.ChangeShapes Go.WideShapes Go.ChangeAt Go.WideMaps Go.WideElems Go.RowKit

def tuneList : List (String × DataW Unit) := [("cantus/pitch.aboveC", Rows.laid_cantus_pitch_aboveC), ("cantus/tune.table", Rows.laid_cantus_tune_table)]

theorem trod_float {H : Type} {enc : TypeId × Value → H} {P : Program} {w : World} {base : Nat} {spare : Nat → Bool} {held : Bool} {fuel : Nat} {t : TypeId} {cs : List Value} {x : DataW H × List MemPlace} {k : FloatKind} (ht : P.underlying t = some (.float k)) (h : DataW.trod enc P w base spare held fuel t cs = some x) : ∃ n, cs = [.float k n] ∧ x = (.lit (.float k n), []) ∧ (Lit.float k n).wf = true := by
  cases fuel with
  | zero => simp [DataW.trod] at h
  | succ n =>
    unfold DataW.trod at h
    rw [ht] at h
    split at h <;> simp_all

theorem tab_of4 {W : World} {rest : List (String × DataW Unit)} (h : laidMet Tryd.prog (("cantus/pitch.aboveC", Rows.laid_cantus_pitch_aboveC) :: rest) W) : Tab W := by
  have hT : Lib.TabIs Tryd.prog W "cantus/pitch.aboveC" .i64 [0, 2, 4, 5, 7, 9, 11] :=
    Lib.tabIs_of_head (rest := rest) gTab tTab Tryd.underlying62 Tryd.underlying3 (by kernel_rfl) (by kernel_rfl) h
  have c := fun i hi => Lib.TabIs.cell hT gTab i hi
  exact ⟨block_lt_of_cell (c 0 (by decide)), c 0 (by decide), c 1 (by decide), c 2 (by decide), c 3 (by decide), c 4 (by decide), c 5 (by decide), c 6 (by decide)⟩
theorem gTwl : Tryd.prog.globalNamed "cantus/tune.table" = some 1 := by kernel_rfl
theorem tTwl : (Tryd.prog.globals[1]?).map (·.type) = some 82 := by kernel_rfl
theorem c46 : Tryd.prog.cellsOf 46 = 1 := by kernel_rfl
theorem twl_of {W : World} {rest : List (String × DataW Unit)} (h : laidMet Tryd.prog (("cantus/tune.table", Rows.laid_cantus_tune_table) :: rest) W) : Twl W := by
  obtain ⟨ps, ⟨g0, t0, cs0, f0, p0, q0, hg0, ht0, hv0, hd0, _, _⟩, _, _⟩ := h
  obtain rfl := Option.some.inj (gTwl.symm.trans hg0)
  obtain rfl := Option.some.inj (tTwl.symm.trans ht0)
  obtain ⟨xs, m1, rfl, hx1, hlen, hn, hel⟩ := DataW.trod_array Tryd.underlying82 hd0
  simp only [Prod.mk.injEq, DataW.agg.injEq, Rows.laid_cantus_tune_table] at hx1
  have key : ∀ (j : Nat) (n : Nat), j < 12 → (xs.map (·.1))[j]? = some (.lit (.float .f64 n)) → W.cell? ⟨1, j, none⟩ = some (.float .f64 n) := by
    intro j n hj hd
    have hc := World.var?_cell hg0 hv0 j
    rw [List.getElem?_map] at hd
    obtain ⟨x, hx, hxe⟩ := Option.map_eq_some_iff.1 hd
    have he := hel j hj
    rw [hx, c46, Nat.mul_one] at he
    obtain ⟨k, e1, e2, _⟩ := trod_float Tryd.underlying46 he
    rw [e2] at hxe
    obtain rfl : k = n := by simpa using hxe
    have h1 : (List.take 1 (List.drop j cs0.toList))[0]? = some (Value.float .f64 k) := by rw [e1]; rfl
    rw [List.getElem?_take_of_lt (by omega), List.getElem?_drop, Nat.add_zero] at h1
    rw [hc, ← Array.getElem?_toList]; exact h1
  have c0 := key 0 4607182418800017408 (by omega) (by rw [← hx1.1]; rfl)
  refine ⟨block_lt_of_cell c0, fun i hi => ?_⟩
  rcases (show i = 0 ∨ i = 1 ∨ i = 2 ∨ i = 3 ∨ i = 4 ∨ i = 5 ∨ i = 6 ∨ i = 7 ∨ i = 8 ∨ i = 9 ∨ i = 10 ∨ i = 11 by omega) with rfl | rfl | rfl | rfl | rfl | rfl | rfl | rfl | rfl | rfl | rfl | rfl
  all_goals exact key _ _ (by omega) (by rw [← hx1.1]; rfl)

theorem tune_of_laid {W : World} (h : laidMetH Tryd.prog tuneList W) : Tab W ∧ Twl W := by
  rw [MakeChecks.laidMetH_plain _ _ _ (by kernel_rfl)] at h
  exact ⟨tab_of4 h, twl_of h.tail⟩

/-- The door's own heap meets the condition. -/
theorem door_met6 (os : Os) (args : Array Value) : laidMetH Tryd.prog tuneList ((World.doorLaid Tryd.prog 400 os).forCall (fun _ _ => 0) ⟨#[], args, []⟩).memory :=
  laidMetH_of_parts3 (fuel := 8) (laidMet_of_run' 8 (by kernel_rfl) (by kernel_rfl)) (by kernel_rfl) (by kernel_rfl)
end Go.Proofs.YtdjdnjaijpafgacDoor
