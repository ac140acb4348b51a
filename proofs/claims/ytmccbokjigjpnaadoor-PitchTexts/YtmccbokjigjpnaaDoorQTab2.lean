/- What PitchTurns' row says of its seven variables, and what the walks ask of three of them. -/
import Derived.Test.YtmccbokjigjpnaaDoorQTab
import Derived.Test.YtmccbokjigjpnaaDoorQT3
import Derived.Stop.LaidErr
namespace Go.Proofs.YtmccbokjigjpnaaDoor
open Go.ChangeShapes Go.WideShapes Go.ChangeAt Go.WideMaps Go.WideElems Go.RowKit

def turnList : List (String × DataW Unit) := [("math/bits.deBruijn32tab", Rows.laid_math_bits_deBruijn32tab), ("math/bits.deBruijn64tab", Rows.laid_math_bits_deBruijn64tab), ("internal/strconv.uint64pow10", Rows.laid_internal_strconv_uint64pow10), ("strconv.ErrRange", Rows.laid_strconv_ErrRange), ("strconv.ErrSyntax", Rows.laid_strconv_ErrSyntax), ("cantus/pitch.aboveC", Rows.laid_cantus_pitch_aboveC), ("cantus/pitch.alterSigns", Rows.laid_cantus_pitch_alterSigns)]

theorem pows_of {W : World} {rest : List (String × DataW Unit)} (h : laidMet Tryd.prog (("internal/strconv.uint64pow10", Rows.laid_internal_strconv_uint64pow10) :: rest) W) : Pows W :=
  Lib.tabIs_of_head (zs := Lib.pow10Tab) (rest := rest) gPow (by kernel_rfl) (t := 122) (n := 20) (e := 99) Tryd.underlying122 Tryd.underlying99 (by kernel_rfl) (by kernel_rfl) h

theorem tab_of {W : World} {rest : List (String × DataW Unit)} (h : laidMet Tryd.prog (("cantus/pitch.aboveC", Rows.laid_cantus_pitch_aboveC) :: rest) W) : Tab W := by
  have hT : Lib.TabIs Tryd.prog W "cantus/pitch.aboveC" .i64 [0, 2, 4, 5, 7, 9, 11] :=
    Lib.tabIs_of_head (rest := rest) gTab tTab Tryd.underlying73 Tryd.underlying3 (by kernel_rfl) (by kernel_rfl) h
  have c := fun i hi => Lib.TabIs.cell hT gTab i hi
  exact ⟨block_lt_of_cell (c 0 (by decide)), c 0 (by decide), c 1 (by decide), c 2 (by decide), c 3 (by decide), c 4 (by decide), c 5 (by decide), c 6 (by decide)⟩

theorem gSg : Tryd.prog.globalNamed "cantus/pitch.alterSigns" = some 0 := by kernel_rfl
theorem tSg : (Tryd.prog.globals[0]?).map (·.type) = some 53 := by kernel_rfl
theorem c9 : Tryd.prog.cellsOf 9 = 1 := by kernel_rfl

theorem sgs_of {W : World} {rest : List (String × DataW Unit)} (h : laidMet Tryd.prog (("cantus/pitch.alterSigns", Rows.laid_cantus_pitch_alterSigns) :: rest) W) : Sgs W := by
  obtain ⟨ps, ⟨g0, t0, cs0, f0, p0, q0, hg0, ht0, hv0, hd0, _, _⟩, _, _⟩ := h
  obtain rfl := Option.some.inj (gSg.symm.trans hg0)
  obtain rfl := Option.some.inj (tSg.symm.trans ht0)
  obtain ⟨xs, m1, rfl, hx1, hlen, hn, hel⟩ := DataW.trod_array Tryd.underlying53 hd0
  simp only [Prod.mk.injEq, DataW.agg.injEq, Rows.laid_cantus_pitch_alterSigns] at hx1
  have key : ∀ (j : Nat) (l : List UInt8), j < 7 → (xs.map (·.1))[j]? = some (.lit (.string l)) → W.cell? ⟨0, j, none⟩ = some (.string ⟨l.toArray⟩) := by
    intro j l hj hd
    have hc := World.var?_cell hg0 hv0 j
    rw [List.getElem?_map] at hd
    obtain ⟨x, hx, hxe⟩ := Option.map_eq_some_iff.1 hd
    have he := hel j hj
    rw [hx, c9, Nat.mul_one] at he
    obtain ⟨k, e1, e2, _⟩ := DataW.trod_string Tryd.underlying9 he
    rw [e2] at hxe
    have hkl : k.data.toList = l := by simpa using hxe
    have hk : k = ⟨l.toArray⟩ := by rw [← hkl]
    have h1 : (List.take 1 (List.drop j cs0.toList))[0]? = some (Value.string k) := by rw [e1]; rfl
    rw [List.getElem?_take_of_lt (by omega), List.getElem?_drop, Nat.add_zero] at h1
    rw [hc, ← Array.getElem?_toList, h1, hk]
  have c0 := key 0 [240, 157, 132, 171, 226, 153, 173] (by omega) (by rw [← hx1.1]; rfl)
  exact ⟨block_lt_of_cell c0, c0, key 1 [240, 157, 132, 171] (by omega) (by rw [← hx1.1]; rfl), key 2 [226, 153, 173] (by omega) (by rw [← hx1.1]; rfl), key 3 [] (by omega) (by rw [← hx1.1]; rfl), key 4 [226, 153, 175] (by omega) (by rw [← hx1.1]; rfl), key 5 [240, 157, 132, 170] (by omega) (by rw [← hx1.1]; rfl), key 6 [240, 157, 132, 170, 226, 153, 175] (by omega) (by rw [← hx1.1]; rfl)⟩

theorem all_of_laid {W : World} (h : laidMetH Tryd.prog turnList W) : Tab W ∧ Pows W ∧ Sgs W := by
  rw [MakeChecks.laidMetH_plain _ _ _ (by kernel_rfl)] at h
  have h2 := h.tail.tail
  exact ⟨tab_of h2.tail.tail.tail, pows_of h2, sgs_of h2.tail.tail.tail.tail⟩

/-- The door's own heap meets the condition. -/
theorem door_met2 (os : Os) (args : Array Value) : laidMetH Tryd.prog turnList ((World.doorLaid Tryd.prog 400 os).forCall (fun _ _ => 0) ⟨#[], args, []⟩).memory :=
  laidMetH_of_parts3 (fuel := 8) (laidMet_of_run' 8 (by kernel_rfl) (by kernel_rfl)) (by kernel_rfl) (by kernel_rfl)
end Go.Proofs.YtmccbokjigjpnaaDoor
