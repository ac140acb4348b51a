/- What ScoreMoved's row says of its eight variables, and what the walks ask of four of them. -/
import Derived.Test.YtaohahahhjkcdaeGreatDoorRows
import Derived.Test.YtaohahahhjkcdaeGreatDoorSG24
import Derived.Lib.LaidU8T
import Derived.PinnedBridge
import Derived.Lay
import Derived.LaidMore
import Derived.Stop.LaidErr
import Derived.WalkKit
import Derived.ProofKit
namespace Go.Proofs.YtaohahahhjkcdaeGreatDoor
open Go.ChangeShapes Go.WideShapes Go.ChangeAt Go.WideMaps Go.WideElems Go.RowKit Go.Shelf Go.Lib

def scoreList : List (String × DataW Unit) := [("math/bits.deBruijn32tab", Rows.laid_math_bits_deBruijn32tab), ("math/bits.deBruijn64tab", Rows.laid_math_bits_deBruijn64tab), ("internal/strconv.uint64pow10", Rows.laid_internal_strconv_uint64pow10), ("unicode/utf8.acceptRanges", Rows.laid_unicode_utf8_acceptRanges), ("strconv.ErrRange", Rows.laid_strconv_ErrRange), ("strconv.ErrSyntax", Rows.laid_strconv_ErrSyntax), ("cantus/pitch.aboveC", Rows.laid_cantus_pitch_aboveC), ("unicode/utf8.first", Rows.laid_unicode_utf8_first)]
theorem gTabS : Tryz.prog.globalNamed "cantus/pitch.aboveC" = some 5 := by kernel_rfl
theorem tTabS : (Tryz.prog.globals[5]?).map (·.type) = some 190 := by kernel_rfl
theorem powsS_of {W : World} {rest : List (String × DataW Unit)} (h : laidMet Tryz.prog (("internal/strconv.uint64pow10", Rows.laid_internal_strconv_uint64pow10) :: rest) W) : Pows W :=
  Lib.tabIs_of_head (zs := Lib.pow10Tab) (rest := rest) gPow (by kernel_rfl) (t := 208) (n := 20) (e := 167) Tryz.underlying208 Tryz.underlying167 (by kernel_rfl) (by kernel_rfl) h
theorem tabS_of {W : World} {rest : List (String × DataW Unit)} (h : laidMet Tryz.prog (("cantus/pitch.aboveC", Rows.laid_cantus_pitch_aboveC) :: rest) W) : Tab W := by
  have hT : Lib.TabIs Tryz.prog W "cantus/pitch.aboveC" .i64 [0, 2, 4, 5, 7, 9, 11] :=
    Lib.tabIs_of_head (rest := rest) gTabS tTabS Tryz.underlying190 Tryz.underlying3 (by kernel_rfl) (by kernel_rfl) h
  have c := fun i hi => Lib.TabIs.cell hT gTabS i hi
  exact ⟨block_lt_of_cell (c 0 (by decide)), c 0 (by decide), c 1 (by decide), c 2 (by decide), c 3 (by decide), c 4 (by decide), c 5 (by decide), c 6 (by decide)⟩
/-- utf8's tables at this program's numbers. -/
def renU : Ren := ⟨fun n => n, fun | 5 => 5 | 119 => 186 | 138 => 188 | 139 => 189 | n => n, fun | 3 => 3 | 4 => 4 | n => n⟩
theorem typU : U8Types Tryz.prog renU := ⟨by kernel_rfl, by kernel_rfl, by kernel_rfl, by kernel_rfl⟩
theorem extU : U8Extra Tryz.prog renU := ⟨by kernel_rfl, by kernel_rfl, by kernel_rfl, by kernel_rfl, by kernel_rfl, by kernel_rfl, by kernel_rfl⟩
theorem accU : (Rows.laid_unicode_utf8_acceptRanges : DataW Unit) = acceptData := by kernel_rfl
theorem scoreAll_of_laid {W : World} (h : laidMetH Tryz.prog scoreList W) : Tab W ∧ Pows W ∧ G.UT W := by
  rw [MakeChecks.laidMetH_plain _ _ _ (by kernel_rfl)] at h
  have hU : Lib.Utf8Tabs 3 4 W := utf8Tabs_of_readsT (ρ := renU) typU extU (Pinned.utf8First_eq ▸ Lib.laidMet.reads h (by simp [scoreList, Rows.laid_unicode_utf8_first])) (accU ▸ Lib.laidMet.reads h (by simp [scoreList]))
  exact ⟨tabS_of h.tail.tail.tail.tail.tail.tail, powsS_of h.tail.tail, ⟨block_lt_of_cell (hU.1 0 (by decide)), block_lt_of_cell (hU.2 0 (by decide)).1, hU⟩⟩
theorem scoreMet (os : Os) (args : Array Value) : laidMetH Tryz.prog scoreList ((World.laidAll Tryz.prog os scoreList).forCall (fun _ _ => 0) ⟨#[], args, []⟩).memory := by
  rw [MakeChecks.laidMetH_plain _ _ _ (by kernel_rfl)]; exact laidMet_laidAll _ (by kernel_rfl) (by kernel_rfl)
end Go.Proofs.YtaohahahhjkcdaeGreatDoor
