/-
  DERIVED. GIVEN WITH THE SEED: THE PROGRAM's TIES (one call each: nine closed facts by the kernel) AND EACH ROW's TIE, after the 31st guide's Derived/Test/Toyas{Tie, Card}.lean. No idea stands in it: it is a product of the set-up. Laid BY PROGRAM, IN A SANDBOX (cutbox-door.mjs). By AI agents, Wed Nov 11 2026. No macro, syntax, notation, axiom, sorry.
-/
import Derived.Test.YtdjdnjaijpafgabDoorRows
import Derived.LaidByTextLater
import Derived.SevenTiedAt
import Derived.LaidSub
import Derived.LaidOnce
namespace Go.Proofs.YtdjdnjaijpafgabDoor
open Go
set_option maxRecDepth 100000
theorem seatTie1 : Tryd.prog.laidByTextLater [("math/bits.deBruijn32tab", Rows.laid_math_bits_deBruijn32tab), ("math/bits.deBruijn64tab", Rows.laid_math_bits_deBruijn64tab), ("internal/strconv.uint64pow10", Rows.laid_internal_strconv_uint64pow10), ("strconv.ErrRange", Rows.laid_strconv_ErrRange), ("strconv.ErrSyntax", Rows.laid_strconv_ErrSyntax), ("cantus/pitch.aboveC", Rows.laid_cantus_pitch_aboveC), ("cantus/pitch.alterSigns", Rows.laid_cantus_pitch_alterSigns), ("cantus/scale.overRoot", Rows.laid_cantus_scale_overRoot), ("cantus/scale.fifths", Rows.laid_cantus_scale_fifths), ("cantus/scale.ados", Rows.laid_cantus_scale_ados)] [.data, .data, .data, .sentinel, .sentinel, .data, .data, .data, .data, .data] true :=
  Program.laidByTextLater_by_one 96 8 65 (by kernel_rfl) (by kernel_rfl) (by kernel_rfl) (by kernel_rfl) (by kernel_rfl) (by kernel_rfl) (fun _ _ => by kernel_rfl)
theorem noOwnUnsafe : Tryd.pinned.checked.prog.headLifts.contains "ownunsafe" = false := by kernel_rfl
theorem tie : Tryd.prog.laidByTextLater [("math/bits.deBruijn32tab", Rows.laid_math_bits_deBruijn32tab), ("math/bits.deBruijn64tab", Rows.laid_math_bits_deBruijn64tab), ("internal/strconv.uint64pow10", Rows.laid_internal_strconv_uint64pow10), ("strconv.ErrRange", Rows.laid_strconv_ErrRange), ("strconv.ErrSyntax", Rows.laid_strconv_ErrSyntax), ("cantus/pitch.aboveC", Rows.laid_cantus_pitch_aboveC), ("cantus/pitch.alterSigns", Rows.laid_cantus_pitch_alterSigns)] [.data, .data, .data, .sentinel, .sentinel, .data, .data] true :=
  Program.laidByTextLater.sub seatTie1 ["math/bits.deBruijn32tab", "math/bits.deBruijn64tab", "internal/strconv.uint64pow10", "strconv.ErrRange", "strconv.ErrSyntax", "cantus/pitch.aboveC", "cantus/pitch.alterSigns"] (by kernel_rfl) (by kernel_rfl)
theorem pitchTurns_row_tie : Rows.pitchTurnsRow.laidByTextAt .later Tryd.pinned [.data, .data, .data, .sentinel, .sentinel, .data, .data] true :=
  OpenClaim.laidByTextAt_later rfl rfl tie noOwnUnsafe
theorem tie2 : Tryd.prog.laidByTextLater [("cantus/pitch.aboveC", Rows.laid_cantus_pitch_aboveC)] [.data] true :=
  Program.laidByTextLater.sub seatTie1 ["cantus/pitch.aboveC"] (by kernel_rfl) (by kernel_rfl)
theorem pitchTorsor_row_tie : Rows.pitchTorsorRow.laidByTextAt .later Tryd.pinned [.data] true :=
  OpenClaim.laidByTextAt_later rfl rfl tie2 noOwnUnsafe
theorem pitchMirror_row_tie : Rows.pitchMirrorRow.laidByTextAt .later Tryd.pinned [.data] true :=
  OpenClaim.laidByTextAt_later rfl rfl tie2 noOwnUnsafe
theorem tie3 : Tryd.prog.laidByTextLater [("cantus/pitch.aboveC", Rows.laid_cantus_pitch_aboveC), ("cantus/scale.fifths", Rows.laid_cantus_scale_fifths), ("cantus/scale.ados", Rows.laid_cantus_scale_ados)] [.data, .data, .data] true :=
  Program.laidByTextLater.sub seatTie1 ["cantus/pitch.aboveC", "cantus/scale.fifths", "cantus/scale.ados"] (by kernel_rfl) (by kernel_rfl)
theorem scaleKeys_row_tie : Rows.scaleKeysRow.laidByTextAt .later Tryd.pinned [.data, .data, .data] true :=
  OpenClaim.laidByTextAt_later rfl rfl tie3 noOwnUnsafe
theorem tie4 : Tryd.prog.laidByTextLater [("cantus/pitch.aboveC", Rows.laid_cantus_pitch_aboveC), ("cantus/scale.overRoot", Rows.laid_cantus_scale_overRoot)] [.data, .data] true :=
  Program.laidByTextLater.sub seatTie1 ["cantus/pitch.aboveC", "cantus/scale.overRoot"] (by kernel_rfl) (by kernel_rfl)
theorem scaleChords_row_tie : Rows.scaleChordsRow.laidByTextAt .later Tryd.pinned [.data, .data] true :=
  OpenClaim.laidByTextAt_later rfl rfl tie4 noOwnUnsafe
theorem tie5 : Tryd.prog.laidByTextLater [("cantus/pitch.aboveC", Rows.laid_cantus_pitch_aboveC), ("cantus/scale.fifths", Rows.laid_cantus_scale_fifths)] [.data, .data] true :=
  Program.laidByTextLater.sub seatTie1 ["cantus/pitch.aboveC", "cantus/scale.fifths"] (by kernel_rfl) (by kernel_rfl)
theorem scaleSteps_row_tie : Rows.scaleStepsRow.laidByTextAt .later Tryd.pinned [.data, .data] true :=
  OpenClaim.laidByTextAt_later rfl rfl tie5 noOwnUnsafe
theorem pitchTurnsUpto_row_tie : Rows.pitchTurnsUptoRow.laidByTextAt .later Tryd.pinned [.data, .data, .data, .sentinel, .sentinel, .data, .data] true :=
  OpenClaim.laidByTextAt_later rfl rfl tie noOwnUnsafe
theorem pitchTorsorUpto_row_tie : Rows.pitchTorsorUptoRow.laidByTextAt .later Tryd.pinned [.data] true :=
  OpenClaim.laidByTextAt_later rfl rfl tie2 noOwnUnsafe
theorem pitchMirrorUpto_row_tie : Rows.pitchMirrorUptoRow.laidByTextAt .later Tryd.pinned [.data] true :=
  OpenClaim.laidByTextAt_later rfl rfl tie2 noOwnUnsafe
theorem scaleKeysUpto_row_tie : Rows.scaleKeysUptoRow.laidByTextAt .later Tryd.pinned [.data, .data, .data] true :=
  OpenClaim.laidByTextAt_later rfl rfl tie3 noOwnUnsafe
theorem scaleChordsUpto_row_tie : Rows.scaleChordsUptoRow.laidByTextAt .later Tryd.pinned [.data, .data] true :=
  OpenClaim.laidByTextAt_later rfl rfl tie4 noOwnUnsafe
theorem scaleStepsUpto_row_tie : Rows.scaleStepsUptoRow.laidByTextAt .later Tryd.pinned [.data, .data] true :=
  OpenClaim.laidByTextAt_later rfl rfl tie5 noOwnUnsafe
end Go.Proofs.YtdjdnjaijpafgabDoor
