/-
  NARROWER THAN 'FOR EVERY INPUT', by the rows' own cells (each row's printed sentence says how): ScaleMoved: laid · TuneSwings: laid · TuneRises: laid.
  DERIVED. THE GIVEN ROWS OF THIS SEAT. 3 by the template 'for every input the law returns true; each argument reads behind the call as it read before'; 0 by the template 'total and deterministic' (their statements: YtgcnmmjgdpdmbacDoorTotals.lean).
  GIVEN WITH THE SEED: the statements are not yours to turn. If you find one false, say at which input.
  Laid BY PROGRAM, IN A SANDBOX (cutbox-rows.mjs): the forced cells as the released guide's own fill.sh prints them over the translation 113ab7dd301cac4a… (all of the seat's roots in one cut). By AI agents, Wed Nov 11 2026. No macro, syntax, notation, axiom, sorry.
-/
import Derived.Test.YtgcnmmjgdpdmbacDoorChecked
import GoSem.Claim
import GoSem.ClaimJoined
import GoSem.ClaimMapViews
import Derived.JoinedTies
import Derived.KernelRfl
namespace Go.Proofs.YtgcnmmjgdpdmbacDoor
/- THE CELL 'sum', in the pinned program and in every row, IS THE sha256 OF THE DUMP (.gsa) THAT YtgcnmmjgdpdmbacDoorProg.lean LOADS. Nothing in Lean hashes anything: it is a label: what it is worth is what the hold of that sum in a sandbox is worth. -/
noncomputable def Tryd.pinned : Pinned := { name := "ytgcnmmjgdpdmbacdoor", sum := "113ab7dd301cac4aa8737c3182db08feec9aeac0ed2d775d917fefadda225769", checked := Tryd.checked }
namespace Rows
def none {H : Type} : Left H := { results := [], args := [] }

/- WHAT THE LISTED PACKAGE-LEVEL VARIABLES READ AS WHEN THE CALL BEGINS. Each datum BY PROGRAM (the guide's laid-datum.mjs) off the statement by which the dump's own 'gosem.cut.vars' lays the variable. In a bare row this is a premise. The card (YtgcnmmjgdpdmbacDoorCards.lean) ties it to the program's text. -/
def laid_cantus_pitch_aboveC {H : Type} : DataW H := .agg [.lit (.int .i64 0), .lit (.int .i64 2), .lit (.int .i64 4), .lit (.int .i64 5), .lit (.int .i64 7), .lit (.int .i64 9), .lit (.int .i64 11)]
def laid_cantus_scale_overRoot {H : Type} : DataW H := .agg [.agg [.lit (.int .i64 0), .lit (.int .i64 0), .lit (.int .i64 0)], .agg [.lit (.int .i64 4), .lit (.int .i64 7), .lit (.int .i64 0)], .agg [.lit (.int .i64 3), .lit (.int .i64 7), .lit (.int .i64 0)], .agg [.lit (.int .i64 3), .lit (.int .i64 6), .lit (.int .i64 0)], .agg [.lit (.int .i64 4), .lit (.int .i64 8), .lit (.int .i64 0)], .agg [.lit (.int .i64 4), .lit (.int .i64 7), .lit (.int .i64 10)], .agg [.lit (.int .i64 4), .lit (.int .i64 7), .lit (.int .i64 11)], .agg [.lit (.int .i64 3), .lit (.int .i64 7), .lit (.int .i64 10)], .agg [.lit (.int .i64 3), .lit (.int .i64 6), .lit (.int .i64 10)], .agg [.lit (.int .i64 3), .lit (.int .i64 6), .lit (.int .i64 9)]]
def laid_cantus_scale_fifths {H : Type} : DataW H := .agg [.lit (.int .i64 0), .lit (.int .i64 2), .lit (.int .i64 4), .lit (.int .i64 (-1)), .lit (.int .i64 1), .lit (.int .i64 3), .lit (.int .i64 5)]
def laid_cantus_tune_table {H : Type} : DataW H := .agg [.lit (.float .f64 4607182418800017408), .lit (.float .f64 4607450216769616227), .lit (.float .f64 4607733938835150528), .lit (.float .f64 4608034531892639510), .lit (.float .f64 4608352999143469708), .lit (.float .f64 4608690403442486367), .lit (.float .f64 4609047870845172686), .lit (.float .f64 4609426594365755314), .lit (.float .f64 4609827837958778431), .lit (.float .f64 4610252940737434544), .lit (.float .f64 4610703321442730284), .lit (.float .f64 4611180483178402631)]

/-- 'cantuslaw3.ScaleMoved': WHATEVER THE INPUT: true; the input reads as it did. -/
def scaleMovedSpec : ChangeSpec := { name := "scaleMoved", fn := fun _ => fun
  | [d1, d2, d3, d4, d5] => { results := [.lit (.bool true)], args := [d1, d2, d3, d4, d5] }
  | _ => none }
def scaleMovedRow : OpenClaim := { program := "ytgcnmmjgdpdmbacdoor", sum := "113ab7dd301cac4aa8737c3182db08feec9aeac0ed2d775d917fefadda225769", func := "cantus/cantuslaw3.ScaleMoved", spec := "scaleMoved", named := ["cantus/scale.fifths", "cantus/scale.overRoot", "cantus/pitch.aboveC"], apart := false, laid := [("cantus/pitch.aboveC", laid_cantus_pitch_aboveC), ("cantus/scale.overRoot", laid_cantus_scale_overRoot), ("cantus/scale.fifths", laid_cantus_scale_fifths)] }
def ScaleMovedSaid : Prop := scaleMovedRow.holds Tryd.pinned (OpenSpec.ofChange scaleMovedSpec)

/-- ITS FALSE NEIGHBOUR: 'it returns false'. Refute it at one input. -/
def scaleMovedWrong : ChangeSpec := { name := "scaleMoved", fn := fun _ => fun
  | [d1, d2, d3, d4, d5] => { results := [.lit (.bool false)], args := [d1, d2, d3, d4, d5] }
  | _ => none }
def ScaleMovedWrongFalsely : Prop := scaleMovedRow.holds Tryd.pinned (OpenSpec.ofChange scaleMovedWrong)

/-- 'cantuslaw4.TuneSwings': WHATEVER THE INPUT: true; the input reads as it did. -/
def tuneSwingsSpec : ChangeSpec := { name := "tuneSwings", fn := fun _ => fun
  | [d1, d2, d3] => { results := [.lit (.bool true)], args := [d1, d2, d3] }
  | _ => none }
def tuneSwingsRow : OpenClaim := { program := "ytgcnmmjgdpdmbacdoor", sum := "113ab7dd301cac4aa8737c3182db08feec9aeac0ed2d775d917fefadda225769", func := "cantus/cantuslaw4.TuneSwings", spec := "tuneSwings", inPlace := ["math.Float64bits"], named := ["cantus/tune.table", "cantus/pitch.aboveC"], apart := false, laid := [("cantus/pitch.aboveC", laid_cantus_pitch_aboveC), ("cantus/tune.table", laid_cantus_tune_table)] }
def TuneSwingsSaid : Prop := tuneSwingsRow.holds Tryd.pinned (OpenSpec.ofChange tuneSwingsSpec)

/-- ITS FALSE NEIGHBOUR: 'it returns false'. Refute it at one input. -/
def tuneSwingsWrong : ChangeSpec := { name := "tuneSwings", fn := fun _ => fun
  | [d1, d2, d3] => { results := [.lit (.bool false)], args := [d1, d2, d3] }
  | _ => none }
def TuneSwingsWrongFalsely : Prop := tuneSwingsRow.holds Tryd.pinned (OpenSpec.ofChange tuneSwingsWrong)

/-- 'cantuslaw4.TuneRises': WHATEVER THE INPUT: true; the input reads as it did. -/
def tuneRisesSpec : ChangeSpec := { name := "tuneRises", fn := fun _ => fun
  | [d1, d2, d3] => { results := [.lit (.bool true)], args := [d1, d2, d3] }
  | _ => none }
def tuneRisesRow : OpenClaim := { program := "ytgcnmmjgdpdmbacdoor", sum := "113ab7dd301cac4aa8737c3182db08feec9aeac0ed2d775d917fefadda225769", func := "cantus/cantuslaw4.TuneRises", spec := "tuneRises", inPlace := ["math.Float64bits"], named := ["cantus/tune.table", "cantus/pitch.aboveC"], apart := false, laid := [("cantus/pitch.aboveC", laid_cantus_pitch_aboveC), ("cantus/tune.table", laid_cantus_tune_table)] }
def TuneRisesSaid : Prop := tuneRisesRow.holds Tryd.pinned (OpenSpec.ofChange tuneRisesSpec)

/-- ITS FALSE NEIGHBOUR: 'it returns false'. Refute it at one input. -/
def tuneRisesWrong : ChangeSpec := { name := "tuneRises", fn := fun _ => fun
  | [d1, d2, d3] => { results := [.lit (.bool false)], args := [d1, d2, d3] }
  | _ => none }
def TuneRisesWrongFalsely : Prop := tuneRisesRow.holds Tryd.pinned (OpenSpec.ofChange tuneRisesWrong)

/- THE SECOND FORM. 'bulk': how many values and letters a reading holds, each counted each time it is reached (what is shared counts as often as it is met; a slice's spare places count too). A statement '..UptoSaid' is the law's where the arguments, and the package variables that the reading takes, are together of bulk at most 1048576: NARROWER than '..Said'. Prove '..Said' where nothing that the law and all that it calls make is longer than what came in: it says more and counts as full. Else prove '..UptoSaid'. A law counts once. -/
mutual
def uptoBulk {H : Type} : DataW H → Nat
  | .lit (.string bytes) => bytes.length + 1
  | .lit _ => 1
  | .nil => 1
  | .ptr d => uptoBulk d + 1
  | .slice elems spare => uptoBulkAll elems + uptoBulkAll spare + 1
  | .agg parts => uptoBulkAll parts + 1
  | .iface _ d => uptoBulk d + 1
  | .map entries => uptoBulkEntries entries + 1
  | .held _ => 1
def uptoBulkAll {H : Type} : List (DataW H) → Nat
  | [] => 0
  | d :: r => uptoBulk d + uptoBulkAll r
def uptoBulkEntries {H : Type} : List (Lit × DataW H) → Nat
  | [] => 0
  | x :: r => uptoBulkEntry x + uptoBulkEntries r
def uptoBulkEntry {H : Type} : Lit × DataW H → Nat
  | (.string bytes, d) => bytes.length + uptoBulk d + 1
  | (_, d) => uptoBulk d + 1
 end
def uptoSmall : (H : Type) → List (DataW H) → Bool := fun _ ds => decide (uptoBulkAll ds ≤ 1048576)
def OpenSpec.upto (s : _root_.Go.ChangeSpec) : _root_.Go.OpenSpec := { _root_.Go.OpenSpec.ofChange s with cond := some uptoSmall }

/-- 'cantuslaw3.ScaleMoved', WHERE WHAT IT READS IS OF BULK AT MOST 1048576: true; the input reads as it did. -/
def scaleMovedUptoRow : OpenClaim := { program := "ytgcnmmjgdpdmbacdoor", sum := "113ab7dd301cac4aa8737c3182db08feec9aeac0ed2d775d917fefadda225769", func := "cantus/cantuslaw3.ScaleMoved", spec := "scaleMoved", named := ["cantus/scale.fifths", "cantus/scale.overRoot", "cantus/pitch.aboveC"], apart := false, laid := [("cantus/pitch.aboveC", laid_cantus_pitch_aboveC), ("cantus/scale.overRoot", laid_cantus_scale_overRoot), ("cantus/scale.fifths", laid_cantus_scale_fifths)], narrowed := true }
def ScaleMovedUptoSaid : Prop := scaleMovedUptoRow.holds Tryd.pinned (OpenSpec.upto scaleMovedSpec)

/-- 'cantuslaw4.TuneSwings', WHERE WHAT IT READS IS OF BULK AT MOST 1048576: true; the input reads as it did. -/
def tuneSwingsUptoRow : OpenClaim := { program := "ytgcnmmjgdpdmbacdoor", sum := "113ab7dd301cac4aa8737c3182db08feec9aeac0ed2d775d917fefadda225769", func := "cantus/cantuslaw4.TuneSwings", spec := "tuneSwings", inPlace := ["math.Float64bits"], named := ["cantus/tune.table", "cantus/pitch.aboveC"], apart := false, laid := [("cantus/pitch.aboveC", laid_cantus_pitch_aboveC), ("cantus/tune.table", laid_cantus_tune_table)], narrowed := true }
def TuneSwingsUptoSaid : Prop := tuneSwingsUptoRow.holds Tryd.pinned (OpenSpec.upto tuneSwingsSpec)

/-- 'cantuslaw4.TuneRises', WHERE WHAT IT READS IS OF BULK AT MOST 1048576: true; the input reads as it did. -/
def tuneRisesUptoRow : OpenClaim := { program := "ytgcnmmjgdpdmbacdoor", sum := "113ab7dd301cac4aa8737c3182db08feec9aeac0ed2d775d917fefadda225769", func := "cantus/cantuslaw4.TuneRises", spec := "tuneRises", inPlace := ["math.Float64bits"], named := ["cantus/tune.table", "cantus/pitch.aboveC"], apart := false, laid := [("cantus/pitch.aboveC", laid_cantus_pitch_aboveC), ("cantus/tune.table", laid_cantus_tune_table)], narrowed := true }
def TuneRisesUptoSaid : Prop := tuneRisesUptoRow.holds Tryd.pinned (OpenSpec.upto tuneRisesSpec)

end Rows
end Go.Proofs.YtgcnmmjgdpdmbacDoor
