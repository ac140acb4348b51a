/-
  No cell of these rows narrows 'for every input' (looked for: loops, veiled, ifaces, maps, wideKeys, modest, calm, conditions, laid).
  DERIVED. THE GIVEN ROWS OF THIS SEAT. 4 by the template 'for every input the law returns true; each argument reads behind the call as it read before'; 0 by the template 'total and deterministic' (their statements: YtjfmpgfpehnnjaiTotals.lean).
  GIVEN WITH THE SEED: the statements are not yours to turn. If you find one false, say at which input.
  Laid BY PROGRAM, IN A SANDBOX (cutbox-rows.mjs): the forced cells as the released guide's own fill.sh prints them over the translation 9a1679a052abcfd1… (all of the seat's roots in one cut). By AI agents, Wed Nov 11 2026. No macro, syntax, notation, axiom, sorry.
-/
import Derived.Test.YtjfmpgfpehnnjaiChecked
import GoSem.Claim
import GoSem.ClaimJoined
import GoSem.ClaimMapViews
import Derived.JoinedTies
import Derived.KernelRfl
namespace Go.Proofs.Ytjfmpgfpehnnjai
/- THE CELL 'sum', in the pinned program and in every row, IS THE sha256 OF THE DUMP (.gsa) THAT YtjfmpgfpehnnjaiProg.lean LOADS. Nothing in Lean hashes anything: it is a label: what it is worth is what the hold of that sum in a sandbox is worth. -/
noncomputable def Try.pinned : Pinned := { name := "ytjfmpgfpehnnjai", sum := "9a1679a052abcfd1ee8be7fb7649bc061daf28c6eb7c42a932f23427ea59055e", checked := Try.checked }
namespace Rows
def none {H : Type} : Left H := { results := [], args := [] }

/-- 'cantuslaw13.VoiceBlocks': WHATEVER THE INPUT: true; the input reads as it did. -/
def voiceBlocksSpec : ChangeSpec := { name := "voiceBlocks", fn := fun _ => fun
  | [d1, d2, d3] => { results := [.lit (.bool true)], args := [d1, d2, d3] }
  | _ => none }
def voiceBlocksRow : OpenClaim := { program := "ytjfmpgfpehnnjai", sum := "9a1679a052abcfd1ee8be7fb7649bc061daf28c6eb7c42a932f23427ea59055e", func := "cantus/cantuslaw13.VoiceBlocks", spec := "voiceBlocks", inPlace := ["math.Float64bits"], unfollowed := true, recurses := true, apart := false }
def VoiceBlocksSaid : Prop := voiceBlocksRow.holds Try.pinned (OpenSpec.ofChange voiceBlocksSpec)

/-- ITS FALSE NEIGHBOUR: 'it returns false'. Refute it at one input. -/
def voiceBlocksWrong : ChangeSpec := { name := "voiceBlocks", fn := fun _ => fun
  | [d1, d2, d3] => { results := [.lit (.bool false)], args := [d1, d2, d3] }
  | _ => none }
def VoiceBlocksWrongFalsely : Prop := voiceBlocksRow.holds Try.pinned (OpenSpec.ofChange voiceBlocksWrong)

/-- 'cantuslaw13.VoiceEnds': WHATEVER THE INPUT: true; the input reads as it did. -/
def voiceEndsSpec : ChangeSpec := { name := "voiceEnds", fn := fun _ => fun
  | [d1, d2, d3] => { results := [.lit (.bool true)], args := [d1, d2, d3] }
  | _ => none }
def voiceEndsRow : OpenClaim := { program := "ytjfmpgfpehnnjai", sum := "9a1679a052abcfd1ee8be7fb7649bc061daf28c6eb7c42a932f23427ea59055e", func := "cantus/cantuslaw13.VoiceEnds", spec := "voiceEnds", unfollowed := true, recurses := true, apart := false }
def VoiceEndsSaid : Prop := voiceEndsRow.holds Try.pinned (OpenSpec.ofChange voiceEndsSpec)

/-- ITS FALSE NEIGHBOUR: 'it returns false'. Refute it at one input. -/
def voiceEndsWrong : ChangeSpec := { name := "voiceEnds", fn := fun _ => fun
  | [d1, d2, d3] => { results := [.lit (.bool false)], args := [d1, d2, d3] }
  | _ => none }
def VoiceEndsWrongFalsely : Prop := voiceEndsRow.holds Try.pinned (OpenSpec.ofChange voiceEndsWrong)

/-- 'cantuslaw14.FilterRuns': WHATEVER THE INPUT: true; the input reads as it did. -/
def filterRunsSpec : ChangeSpec := { name := "filterRuns", fn := fun _ => fun
  | [d1, d2, d3] => { results := [.lit (.bool true)], args := [d1, d2, d3] }
  | _ => none }
def filterRunsRow : OpenClaim := { program := "ytjfmpgfpehnnjai", sum := "9a1679a052abcfd1ee8be7fb7649bc061daf28c6eb7c42a932f23427ea59055e", func := "cantus/cantuslaw14.FilterRuns", spec := "filterRuns", inPlace := ["math.Float64bits"], apart := false }
def FilterRunsSaid : Prop := filterRunsRow.holds Try.pinned (OpenSpec.ofChange filterRunsSpec)

/-- ITS FALSE NEIGHBOUR: 'it returns false'. Refute it at one input. -/
def filterRunsWrong : ChangeSpec := { name := "filterRuns", fn := fun _ => fun
  | [d1, d2, d3] => { results := [.lit (.bool false)], args := [d1, d2, d3] }
  | _ => none }
def FilterRunsWrongFalsely : Prop := filterRunsRow.holds Try.pinned (OpenSpec.ofChange filterRunsWrong)

/-- 'cantuslaw14.FilterBlocks': WHATEVER THE INPUT: true; the input reads as it did. -/
def filterBlocksSpec : ChangeSpec := { name := "filterBlocks", fn := fun _ => fun
  | [d1, d2, d3] => { results := [.lit (.bool true)], args := [d1, d2, d3] }
  | _ => none }
def filterBlocksRow : OpenClaim := { program := "ytjfmpgfpehnnjai", sum := "9a1679a052abcfd1ee8be7fb7649bc061daf28c6eb7c42a932f23427ea59055e", func := "cantus/cantuslaw14.FilterBlocks", spec := "filterBlocks", inPlace := ["math.Float64bits"], apart := false }
def FilterBlocksSaid : Prop := filterBlocksRow.holds Try.pinned (OpenSpec.ofChange filterBlocksSpec)

/-- ITS FALSE NEIGHBOUR: 'it returns false'. Refute it at one input. -/
def filterBlocksWrong : ChangeSpec := { name := "filterBlocks", fn := fun _ => fun
  | [d1, d2, d3] => { results := [.lit (.bool false)], args := [d1, d2, d3] }
  | _ => none }
def FilterBlocksWrongFalsely : Prop := filterBlocksRow.holds Try.pinned (OpenSpec.ofChange filterBlocksWrong)

/- THE SECOND FORM. 'bulk': how many values and letters a reading holds, each counted each time it is reached (what is shared counts as often as it is met; a slice's spare places count too). A statement '..UptoSaid' is the law's where the arguments, and the package variables that the reading takes, are together of bulk at most 1048576: NARROWER than '..Said'. Prove '..Said' where nothing that the law and all that it calls make is longer than what came in: it says more and counts as full. Else prove '..UptoSaid'. A law counts once. -/
mutual
def uptoBulk {H : Type} : DataW H → Nat
  | .lit (.string bytes) => bytes.length + 1
  | .lit _ => 1
  | .nil => 1
  | .ptr d => uptoBulk d + 1
  | .slice elems spare => uptoBulkAll elems + uptoBulkAll spare + 1
  | .agg parts => uptoBulkAll parts + 1
  | .iface _ d => uptoBulk d + 1
  | .map entries => uptoBulkEntries entries + 1
  | .held _ => 1
def uptoBulkAll {H : Type} : List (DataW H) → Nat
  | [] => 0
  | d :: r => uptoBulk d + uptoBulkAll r
def uptoBulkEntries {H : Type} : List (Lit × DataW H) → Nat
  | [] => 0
  | x :: r => uptoBulkEntry x + uptoBulkEntries r
def uptoBulkEntry {H : Type} : Lit × DataW H → Nat
  | (.string bytes, d) => bytes.length + uptoBulk d + 1
  | (_, d) => uptoBulk d + 1
 end
def uptoSmall : (H : Type) → List (DataW H) → Bool := fun _ ds => decide (uptoBulkAll ds ≤ 1048576)
def OpenSpec.upto (s : _root_.Go.ChangeSpec) : _root_.Go.OpenSpec := { _root_.Go.OpenSpec.ofChange s with cond := some uptoSmall }

/-- 'cantuslaw13.VoiceBlocks', WHERE WHAT IT READS IS OF BULK AT MOST 1048576: true; the input reads as it did. -/
def voiceBlocksUptoRow : OpenClaim := { program := "ytjfmpgfpehnnjai", sum := "9a1679a052abcfd1ee8be7fb7649bc061daf28c6eb7c42a932f23427ea59055e", func := "cantus/cantuslaw13.VoiceBlocks", spec := "voiceBlocks", inPlace := ["math.Float64bits"], unfollowed := true, recurses := true, apart := false, narrowed := true }
def VoiceBlocksUptoSaid : Prop := voiceBlocksUptoRow.holds Try.pinned (OpenSpec.upto voiceBlocksSpec)

/-- 'cantuslaw13.VoiceEnds', WHERE WHAT IT READS IS OF BULK AT MOST 1048576: true; the input reads as it did. -/
def voiceEndsUptoRow : OpenClaim := { program := "ytjfmpgfpehnnjai", sum := "9a1679a052abcfd1ee8be7fb7649bc061daf28c6eb7c42a932f23427ea59055e", func := "cantus/cantuslaw13.VoiceEnds", spec := "voiceEnds", unfollowed := true, recurses := true, apart := false, narrowed := true }
def VoiceEndsUptoSaid : Prop := voiceEndsUptoRow.holds Try.pinned (OpenSpec.upto voiceEndsSpec)

/-- 'cantuslaw14.FilterRuns', WHERE WHAT IT READS IS OF BULK AT MOST 1048576: true; the input reads as it did. -/
def filterRunsUptoRow : OpenClaim := { program := "ytjfmpgfpehnnjai", sum := "9a1679a052abcfd1ee8be7fb7649bc061daf28c6eb7c42a932f23427ea59055e", func := "cantus/cantuslaw14.FilterRuns", spec := "filterRuns", inPlace := ["math.Float64bits"], apart := false, narrowed := true }
def FilterRunsUptoSaid : Prop := filterRunsUptoRow.holds Try.pinned (OpenSpec.upto filterRunsSpec)

/-- 'cantuslaw14.FilterBlocks', WHERE WHAT IT READS IS OF BULK AT MOST 1048576: true; the input reads as it did. -/
def filterBlocksUptoRow : OpenClaim := { program := "ytjfmpgfpehnnjai", sum := "9a1679a052abcfd1ee8be7fb7649bc061daf28c6eb7c42a932f23427ea59055e", func := "cantus/cantuslaw14.FilterBlocks", spec := "filterBlocks", inPlace := ["math.Float64bits"], apart := false, narrowed := true }
def FilterBlocksUptoSaid : Prop := filterBlocksUptoRow.holds Try.pinned (OpenSpec.upto filterBlocksSpec)

end Rows
end Go.Proofs.Ytjfmpgfpehnnjai
