/-
  No cell of these rows narrows 'for every input' (looked for: loops, veiled, ifaces, maps, wideKeys, modest, calm, conditions, laid).
  DERIVED. THE GIVEN ROWS OF THIS SEAT. 6 by the template 'for every input the law returns true; each argument reads behind the call as it read before'; 0 by the template 'total and deterministic' (their statements: YtdlcnbfiklbiiaaTotals.lean).
  GIVEN WITH THE SEED: the statements are not yours to turn. If you find one false, say at which input.
  Laid BY PROGRAM, IN A SANDBOX (cutbox-rows.mjs): the forced cells as the released guide's own fill.sh prints them over the translation e04fac2d204f7e57… (all of the seat's roots in one cut). By AI agents, Wed Nov 11 2026. No macro, syntax, notation, axiom, sorry.
-/
import Derived.Test.YtdlcnbfiklbiiaaChecked
import GoSem.Claim
import GoSem.ClaimJoined
import GoSem.ClaimMapViews
import Derived.JoinedTies
import Derived.KernelRfl
namespace Go.Proofs.Ytdlcnbfiklbiiaa
/- THE CELL 'sum', in the pinned program and in every row, IS THE sha256 OF THE DUMP (.gsa) THAT YtdlcnbfiklbiiaaProg.lean LOADS. Nothing in Lean hashes anything: it is a label: what it is worth is what the hold of that sum in a sandbox is worth. -/
noncomputable def Try.pinned : Pinned := { name := "ytdlcnbfiklbiiaa", sum := "e04fac2d204f7e57fb0103db835efb71db7548df30def87d281ae2a29b6175fc", checked := Try.checked }
namespace Rows
def none {H : Type} : Left H := { results := [], args := [] }

/-- 'cantuslaw17.MixSums': WHATEVER THE INPUT: true; the input reads as it did. -/
def mixSumsSpec : ChangeSpec := { name := "mixSums", fn := fun _ => fun
  | [d1, d2, d3] => { results := [.lit (.bool true)], args := [d1, d2, d3] }
  | _ => none }
def mixSumsRow : OpenClaim := { program := "ytdlcnbfiklbiiaa", sum := "e04fac2d204f7e57fb0103db835efb71db7548df30def87d281ae2a29b6175fc", func := "cantus/cantuslaw17.MixSums", spec := "mixSums", inPlace := ["math.RoundToEven", "math.archFloor", "math.Float64bits", "math.Float64frombits", "math.archTrunc"], apart := false }
def MixSumsSaid : Prop := mixSumsRow.holds Try.pinned (OpenSpec.ofChange mixSumsSpec)

/-- ITS FALSE NEIGHBOUR: 'it returns false'. Refute it at one input. -/
def mixSumsWrong : ChangeSpec := { name := "mixSums", fn := fun _ => fun
  | [d1, d2, d3] => { results := [.lit (.bool false)], args := [d1, d2, d3] }
  | _ => none }
def MixSumsWrongFalsely : Prop := mixSumsRow.holds Try.pinned (OpenSpec.ofChange mixSumsWrong)

/-- 'cantuslaw17.MixDithers': WHATEVER THE INPUT: true; the input reads as it did. -/
def mixDithersSpec : ChangeSpec := { name := "mixDithers", fn := fun _ => fun
  | [d1, d2] => { results := [.lit (.bool true)], args := [d1, d2] }
  | _ => none }
def mixDithersRow : OpenClaim := { program := "ytdlcnbfiklbiiaa", sum := "e04fac2d204f7e57fb0103db835efb71db7548df30def87d281ae2a29b6175fc", func := "cantus/cantuslaw17.MixDithers", spec := "mixDithers", apart := false }
def MixDithersSaid : Prop := mixDithersRow.holds Try.pinned (OpenSpec.ofChange mixDithersSpec)

/-- ITS FALSE NEIGHBOUR: 'it returns false'. Refute it at one input. -/
def mixDithersWrong : ChangeSpec := { name := "mixDithers", fn := fun _ => fun
  | [d1, d2] => { results := [.lit (.bool false)], args := [d1, d2] }
  | _ => none }
def MixDithersWrongFalsely : Prop := mixDithersRow.holds Try.pinned (OpenSpec.ofChange mixDithersWrong)

/-- 'cantuslaw17.MixOrder': WHATEVER THE INPUT: true; the input reads as it did. -/
def mixOrderSpec : ChangeSpec := { name := "mixOrder", fn := fun _ => fun
  | [d1, d2, d3, d4] => { results := [.lit (.bool true)], args := [d1, d2, d3, d4] }
  | _ => none }
def mixOrderRow : OpenClaim := { program := "ytdlcnbfiklbiiaa", sum := "e04fac2d204f7e57fb0103db835efb71db7548df30def87d281ae2a29b6175fc", func := "cantus/cantuslaw17.MixOrder", spec := "mixOrder", apart := false }
def MixOrderSaid : Prop := mixOrderRow.holds Try.pinned (OpenSpec.ofChange mixOrderSpec)

/-- ITS FALSE NEIGHBOUR: 'it returns false'. Refute it at one input. -/
def mixOrderWrong : ChangeSpec := { name := "mixOrder", fn := fun _ => fun
  | [d1, d2, d3, d4] => { results := [.lit (.bool false)], args := [d1, d2, d3, d4] }
  | _ => none }
def MixOrderWrongFalsely : Prop := mixOrderRow.holds Try.pinned (OpenSpec.ofChange mixOrderWrong)

/-- 'cantuslaw17.MixBlocks': WHATEVER THE INPUT: true; the input reads as it did. -/
def mixBlocksSpec : ChangeSpec := { name := "mixBlocks", fn := fun _ => fun
  | [d1, d2, d3] => { results := [.lit (.bool true)], args := [d1, d2, d3] }
  | _ => none }
def mixBlocksRow : OpenClaim := { program := "ytdlcnbfiklbiiaa", sum := "e04fac2d204f7e57fb0103db835efb71db7548df30def87d281ae2a29b6175fc", func := "cantus/cantuslaw17.MixBlocks", spec := "mixBlocks", apart := false }
def MixBlocksSaid : Prop := mixBlocksRow.holds Try.pinned (OpenSpec.ofChange mixBlocksSpec)

/-- ITS FALSE NEIGHBOUR: 'it returns false'. Refute it at one input. -/
def mixBlocksWrong : ChangeSpec := { name := "mixBlocks", fn := fun _ => fun
  | [d1, d2, d3] => { results := [.lit (.bool false)], args := [d1, d2, d3] }
  | _ => none }
def MixBlocksWrongFalsely : Prop := mixBlocksRow.holds Try.pinned (OpenSpec.ofChange mixBlocksWrong)

/-- 'cantuslaw18.CodecWrites': WHATEVER THE INPUT: true; the input reads as it did. -/
def codecWritesSpec : ChangeSpec := { name := "codecWrites", fn := fun _ => fun
  | [d1, d2] => { results := [.lit (.bool true)], args := [d1, d2] }
  | _ => none }
def codecWritesRow : OpenClaim := { program := "ytdlcnbfiklbiiaa", sum := "e04fac2d204f7e57fb0103db835efb71db7548df30def87d281ae2a29b6175fc", func := "cantus/cantuslaw18.CodecWrites", spec := "codecWrites", unfollowed := true, recurses := true, apart := false }
def CodecWritesSaid : Prop := codecWritesRow.holds Try.pinned (OpenSpec.ofChange codecWritesSpec)

/-- ITS FALSE NEIGHBOUR: 'it returns false'. Refute it at one input. -/
def codecWritesWrong : ChangeSpec := { name := "codecWrites", fn := fun _ => fun
  | [d1, d2] => { results := [.lit (.bool false)], args := [d1, d2] }
  | _ => none }
def CodecWritesWrongFalsely : Prop := codecWritesRow.holds Try.pinned (OpenSpec.ofChange codecWritesWrong)

/-- 'cantuslaw18.CodecTurns': WHATEVER THE INPUT: true; the input reads as it did. -/
def codecTurnsSpec : ChangeSpec := { name := "codecTurns", fn := fun _ => fun
  | [d1, d2] => { results := [.lit (.bool true)], args := [d1, d2] }
  | _ => none }
def codecTurnsRow : OpenClaim := { program := "ytdlcnbfiklbiiaa", sum := "e04fac2d204f7e57fb0103db835efb71db7548df30def87d281ae2a29b6175fc", func := "cantus/cantuslaw18.CodecTurns", spec := "codecTurns", unfollowed := true, recurses := true, apart := false }
def CodecTurnsSaid : Prop := codecTurnsRow.holds Try.pinned (OpenSpec.ofChange codecTurnsSpec)

/-- ITS FALSE NEIGHBOUR: 'it returns false'. Refute it at one input. -/
def codecTurnsWrong : ChangeSpec := { name := "codecTurns", fn := fun _ => fun
  | [d1, d2] => { results := [.lit (.bool false)], args := [d1, d2] }
  | _ => none }
def CodecTurnsWrongFalsely : Prop := codecTurnsRow.holds Try.pinned (OpenSpec.ofChange codecTurnsWrong)

/- THE SECOND FORM. 'bulk': how many values and letters a reading holds, each counted each time it is reached (what is shared counts as often as it is met; a slice's spare places count too). A statement '..UptoSaid' is the law's where the arguments, and the package variables that the reading takes, are together of bulk at most 1048576: NARROWER than '..Said'. Prove '..Said' where nothing that the law and all that it calls make is longer than what came in: it says more and counts as full. Else prove '..UptoSaid'. A law counts once. -/
mutual
def uptoBulk {H : Type} : DataW H → Nat
  | .lit (.string bytes) => bytes.length + 1
  | .lit _ => 1
  | .nil => 1
  | .ptr d => uptoBulk d + 1
  | .slice elems spare => uptoBulkAll elems + uptoBulkAll spare + 1
  | .agg parts => uptoBulkAll parts + 1
  | .iface _ d => uptoBulk d + 1
  | .map entries => uptoBulkEntries entries + 1
  | .held _ => 1
def uptoBulkAll {H : Type} : List (DataW H) → Nat
  | [] => 0
  | d :: r => uptoBulk d + uptoBulkAll r
def uptoBulkEntries {H : Type} : List (Lit × DataW H) → Nat
  | [] => 0
  | x :: r => uptoBulkEntry x + uptoBulkEntries r
def uptoBulkEntry {H : Type} : Lit × DataW H → Nat
  | (.string bytes, d) => bytes.length + uptoBulk d + 1
  | (_, d) => uptoBulk d + 1
 end
def uptoSmall : (H : Type) → List (DataW H) → Bool := fun _ ds => decide (uptoBulkAll ds ≤ 1048576)
def OpenSpec.upto (s : _root_.Go.ChangeSpec) : _root_.Go.OpenSpec := { _root_.Go.OpenSpec.ofChange s with cond := some uptoSmall }

/-- 'cantuslaw17.MixSums', WHERE WHAT IT READS IS OF BULK AT MOST 1048576: true; the input reads as it did. -/
def mixSumsUptoRow : OpenClaim := { program := "ytdlcnbfiklbiiaa", sum := "e04fac2d204f7e57fb0103db835efb71db7548df30def87d281ae2a29b6175fc", func := "cantus/cantuslaw17.MixSums", spec := "mixSums", inPlace := ["math.RoundToEven", "math.archFloor", "math.Float64bits", "math.Float64frombits", "math.archTrunc"], apart := false, narrowed := true }
def MixSumsUptoSaid : Prop := mixSumsUptoRow.holds Try.pinned (OpenSpec.upto mixSumsSpec)

/-- 'cantuslaw17.MixDithers', WHERE WHAT IT READS IS OF BULK AT MOST 1048576: true; the input reads as it did. -/
def mixDithersUptoRow : OpenClaim := { program := "ytdlcnbfiklbiiaa", sum := "e04fac2d204f7e57fb0103db835efb71db7548df30def87d281ae2a29b6175fc", func := "cantus/cantuslaw17.MixDithers", spec := "mixDithers", apart := false, narrowed := true }
def MixDithersUptoSaid : Prop := mixDithersUptoRow.holds Try.pinned (OpenSpec.upto mixDithersSpec)

/-- 'cantuslaw17.MixOrder', WHERE WHAT IT READS IS OF BULK AT MOST 1048576: true; the input reads as it did. -/
def mixOrderUptoRow : OpenClaim := { program := "ytdlcnbfiklbiiaa", sum := "e04fac2d204f7e57fb0103db835efb71db7548df30def87d281ae2a29b6175fc", func := "cantus/cantuslaw17.MixOrder", spec := "mixOrder", apart := false, narrowed := true }
def MixOrderUptoSaid : Prop := mixOrderUptoRow.holds Try.pinned (OpenSpec.upto mixOrderSpec)

/-- 'cantuslaw17.MixBlocks', WHERE WHAT IT READS IS OF BULK AT MOST 1048576: true; the input reads as it did. -/
def mixBlocksUptoRow : OpenClaim := { program := "ytdlcnbfiklbiiaa", sum := "e04fac2d204f7e57fb0103db835efb71db7548df30def87d281ae2a29b6175fc", func := "cantus/cantuslaw17.MixBlocks", spec := "mixBlocks", apart := false, narrowed := true }
def MixBlocksUptoSaid : Prop := mixBlocksUptoRow.holds Try.pinned (OpenSpec.upto mixBlocksSpec)

/-- 'cantuslaw18.CodecWrites', WHERE WHAT IT READS IS OF BULK AT MOST 1048576: true; the input reads as it did. -/
def codecWritesUptoRow : OpenClaim := { program := "ytdlcnbfiklbiiaa", sum := "e04fac2d204f7e57fb0103db835efb71db7548df30def87d281ae2a29b6175fc", func := "cantus/cantuslaw18.CodecWrites", spec := "codecWrites", unfollowed := true, recurses := true, apart := false, narrowed := true }
def CodecWritesUptoSaid : Prop := codecWritesUptoRow.holds Try.pinned (OpenSpec.upto codecWritesSpec)

/-- 'cantuslaw18.CodecTurns', WHERE WHAT IT READS IS OF BULK AT MOST 1048576: true; the input reads as it did. -/
def codecTurnsUptoRow : OpenClaim := { program := "ytdlcnbfiklbiiaa", sum := "e04fac2d204f7e57fb0103db835efb71db7548df30def87d281ae2a29b6175fc", func := "cantus/cantuslaw18.CodecTurns", spec := "codecTurns", unfollowed := true, recurses := true, apart := false, narrowed := true }
def CodecTurnsUptoSaid : Prop := codecTurnsUptoRow.holds Try.pinned (OpenSpec.upto codecTurnsSpec)

end Rows
end Go.Proofs.Ytdlcnbfiklbiiaa
