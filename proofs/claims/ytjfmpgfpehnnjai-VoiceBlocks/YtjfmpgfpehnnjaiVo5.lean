/- What the document's Held and Level come to. -/
import Derived.Test.YtjfmpgfpehnnjaiVo2
import Derived.Test.YtjfmpgfpehnnjaiVoMath4
import Derived.Deep.RegionHeld3
import Derived.Lib.QuietBelow
namespace Go.Proofs.Ytjfmpgfpehnnjai.Vo
open Go.RowKit Go.Maps Go.Sort
set_option linter.unusedSimpArgs false
set_option linter.unusedVariables false

theorem ret_int {k : IntKind} {a b : Int} (h : a = b) : Ending.returned (.int k a) = .returned (.int k b) := by rw [h]
theorem keepC {B : Nat} {W w1 : World} (hb : Below B W w1) {b o : Nat} {v : Value} (hlt : b < B) (h : W.cell? ⟨b, o, none⟩ = some v) : w1.cell? ⟨b, o, none⟩ = some v :=
  (hb.cell (p := ⟨b, o, none⟩) hlt).trans h
theorem keepF {B : Nat} {W w1 : World} (hb : Below B W w1) {b o : Nat} {v : Bool} (hlt : b < B) (h : W.frozen? ⟨b, o, none⟩ = v) : w1.frozen? ⟨b, o, none⟩ = v :=
  (hb.frozen (p := ⟨b, o, none⟩) hlt).trans h
/-- A patch as a value. -/
abbrev pv (p : Pt) : Value := .agg #[.int .i64 p.shape, .int .u32 p.step, .float .f64 p.gain, .int .i64 p.atk, .int .i64 p.dec, .int .i64 p.rel, .int .i64 p.sus]

theorem lev_none (p : Pt) (T : Nat) : lev p T none = held p T := rfl
theorem lev_some (p : Pt) (T k : Nat) : lev p T (some k) = fade p (held p k) ((T : Int) - k) := rfl
/-- Where it was let go, as the document's text has it: below 0 where it wasn't. -/
def ofs (o : Option Nat) : Int := match o with
  | none => -1
  | some k => k
end Go.Proofs.Ytjfmpgfpehnnjai.Vo
