/- The document's Ways at every beginning; RulesTell's walk without a condition. -/
import Derived.Test.YtmgkbnlmdhnjnaeUR6
import Derived.Test.YtmgkbnlmdhnjnaeUR9
import Derived.Test.YtmgkbnlmdhnjnaeUL3
namespace Go.Proofs.Ytmgkbnlmdhnjnae.U
open Go.RowKit Go.Maps Go.Sort
set_option linter.unusedVariables false

theorem ways_c (r : M.Ru) (ao : Option Addr) (n c : Nat) (g : Nat → Int) (hc : n ≤ c) (hcm : c ≤ 9223372036854775807) (hw : M.wr r g n = 0) : WaysC r ao n c g := by
  obtain ⟨h1, h2, h3, h4⟩ := M.wr_zero hw
  intro bo l d x w hp hq hd hdm hl hx
  by_cases e : l = n
  · subst e
    rw [Nat.sub_self, show M.ct r g l 0 (M.stk x l) (M.sta x l) = 1 from rfl]
    exact Ways_full r ao l c g bo d w
  · exact Ways_less r ao n c g bo l d x w hp hc hcm hq hd hdm h4 h2 h3 (by omega) hx
theorem tell_all (r : M.Ru) (ao : Option Addr) (n c : Nat) (g : Nat → Int) (bo : Option Addr) (l d : Nat) (y : Nat → Int) (w : World) (hp : LI w ao n g) (hc : n ≤ c) (hcm : c ≤ 9223372036854775807) (hq : LI w bo l y) (hd : l ≤ d) (hdm : d ≤ 9223372036854775807) :
    Calls Try.prog 7 #[.agg #[.int .i64 r.low, .int .i64 r.high, .bool r.above, .int .i64 r.leap, .int .i64 r.classes], .slice ao n c, .slice bo l d] w fun e w' => e = .returned (.bool true) ∧ Below w.heap.size w w' :=
  tell_walk r ao n c g bo l d y w hp hc hcm hq hd hdm (fun hw => ways_c r ao n c g hc hcm hw) (fun w hp => refFind_any r ao n c g w hp hc hcm (fun hw => ways_c r ao n c g hc hcm hw))
end Go.Proofs.Ytmgkbnlmdhnjnae.U
