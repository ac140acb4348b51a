/- How a beat lies in memory; what the document's wrong comes to. -/
import Derived.Test.YtgcnmmjgdpdmbadBMath
import Derived.Test.YtgcnmmjgdpdmbadFW2
import Derived.LoopTactic
namespace Go.Proofs.Ytgcnmmjgdpdmbad.F
open Go.RowKit
set_option linter.unusedVariables false
set_option linter.unusedSimpArgs false

/-- A beat as it is read: its kids lie in blocks below B. -/
def Lies (w : World) (B : Nat) : M.Bt → Value → Prop
  | ⟨true, _, _, _, _⟩, _ => False
  | ⟨false, k, s, n, kid⟩, v => ∃ ao cap, v = .agg #[.int .i64 k, .int .i64 s, .slice ao n cap] ∧ n ≤ 9223372036854775807 ∧ (0 < n → ∃ b off, ao = some ⟨b, off, none⟩ ∧ b < B ∧ ∀ j, j < n → ∃ ao' cap', w.cell? ⟨b, off + j * 3, none⟩ = some (.int .i64 (kid j).k) ∧ w.cell? ⟨b, off + j * 3 + 1, none⟩ = some (.int .i64 (kid j).s) ∧ w.cell? ⟨b, off + j * 3 + 2, none⟩ = some (.slice ao' (kid j).n cap') ∧ Lies w B (kid j) (.agg #[.int .i64 (kid j).k, .int .i64 (kid j).s, .slice ao' (kid j).n cap']))
theorem Lies.step {w w' : World} {B : Nat} (b : M.Bt) : ∀ v, Lies w B b v → Below B w w' → Lies w' B b v := by
  induction b using M.Bt.ind with
  | nil => intro v h hb; exact False.elim h
  | mk k s n kid ih =>
    intro v h hb
    obtain ⟨ao, cap, h1, h2, h3⟩ := h
    refine ⟨ao, cap, h1, h2, fun hn => ?_⟩
    obtain ⟨b, off, e1, e2, e3⟩ := h3 hn
    refine ⟨b, off, e1, e2, fun j hj => ?_⟩
    obtain ⟨ao', cap', c0, c1, c2, c3⟩ := e3 j hj
    exact ⟨ao', cap', keepC hb e2 c0, keepC hb e2 c1, keepC hb e2 c2, ih j _ c3 hb⟩

end Go.Proofs.Ytgcnmmjgdpdmbad.F
