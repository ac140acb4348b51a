/- What the document's Signs comes to. -/
import Derived.Test.YtgcnmmjgdpdmbacDoorS5
import Derived.Test.YtgcnmmjgdpdmbacDoorQR1
import Derived.Deep.RegionHeld3
import Derived.Deep.DeepCutAuto
namespace Go.Proofs.YtgcnmmjgdpdmbacDoor
open Go.RowKit
attribute [local go_sem ↓] Go.wp_at_zero Go.wp_at_succ
set_option linter.unusedSimpArgs false

theorem below_any {B : Nat} {w w' : World} (h : Below B w w') (hB : B ≤ w.heap.size) : B ≤ w'.heap.size := Nat.le_trans hB h.size

end Go.Proofs.YtgcnmmjgdpdmbacDoor
