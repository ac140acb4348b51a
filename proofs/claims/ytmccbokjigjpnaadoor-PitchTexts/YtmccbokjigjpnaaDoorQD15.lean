/- What the document's Read comes to, at every text: what the program's does. -/
import Derived.Test.YtmccbokjigjpnaaDoorQD14
namespace Go.Proofs.YtmccbokjigjpnaaDoor
open Go.RowKit
theorem refRead_any (s : ByteArray) (w : World) (hs : s.size ≤ 140737488355328) : Calls Tryd.prog 22 #[.string s] w fun e w' => RdQ (M.rd s) w e w' := by
  by_cases hx : M.ix s < 0
  · exact refRead_letter s w hs hx
  · cases hp : Lib.hasPrefix (M.r1 s).data.toList [226, 153, 174]
    · exact refRead_signs s w hs hx hp
    · exact refRead_nat s w hs hx hp
end Go.Proofs.YtmccbokjigjpnaaDoor
