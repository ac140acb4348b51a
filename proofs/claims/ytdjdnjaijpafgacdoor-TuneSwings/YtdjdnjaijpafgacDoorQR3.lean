/- What the document's Key, Between and Sum come to. -/
import Derived.Test.YtdjdnjaijpafgacDoorQR2
namespace Go.Proofs.YtdjdnjaijpafgacDoor
open Go.RowKit
attribute [local go_sem ↓] Go.wp_at_zero Go.wp_at_succ
set_option linter.unusedSimpArgs false

end Go.Proofs.YtdjdnjaijpafgacDoor
