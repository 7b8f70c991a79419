
/-
  Stage 9: the document's Compare, Check, All.
-/
import Derived.Test.YtieffpngknglpaaZb
namespace Go.Proofs.Ytieffpngknglpaa
open Go.RowKit

set_option maxRecDepth 100000

end Go.Proofs.Ytieffpngknglpaa
