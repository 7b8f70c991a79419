
/-
  Numbers with a sign, texts and flags, as the program and as the document put them.
-/
import Derived.Test.YtjhgbbmghgeeoaaOc
import Derived.Test.YtjhgbbmghgeeoaaOm
namespace Go.Proofs.Ytjhgbbmghgeeoaa
open Go.RowKit


end Go.Proofs.Ytjhgbbmghgeeoaa
