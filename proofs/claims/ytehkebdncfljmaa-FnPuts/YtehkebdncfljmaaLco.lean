/-
  The law on whether a conf is right: the walk.
-/
import Derived.Test.YtehkebdncfljmaaCo
namespace Go.Proofs.Ytehkebdncfljmaa
open Go Go.RowKit

end Go.Proofs.Ytehkebdncfljmaa
