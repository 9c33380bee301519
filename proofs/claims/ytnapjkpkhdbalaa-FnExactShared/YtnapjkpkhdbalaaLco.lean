/-
  The law on whether a conf is right: the walk.
-/
import Derived.Test.YtnapjkpkhdbalaaCo
namespace Go.Proofs.Ytnapjkpkhdbalaa
open Go Go.RowKit

end Go.Proofs.Ytnapjkpkhdbalaa
