/-
  The minute of a day, on both sides: the walks.
-/
import Derived.Test.YtbecdaholpiaeaaDoorCk
namespace Go.Proofs.YtbecdaholpiaeaaDoor
open Go Go.RowKit

end Go.Proofs.YtbecdaholpiaeaaDoor
