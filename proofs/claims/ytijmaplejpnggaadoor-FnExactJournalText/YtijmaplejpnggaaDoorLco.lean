/-
  The law on whether a conf is right: the walk.
-/
import Derived.Test.YtijmaplejpnggaaDoorCo
namespace Go.Proofs.YtijmaplejpnggaaDoor
open Go Go.RowKit

end Go.Proofs.YtijmaplejpnggaaDoor
