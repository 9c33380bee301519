/-
  The law on whether a conf is right: the walk.
-/
import Derived.Test.YtijmaplejpnggaaGreatDoorCo
namespace Go.Proofs.YtijmaplejpnggaaGreatDoor
open Go Go.RowKit

end Go.Proofs.YtijmaplejpnggaaGreatDoor
