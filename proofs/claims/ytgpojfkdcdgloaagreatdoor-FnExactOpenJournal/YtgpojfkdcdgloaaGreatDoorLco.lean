/-
  The law on whether a conf is right: the walk.
-/
import Derived.Test.YtgpojfkdcdgloaaGreatDoorCo
namespace Go.Proofs.YtgpojfkdcdgloaaGreatDoor
open Go Go.RowKit

end Go.Proofs.YtgpojfkdcdgloaaGreatDoor
