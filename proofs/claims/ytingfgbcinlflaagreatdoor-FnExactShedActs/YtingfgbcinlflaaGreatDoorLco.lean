/-
  The law on whether a conf is right: the walk.
-/
import Derived.Test.YtingfgbcinlflaaGreatDoorCo
namespace Go.Proofs.YtingfgbcinlflaaGreatDoor
open Go Go.RowKit

end Go.Proofs.YtingfgbcinlflaaGreatDoor
