/-
  The minute of a day, on both sides: the walks.
-/
import Derived.Test.YtgeimliibddhmaaDoorCk
namespace Go.Proofs.YtgeimliibddhmaaDoor
open Go Go.RowKit

end Go.Proofs.YtgeimliibddhmaaDoor
