/-
  A plan, plain.
-/
import Derived.Test.YtkfhmeiiicidaaaTa
namespace Go.Proofs.Ytkfhmeiiicidaaa
open Go Go.RowKit

structure Dg where
  name : ByteArray
  cron : ByteArray
  fr : Int
  up : Int
  cu : Bool
  tasks : List Ta
end Go.Proofs.Ytkfhmeiiicidaaa
