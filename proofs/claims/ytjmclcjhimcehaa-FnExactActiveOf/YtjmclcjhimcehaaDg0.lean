/-
  A plan, plain.
-/
import Derived.Test.YtjmclcjhimcehaaTa
namespace Go.Proofs.Ytjmclcjhimcehaa
open Go Go.RowKit

structure Dg where
  name : ByteArray
  cron : ByteArray
  fr : Int
  up : Int
  cu : Bool
  tasks : List Ta
end Go.Proofs.Ytjmclcjhimcehaa
