/-
  A plan, plain.
-/
import Derived.Test.YteefacjjdalncaaTa
namespace Go.Proofs.Yteefacjjdalncaa
open Go Go.RowKit

structure Dg where
  name : ByteArray
  cron : ByteArray
  fr : Int
  up : Int
  cu : Bool
  tasks : List Ta
end Go.Proofs.Yteefacjjdalncaa
