/-
  Whether a command is right, as the specification tells it: the walk.
-/
import Derived.Test.YtgjamikmjknlfaaDoorCmd
namespace Go.Proofs.YtgjamikmjknlfaaDoor
open Go Go.RowKit

def opB (op tok seq : Int) (text task : ByteArray) (num up : Int) (yes : Bool) : Bool := if op = 1 then (decide (tok = 0) && (decide (seq = 0) && restB false false false false false text task num up yes)) else if op = 2 then (decide (text.size ≤ 600) && restB true false false false false text task num up yes) else if op = 3 then (nameB text && restB true false false false true text task num up yes) else if op = 4 then (decide (0 ≤ num ∧ num ≤ 68374079) && restB false false true false false text task num up yes) else if op = 5 then restB false false false false false text task num up yes else if op = 6 then (decide (0 ≤ num ∧ num ≤ 1000000000) && restB false false true false false text task num up yes) else if op = 7 then (decide (0 ≤ num ∧ num ≤ 1000000000) && restB false false true false true text task num up yes) else if op = 8 then (nameB text && (decide (0 ≤ num ∧ num ≤ 68374079) && (decide (0 ≤ up ∧ up ≤ 68374079) && restB true false true true false text task num up yes))) else if op = 9 then (nameB text && (nameB task && (decide (0 ≤ num ∧ num ≤ 68374079) && restB true true true false false text task num up yes))) else false
/-- A right command. -/
def cmdB (op tok seq : Int) (text task : ByteArray) (num up : Int) (yes : Bool) : Bool := decide (0 ≤ tok ∧ tok ≤ 1000000) && (decide (0 ≤ seq ∧ seq ≤ 1000000) && opB op tok seq text task num up yes)
theorem rng_any (x hi : Int) (w : World) : Calls Tryd.prog 46 #[.int .i64 x, .int .i64 0, .int .i64 hi] w fun e w' => e = .returned (.bool (decide (0 ≤ x ∧ x ≤ hi))) ∧ w' = w := by
  rw [Bool.decide_and]; exact in_any x 0 hi w

end Go.Proofs.YtgjamikmjknlfaaDoor
