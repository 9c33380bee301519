/-
  The law on how long is waited: the walk.
-/
import Derived.Test.YtbaooljchilkhaaRov
namespace Go.Proofs.Ytbaooljchilkhaa
open Go Go.RowKit
set_option linter.unusedVariables false

set_option maxHeartbeats 1000000 in
theorem law_Backoff (n : Int) (w : World) :
    Calls Try.prog 5 #[.int .i64 n] w fun x w' => x = .returned (.bool true) ∧ Below w.heap.size w w' := by
  go_enter Try.func5, Try.ntmps5
  go_wp2_with fail
  refine (specBack_any n _).mono ?_
  rintro x w1 ⟨rfl, hw⟩
  have hw2 := hw.symm
  subst hw2
  go_wp2_with fail
  refine (implBack_any n _).mono ?_
  rintro x w1 ⟨rfl, hw⟩
  have hw2 := hw.symm
  subst hw2
  go_wp2
  go_ret
  exact ⟨rfl, Below.refl _ _⟩
end Go.Proofs.Ytbaooljchilkhaa
