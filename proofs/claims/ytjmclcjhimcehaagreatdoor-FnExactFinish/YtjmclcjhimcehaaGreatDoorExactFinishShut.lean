/- The closed facts of a row, one by one. -/
import Derived.Test.YtjmclcjhimcehaaGreatDoorRows
import Derived.WalkKit
import Derived.ProofKit
import Derived.LaidMore
import Derived.OpenShut
import Derived.ShutString
import Derived.ChangeMaps5
import Derived.Below
import Derived.OpenVars
import Derived.ChangeVars
import Derived.Stop.Joined
import Derived.Stop.LaidErr
import Derived.Lib.LaidTab
import Derived.SevenTiedAt
import Derived.Lay
namespace Go.Proofs.YtjmclcjhimcehaaGreatDoor.fnExactFinish
theorem hfn : Tryz.pinned.checked.prog.funcNamed Rows.fnExactFinishRow.func = some 6 := by kernel_rfl
set_option maxHeartbeats 40000000 in
theorem closed : joinedFacts Tryz.pinned.checked.prog 6 Tryz.f6 Rows.fnExactFinishSpec Rows.fnExactFinishRow = true := by
  unfold joinedFacts
  simp only [Bool.and_eq_true]
  repeat' (refine And.intro ?_ ?_)
  all_goals (as_aux_lemma => kernel_rfl)
end Go.Proofs.YtjmclcjhimcehaaGreatDoor.fnExactFinish
