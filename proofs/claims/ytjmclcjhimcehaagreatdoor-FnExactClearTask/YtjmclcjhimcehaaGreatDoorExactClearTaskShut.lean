/- The closed facts of a row, one by one. -/
import Derived.Test.YtjmclcjhimcehaaGreatDoorRows
import Derived.WalkKit
import Derived.ProofKit
import Derived.LaidMore
import Derived.OpenShut
import Derived.ShutString
import Derived.ChangeMaps5
import Derived.Below
import Derived.OpenVars
import Derived.ChangeVars
import Derived.Stop.Joined
import Derived.Stop.LaidErr
import Derived.Lib.LaidTab
import Derived.SevenTiedAt
import Derived.Lay
namespace Go.Proofs.YtjmclcjhimcehaaGreatDoor.fnExactClearTask
theorem hfn : Tryz.pinned.checked.prog.funcNamed Rows.fnExactClearTaskRow.func = some 7 := by kernel_rfl
set_option maxHeartbeats 40000000 in
theorem closed : joinedFacts Tryz.pinned.checked.prog 7 Tryz.f7 Rows.fnExactClearTaskSpec Rows.fnExactClearTaskRow = true := by
  unfold joinedFacts
  simp only [Bool.and_eq_true]
  repeat' (refine And.intro ?_ ?_)
  all_goals (as_aux_lemma => kernel_rfl)
end Go.Proofs.YtjmclcjhimcehaaGreatDoor.fnExactClearTask
