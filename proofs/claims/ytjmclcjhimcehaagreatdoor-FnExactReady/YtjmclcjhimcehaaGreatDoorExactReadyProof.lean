/- Whatever the plan, the run, the place, whether what is past stands, and the minute, Ready of the program answers as the model of the document does, and writes into nothing of the plan and the run (the law passes what weighs more than 1048576 by); the card ties the library's listed tables and the program's own table of reaches to the text. -/
import Derived.Test.YtjmclcjhimcehaaGreatDoorRows
import Derived.Test.YtjmclcjhimcehaaGreatDoorExactReadyShut
import Derived.Test.YtjmclcjhimcehaaGreatDoorCards
import Derived.Test.YtjmclcjhimcehaaGreatDoorTie
import Derived.Test.YtjmclcjhimcehaaGreatDoorExactReadyLift
import Derived.WalkKit
import Derived.ProofKit
import Derived.LaidMore
import Derived.OpenShut
import Derived.ShutString
import Derived.ChangeMaps5
import Derived.Below
import Derived.OpenVars
import Derived.ChangeVars
import Derived.Stop.Joined
import Derived.Stop.LaidErr
import Derived.Lib.LaidTab
import Derived.SevenTiedAt
import Derived.Lay
namespace Go.Proofs.YtjmclcjhimcehaaGreatDoor.fnExactReady
open Go.ChangeShapes Go.WideShapes Go.ChangeAt Go.WideMaps Go.WideElems Go.RowKit
open Go.ChangeMaps (open_string shut_string)
set_option linter.unusedVariables false

theorem over : Rows.FnExactReadySaid :=
  OpenClaim.holds_of_wide 5 Tryz.f5 rfl rfl rfl rfl rfl rfl rfl ⟨rfl, rfl, rfl, rfl, rfl⟩ rfl rfl rfl rfl rfl hfn Tryz.func5 closed
    (of_decide_eq_true (by kernel_rfl)) (by unfold Func.isWrapper; first | (rw [if_pos (by decide +kernel)]; kernel_rfl) | (rw [if_neg (by decide +kernel)]; exact ⟨rfl, rfl⟩))
    (fun os started H enc _ => lifted os started H enc)

theorem card : Rows.FnExactReadyCardSaid :=
  Claim7.holds_tied_plain_at .later [] [.data, .data, .data, .data, .listed, .data, .data, .pinned] true Rows.fnExactReadyCard.stood.harness true
    over (fun _ h => by cases h) (by kernel_rfl) (fun _ h => by cases h) fnExactReady_row_tie rfl ⟨rfl, rfl⟩ (by kernel_rfl) rfl
    (fun f fn hf hfn => by
      obtain rfl : f = 5 := Option.some.inj ((show Tryz.prog.funcNamed Rows.fnExactReadyRow.func = some 5 by kernel_rfl).symm.trans hf) |>.symm
      obtain rfl : fn = Tryz.f5 := (Option.some.inj (Tryz.func5.symm.trans hfn)).symm
      exact ⟨by kernel_rfl, fun j t ht => by
        rw [Tryz.params5] at ht
        have hm : t ∈ [24, 46, 3, 4, 3] := by simpa using Array.mem_of_getElem? ht
        have hall : ([24, 46, 3, 4, 3].all fun u => !Tryz.prog.wantsStandIn u) = true := by kernel_rfl
        exact (show Tryz.prog.wantsStandIn t = false by simpa using List.all_eq_true.1 hall t hm)⟩)
    (by kernel_rfl)
end Go.Proofs.YtjmclcjhimcehaaGreatDoor.fnExactReady
namespace Go.Proofs.YtjmclcjhimcehaaGreatDoor
theorem fnExactReady_holds : Rows.FnExactReadyCardSaid := fnExactReady.card
#print axioms fnExactReady_holds
end Go.Proofs.YtjmclcjhimcehaaGreatDoor
