/- Whatever the plan, the run, the place, how it went, and the minute, Finish of the program answers as the model of the document does; it writes into nothing of its arguments and keeps nothing of them, and its answer owns its memory, behind another call too (the law passes what weighs more than 1048576 by); the card ties the library's listed tables and the program's own table of reaches to the text. -/
import Derived.Test.YtjmclcjhimcehaaGreatDoorRows
import Derived.Test.YtjmclcjhimcehaaGreatDoorExactFinishShut
import Derived.Test.YtjmclcjhimcehaaGreatDoorCards
import Derived.Test.YtjmclcjhimcehaaGreatDoorTie
import Derived.Test.YtjmclcjhimcehaaGreatDoorExactFinishLift
import Derived.WalkKit
import Derived.ProofKit
import Derived.LaidMore
import Derived.OpenShut
import Derived.ShutString
import Derived.ChangeMaps5
import Derived.Below
import Derived.OpenVars
import Derived.ChangeVars
import Derived.Stop.Joined
import Derived.Stop.LaidErr
import Derived.Lib.LaidTab
import Derived.SevenTiedAt
import Derived.Lay
namespace Go.Proofs.YtjmclcjhimcehaaGreatDoor.fnExactFinish
open Go.ChangeShapes Go.WideShapes Go.ChangeAt Go.WideMaps Go.WideElems Go.RowKit
open Go.ChangeMaps (open_string shut_string)
set_option linter.unusedVariables false

theorem over : Rows.FnExactFinishSaid :=
  OpenClaim.holds_of_wide 6 Tryz.f6 rfl rfl rfl rfl rfl rfl rfl ⟨rfl, rfl, rfl, rfl, rfl⟩ rfl rfl rfl rfl rfl hfn Tryz.func6 closed
    (of_decide_eq_true (by kernel_rfl)) (by unfold Func.isWrapper; first | (rw [if_pos (by decide +kernel)]; kernel_rfl) | (rw [if_neg (by decide +kernel)]; exact ⟨rfl, rfl⟩))
    (fun os started H enc _ => lifted os started H enc)

theorem card : Rows.FnExactFinishCardSaid :=
  Claim7.holds_tied_plain_at .later [] [.data, .data, .data, .data, .listed, .data, .data, .pinned] true Rows.fnExactFinishCard.stood.harness true
    over (fun _ h => by cases h) (by kernel_rfl) (fun _ h => by cases h) fnExactFinish_row_tie rfl ⟨rfl, rfl⟩ (by kernel_rfl) rfl
    (fun f fn hf hfn => by
      obtain rfl : f = 6 := Option.some.inj ((show Tryz.prog.funcNamed Rows.fnExactFinishRow.func = some 6 by kernel_rfl).symm.trans hf) |>.symm
      obtain rfl : fn = Tryz.f6 := (Option.some.inj (Tryz.func6.symm.trans hfn)).symm
      exact ⟨by kernel_rfl, fun j t ht => by
        rw [Tryz.params6] at ht
        have hm : t ∈ [24, 46, 3, 4, 3] := by simpa using Array.mem_of_getElem? ht
        have hall : ([24, 46, 3, 4, 3].all fun u => !Tryz.prog.wantsStandIn u) = true := by kernel_rfl
        exact (show Tryz.prog.wantsStandIn t = false by simpa using List.all_eq_true.1 hall t hm)⟩)
    (by kernel_rfl)
end Go.Proofs.YtjmclcjhimcehaaGreatDoor.fnExactFinish
namespace Go.Proofs.YtjmclcjhimcehaaGreatDoor
theorem fnExactFinish_holds : Rows.FnExactFinishCardSaid := fnExactFinish.card
#print axioms fnExactFinish_holds
end Go.Proofs.YtjmclcjhimcehaaGreatDoor
