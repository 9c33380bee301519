/- Whatever the plan, the run, the place, whether what is past stands, and the minute, Ready of the program answers as the model of the document does, and writes into nothing of the plan and the run (the law passes what weighs more than 1048576 by); the card ties the library's listed tables and the program's own table of reaches to the text. -/
import Derived.Test.YtbaooljchilkhaaGreatDoorRows
import Derived.Test.YtbaooljchilkhaaGreatDoorExactReadyShut
import Derived.Test.YtbaooljchilkhaaGreatDoorCards
import Derived.Test.YtbaooljchilkhaaGreatDoorTie
import Derived.Test.YtbaooljchilkhaaGreatDoorExactReadyLift
import Derived.WalkKit
import Derived.ProofKit
import Derived.LaidMore
import Derived.OpenShut
import Derived.ShutString
import Derived.ChangeMaps5
import Derived.Below
import Derived.OpenVars
import Derived.ChangeVars
import Derived.Stop.Joined
import Derived.Stop.LaidErr
import Derived.Lib.LaidTab
import Derived.SevenTiedAt
import Derived.Lay
namespace Go.Proofs.YtbaooljchilkhaaGreatDoor.fnExactReady
open Go.ChangeShapes Go.WideShapes Go.ChangeAt Go.WideMaps Go.WideElems Go.RowKit
open Go.ChangeMaps (open_string shut_string)
set_option linter.unusedVariables false

theorem over : Rows.FnExactReadySaid :=
  OpenClaim.holds_of_wide 8 Tryz.f8 rfl rfl rfl rfl rfl rfl rfl ⟨rfl, rfl, rfl, rfl, rfl⟩ rfl rfl rfl rfl rfl hfn Tryz.func8 closed
    (of_decide_eq_true (by kernel_rfl)) (by unfold Func.isWrapper; first | (rw [if_pos (by decide +kernel)]; kernel_rfl) | (rw [if_neg (by decide +kernel)]; exact ⟨rfl, rfl⟩))
    (fun os started H enc _ => lifted os started H enc)

theorem card : Rows.FnExactReadyCardSaid :=
  Claim7.holds_tied_plain_at .later [] [.data, .data, .data, .data, .listed, .data, .data, .pinned] true Rows.fnExactReadyCard.stood.harness true
    over (fun _ h => by cases h) (by kernel_rfl) (fun _ h => by cases h) fnExactReady_row_tie rfl ⟨rfl, rfl⟩ (by kernel_rfl) rfl
    (fun f fn hf hfn => by
      obtain rfl : f = 8 := Option.some.inj ((show Tryz.prog.funcNamed Rows.fnExactReadyRow.func = some 8 by kernel_rfl).symm.trans hf) |>.symm
      obtain rfl : fn = Tryz.f8 := (Option.some.inj (Tryz.func8.symm.trans hfn)).symm
      exact ⟨by kernel_rfl, fun j t ht => by
        rw [Tryz.params8] at ht
        have hm : t ∈ [58, 69, 3, 4, 3] := by simpa using Array.mem_of_getElem? ht
        have hall : ([58, 69, 3, 4, 3].all fun u => !Tryz.prog.wantsStandIn u) = true := by kernel_rfl
        exact (show Tryz.prog.wantsStandIn t = false by simpa using List.all_eq_true.1 hall t hm)⟩)
    (by kernel_rfl)
end Go.Proofs.YtbaooljchilkhaaGreatDoor.fnExactReady
namespace Go.Proofs.YtbaooljchilkhaaGreatDoor
theorem fnExactReady_holds : Rows.FnExactReadyCardSaid := fnExactReady.card
#print axioms fnExactReady_holds
end Go.Proofs.YtbaooljchilkhaaGreatDoor
