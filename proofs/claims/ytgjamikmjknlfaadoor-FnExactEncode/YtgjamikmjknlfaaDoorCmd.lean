/-
  Whether a command is right, as the specification tells it: the walks.
-/
import Derived.Test.YtgjamikmjknlfaaDoorNam
import Derived.Test.YtgjamikmjknlfaaDoorNl
namespace Go.Proofs.YtgjamikmjknlfaaDoor
open Go Go.RowKit

theorem nil_list : (⟨#[]⟩ : ByteArray).toList = [] := (ByteArray.toList_eq _).trans rfl
/-- What of a command is nothing, but for what may be there. -/
def restB (f1 f2 f3 f4 f5 : Bool) (text task : ByteArray) (num up : Int) (yes : Bool) : Bool := (f1 || decide (text = ⟨#[]⟩)) && ((f2 || decide (task = ⟨#[]⟩)) && ((f3 || decide (num = 0)) && ((f4 || decide (up = 0)) && (f5 || !yes))))

end Go.Proofs.YtgjamikmjknlfaaDoor
