/-
  Numbers that came in as an argument, opened.
-/
import Derived.Test.YteefacjjdalncaaRi
import Derived.Test.YteefacjjdalncaaOpen
namespace Go.Proofs.Yteefacjjdalncaa
open Go Go.RowKit Go.ChangeShapes Go.WideShapes

theorem cells3' : Try.prog.cellsOf 3 = 1 := by kernel_rfl
end Go.Proofs.Yteefacjjdalncaa
