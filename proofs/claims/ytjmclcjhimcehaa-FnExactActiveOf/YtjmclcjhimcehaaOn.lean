/-
  Numbers that came in as an argument, opened.
-/
import Derived.Test.YtjmclcjhimcehaaRi
import Derived.Test.YtjmclcjhimcehaaOpen
namespace Go.Proofs.Ytjmclcjhimcehaa
open Go Go.RowKit Go.ChangeShapes Go.WideShapes

theorem cells3' : Try.prog.cellsOf 3 = 1 := by kernel_rfl
end Go.Proofs.Ytjmclcjhimcehaa
