/-
  What is made of one byte, one number, one text: three closed facts of the program.
-/
import Derived.Test.YtehkebdncfljmaaRows
import Derived.WalkKit
namespace Go.Proofs.Ytehkebdncfljmaa
open Go Go.RowKit
theorem info5 : (Try.prog.info? 5).map (fun i => (i.zero, i.size, i.bytes)) = some (some (.int .u8 0), 1, 1) := by kernel_rfl
theorem info3 : (Try.prog.info? 3).map (fun i => (i.zero, i.size, i.bytes)) = some (some (.int .i64 0), 1, 8) := by kernel_rfl
theorem info9 : (Try.prog.info? 9).map (fun i => (i.zero, i.size, i.bytes)) = some (some (.string ByteArray.empty), 1, 16) := by kernel_rfl
end Go.Proofs.Ytehkebdncfljmaa
