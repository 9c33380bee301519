/-
  Texts held against each other, as lists of bytes.
-/
import Derived.Test.YtehkebdncfljmaaAid
import Derived.Handy
namespace Go.Proofs.Ytehkebdncfljmaa
open Go Go.RowKit

theorem ne_list {a b : ByteArray} (h : a ≠ b) : (a.toList == b.toList) = false := by
  rw [beq_eq_false_iff_ne]
  intro e
  rw [ByteArray.toList_eq, ByteArray.toList_eq] at e
  exact h (ByteArray.ext (Array.ext' e))
theorem eq_list {a b : ByteArray} (h : a = b) : (a.toList == b.toList) = true := by subst h; exact beq_self_eq_true _
end Go.Proofs.Ytehkebdncfljmaa
