/-
  The text of a snapshot: the walks of SnapText on both sides.
-/
import Derived.Test.YtingfgbcinlflaaDoorSx
namespace Go.Proofs.YtingfgbcinlflaaDoor
open Go Go.RowKit

theorem blk_on {w w' : World} {o : Obj} (hb : Below (w.alloc o).heap.size (w.alloc o) w') : w'.heap[w.heap.size]? = some o :=
  (hb.block _ (by rw [World.size_alloc]; omega)).trans (heap_last w o)
theorem blk_up {w w' : World} {g : Nat} {o : Obj} (h : w.heap[g]? = some o) (hb : Below w.heap.size w w') : w'.heap[g]? = some o :=
  (hb.block _ (Array.getElem?_eq_some_iff.1 h).1).trans h
theorem snT_add (i t : Nat) (l : List Int) (b : ByteArray) : (bstr (varI i) ++ bstr (varI t) ++ shT (bstr l)) ++ shT b = snT i t l b := rfl

theorem textC_size (l : List Int) : (textC l).size ≤ 4 := by
  unfold textC
  split
  · rename_i h
    rw [bstr_size]
    exact okC_len h
  · exact Nat.zero_le _
end Go.Proofs.YtingfgbcinlflaaDoor
