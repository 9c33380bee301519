/-
  Blocks that lie behind an alloc.
-/
import Derived.Test.YtgjamikmjknlfaaDoorRec
import Derived.Handy
namespace Go.Proofs.YtgjamikmjknlfaaDoor
open Go Go.RowKit

theorem heap_new {W w' : World} {o : Obj} (hb : Below (W.alloc o).heap.size (W.alloc o) w') : w'.heap[W.heap.size]? = some o := (hb.block _ (by simp)).trans (by show (W.heap.push o)[W.heap.size]? = some o; simp)
theorem heap_newd {W w' : World} {o : Obj} (hb : Below (W.alloc o).drew.heap.size (W.alloc o).drew w') : w'.heap[W.heap.size]? = some o := (hb.block _ (by show W.heap.size < (W.alloc o).heap.size; simp)).trans (by show (W.heap.push o)[W.heap.size]? = some o; simp)
theorem heap_on {W w' : World} {X : Nat} {o : Obj} (hb : Below W.heap.size W w') (h : W.heap[X]? = some o) : w'.heap[X]? = some o := (hb.block _ (by
  rcases Nat.lt_or_ge X W.heap.size with hl | hl
  · exact hl
  · rw [Array.getElem?_eq_none hl] at h; cases h)).trans h
end Go.Proofs.YtgjamikmjknlfaaDoor
