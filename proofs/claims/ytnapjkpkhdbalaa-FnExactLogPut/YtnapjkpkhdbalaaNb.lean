/-
  A log that a call answers, laid into a box by a region that draws its order: small facts.
-/
import Derived.Test.YtnapjkpkhdbalaaPb
namespace Go.Proofs.Ytnapjkpkhdbalaa
open Go Go.RowKit
theorem heap_new {W w' : World} {o : Obj} (hb : Below (W.alloc o).heap.size (W.alloc o) w') : w'.heap[W.heap.size]? = some o := (hb.block _ (by simp)).trans (heap_at1 W o)
theorem heap_newd {W w' : World} {o : Obj} (hb : Below (W.alloc o).drew.heap.size (W.alloc o).drew w') : w'.heap[W.heap.size]? = some o := (hb.block _ (by show W.heap.size < (W.alloc o).heap.size; simp)).trans (heap_at1 W o)
theorem heap_on {W w' : World} {X : Nat} {o : Obj} (hb : Below W.heap.size W w') (h : W.heap[X]? = some o) : w'.heap[X]? = some o := (hb.block _ (Array.getElem?_eq_some_iff.1 h).1).trans h
/-- A new log in a new box: what is told of both. -/
structure NewBox (w0 w' : World) (X : Nat) (s t : Int) (v : Value) (l : List En) : Prop where
  below : Below w0.heap.size w0 w'
  box : w'.heap[X]? = some (.cells #[.int .i64 s, .int .i64 t, v] 29)
  old : w0.heap.size ≤ X
  own : ownsR w' w0.heap.size 42 v l
theorem newBox_b {w0 w3 : World} {s t : Int} {v : Value} {l : List En} (hS : Below w0.heap.size w0 w3) (ho : ownsR w3 w0.heap.size 42 v l) : NewBox w0 (w3.alloc (.cells #[.int .i64 s, .int .i64 t, v] 29)) w3.heap.size s t v l :=
  ⟨hS.alloc hS.size _, heap_at1 _ _, hS.size, ho.alloc _⟩
theorem newBox_a {w0 w3 : World} {X : Nat} {s t : Int} {v x y z : Value} {l : List En} (hS : Below w0.heap.size w0 w3) (hX : w3.heap[X]? = some (.cells #[x, y, z] 29)) (hXo : w0.heap.size ≤ X) (ho : ownsR w3 w0.heap.size 42 v l) :
    NewBox w0 (((w3.setCell ⟨X, 0, none⟩ (.int .i64 s)).setCell ⟨X, 1, none⟩ (.int .i64 t)).setCell ⟨X, 2, none⟩ v) X s t v l :=
  ⟨Below.setCell (Below.setCell (Below.setCell hS hXo _) hXo _) hXo _, (box_done hX ho).1, hXo, (box_done hX ho).2⟩
end Go.Proofs.Ytnapjkpkhdbalaa
