/-
  A plan's block of six cells.
-/
import Derived.Test.YtkfhmeiiicidaaaGn
namespace Go.Proofs.Ytkfhmeiiicidaaa
open Go Go.RowKit

def P6 (w : World) (g : Nat) (nm cr : ByteArray) (fr up : Int) (cu : Bool) (tv : Value) : Prop := w.heap[g]? = some (.cells #[.string nm, .string cr, .int .i64 fr, .int .i64 up, .bool cu, tv] 68)
section
variable {w w' : World} {g : Nat} {nm cr : ByteArray} {fr up : Int} {cu : Bool} {tv : Value}
theorem P6.lt (h : P6 w g nm cr fr up cu tv) : g < w.heap.size := (Array.getElem?_eq_some_iff.1 h).1
theorem P6.c0 (h : P6 w g nm cr fr up cu tv) : w.cell? ⟨g, 0, none⟩ = some (.string nm) := by simp [World.cell?, show w.heap[g]? = _ from h]
theorem P6.s0 (h : P6 w g nm cr fr up cu tv) (u : ByteArray) : P6 (w.setCell ⟨g, 0, none⟩ (.string u)) g u cr fr up cu tv := by simp [P6, World.setCell, Array.getElem?_modify, show w.heap[g]? = _ from h]
theorem P6.c1 (h : P6 w g nm cr fr up cu tv) : w.cell? ⟨g, 1, none⟩ = some (.string cr) := by simp [World.cell?, show w.heap[g]? = _ from h]
theorem P6.s1 (h : P6 w g nm cr fr up cu tv) (u : ByteArray) : P6 (w.setCell ⟨g, 1, none⟩ (.string u)) g nm u fr up cu tv := by simp [P6, World.setCell, Array.getElem?_modify, show w.heap[g]? = _ from h]
theorem P6.c2 (h : P6 w g nm cr fr up cu tv) : w.cell? ⟨g, 2, none⟩ = some (.int .i64 fr) := by simp [World.cell?, show w.heap[g]? = _ from h]
theorem P6.s2 (h : P6 w g nm cr fr up cu tv) (u : Int) : P6 (w.setCell ⟨g, 2, none⟩ (.int .i64 u)) g nm cr u up cu tv := by simp [P6, World.setCell, Array.getElem?_modify, show w.heap[g]? = _ from h]
theorem P6.c3 (h : P6 w g nm cr fr up cu tv) : w.cell? ⟨g, 3, none⟩ = some (.int .i64 up) := by simp [World.cell?, show w.heap[g]? = _ from h]
theorem P6.s3 (h : P6 w g nm cr fr up cu tv) (u : Int) : P6 (w.setCell ⟨g, 3, none⟩ (.int .i64 u)) g nm cr fr u cu tv := by simp [P6, World.setCell, Array.getElem?_modify, show w.heap[g]? = _ from h]
theorem P6.c4 (h : P6 w g nm cr fr up cu tv) : w.cell? ⟨g, 4, none⟩ = some (.bool cu) := by simp [World.cell?, show w.heap[g]? = _ from h]
theorem P6.s4 (h : P6 w g nm cr fr up cu tv) (u : Bool) : P6 (w.setCell ⟨g, 4, none⟩ (.bool u)) g nm cr fr up u tv := by simp [P6, World.setCell, Array.getElem?_modify, show w.heap[g]? = _ from h]
theorem P6.c5 (h : P6 w g nm cr fr up cu tv) : w.cell? ⟨g, 5, none⟩ = some (tv) := by simp [World.cell?, show w.heap[g]? = _ from h]
theorem P6.s5 (h : P6 w g nm cr fr up cu tv) (u : Value) : P6 (w.setCell ⟨g, 5, none⟩ u) g nm cr fr up cu u := by simp [P6, World.setCell, Array.getElem?_modify, show w.heap[g]? = _ from h]
theorem P6.fz (h : P6 w g nm cr fr up cu tv) (k : Nat) : w.frozen? ⟨g, k, none⟩ = false := by simp [World.frozen?, show w.heap[g]? = _ from h]
theorem P6.on (h : P6 w g nm cr fr up cu tv) (hb : Below w.heap.size w w') : P6 w' g nm cr fr up cu tv := (hb.block _ h.lt).trans h
theorem P6.grown {r : Option Nat} (h : P6 w g nm cr fr up cu tv) (hg : w.grownBy w' r) (hr : some g ≠ r) : P6 w' g nm cr fr up cu tv := (hg.block g h.lt hr).trans h
theorem P6.far (h : P6 w g nm cr fr up cu tv) {a : Addr} (ha : a.block ≠ g) (u : Value) : P6 (w.setCell a u) g nm cr fr up cu tv := (heap_setCell_other w a g u (fun e => ha e.symm)).trans h
theorem P6.new (w : World) (nm cr : ByteArray) (fr up : Int) (cu : Bool) (tv : Value) : P6 (w.alloc (.cells #[.string nm, .string cr, .int .i64 fr, .int .i64 up, .bool cu, tv] 68)) w.heap.size nm cr fr up cu tv := by
  show (w.heap.push _)[w.heap.size]? = _; simp
end
end Go.Proofs.Ytkfhmeiiicidaaa
