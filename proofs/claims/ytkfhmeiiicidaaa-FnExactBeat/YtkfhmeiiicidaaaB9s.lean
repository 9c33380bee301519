/-
  Blocks of nine cells.
-/
import Derived.Test.YtkfhmeiiicidaaaProg
import Derived.Test.YtkfhmeiiicidaaaGn
namespace Go.Proofs.Ytkfhmeiiicidaaa
open Go Go.RowKit

/-- A block of 9 cells. -/
def B9 (t : TypeId) (W : World) (b : Nat) (x0 x1 x2 x3 x4 x5 x6 x7 x8 : Value) : Prop := W.heap[b]? = some (.cells #[x0, x1, x2, x3, x4, x5, x6, x7, x8] t)
section
variable {t : TypeId} {W W' : World} {b : Nat} {x0 x1 x2 x3 x4 x5 x6 x7 x8 : Value}
theorem B9.lt (h : B9 t W b x0 x1 x2 x3 x4 x5 x6 x7 x8) : b < W.heap.size := (Array.getElem?_eq_some_iff.1 h).1
theorem B9.up (h : B9 t W b x0 x1 x2 x3 x4 x5 x6 x7 x8) (hb : Below W.heap.size W W') : B9 t W' b x0 x1 x2 x3 x4 x5 x6 x7 x8 := (hb.block _ h.lt).trans h
theorem B9.grown {r : Option Nat} (h : B9 t W b x0 x1 x2 x3 x4 x5 x6 x7 x8) (hg : W.grownBy W' r) (hr : some b ≠ r) : B9 t W' b x0 x1 x2 x3 x4 x5 x6 x7 x8 := (hg.block b h.lt hr).trans h
theorem B9.alloc (h : B9 t W b x0 x1 x2 x3 x4 x5 x6 x7 x8) (o : Obj) : B9 t (W.alloc o) b x0 x1 x2 x3 x4 x5 x6 x7 x8 := h.up (ba (Below.refl _ _) _)
theorem B9.fr (h : B9 t W b x0 x1 x2 x3 x4 x5 x6 x7 x8) (k : Nat) : W.frozen? ⟨b, k, none⟩ = false := by simp [World.frozen?, show W.heap[b]? = _ from h]
theorem B9.new (t : TypeId) (W : World) (x0 x1 x2 x3 x4 x5 x6 x7 x8 : Value) : B9 t (W.alloc (.cells #[x0, x1, x2, x3, x4, x5, x6, x7, x8] t)) W.heap.size x0 x1 x2 x3 x4 x5 x6 x7 x8 := by
  show (W.heap.push _)[W.heap.size]? = _; simp
theorem B9.far {p : Addr} (h : B9 t W b x0 x1 x2 x3 x4 x5 x6 x7 x8) (hp : p.block ≠ b) (u : Value) : B9 t (W.setCell p u) b x0 x1 x2 x3 x4 x5 x6 x7 x8 := (heap_setCell_other W p b u (fun e => hp e.symm)).trans h
theorem B9.c0 (h : B9 t W b x0 x1 x2 x3 x4 x5 x6 x7 x8) : W.cell? ⟨b, 0, none⟩ = some x0 := by simp [World.cell?, show W.heap[b]? = _ from h]
theorem B9.s0 (h : B9 t W b x0 x1 x2 x3 x4 x5 x6 x7 x8) (u : Value) : B9 t (W.setCell ⟨b, 0, none⟩ u) b u x1 x2 x3 x4 x5 x6 x7 x8 := by simp [B9, World.setCell, Array.getElem?_modify, show W.heap[b]? = _ from h]
theorem B9.c1 (h : B9 t W b x0 x1 x2 x3 x4 x5 x6 x7 x8) : W.cell? ⟨b, 1, none⟩ = some x1 := by simp [World.cell?, show W.heap[b]? = _ from h]
theorem B9.s1 (h : B9 t W b x0 x1 x2 x3 x4 x5 x6 x7 x8) (u : Value) : B9 t (W.setCell ⟨b, 1, none⟩ u) b x0 u x2 x3 x4 x5 x6 x7 x8 := by simp [B9, World.setCell, Array.getElem?_modify, show W.heap[b]? = _ from h]
theorem B9.c2 (h : B9 t W b x0 x1 x2 x3 x4 x5 x6 x7 x8) : W.cell? ⟨b, 2, none⟩ = some x2 := by simp [World.cell?, show W.heap[b]? = _ from h]
theorem B9.s2 (h : B9 t W b x0 x1 x2 x3 x4 x5 x6 x7 x8) (u : Value) : B9 t (W.setCell ⟨b, 2, none⟩ u) b x0 x1 u x3 x4 x5 x6 x7 x8 := by simp [B9, World.setCell, Array.getElem?_modify, show W.heap[b]? = _ from h]
theorem B9.c3 (h : B9 t W b x0 x1 x2 x3 x4 x5 x6 x7 x8) : W.cell? ⟨b, 3, none⟩ = some x3 := by simp [World.cell?, show W.heap[b]? = _ from h]
theorem B9.s3 (h : B9 t W b x0 x1 x2 x3 x4 x5 x6 x7 x8) (u : Value) : B9 t (W.setCell ⟨b, 3, none⟩ u) b x0 x1 x2 u x4 x5 x6 x7 x8 := by simp [B9, World.setCell, Array.getElem?_modify, show W.heap[b]? = _ from h]
theorem B9.c4 (h : B9 t W b x0 x1 x2 x3 x4 x5 x6 x7 x8) : W.cell? ⟨b, 4, none⟩ = some x4 := by simp [World.cell?, show W.heap[b]? = _ from h]
theorem B9.s4 (h : B9 t W b x0 x1 x2 x3 x4 x5 x6 x7 x8) (u : Value) : B9 t (W.setCell ⟨b, 4, none⟩ u) b x0 x1 x2 x3 u x5 x6 x7 x8 := by simp [B9, World.setCell, Array.getElem?_modify, show W.heap[b]? = _ from h]
theorem B9.c5 (h : B9 t W b x0 x1 x2 x3 x4 x5 x6 x7 x8) : W.cell? ⟨b, 5, none⟩ = some x5 := by simp [World.cell?, show W.heap[b]? = _ from h]
theorem B9.s5 (h : B9 t W b x0 x1 x2 x3 x4 x5 x6 x7 x8) (u : Value) : B9 t (W.setCell ⟨b, 5, none⟩ u) b x0 x1 x2 x3 x4 u x6 x7 x8 := by simp [B9, World.setCell, Array.getElem?_modify, show W.heap[b]? = _ from h]
theorem B9.c6 (h : B9 t W b x0 x1 x2 x3 x4 x5 x6 x7 x8) : W.cell? ⟨b, 6, none⟩ = some x6 := by simp [World.cell?, show W.heap[b]? = _ from h]
theorem B9.s6 (h : B9 t W b x0 x1 x2 x3 x4 x5 x6 x7 x8) (u : Value) : B9 t (W.setCell ⟨b, 6, none⟩ u) b x0 x1 x2 x3 x4 x5 u x7 x8 := by simp [B9, World.setCell, Array.getElem?_modify, show W.heap[b]? = _ from h]
theorem B9.c7 (h : B9 t W b x0 x1 x2 x3 x4 x5 x6 x7 x8) : W.cell? ⟨b, 7, none⟩ = some x7 := by simp [World.cell?, show W.heap[b]? = _ from h]
theorem B9.s7 (h : B9 t W b x0 x1 x2 x3 x4 x5 x6 x7 x8) (u : Value) : B9 t (W.setCell ⟨b, 7, none⟩ u) b x0 x1 x2 x3 x4 x5 x6 u x8 := by simp [B9, World.setCell, Array.getElem?_modify, show W.heap[b]? = _ from h]
theorem B9.c8 (h : B9 t W b x0 x1 x2 x3 x4 x5 x6 x7 x8) : W.cell? ⟨b, 8, none⟩ = some x8 := by simp [World.cell?, show W.heap[b]? = _ from h]
theorem B9.s8 (h : B9 t W b x0 x1 x2 x3 x4 x5 x6 x7 x8) (u : Value) : B9 t (W.setCell ⟨b, 8, none⟩ u) b x0 x1 x2 x3 x4 x5 x6 x7 u := by simp [B9, World.setCell, Array.getElem?_modify, show W.heap[b]? = _ from h]
end
end Go.Proofs.Ytkfhmeiiicidaaa
