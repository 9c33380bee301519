/-
  Blocks of five cells.
-/
import Derived.Test.YtkfhmeiiicidaaaProg
import Derived.Test.YtkfhmeiiicidaaaGn
namespace Go.Proofs.Ytkfhmeiiicidaaa
open Go Go.RowKit

/-- A block of five cells. -/
def B5 (t : TypeId) (W : World) (b : Nat) (x0 x1 x2 x3 x4 : Value) : Prop := W.heap[b]? = some (.cells #[x0, x1, x2, x3, x4] t)
section B5x
variable {t : TypeId} {W W' : World} {b : Nat} {x0 x1 x2 x3 x4 : Value}
theorem B5.lt (h : B5 t W b x0 x1 x2 x3 x4) : b < W.heap.size := (Array.getElem?_eq_some_iff.1 h).1
theorem B5.up (h : B5 t W b x0 x1 x2 x3 x4) (hb : Below W.heap.size W W') : B5 t W' b x0 x1 x2 x3 x4 := (hb.block _ h.lt).trans h
theorem B5.grown {r : Option Nat} (h : B5 t W b x0 x1 x2 x3 x4) (hg : W.grownBy W' r) (hr : some b ≠ r) : B5 t W' b x0 x1 x2 x3 x4 := (hg.block b h.lt hr).trans h
theorem B5.c0 (h : B5 t W b x0 x1 x2 x3 x4) : W.cell? ⟨b, 0, none⟩ = some x0 := by simp [World.cell?, show W.heap[b]? = _ from h]
theorem B5.c1 (h : B5 t W b x0 x1 x2 x3 x4) : W.cell? ⟨b, 1, none⟩ = some x1 := by simp [World.cell?, show W.heap[b]? = _ from h]
theorem B5.c2 (h : B5 t W b x0 x1 x2 x3 x4) : W.cell? ⟨b, 2, none⟩ = some x2 := by simp [World.cell?, show W.heap[b]? = _ from h]
theorem B5.c3 (h : B5 t W b x0 x1 x2 x3 x4) : W.cell? ⟨b, 3, none⟩ = some x3 := by simp [World.cell?, show W.heap[b]? = _ from h]
theorem B5.c4 (h : B5 t W b x0 x1 x2 x3 x4) : W.cell? ⟨b, 4, none⟩ = some x4 := by simp [World.cell?, show W.heap[b]? = _ from h]
theorem B5.fr (h : B5 t W b x0 x1 x2 x3 x4) (o : Nat) : W.frozen? ⟨b, o, none⟩ = false := by simp [World.frozen?, show W.heap[b]? = _ from h]
theorem B5.s0 (h : B5 t W b x0 x1 x2 x3 x4) (u : Value) : B5 t (W.setCell ⟨b, 0, none⟩ u) b u x1 x2 x3 x4 := by simp [B5, World.setCell, Array.getElem?_modify, show W.heap[b]? = _ from h]
theorem B5.s1 (h : B5 t W b x0 x1 x2 x3 x4) (u : Value) : B5 t (W.setCell ⟨b, 1, none⟩ u) b x0 u x2 x3 x4 := by simp [B5, World.setCell, Array.getElem?_modify, show W.heap[b]? = _ from h]
theorem B5.s2 (h : B5 t W b x0 x1 x2 x3 x4) (u : Value) : B5 t (W.setCell ⟨b, 2, none⟩ u) b x0 x1 u x3 x4 := by simp [B5, World.setCell, Array.getElem?_modify, show W.heap[b]? = _ from h]
theorem B5.s3 (h : B5 t W b x0 x1 x2 x3 x4) (u : Value) : B5 t (W.setCell ⟨b, 3, none⟩ u) b x0 x1 x2 u x4 := by simp [B5, World.setCell, Array.getElem?_modify, show W.heap[b]? = _ from h]
theorem B5.s4 (h : B5 t W b x0 x1 x2 x3 x4) (u : Value) : B5 t (W.setCell ⟨b, 4, none⟩ u) b x0 x1 x2 x3 u := by simp [B5, World.setCell, Array.getElem?_modify, show W.heap[b]? = _ from h]
theorem B5.far {p : Addr} (h : B5 t W b x0 x1 x2 x3 x4) (hp : p.block ≠ b) (u : Value) : B5 t (W.setCell p u) b x0 x1 x2 x3 x4 := (heap_setCell_other W p b u (fun e => hp e.symm)).trans h
theorem B5.new (t : TypeId) (W : World) (x0 x1 x2 x3 x4 : Value) : B5 t (W.alloc (.cells #[x0, x1, x2, x3, x4] t)) W.heap.size x0 x1 x2 x3 x4 := by
  show (W.heap.push _)[W.heap.size]? = _; simp
theorem cell_far {p q : Addr} {x : Value} (h : W.cell? q = some x) (hne : p.block ≠ q.block) (u : Value) : (W.setCell p u).cell? q = some x := by
  have e := heap_setCell_other W p q.block u (fun e => hne e.symm)
  unfold World.cell? at h ⊢
  rw [e]
  exact h
theorem B5.alloc (h : B5 t W b x0 x1 x2 x3 x4) (o : Obj) : B5 t (W.alloc o) b x0 x1 x2 x3 x4 := h.up (ba (Below.refl _ _) _)
/-- The five stores of a record. -/
abbrev set5 (W : World) (b : Nat) (u0 u1 u2 u3 u4 : Value) : World := ((((W.setCell ⟨b, 0, none⟩ u0).setCell ⟨b, 1, none⟩ u1).setCell ⟨b, 2, none⟩ u2).setCell ⟨b, 3, none⟩ u3).setCell ⟨b, 4, none⟩ u4
theorem B5.set (h : B5 t W b x0 x1 x2 x3 x4) (u0 u1 u2 u3 u4 : Value) : B5 t (set5 W b u0 u1 u2 u3 u4) b u0 u1 u2 u3 u4 := ((((h.s0 u0).s1 u1).s2 u2).s3 u3).s4 u4
theorem below_set5 {B : Nat} {V : World} (h : Below B V W) (hb : B ≤ b) (u0 u1 u2 u3 u4 : Value) : Below B V (set5 W b u0 u1 u2 u3 u4) :=
  Below.setCell (Below.setCell (Below.setCell (Below.setCell (Below.setCell h hb _) hb _) hb _) hb _) hb _
theorem ownsR.setB {α : Type} [Rec α] {B : Nat} {e : TypeId} {v : Value} {l : List α} {a : Addr} (h : ownsR W B e v l) (ha : a.block < B) (u : Value) : ownsR (W.setCell a u) B e v l := ownsRow_setCell_below h ha u
theorem ownsR_set5 {α : Type} [Rec α] {B : Nat} {e : TypeId} {v : Value} {l : List α} (h : ownsR W B e v l) (hb : b < B) (u0 u1 u2 u3 u4 : Value) : ownsR (set5 W b u0 u1 u2 u3 u4) B e v l :=
  ((((h.setB hb _).setB hb _).setB hb _).setB hb _).setB hb _
end B5x

end Go.Proofs.Ytkfhmeiiicidaaa
