/-
  A region that draws its order, cut from what follows: whatever the order, the same slots are filled; what they hold is told by letters. Over any program.
-/
import Derived.Test.YtehkebdncfljmaaLw
namespace Go.Proofs.Ytehkebdncfljmaa
open Go Go.RowKit

def putAll (a : Act) : List (Nat × Value) → Act
  | [] => a
  | x :: l => putAll (a.put (some x.1) x.2) l

theorem wp_puts {P : Program} {c : Code} {Q : Exit → Act → World → Prop} {a : Act} {w : World} {α : Type} (f : α → List (Nat × Value)) (F : α → World → Prop)
    (h : c.wp P (fun e a' w' => e = .normal ∧ ∃ x : α, a' = putAll a (f x) ∧ F x w') a w) (h2 : ∀ x w', F x w' → Q .normal (putAll a (f x)) w') : c.wp P Q a w :=
  Go.wp_mono h fun e a' w' => by
    rintro ⟨rfl, x, rfl, hF⟩
    exact h2 x w' hF

/-- A new row in a new cell: what is told of both. -/
structure NewRow {α : Type} [Rec α] (w0 w' : World) (e : TypeId) (X : Nat) (v : Value) (l : List α) : Prop where
  below : Below w0.heap.size w0 w'
  cellAt : w'.cell? ⟨X, 0, none⟩ = some v
  old : w0.heap.size ≤ X
  own : ownsR w' w0.heap.size e v l
  apart : some X ≠ v.ownBlock

section
variable {α : Type} [Rec α]
/-- The cell was made ahead of the call that answers the row. -/
theorem newRow_a {w0 W w3 : World} {e : TypeId} {X : Nat} {v u : Value} {l : List α} (hS : Below w0.heap.size w0 W) (hX : w0.heap.size ≤ X) (hc : W.cell? ⟨X, 0, none⟩ = some u) (ho : ownsR w3 W.heap.size e v l) (hb : Below W.heap.size W w3) : NewRow w0 (w3.setCell ⟨X, 0, none⟩ v) e X v l := by
  have hlt := World.block_lt_of_cell? W _ hc
  have hap : some X ≠ v.ownBlock := fun e => by have := (ho.lt _ e.symm).1; simp at hlt; omega
  refine ⟨(hS.trans (hb.mono hS.size)).setCell (p := ⟨X, 0, none⟩) hX _, World.cell?_setCell_same' _ _ _ (by rw [cell_up hb hc]; rfl), hX, ?_, hap⟩
  exact ownsR.mono (ownsR.setBelow ho hlt v) hS.size
theorem newRow_m {w0 W w3 : World} {e t : TypeId} {v u : Value} {l : List α} (hS : Below w0.heap.size w0 W) (ho : ownsR w3 (W.alloc (.cells #[u] t)).heap.size e v l) (hb : Below (W.alloc (.cells #[u] t)).heap.size (W.alloc (.cells #[u] t)) w3) : NewRow w0 (w3.setCell ⟨W.heap.size, 0, none⟩ v) e W.heap.size v l :=
  newRow_a (u := u) (hS.alloc hS.size _) hS.size (by simp [go_sem]) ho hb
/-- The cell was made behind it. -/
theorem newRow_b {w0 W w3 : World} {e t : TypeId} {v : Value} {l : List α} (hS : Below w0.heap.size w0 W) (ho : ownsR w3 W.heap.size e v l) (hb : Below W.heap.size W w3) : NewRow w0 (w3.alloc (.cells #[v] t)) e w3.heap.size v l := by
  have hs3 : w0.heap.size ≤ w3.heap.size := Nat.le_trans hS.size hb.size
  exact ⟨(hS.trans (hb.mono hS.size)).alloc hs3 _, by simp [go_sem], hs3, (ownsR.mono ho hS.size).alloc _, cell_apart_new ho⟩
end
end Go.Proofs.Ytehkebdncfljmaa
