/-
  Small facts for the walks of the laws: rows that are apart, what stays while one of them is written. Over any program.
-/
import Derived.Test.YtehkebdncfljmaaRec
namespace Go.Proofs.Ytehkebdncfljmaa
open Go Go.RowKit
theorem cell_up {w w' : World} {p : Addr} {v : Value} (hb : Below w.heap.size w w') (h : w.cell? p = some v) : w'.cell? p = some v := (hb.cell (World.block_lt_of_cell? w p h)).trans h
theorem cell_new {w w' : World} {v : Value} {t : TypeId} (hb : Below (w.alloc (.cells #[v] t)).heap.size (w.alloc (.cells #[v] t)) w') : w'.cell? ⟨w.heap.size, 0, none⟩ = some v := (hb.cell (by simp)).trans (by simp [go_sem])
theorem below_new {w w' : World} {o : Obj} (hb : Below (w.alloc o).heap.size (w.alloc o) w') : Below w.heap.size w w' := ((Below.refl _ w).alloc (Nat.le_refl _) _).trans (hb.mono (by simp))
section
variable {α β : Type} [Rec α] [Rec β]
theorem apart_new {w w2 : World} {B1 : Nat} {e1 e2 : TypeId} {v1 v2 : Value} {l1 : List α} {l2 : List β} (h1 : ownsR w B1 e1 v1 l1) (h2 : ownsR w2 w.heap.size e2 v2 l2) : v1.ownBlock = none ∨ v1.ownBlock ≠ v2.ownBlock := by
  cases h : v1.ownBlock with
  | none => exact .inl rfl
  | some k => exact .inr fun e => by have := (h1.lt k h).2; have := (h2.lt k e.symm).1; omega
theorem apart_old {w w2 : World} {B1 : Nat} {e1 e2 : TypeId} {v1 v2 : Value} {l1 : List α} {l2 : List β} (h1 : ownsR w B1 e1 v1 l1) (h2 : ownsR w2 w.heap.size e2 v2 l2) : v2.ownBlock = none ∨ v2.ownBlock ≠ v1.ownBlock := by
  cases h : v2.ownBlock with
  | none => exact .inl rfl
  | some k => exact .inr fun e => by have := (h1.lt k e.symm).2; have := (h2.lt k h).1; omega
theorem cell_apart {w w2 : World} {e : TypeId} {v u : Value} {p : Addr} {l : List α} (hc : w.cell? p = some u) (h : ownsR w2 w.heap.size e v l) : some p.block ≠ v.ownBlock := fun e => by
  have := World.block_lt_of_cell? w p hc
  have := (h.lt _ e.symm).1
  omega
theorem cell_apart_new {w : World} {B : Nat} {e : TypeId} {v : Value} {l : List α} (h : ownsR w B e v l) : some w.heap.size ≠ v.ownBlock := fun e => by have := (h.lt _ e.symm).2; omega
theorem ownsR.other {w w' : World} {B : Nat} {e : TypeId} {v : Value} {l : List α} {r : Option Nat} (h : ownsR w B e v l) (hg : w.grownBy w' r) (hne : v.ownBlock = none ∨ v.ownBlock ≠ r) : ownsR w' B e v l := World.ownsRow.kept h hg hne
theorem below_marked {w0 w w' : World} {e : TypeId} {v : Value} {l : List α} (hb : Below w0.heap.size w0 w) (h : ownsR w w0.heap.size e v l) (hg : w.grownBy w' v.ownBlock) : Below w0.heap.size w0 w' := hb.grown hg hb.size fun k hk => (h.lt k hk).1
theorem cell_other {w w' : World} {r : Option Nat} {p : Addr} {u : Value} (h : w.cell? p = some u) (hg : w.grownBy w' r) (hne : some p.block ≠ r) : w'.cell? p = some u := hg.cell h hne
end
end Go.Proofs.Ytehkebdncfljmaa
