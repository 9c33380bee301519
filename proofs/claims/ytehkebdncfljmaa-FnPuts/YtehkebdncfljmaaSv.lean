/-
  All is as it was but for one block. Over any program.
-/
import Derived.WalkKit
import Derived.Below
import Derived.Deep.QuietTactic
import Derived.BigQuiet
namespace Go.Proofs.Ytehkebdncfljmaa
open Go Go.RowKit

/-- But for block g all that was there is as it was. -/
structure Save (g : Nat) (w w' : World) : Prop where
  os : w'.os = w.os
  tape : w'.tape = w.tape
  output : w'.output = w.output
  size : w.heap.size ≤ w'.heap.size
  block : ∀ k, k < w.heap.size → k ≠ g → w'.heap[k]? = w.heap[k]?
theorem Save.refl (g : Nat) (w : World) : Save g w w := ⟨rfl, rfl, rfl, Nat.le_refl _, fun _ _ _ => rfl⟩
theorem Save.trans {g : Nat} {a b c : World} (h : Save g a b) (k : Save g b c) : Save g a c :=
  ⟨k.os.trans h.os, k.tape.trans h.tape, k.output.trans h.output, Nat.le_trans h.size k.size, fun i hi hg => (k.block i (Nat.lt_of_lt_of_le hi h.size) hg).trans (h.block i hi hg)⟩
theorem Save.drew {g : Nat} {a w : World} (h : Save g a w) : Save g a w.drew := ⟨h.os, h.tape, h.output, h.size, h.block⟩
theorem Save.drewN {g : Nat} {a w : World} (h : Save g a w) (n : Nat) : Save g a (w.drewN n) := ⟨h.os, h.tape, h.output, h.size, h.block⟩
theorem Save.setCell {g : Nat} {a w : World} (h : Save g a w) {p : Addr} (hp : p.block = g) (u : Value) : Save g a (w.setCell p u) :=
  h.trans ⟨rfl, rfl, rfl, by simp [World.setCell], fun k _ hg => Below.heap_setCell _ _ _ _ (by omega)⟩
theorem Save.alloc {g : Nat} {a w : World} (h : Save g a w) (o : Obj) : Save g a (w.alloc o) :=
  h.trans ⟨rfl, rfl, rfl, by simp, fun k hk _ => Below.heap_alloc _ _ _ hk⟩
theorem Save.of_below {g : Nat} {w w' : World} (h : Below w.heap.size w w') : Save g w w' := ⟨h.os, h.tape, h.output, h.size, fun k hk _ => h.block k hk⟩
theorem Save.below {g B : Nat} {w w' : World} (h : Save g w w') (h1 : B ≤ g) (h2 : B ≤ w.heap.size) : Below B w w' :=
  ⟨h.os, h.tape, h.output, h.size, fun k hk => h.block k (by omega) (by omega)⟩
theorem cell_block {w w' : World} {a : Addr} (h : w'.heap[a.block]? = w.heap[a.block]?) : w'.cell? a = w.cell? a := by
  unfold World.cell?
  rw [h]
theorem Save.cell {g : Nat} {w w' : World} {p : Addr} {v : Value} (h : Save g w w') (hp : p.block ≠ g) (hc : w.cell? p = some v) : w'.cell? p = some v :=
  (cell_block (h.block _ (World.block_lt_of_cell? w p hc) hp)).trans hc
theorem Save.frozen {g : Nat} {w w' : World} {p : Addr} {b : Bool} (h : Save g w w') (hp : p.block ≠ g) (hl : p.block < w.heap.size) (hc : w.frozen? p = b) : w'.frozen? p = b := by
  unfold World.frozen? at *
  rw [h.block _ hl hp]
  exact hc
theorem cur_cells {w : World} {g : Nat} {a b c : Value} {t : TypeId} (h : w.heap[g]? = some (.cells #[a, b, c] t)) :
    w.cell? ⟨g, 0, none⟩ = some a ∧ w.cell? ⟨g, 1, none⟩ = some b ∧ w.cell? ⟨g, 2, none⟩ = some c ∧ (∀ o, w.frozen? ⟨g, o, none⟩ = false) := by
  refine ⟨?_, ?_, ?_, ?_⟩
  · simp [World.cell?, h]
  · simp [World.cell?, h]
  · simp [World.cell?, h]
  · intro o; simp [World.frozen?, h]
theorem cur_set0 {w : World} {g : Nat} {a b c : Value} {t : TypeId} (h : w.heap[g]? = some (.cells #[a, b, c] t)) (u : Value) :
    (w.setCell ⟨g, 0, none⟩ u).heap[g]? = some (.cells #[u, b, c] t) := by
  simp [World.setCell, Array.getElem?_modify, h]
theorem cur_set2 {w : World} {g : Nat} {a b c : Value} {t : TypeId} (h : w.heap[g]? = some (.cells #[a, b, c] t)) (u : Value) :
    (w.setCell ⟨g, 2, none⟩ u).heap[g]? = some (.cells #[a, b, u] t) := by
  simp [World.setCell, Array.getElem?_modify, h]
theorem cur_set1 {w : World} {g : Nat} {a b c : Value} {t : TypeId} (h : w.heap[g]? = some (.cells #[a, b, c] t)) (u : Value) :
    (w.setCell ⟨g, 1, none⟩ u).heap[g]? = some (.cells #[a, u, c] t) := by
  simp [World.setCell, Array.getElem?_modify, h]
end Go.Proofs.Ytehkebdncfljmaa
