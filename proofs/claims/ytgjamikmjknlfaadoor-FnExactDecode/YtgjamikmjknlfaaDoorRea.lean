/-
  What is read with the cursor: small facts on it, and on blocks.
-/
import Derived.Test.YtgjamikmjknlfaaDoorCu
namespace Go.Proofs.YtgjamikmjknlfaaDoor
open Go Go.RowKit

/-- The byte at a place. -/
def kAt (s : ByteArray) (a : Nat) : Nat := if h : a < s.size then s[a].toNat else 0
theorem kAt_in {s : ByteArray} {a : Nat} (h : a < s.size) : kAt s a = s[a].toNat := by simp [kAt, h]
theorem kAt_lt (s : ByteArray) (a : Nat) : kAt s a < 256 := by
  unfold kAt
  split
  · exact UInt8.toNat_lt _
  · omega
theorem takeS_ok {s t : ByteArray} {a a' n : Nat} {b : Bool} (h : takeS s a b n = (t, a', false)) : b = false ∧ a + n ≤ s.size ∧ t = s.extract a (a + n) ∧ a' = a + n := by
  unfold takeS at h
  split at h
  · rename_i hc
    simp only [Prod.mk.injEq, and_true] at h
    exact ⟨hc.1, hc.2, h.1.symm, h.2.symm⟩
  · simp at h
theorem varS_ok {s : ByteArray} {a x a' : Nat} {b : Bool} (h : varS s a b = (x, a', false)) : b = false ∧ rv s a = ((x : Int), (a' : Int), true) := by
  unfold varS at h
  split at h
  · rename_i hc
    refine ⟨hc.1, ?_⟩
    rcases hr : rv s a with ⟨X, Y, z⟩
    rw [hr] at hc h
    obtain ⟨-, rfl⟩ := hc
    obtain ⟨X', Y', rfl, rfl, -⟩ := rv_in hr
    simp only [Prod.mk.injEq, and_true, Int.toNat_natCast] at h
    rw [h.1, h.2]
  · simp at h
theorem varS_yes {s : ByteArray} {a X Y : Nat} (h : rv s a = ((X : Int), (Y : Int), true)) : varS s a false = (X, Y, false) := by simp [varS, h]
theorem varS_bad (s : ByteArray) (a : Nat) : varS s a true = (0, a, true) := by simp [varS]
theorem heap_last (W : World) (o : Obj) : (W.alloc o).heap[W.heap.size]? = some o := by show (W.heap.push o)[W.heap.size]? = some o; simp
theorem heap_next (W : World) (o o2 : Obj) : ((W.alloc o).alloc o2).heap[W.heap.size + 1]? = some o2 := by
  have := heap_last (W.alloc o) o2
  rwa [World.size_alloc] at this
theorem heap_old {W : World} {k : Nat} {o : Obj} (h : W.heap[k]? = some o) (o2 : Obj) : (W.alloc o2).heap[k]? = some o :=
  (Below.heap_alloc _ _ _ (Array.getElem?_eq_some_iff.1 h).1).trans h
theorem heap_far {W : World} {k : Nat} {o : Obj} (h : W.heap[k]? = some o) {p : Addr} (hp : p.block ≠ k) (u : Value) : (W.setCell p u).heap[k]? = some o :=
  (Below.heap_setCell _ _ _ _ (by omega)).trans h
theorem Save.heap {g : Nat} {w w' : World} {k : Nat} {o : Obj} (h : Save g w w') (hk : k ≠ g) (hc : w.heap[k]? = some o) : w'.heap[k]? = some o :=
  (h.block k (Array.getElem?_eq_some_iff.1 hc).1 hk).trans hc
theorem Save.under {B g : Nat} {w w1 w' : World} (h : Below B w w1) (hs : Save g w1 w') (hg : B ≤ g) (hB : B ≤ w1.heap.size) : Below B w w' := h.trans (hs.below hg hB)
end Go.Proofs.YtgjamikmjknlfaaDoor
