/-
  A box that lies there while rows are appended to: small facts.
-/
import Derived.Test.YtnapjkpkhdbalaaPa
import Derived.Test.YtnapjkpkhdbalaaSv
namespace Go.Proofs.Ytnapjkpkhdbalaa
open Go Go.RowKit
theorem heap_alloc_at (w : World) (o : Obj) (i : Nat) : (w.alloc o).heap[i]? = if i = w.heap.size then some o else w.heap[i]? := by
  show (w.heap.push o)[i]? = _
  rw [Array.getElem?_push]
theorem undrew {B : Nat} {a w : World} (h : Below B a w.drew) : Below B a w := ⟨h.os, h.tape, h.output, h.size, h.block⟩
theorem grown_undrew {w w' : World} {r : Option Nat} (h : w.drew.grownBy w' r) : w.grownBy w' r := ⟨h.os, h.tape, h.output, h.size, h.block⟩
theorem heap_up1 {w : World} {o x : Obj} {i : Nat} (h : w.heap[i]? = some o) : (w.alloc x).heap[i]? = some o := by
  rw [heap_alloc_at, if_neg (Nat.ne_of_lt (Array.getElem?_eq_some_iff.1 h).1), h]
theorem heap_at1 (w : World) (o : Obj) : (w.alloc o).heap[w.heap.size]? = some o := by rw [heap_alloc_at, if_pos rfl]
theorem heap_at2 (w : World) (o x : Obj) : ((w.alloc o).alloc x).heap[w.heap.size]? = some o := heap_up1 (heap_at1 w o)
theorem heap_at3 (w : World) (o x y : Obj) : (((w.alloc o).alloc x).alloc y).heap[w.heap.size]? = some o := heap_up1 (heap_at2 w o x)
theorem heap_bt2 (w : World) (o x : Obj) : ((w.alloc x).alloc o).heap[w.heap.size + 1]? = some o := by have := heap_at1 (w.alloc x) o; rwa [World.size_alloc] at this
theorem heap_bt3 (w : World) (o x y : Obj) : (((w.alloc x).alloc o).alloc y).heap[w.heap.size + 1]? = some o := heap_up1 (heap_bt2 w o x)
theorem heap_ct3 (w : World) (o x y : Obj) : (((w.alloc x).alloc y).alloc o).heap[w.heap.size + 1 + 1]? = some o := by have := heap_at1 ((w.alloc x).alloc y) o; rwa [World.size_alloc, World.size_alloc] at this
/-- The box of a log is no row of entries. -/
theorem not_row29 {w : World} {B X : Nat} {v : Value} {l : List En} {cs : Array Value} (h : w.heap[X]? = some (.cells cs 29)) (ho : ownsR w B 42 v l) : some X ≠ v.ownBlock := by
  rcases ho.2 with ⟨rfl, _⟩ | ⟨g, cap, cur, rfl, _, hgb, _⟩
  · simp [Value.ownBlock]
  · intro e
    obtain rfl : X = g := by simpa [Value.ownBlock] using e
    have := h.symm.trans hgb
    simp at this
theorem heap_grown {w w' : World} {X : Nat} {r : Option Nat} {o : Obj} (hg : w.grownBy w' r) (h : w.heap[X]? = some o) (hne : some X ≠ r) : w'.heap[X]? = some o :=
  (hg.block X (Array.getElem?_eq_some_iff.1 h).1 (fun e => hne e)).trans h
theorem heap_keep {w w' : World} {B X : Nat} {v : Value} {l : List En} {cs : Array Value} (h : w.heap[X]? = some (.cells cs 29)) (ho : ownsR w B 42 v l) (hg : w.grownBy w' v.ownBlock) : w'.heap[X]? = some (.cells cs 29) :=
  heap_grown hg h (not_row29 h ho)
theorem Reads.grown {α : Type} [Rec α] {w w' : World} {r : Option Nat} {b o n c : Nat} {l : List α} (h : Reads w (.slice (some ⟨b, o, none⟩) n c) l) (hg : w.grownBy w' r) (hne : some b ≠ r) : Reads w' (.slice (some ⟨b, o, none⟩) n c) l := by
  obtain ⟨ao, cap, e, h⟩ := h
  refine ⟨ao, cap, e, fun hl => ?_⟩
  obtain ⟨b', o', rfl, hlt, hc⟩ := h hl
  simp only [Value.slice.injEq, Option.some.injEq, Addr.mk.injEq, and_true] at e
  obtain ⟨⟨rfl, rfl⟩, _⟩ := e
  exact ⟨b, o, rfl, Nat.lt_of_lt_of_le hlt hg.size, fun i x hx j u hu => cell_other (hc i x hx j u hu) hg hne⟩
theorem box_done {w : World} {B X : Nat} {v x y z : Value} {l : List En} {s t : Int} (h : w.heap[X]? = some (.cells #[x, y, z] 29)) (ho : ownsR w B 42 v l) :
    (((w.setCell ⟨X, 0, none⟩ (.int .i64 s)).setCell ⟨X, 1, none⟩ (.int .i64 t)).setCell ⟨X, 2, none⟩ v).heap[X]? = some (.cells #[.int .i64 s, .int .i64 t, v] 29) ∧ ownsR (((w.setCell ⟨X, 0, none⟩ (.int .i64 s)).setCell ⟨X, 1, none⟩ (.int .i64 t)).setCell ⟨X, 2, none⟩ v) B 42 v l := by
  have h1 := cur_set0 h (.int .i64 s)
  have h2 := cur_set1 h1 (.int .i64 t)
  have h3 := cur_set2 h2 v
  refine ⟨h3, ?_⟩
  have hne := not_row29 h ho
  have k : ∀ {W : World} {j : Nat} {u : Value}, ownsR W B 42 v l → ownsR (W.setCell ⟨X, j, none⟩ u) B 42 v l := fun hW => World.ownsRow.kept hW (grown_set _ _ _ _) (.inr (fun e => hne e.symm))
  exact k (k (k ho))
theorem ownsR_made0' {w : World} {B g : Nat} (hg : w.heap.size = g) (hB : B ≤ g) : ownsR (w.alloc (.cells #[] 42)) B 42 (.slice (some ⟨g, 0, none⟩) 0 0) ([] : List En) := by
  subst hg; exact ownsR_made0 w B 42 hB
theorem slice_to (wx : World) (ao : Option Addr) (n c k : Nat) (h : k ≤ c) : (Instr.slice 27 (.slice ao n c) none (some (.int .i64 (k : Int))) none).run Try.prog wx = .ok (.slice ao k c) wx := by
  have hsz : (sizeOf (Try.prog.elem 27)).run Try.prog wx = .ok 3 wx := by kernel_rfl
  rw [run_slice_h wx 27 ao n c (by kernel_rfl) .i64 (k : Int) (by omega) (by omega), hsz]
  simp only [Result.andThen, sliced, Nat.zero_mul, Nat.sub_zero, Int.toNat_natCast]
  congr 2
  split
  · rfl
  · cases ao <;> simp [Addr.add]
/-- How the region has laid what it makes. -/
structure LayP where
  g0 : Nat
  gE : Nat
  X : Nat
  a1 : Option Addr
  n1 : Nat
  c1 : Nat
  a2 : Option Addr
  n2 : Nat
  c2 : Nat
end Go.Proofs.Ytnapjkpkhdbalaa
