/-
  A run's block of five cells.
-/
import Derived.Test.YtkfhmeiiicidaaaGn
namespace Go.Proofs.Ytkfhmeiiicidaaa
open Go Go.RowKit

def K5 (w : World) (g : Nat) (nm : ByteArray) (fr up ep : Int) (tv : Value) : Prop := w.heap[g]? = some (.cells #[.string nm, .int .i64 fr, .int .i64 up, .int .i64 ep, tv] 90)
section
variable {w w' : World} {g : Nat} {nm : ByteArray} {fr up ep : Int} {tv : Value}
theorem K5.lt (h : K5 w g nm fr up ep tv) : g < w.heap.size := (Array.getElem?_eq_some_iff.1 h).1
theorem K5.c0 (h : K5 w g nm fr up ep tv) : w.cell? ⟨g, 0, none⟩ = some (.string nm) := by simp [World.cell?, show w.heap[g]? = _ from h]
theorem K5.s0 (h : K5 w g nm fr up ep tv) (u : ByteArray) : K5 (w.setCell ⟨g, 0, none⟩ (.string u)) g u fr up ep tv := by simp [K5, World.setCell, Array.getElem?_modify, show w.heap[g]? = _ from h]
theorem K5.c1 (h : K5 w g nm fr up ep tv) : w.cell? ⟨g, 1, none⟩ = some (.int .i64 fr) := by simp [World.cell?, show w.heap[g]? = _ from h]
theorem K5.s1 (h : K5 w g nm fr up ep tv) (u : Int) : K5 (w.setCell ⟨g, 1, none⟩ (.int .i64 u)) g nm u up ep tv := by simp [K5, World.setCell, Array.getElem?_modify, show w.heap[g]? = _ from h]
theorem K5.c2 (h : K5 w g nm fr up ep tv) : w.cell? ⟨g, 2, none⟩ = some (.int .i64 up) := by simp [World.cell?, show w.heap[g]? = _ from h]
theorem K5.s2 (h : K5 w g nm fr up ep tv) (u : Int) : K5 (w.setCell ⟨g, 2, none⟩ (.int .i64 u)) g nm fr u ep tv := by simp [K5, World.setCell, Array.getElem?_modify, show w.heap[g]? = _ from h]
theorem K5.c3 (h : K5 w g nm fr up ep tv) : w.cell? ⟨g, 3, none⟩ = some (.int .i64 ep) := by simp [World.cell?, show w.heap[g]? = _ from h]
theorem K5.s3 (h : K5 w g nm fr up ep tv) (u : Int) : K5 (w.setCell ⟨g, 3, none⟩ (.int .i64 u)) g nm fr up u tv := by simp [K5, World.setCell, Array.getElem?_modify, show w.heap[g]? = _ from h]
theorem K5.c4 (h : K5 w g nm fr up ep tv) : w.cell? ⟨g, 4, none⟩ = some (tv) := by simp [World.cell?, show w.heap[g]? = _ from h]
theorem K5.s4 (h : K5 w g nm fr up ep tv) (u : Value) : K5 (w.setCell ⟨g, 4, none⟩ u) g nm fr up ep u := by simp [K5, World.setCell, Array.getElem?_modify, show w.heap[g]? = _ from h]
theorem K5.fz (h : K5 w g nm fr up ep tv) (k : Nat) : w.frozen? ⟨g, k, none⟩ = false := by simp [World.frozen?, show w.heap[g]? = _ from h]
theorem K5.on (h : K5 w g nm fr up ep tv) (hb : Below w.heap.size w w') : K5 w' g nm fr up ep tv := (hb.block _ h.lt).trans h
theorem K5.grown {r : Option Nat} (h : K5 w g nm fr up ep tv) (hg : w.grownBy w' r) (hr : some g ≠ r) : K5 w' g nm fr up ep tv := (hg.block g h.lt hr).trans h
theorem K5.far (h : K5 w g nm fr up ep tv) {a : Addr} (ha : a.block ≠ g) (u : Value) : K5 (w.setCell a u) g nm fr up ep tv := (heap_setCell_other w a g u (fun e => ha e.symm)).trans h
theorem K5.new (w : World) (nm : ByteArray) (fr up ep : Int) (tv : Value) : K5 (w.alloc (.cells #[.string nm, .int .i64 fr, .int .i64 up, .int .i64 ep, tv] 90)) w.heap.size nm fr up ep tv := by
  show (w.heap.push _)[w.heap.size]? = _; simp
/-- The five stores of a whole run. -/
abbrev putK5 (w : World) (g : Nat) (nm : ByteArray) (fr up ep : Int) (tv : Value) : World := ((((w.setCell ⟨g, 0, none⟩ (.string nm)).setCell ⟨g, 1, none⟩ (.int .i64 fr)).setCell ⟨g, 2, none⟩ (.int .i64 up)).setCell ⟨g, 3, none⟩ (.int .i64 ep)).setCell ⟨g, 4, none⟩ tv
theorem K5.set (h : K5 w g nm fr up ep tv) (nm' : ByteArray) (fr' up' ep' : Int) (tv' : Value) : K5 (putK5 w g nm' fr' up' ep' tv') g nm' fr' up' ep' tv' := ((((h.s0 nm').s1 fr').s2 up').s3 ep').s4 tv'
theorem below_putK5 {B : Nat} {V : World} (h : Below B V w) (hb : B ≤ g) (nm : ByteArray) (fr up ep : Int) (tv : Value) : Below B V (putK5 w g nm fr up ep tv) :=
  Below.setCell (Below.setCell (Below.setCell (Below.setCell (Below.setCell h hb _) hb _) hb _) hb _) hb _
theorem K5.farPut {g' : Nat} {nm' : ByteArray} {fr' up' ep' : Int} {tv' : Value} (h : K5 w g nm fr up ep tv) (hg : g' ≠ g) : K5 (putK5 w g' nm' fr' up' ep' tv') g nm fr up ep tv := ((((h.far hg _).far hg _).far hg _).far hg _).far hg _
theorem own_putK5 {α : Type} [Rec α] {B b : Nat} {e : TypeId} {v : Value} {l : List α} (h : ownsR w B e v l) (hb : v.ownBlock ≠ some b) (nm : ByteArray) (fr up ep : Int) (tv : Value) : ownsR (putK5 w b nm fr up ep tv) B e v l := by
  have f : ∀ (W : World) (a : Addr) (u : Value), a.block = b → ownsR W B e v l → ownsR (W.setCell a u) B e v l := fun W a u ha h => by
    refine ⟨h.1, ?_⟩
    rcases h.2 with hn | ⟨g, cap, cur, rfl, hb2, hgg, rest⟩
    · exact .inl hn
    · refine .inr ⟨g, cap, cur, rfl, hb2, ?_, rest⟩
      rw [heap_setCell_other W a g u (fun e => hb (by rw [← ha, ← e]; rfl))]
      exact hgg
  exact f _ _ _ rfl (f _ _ _ rfl (f _ _ _ rfl (f _ _ _ rfl (f _ _ _ rfl h))))
end
end Go.Proofs.Ytkfhmeiiicidaaa
