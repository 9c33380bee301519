/-
  A run's block of five cells.
-/
import Derived.Test.YtkfhmeiiicidaaaProg
import Derived.Test.YtkfhmeiiicidaaaGn
namespace Go.Proofs.Ytkfhmeiiicidaaa
open Go Go.RowKit

def R5 (w : World) (g : Nat) (nm : ByteArray) (fr up ep : Int) (tv : Value) : Prop := w.heap[g]? = some (.cells #[.string nm, .int .i64 fr, .int .i64 up, .int .i64 ep, tv] 52)
section
variable {w w' : World} {g : Nat} {nm : ByteArray} {fr up ep : Int} {tv : Value}
theorem R5.lt (h : R5 w g nm fr up ep tv) : g < w.heap.size := (Array.getElem?_eq_some_iff.1 h).1
theorem R5.c0 (h : R5 w g nm fr up ep tv) : w.cell? ⟨g, 0, none⟩ = some (.string nm) := by simp [World.cell?, show w.heap[g]? = _ from h]
theorem R5.s0 (h : R5 w g nm fr up ep tv) (u : ByteArray) : R5 (w.setCell ⟨g, 0, none⟩ (.string u)) g u fr up ep tv := by simp [R5, World.setCell, Array.getElem?_modify, show w.heap[g]? = _ from h]
theorem R5.c1 (h : R5 w g nm fr up ep tv) : w.cell? ⟨g, 1, none⟩ = some (.int .i64 fr) := by simp [World.cell?, show w.heap[g]? = _ from h]
theorem R5.s1 (h : R5 w g nm fr up ep tv) (u : Int) : R5 (w.setCell ⟨g, 1, none⟩ (.int .i64 u)) g nm u up ep tv := by simp [R5, World.setCell, Array.getElem?_modify, show w.heap[g]? = _ from h]
theorem R5.c2 (h : R5 w g nm fr up ep tv) : w.cell? ⟨g, 2, none⟩ = some (.int .i64 up) := by simp [World.cell?, show w.heap[g]? = _ from h]
theorem R5.s2 (h : R5 w g nm fr up ep tv) (u : Int) : R5 (w.setCell ⟨g, 2, none⟩ (.int .i64 u)) g nm fr u ep tv := by simp [R5, World.setCell, Array.getElem?_modify, show w.heap[g]? = _ from h]
theorem R5.c3 (h : R5 w g nm fr up ep tv) : w.cell? ⟨g, 3, none⟩ = some (.int .i64 ep) := by simp [World.cell?, show w.heap[g]? = _ from h]
theorem R5.s3 (h : R5 w g nm fr up ep tv) (u : Int) : R5 (w.setCell ⟨g, 3, none⟩ (.int .i64 u)) g nm fr up u tv := by simp [R5, World.setCell, Array.getElem?_modify, show w.heap[g]? = _ from h]
theorem R5.c4 (h : R5 w g nm fr up ep tv) : w.cell? ⟨g, 4, none⟩ = some (tv) := by simp [World.cell?, show w.heap[g]? = _ from h]
theorem R5.s4 (h : R5 w g nm fr up ep tv) (u : Value) : R5 (w.setCell ⟨g, 4, none⟩ u) g nm fr up ep u := by simp [R5, World.setCell, Array.getElem?_modify, show w.heap[g]? = _ from h]
theorem R5.fz (h : R5 w g nm fr up ep tv) (k : Nat) : w.frozen? ⟨g, k, none⟩ = false := by simp [World.frozen?, show w.heap[g]? = _ from h]
theorem R5.on (h : R5 w g nm fr up ep tv) (hb : Below w.heap.size w w') : R5 w' g nm fr up ep tv := (hb.block _ h.lt).trans h
theorem R5.grown {r : Option Nat} (h : R5 w g nm fr up ep tv) (hg : w.grownBy w' r) (hr : some g ≠ r) : R5 w' g nm fr up ep tv := (hg.block g h.lt hr).trans h
theorem R5.far (h : R5 w g nm fr up ep tv) {a : Addr} (ha : a.block ≠ g) (u : Value) : R5 (w.setCell a u) g nm fr up ep tv := (heap_setCell_other w a g u (fun e => ha e.symm)).trans h
theorem R5.new (w : World) (nm : ByteArray) (fr up ep : Int) (tv : Value) : R5 (w.alloc (.cells #[.string nm, .int .i64 fr, .int .i64 up, .int .i64 ep, tv] 52)) w.heap.size nm fr up ep tv := by
  show (w.heap.push _)[w.heap.size]? = _; simp
/-- The five stores of a whole run. -/
abbrev putR5 (w : World) (g : Nat) (nm : ByteArray) (fr up ep : Int) (tv : Value) : World := ((((w.setCell ⟨g, 0, none⟩ (.string nm)).setCell ⟨g, 1, none⟩ (.int .i64 fr)).setCell ⟨g, 2, none⟩ (.int .i64 up)).setCell ⟨g, 3, none⟩ (.int .i64 ep)).setCell ⟨g, 4, none⟩ tv
theorem R5.set (h : R5 w g nm fr up ep tv) (nm' : ByteArray) (fr' up' ep' : Int) (tv' : Value) : R5 (putR5 w g nm' fr' up' ep' tv') g nm' fr' up' ep' tv' := ((((h.s0 nm').s1 fr').s2 up').s3 ep').s4 tv'
theorem below_putR5 {B : Nat} {V : World} (h : Below B V w) (hb : B ≤ g) (nm : ByteArray) (fr up ep : Int) (tv : Value) : Below B V (putR5 w g nm fr up ep tv) :=
  Below.setCell (Below.setCell (Below.setCell (Below.setCell (Below.setCell h hb _) hb _) hb _) hb _) hb _
theorem R5.farPut {g' : Nat} {nm' : ByteArray} {fr' up' ep' : Int} {tv' : Value} (h : R5 w g nm fr up ep tv) (hg : g' ≠ g) : R5 (putR5 w g' nm' fr' up' ep' tv') g nm fr up ep tv := ((((h.far hg _).far hg _).far hg _).far hg _).far hg _
theorem own_putR5 {α : Type} [Rec α] {B b : Nat} {e : TypeId} {v : Value} {l : List α} (h : ownsR w B e v l) (hb : v.ownBlock ≠ some b) (nm : ByteArray) (fr up ep : Int) (tv : Value) : ownsR (putR5 w b nm fr up ep tv) B e v l := by
  have f : ∀ (W : World) (a : Addr) (u : Value), a.block = b → ownsR W B e v l → ownsR (W.setCell a u) B e v l := fun W a u ha h => by
    refine ⟨h.1, ?_⟩
    rcases h.2 with hn | ⟨g, cap, cur, rfl, hb2, hgg, rest⟩
    · exact .inl hn
    · refine .inr ⟨g, cap, cur, rfl, hb2, ?_, rest⟩
      rw [heap_setCell_other W a g u (fun e => hb (by rw [← ha, ← e]; rfl))]
      exact hgg
  exact f _ _ _ rfl (f _ _ _ rfl (f _ _ _ rfl (f _ _ _ rfl (f _ _ _ rfl h))))
theorem own_keep {α : Type} [Rec α] {B : Nat} {e : TypeId} {v : Value} {l : List α} (h : ownsR w B e v l) (hk : ∀ k, v.ownBlock = some k → w'.heap[k]? = w.heap[k]?) : ownsR w' B e v l := by
  refine ⟨h.1, ?_⟩
  rcases h.2 with hn | ⟨g, cap, cur, rfl, hb2, hgg, rest⟩
  · exact .inl hn
  · exact .inr ⟨g, cap, cur, rfl, hb2, (hk g rfl).trans hgg, rest⟩
theorem ret_run1 {fn : Func} {p : Tmp} {tmps : Array Value} (h : fn.results = #[.cell p 52]) (hp : tmps.getD p undef = .pointer (some ⟨g, 0, none⟩)) (hb : R5 w g nm fr up ep tv) :
    (results fn tmps).run Try.prog w = .ok (.agg #[.string nm, .int .i64 fr, .int .i64 up, .int .i64 ep, tv]) w := by
  have hp' : tmps[p]?.getD undef = .pointer (some ⟨g, 0, none⟩) := by simpa using hp
  simp [results, h, hp', hb.c0, hb.c1, hb.c2, hb.c3, hb.c4, asAddr, go_sem]
theorem ret_run2 {fn : Func} {p u : Tmp} {x : Value} {tmps : Array Value} (h : fn.results = #[.cell p 52, .tmp u]) (hp : tmps.getD p undef = .pointer (some ⟨g, 0, none⟩)) (hu : tmps.getD u undef = x) (hb : R5 w g nm fr up ep tv) :
    (results fn tmps).run Try.prog w = .ok (.tuple #[.agg #[.string nm, .int .i64 fr, .int .i64 up, .int .i64 ep, tv], x]) w := by
  have hp' : tmps[p]?.getD undef = .pointer (some ⟨g, 0, none⟩) := by simpa using hp
  have hu' : tmps[u]?.getD undef = x := by simpa using hu
  simp [results, h, hp', hu', hb.c0, hb.c1, hb.c2, hb.c3, hb.c4, asAddr, go_sem]
end
end Go.Proofs.Ytkfhmeiiicidaaa
