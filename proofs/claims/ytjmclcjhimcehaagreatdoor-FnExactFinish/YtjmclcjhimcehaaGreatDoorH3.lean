/-
  Blocks that lie behind an alloc. A run that is answered into a new box, whatever the order: what is told of both. Steps of a region that draws its order: one of two, and several that only yield.
-/
import Derived.Test.YtjmclcjhimcehaaGreatDoorRec
import Derived.Handy
import Derived.Test.YtjmclcjhimcehaaGreatDoorH1
import Derived.Test.YtjmclcjhimcehaaGreatDoorG30
import Derived.Test.YtjmclcjhimcehaaGreatDoorG29
import Derived.Test.YtjmclcjhimcehaaGreatDoorG2
import Derived.Test.YtjmclcjhimcehaaGreatDoorG3
namespace Go.Proofs.YtjmclcjhimcehaaGreatDoor
open Go Go.RowKit

end Go.Proofs.YtjmclcjhimcehaaGreatDoor

namespace Go.Proofs.YtjmclcjhimcehaaGreatDoor
open Go Go.RowKit
set_option linter.unusedVariables false

/-- What a region that answers a run leaves open. -/
structure RunX where
  X : Nat
  g : Nat
  va : Option Addr
  vc : Nat
  ra : Option Addr
  rc : Nat
structure NewRun (w0 w' : World) (X : Nat) (nm : ByteArray) (fr up ep : Int) (v : Value) (l : List Sa) : Prop where
  below : Below w0.heap.size w0 w'
  box : R5 w' X nm fr up ep v
  old : w0.heap.size ≤ X
  own : ownsR w' w0.heap.size 85 v l
theorem newRun_a {w0 w3 : World} {X : Nat} {nm : ByteArray} {fr up ep : Int} {x0 : ByteArray} {x1 x2 x3 : Int} {v x4 : Value} {l : List Sa} (hS : Below w0.heap.size w0 w3) (hX : w3.heap[X]? = some (.cells #[.string x0, .int .i64 x1, .int .i64 x2, .int .i64 x3, x4] 31)) (hXo : w0.heap.size ≤ X) (ho : ownsR w3 w0.heap.size 85 v l) :
    NewRun w0 (putR5 w3 X nm fr up ep v) X nm fr up ep v l :=
  ⟨below_putR5 hS hXo nm fr up ep v, R5.set (show R5 w3 X x0 x1 x2 x3 x4 from hX) nm fr up ep v, hXo, own_putR5 ho (not_rowR5 (show R5 w3 X x0 x1 x2 x3 x4 from hX) ho) nm fr up ep v⟩
theorem L6.twx {w w' : World} {g B S : Nat} {nm cr : ByteArray} {fr up : Int} {cu : Bool} {tv : Value} (h : L6 w g nm cr fr up cu tv) (ht : Twx B S w w') (hg : g < B ∨ S ≤ g) : L6 w' g nm cr fr up cu tv := (ht.block g h.lt hg).trans h
theorem R5.twx {w w' : World} {g B S : Nat} {nm : ByteArray} {fr up ep : Int} {tv : Value} (h : R5 w g nm fr up ep tv) (ht : Twx B S w w') (hg : g < B ∨ S ≤ g) : R5 w' g nm fr up ep tv := (ht.block g h.lt hg).trans h
theorem K5.twx {w w' : World} {g B S : Nat} {nm : ByteArray} {fr up ep : Int} {tv : Value} (h : K5 w g nm fr up ep tv) (ht : Twx B S w w') (hg : g < B ∨ S ≤ g) : K5 w' g nm fr up ep tv := (ht.block g h.lt hg).trans h
/-- A span's block. -/
def S2 (w : World) (g : Nat) (a b : Int) : Prop := w.heap[g]? = some (.cells #[.int .i64 a, .int .i64 b] 26)
section
variable {w w' : World} {g : Nat} {a b : Int}
theorem S2.lt (h : S2 w g a b) : g < w.heap.size := (Array.getElem?_eq_some_iff.1 h).1
theorem S2.c0 (h : S2 w g a b) : w.cell? ⟨g, 0, none⟩ = some (.int .i64 a) := by simp [World.cell?, show w.heap[g]? = _ from h]
theorem S2.c1 (h : S2 w g a b) : w.cell? ⟨g, 1, none⟩ = some (.int .i64 b) := by simp [World.cell?, show w.heap[g]? = _ from h]
theorem S2.on (h : S2 w g a b) (hb : Below w.heap.size w w') : S2 w' g a b := (hb.block _ h.lt).trans h
theorem S2.grown {r : Option Nat} (h : S2 w g a b) (hg : w.grownBy w' r) (hr : some g ≠ r) : S2 w' g a b := (hg.block g h.lt hr).trans h
theorem S2.twx {B S : Nat} (h : S2 w g a b) (ht : Twx B S w w') (hg : g < B ∨ S ≤ g) : S2 w' g a b := (ht.block g h.lt hg).trans h
theorem S2.new (w : World) (a b : Int) : S2 (w.alloc (.cells #[.int .i64 a, .int .i64 b] 26)) w.heap.size a b := by
  show (w.heap.push _)[w.heap.size]? = _; simp
end
end Go.Proofs.YtjmclcjhimcehaaGreatDoor

namespace Go.Proofs.YtjmclcjhimcehaaGreatDoor
open Go Go.RowKit

theorem pk_two {P : Program} {l : List Oper} {Q : Exit → Act → World → Prop} {C : World → Prop} {R : Act → World → Prop} {L listed : Array Bool} {fuel i j : Nat} {o p : Oper} {a : Act} {w : World} (hr : Region.ready .any l.toArray listed = [i, j]) (ho : l[i]? = some o) (hp : l[j]? = some p) (hg : o.guard = none) (hgp : p.guard = none)
    (h : ∀ K : Act → World → Prop, Hid (∀ a' w', C w' → wpAnyU P .any l.toArray Q C L R fuel (listed.setIfInBounds i true) a' w' → K a' w') → wpList P l.toArray (Exit.then K Q) [o] a w)
    (h' : ∀ K : Act → World → Prop, Hid (∀ a' w', C w' → wpAnyU P .any l.toArray Q C L R fuel (listed.setIfInBounds j true) a' w' → K a' w') → wpList P l.toArray (Exit.then K Q) [p] a w) : wpAnyU P .any l.toArray Q C L R (fuel + 1) listed a w := wpAnyU_two hr (by simpa using ho) (by simpa using hp) hg hgp h h'
def moreB9 (ops : Array Oper) (L listed : Array Bool) (ts : List Nat) (m : Nat) : Bool :=
  Region.noSelect ops && (Region.ready .any ops L).all (· == m) && waitsAll .any ops m && takesB .any ops ts listed && ts.all (fun k => decide (k < m))
theorem pk_takes {P : Program} {l : List Oper} {Q : Exit → Act → World → Prop} {C : World → Prop} {R : Act → World → Prop} {L listed : Array Bool} {a : Act} {w : World} (ts : List Nat) (m fuel : Nat) (hw : C w) (hB : moreB9 l.toArray L listed ts m = true) (hQ : ∀ c a d v w, Q (.panic c) (Act.put a d v) w → Q (.panic c) a w)
    (h : wpTakes P l.toArray C (fun a' => wpAnyU P .any l.toArray Q C L R fuel (takesL ts listed) a' w) ts a) : wpAnyU P .any l.toArray Q C L R (fuel + ts.length) listed a w := by
  simp only [moreB9, Bool.and_eq_true] at hB
  obtain ⟨⟨⟨⟨h1, h2⟩, h3⟩, h4⟩, h6⟩ := hB
  exact wpAnyU_takes (P := P) (Q := Q) (C := C) (md := .any) hw h1 hQ (fun j hj => by
    rw [List.all_eq_true] at h2
    simpa using h2 j hj) h3 fuel ts listed a (fun k hk => by
      rw [List.all_eq_true] at h6
      simpa using h6 k hk) h4 h
end Go.Proofs.YtjmclcjhimcehaaGreatDoor
