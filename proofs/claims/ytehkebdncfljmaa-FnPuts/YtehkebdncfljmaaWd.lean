/-
  A region that draws its order, whose own operations only read, and whose callees turn nothing that lay there before: one walk of the lexical order serves every order. Over any program.
-/
import Derived.WalkKit
import Derived.Deep.QuietTactic
import Derived.BigQuiet
namespace Go.Proofs.Ytehkebdncfljmaa
open Go Go.RowKit

/-- A world in which nothing that lay in w has turned. -/
structure Wd (w : World) where
  at' : World
  ok : Below w.heap.size w at'
instance {w : World} : Nonempty (Wd w) := ⟨⟨w, Below.refl _ _⟩⟩
theorem Wd.cell {w : World} {a : Addr} {v : Value} (h : w.cell? a = some v) : ∀ x : Wd w, x.at'.cell? a = some v :=
  fun x => (x.ok.cell (World.block_lt_of_cell? w a h)).trans h

theorem wp_region_wd {P : Program} {id : Nat} {Q : Exit → Act → World → Prop} {a : Act} {w : World} {l : List Oper} (hm : P.follows .mixedOrders = true) (hB : Region.lexB .any l.toArray = true)
    (h : wpQuiet P l.toArray (fun w' => ∃ x : Wd w, w' = x.at') (fun a' => ∀ w', (∃ x : Wd w, w' = x.at') → Q .normal a' w') l a) : (Code.region id l.toArray true).wp P Q a w :=
  wp_region_quiet (C := fun w' => ∃ x : Wd w, w' = x.at') hm hB ⟨⟨_, (Below.refl _ w).drew⟩, rfl⟩ (by simpa using h)

theorem calls_wd {P : Program} {f : FuncId} {args : Array Value} {w : World} {x : Wd w} {v : Value}
    (h : Calls P f args x.at' fun e w' => e = .returned v ∧ Below x.at'.heap.size x.at' w') : Calls P f args x.at' fun e w'' => e = .returned v ∧ ∃ y : Wd w, w'' = y.at' :=
  h.mono fun _ w' ⟨he, hb⟩ => ⟨he, ⟨w', x.ok.trans (hb.mono x.ok.size)⟩, rfl⟩
theorem calls_wd_same {P : Program} {f : FuncId} {args : Array Value} {w : World} {x : Wd w} {v : Value}
    (h : Calls P f args x.at' fun e w' => e = .returned v ∧ w' = x.at') : Calls P f args x.at' fun e w'' => e = .returned v ∧ ∃ y : Wd w, w'' = y.at' :=
  h.mono fun _ _ ⟨he, hb⟩ => ⟨he, x, hb⟩
end Go.Proofs.Ytehkebdncfljmaa
