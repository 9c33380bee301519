/-
  The law on whether a conf is right: the walk.
-/
import Derived.Test.YtgjamikmjknlfaaDoorCo
namespace Go.Proofs.YtgjamikmjknlfaaDoor
open Go Go.RowKit

/-- Two rows that read as one list are told the same. -/
theorem eqIntS_val {w : World} {v u : Value} {l : List Int} (ha : Reads w v l) (hb : Reads w u l) (hn : l.length ≤ 1048577) :
    Calls Tryd.prog 33 #[v, u] w fun e w' => e = .returned (.bool true) ∧ Below w.heap.size w w' := by
  obtain ⟨ao, c, rfl, _⟩ := id ha
  obtain ⟨bo, d, rfl, _⟩ := id hb
  exact eqIntS_any ao bo _ c d l w ha hb hn

end Go.Proofs.YtgjamikmjknlfaaDoor
