/-
  The law's helpers on acts, by what they read; a box of one cell.
-/
import Derived.Test.YtgpojfkdcdgloaaDoorT5
import Derived.Test.YtgpojfkdcdgloaaDoorMf
namespace Go.Proofs.YtgpojfkdcdgloaaDoor
open Go Go.RowKit

theorem eqActS_val {w : World} {va vb : Value} {l : List Ac} (ha : Reads w va l) (hb : Reads w vb l) (hn : l.length ≤ 1048577) :
    Calls Tryd.prog 24 #[va, vb] w fun e w' => e = .returned (.bool true) ∧ Below w.heap.size w w' := by
  obtain ⟨ao, c, rfl, _⟩ := id ha
  obtain ⟨bo, d, rfl, _⟩ := id hb
  exact eqActS_any ao bo _ c d l w ha hb hn
theorem heldActS_val {w : World} {v : Value} {x : Int} {n : Nat} (hr : Reads w v (marksAc x n)) (hn : n ≤ 1048577) (hx0 : 0 < x) (hx : x ≤ 100000000) :
    Calls Tryd.prog 28 #[v, .int .i64 x] w fun e w' => e = .returned (.int .i64 (x + 4 * (n : Int))) ∧ Below w.heap.size w w' := by
  obtain ⟨ao, c, rfl, _⟩ := id hr
  rw [marksAc_length] at hr ⊢
  exact heldActS_any ao n c x w hr hn hx0 hx
theorem cells1_new {w w' : World} {a : Value} {t : TypeId} (hb : Below (w.alloc (.cells #[a] t)).heap.size (w.alloc (.cells #[a] t)) w') : w'.cell? ⟨w.heap.size, 0, none⟩ = some a :=
  (hb.cell (by simp)).trans (by simp [go_sem])
end Go.Proofs.YtgpojfkdcdgloaaDoor
