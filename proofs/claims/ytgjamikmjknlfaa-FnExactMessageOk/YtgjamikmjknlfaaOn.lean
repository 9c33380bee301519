/-
  Numbers that came in as an argument, opened.
-/
import Derived.Test.YtgjamikmjknlfaaRi
import Derived.Test.YtgjamikmjknlfaaOpen
namespace Go.Proofs.Ytgjamikmjknlfaa
open Go Go.RowKit Go.ChangeShapes Go.WideShapes

theorem cells3' : Try.prog.cellsOf 3 = 1 := by kernel_rfl
theorem open_intS {H : Type} {enc : TypeId × Value → H} {W : World} {v : Value} {d : DataW H} {p : List MemPlace} (hv : ∃ a len cap, v = .slice a len cap) (h : DataW.Trod enc Try.prog W 0 (fun _ => true) true 23 v d p) :
    ∃ a len cap, ∃ l : List Int, v = .slice a len cap ∧ Reads W (.slice a len cap) l ∧ True ∧ len ≤ 9223372036854775807 := by
  obtain ⟨a, len, cap, rfl⟩ := hv
  obtain ⟨fuel, hf⟩ := h
  obtain ⟨l, hr, _, hm⟩ := open_rows (fun _ : Int => True) Try.underlying23 cells3' (fun n cs y h => by
    obtain ⟨k, rfl, _, _⟩ := DataW.trod_int Try.underlying3 h
    exact ⟨k, rfl, trivial⟩) hf
  exact ⟨a, len, cap, l, rfl, hr, trivial, hm⟩
end Go.Proofs.Ytgjamikmjknlfaa
