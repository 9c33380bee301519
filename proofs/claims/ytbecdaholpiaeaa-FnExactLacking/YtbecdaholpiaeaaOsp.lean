/-
  A row of spans that came in as an argument, opened.
-/
import Derived.Test.YtbecdaholpiaeaaSpm
import Derived.Test.YtbecdaholpiaeaaOpen
import Derived.ChangeSame
namespace Go.Proofs.Ytbecdaholpiaeaa
open Go Go.RowKit Go.ChangeShapes Go.WideShapes

theorem cellsSp : Try.prog.cellsOf 38 = 2 := by kernel_rfl
theorem cellsI : Try.prog.cellsOf 3 = 1 := by kernel_rfl
theorem sp_len2 {α : Type} {l : List α} (h : l.length = 2) : ∃ a b, l = [a, b] := by
  match l, h with
  | [a, b], _ => exact ⟨a, b, rfl⟩
theorem span_cells {H : Type} {enc : TypeId × Value → H} {W : World} {n : Nat} {cs : List Value} {y : DataW H × List MemPlace} (h : DataW.trod enc Try.prog W 0 (fun _ => true) true n 38 cs = some y) :
    ∃ r : Sp, cs = [.int .i64 r.fr, .int .i64 r.up] ∧ True := by
  obtain ⟨y0, y1, m, _, hl, e0, e1⟩ := Go.ChangeShapes.trod_struct2 Try.underlying38 h
  rw [cellsSp] at hl
  obtain ⟨c0, c1, rfl⟩ := sp_len2 hl
  simp only [cellsI, List.drop_zero, List.drop_succ_cons, List.take_succ_cons, List.take_zero] at e0 e1
  obtain ⟨k0, g0, _, _⟩ := DataW.trod_int Try.underlying3 e0
  obtain ⟨k1, g1, _, _⟩ := DataW.trod_int Try.underlying3 e1
  simp only [List.cons.injEq, and_true] at g0 g1
  subst g0 g1
  exact ⟨⟨k0, k1⟩, rfl, trivial⟩
theorem open_spanS {H : Type} {enc : TypeId × Value → H} {W : World} {v : Value} {d : DataW H} {p : List MemPlace} (hv : ∃ a len cap, v = .slice a len cap) (h : DataW.Trod enc Try.prog W 0 (fun _ => true) true 22 v d p) :
    ∃ a len cap, ∃ l : List Sp, v = .slice a len cap ∧ Reads W (.slice a len cap) l ∧ True ∧ len ≤ 9223372036854775807 := by
  obtain ⟨a, len, cap, rfl⟩ := hv
  obtain ⟨fuel, hf⟩ := h
  obtain ⟨l, hr, _, hm⟩ := open_rows (fun _ : Sp => True) Try.underlying22 cellsSp (fun n cs y h => span_cells h) hf
  exact ⟨a, len, cap, l, rfl, hr, trivial, hm⟩
end Go.Proofs.Ytbecdaholpiaeaa
