/-
  An entry that came in as an argument, opened.
-/
import Derived.Test.YtgjamikmjknlfaaOpen
import Derived.Test.YtgjamikmjknlfaaInf
namespace Go.Proofs.Ytgjamikmjknlfaa
open Go Go.RowKit Go.ChangeShapes Go.WideShapes

theorem cells33 : Try.prog.cellsOf 61 = 3 := by kernel_rfl
theorem cells9 : Try.prog.cellsOf 9 = 1 := by kernel_rfl
theorem cells3 : Try.prog.cellsOf 3 = 1 := by kernel_rfl
theorem entry_cells {H : Type} {enc : TypeId × Value → H} {W : World} {n : Nat} {cs : List Value} {y : DataW H × List MemPlace} (h : DataW.trod enc Try.prog W 0 (fun _ => true) true n 61 cs = some y) :
    ∃ (t k : Int) (d : ByteArray), cs = [.int .i64 t, .int .i64 k, .string d] ∧ d.size ≤ 9223372036854775807 := by
  obtain ⟨y0, y1, y2, m, _, hl, e0, e1, e2⟩ := Deep.trod_struct3 Try.underlying61 h
  rw [cells33] at hl
  obtain ⟨c0, c1, c2, rfl⟩ := len3 hl
  simp only [cells9, cells3, List.drop_zero, List.drop_succ_cons, List.take_succ_cons, List.take_zero] at e0 e1 e2
  obtain ⟨k0, g0, _, _⟩ := DataW.trod_int Try.underlying3 e0
  obtain ⟨k1, g1, _, _⟩ := DataW.trod_int Try.underlying3 e1
  obtain ⟨s2, g2, _, z2⟩ := DataW.trod_string Try.underlying9 e2
  simp only [List.cons.injEq, and_true] at g0 g1 g2
  subst g0 g1 g2
  exact ⟨k0, k1, s2, rfl, z2⟩
theorem open_entry {H : Type} {enc : TypeId × Value → H} {W : World} {v : Value} {d : DataW H} {p : List MemPlace} (hv : ∃ cs, v = .agg cs ∧ cs.size = Try.prog.cellsOf 61) (h : DataW.Trod enc Try.prog W 0 (fun _ => true) true 61 v d p) :
    ∃ (t k : Int) (d : ByteArray), v = .agg #[.int .i64 t, .int .i64 k, .string d] ∧ d.size ≤ 9223372036854775807 := by
  obtain ⟨cs, rfl, _⟩ := hv
  obtain ⟨fuel, hf⟩ := h
  obtain ⟨t, k, d, he, hs⟩ := entry_cells hf
  refine ⟨t, k, d, ?_, hs⟩
  have e2 : cs.toList = [.int .i64 t, .int .i64 k, .string d] := he
  congr 1
  exact Array.toList_inj.1 e2
end Go.Proofs.Ytgjamikmjknlfaa
