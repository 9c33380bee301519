/-
  A command that came in as an argument, opened.
-/
import Derived.Test.YtkfhmeiiicidaaaDoorRows
import Derived.Test.YtkfhmeiiicidaaaDoorOpen
import Derived.Deep.Strs
import Derived.ProofKit
import Derived.OpenShut
namespace Go.Proofs.YtkfhmeiiicidaaaDoor
open Go Go.RowKit Go.ChangeShapes Go.WideShapes

theorem ccells : Tryd.prog.cellsOf 23 = 8 := by kernel_rfl
theorem ccells9 : Tryd.prog.cellsOf 9 = 1 := by kernel_rfl
theorem ccells3 : Tryd.prog.cellsOf 3 = 1 := by kernel_rfl
theorem ccells4 : Tryd.prog.cellsOf 4 = 1 := by kernel_rfl
theorem len8 {α : Type} {l : List α} (h : l.length = 8) : ∃ a b c d e f g i, l = [a, b, c, d, e, f, g, i] := by
  match l, h with
  | [a, b, c, d, e, f, g, i], _ => exact ⟨a, b, c, d, e, f, g, i, rfl⟩
theorem trod_struct8 {H : Type} {enc : TypeId × Value → H} {P : Program} {w : World} {base : Nat} {spare : Nat → Bool} {held : Bool} {t : TypeId} {f0 f1 f2 f3 f4 f5 f6 f7 : Field} {fuel : Nat} {cs : List Value} {x : DataW H × List MemPlace} (ht : P.underlying t = some (.struct #[f0, f1, f2, f3, f4, f5, f6, f7])) (h : DataW.trod enc P w base spare held fuel t cs = some x) :
    ∃ y0 y1 y2 y3 y4 y5 y6 y7 n, cs.length = P.cellsOf t ∧ DataW.trod enc P w base spare held n f0.type ((cs.drop f0.offset).take (P.cellsOf f0.type)) = some y0 ∧ DataW.trod enc P w base spare held n f1.type ((cs.drop f1.offset).take (P.cellsOf f1.type)) = some y1 ∧ DataW.trod enc P w base spare held n f2.type ((cs.drop f2.offset).take (P.cellsOf f2.type)) = some y2 ∧ DataW.trod enc P w base spare held n f3.type ((cs.drop f3.offset).take (P.cellsOf f3.type)) = some y3 ∧ DataW.trod enc P w base spare held n f4.type ((cs.drop f4.offset).take (P.cellsOf f4.type)) = some y4 ∧ DataW.trod enc P w base spare held n f5.type ((cs.drop f5.offset).take (P.cellsOf f5.type)) = some y5 ∧ DataW.trod enc P w base spare held n f6.type ((cs.drop f6.offset).take (P.cellsOf f6.type)) = some y6 ∧ DataW.trod enc P w base spare held n f7.type ((cs.drop f7.offset).take (P.cellsOf f7.type)) = some y7 := by
  obtain ⟨xs, n, _, rfl, hl, hlen, hf⟩ := DataW.trod_struct ht h
  match xs, hlen with
  | [y0, y1, y2, y3, y4, y5, y6, y7], _ => exact ⟨y0, y1, y2, y3, y4, y5, y6, y7, n, hl, by simpa using hf 0 f0 rfl, by simpa using hf 1 f1 rfl, by simpa using hf 2 f2 rfl, by simpa using hf 3 f3 rfl, by simpa using hf 4 f4 rfl, by simpa using hf 5 f5 rfl, by simpa using hf 6 f6 rfl, by simpa using hf 7 f7 rfl⟩
theorem command_cells {H : Type} {enc : TypeId × Value → H} {W : World} {n : Nat} {cs : List Value} {y : DataW H × List MemPlace} (h : DataW.trod enc Tryd.prog W 0 (fun _ => true) true n 23 cs = some y) :
    ∃ (op tok seq : Int) (text task : ByteArray) (num up : Int) (yes : Bool), cs = [.int .i64 op, .int .i64 tok, .int .i64 seq, .string text, .string task, .int .i64 num, .int .i64 up, .bool yes] ∧ text.size ≤ 9223372036854775807 ∧ task.size ≤ 9223372036854775807 := by
  obtain ⟨y0, y1, y2, y3, y4, y5, y6, y7, m, hl, e0, e1, e2, e3, e4, e5, e6, e7⟩ := trod_struct8 Tryd.underlying23 h
  rw [ccells] at hl
  obtain ⟨c0, c1, c2, c3, c4, c5, c6, c7, rfl⟩ := len8 hl
  simp only [ccells9, ccells3, ccells4, List.drop_zero, List.drop_succ_cons, List.take_succ_cons, List.take_zero] at e0 e1 e2 e3 e4 e5 e6 e7
  obtain ⟨k0, g0, _, _⟩ := DataW.trod_int Tryd.underlying3 e0
  obtain ⟨k1, g1, _, _⟩ := DataW.trod_int Tryd.underlying3 e1
  obtain ⟨k2, g2, _, _⟩ := DataW.trod_int Tryd.underlying3 e2
  obtain ⟨k3, g3, _, z3⟩ := DataW.trod_string Tryd.underlying9 e3
  obtain ⟨k4, g4, _, z4⟩ := DataW.trod_string Tryd.underlying9 e4
  obtain ⟨k5, g5, _, _⟩ := DataW.trod_int Tryd.underlying3 e5
  obtain ⟨k6, g6, _, _⟩ := DataW.trod_int Tryd.underlying3 e6
  obtain ⟨k7, g7, _⟩ := DataW.trod_bool Tryd.underlying4 e7
  simp only [List.cons.injEq, and_true] at g0 g1 g2 g3 g4 g5 g6 g7
  subst g0 g1 g2 g3 g4 g5 g6 g7
  exact ⟨k0, k1, k2, k3, k4, k5, k6, k7, rfl, z3, z4⟩
theorem open_command {H : Type} {enc : TypeId × Value → H} {W : World} {v : Value} {d : DataW H} {p : List MemPlace} (hv : ∃ cs, v = .agg cs ∧ cs.size = Tryd.prog.cellsOf 23) (h : DataW.Trod enc Tryd.prog W 0 (fun _ => true) true 23 v d p) :
    ∃ (op tok seq : Int) (text task : ByteArray) (num up : Int) (yes : Bool), v = .agg #[.int .i64 op, .int .i64 tok, .int .i64 seq, .string text, .string task, .int .i64 num, .int .i64 up, .bool yes] ∧ text.size ≤ 9223372036854775807 ∧ task.size ≤ 9223372036854775807 := by
  obtain ⟨cs, rfl, _⟩ := hv
  obtain ⟨fuel, hf⟩ := h
  obtain ⟨op, tok, seq, text, task, num, up, yes, he, h1, h2⟩ := command_cells hf
  refine ⟨op, tok, seq, text, task, num, up, yes, ?_, h1, h2⟩
  have e2 : cs.toList = [.int .i64 op, .int .i64 tok, .int .i64 seq, .string text, .string task, .int .i64 num, .int .i64 up, .bool yes] := he
  congr 1
  exact Array.toList_inj.1 e2
end Go.Proofs.YtkfhmeiiicidaaaDoor
