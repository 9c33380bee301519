/-
  A run that came in as an argument, opened.
-/
import Derived.Test.YtjmclcjhimcehaaSts
import Derived.Test.YtjmclcjhimcehaaOpen
import Derived.ChangeSame
namespace Go.Proofs.Ytjmclcjhimcehaa
open Go Go.RowKit Go.ChangeShapes Go.WideShapes
set_option linter.unusedVariables false

theorem rcellsSt : Try.prog.cellsOf 127 = 4 := by kernel_rfl
theorem rcellsSp : Try.prog.cellsOf 94 = 2 := by kernel_rfl
theorem rcellsR : Try.prog.cellsOf 97 = 5 := by kernel_rfl
theorem rcellsI : Try.prog.cellsOf 3 = 1 := by kernel_rfl
theorem rcellsS : Try.prog.cellsOf 9 = 1 := by kernel_rfl
theorem rcellsSS : Try.prog.cellsOf 95 = 1 := by kernel_rfl
theorem rlen2 {α : Type} {l : List α} (h : l.length = 2) : ∃ a b, l = [a, b] := by
  match l, h with
  | [a, b], _ => exact ⟨a, b, rfl⟩
theorem rlen4 {α : Type} {l : List α} (h : l.length = 4) : ∃ a b c d, l = [a, b, c, d] := by
  match l, h with
  | [a, b, c, d], _ => exact ⟨a, b, c, d, rfl⟩
theorem rlen5 {α : Type} {l : List α} (h : l.length = 5) : ∃ a b c d e, l = [a, b, c, d, e] := by
  match l, h with
  | [a, b, c, d, e], _ => exact ⟨a, b, c, d, e, rfl⟩
theorem rtrod4 {H : Type} {enc : TypeId × Value → H} {P : Program} {w : World} {base : Nat} {spare : Nat → Bool} {held : Bool} {t : TypeId} {f0 f1 f2 f3 : Field} {fuel : Nat} {cs : List Value} {x : DataW H × List MemPlace} (ht : P.underlying t = some (.struct #[f0, f1, f2, f3])) (h : DataW.trod enc P w base spare held fuel t cs = some x) :
    ∃ y0 y1 y2 y3 n, cs.length = P.cellsOf t ∧ DataW.trod enc P w base spare held n f0.type ((cs.drop f0.offset).take (P.cellsOf f0.type)) = some y0 ∧
      DataW.trod enc P w base spare held n f1.type ((cs.drop f1.offset).take (P.cellsOf f1.type)) = some y1 ∧ DataW.trod enc P w base spare held n f2.type ((cs.drop f2.offset).take (P.cellsOf f2.type)) = some y2 ∧
      DataW.trod enc P w base spare held n f3.type ((cs.drop f3.offset).take (P.cellsOf f3.type)) = some y3 := by
  obtain ⟨xs, n, _, rfl, hl, hlen, hf⟩ := DataW.trod_struct ht h
  match xs, hlen with
  | [y0, y1, y2, y3], _ => exact ⟨y0, y1, y2, y3, n, hl, by simpa using hf 0 f0 rfl, by simpa using hf 1 f1 rfl, by simpa using hf 2 f2 rfl, by simpa using hf 3 f3 rfl⟩
theorem state_cells {H : Type} {enc : TypeId × Value → H} {W : World} {n : Nat} {cs : List Value} {y : DataW H × List MemPlace} (h : DataW.trod enc Try.prog W 0 (fun _ => true) true n 127 cs = some y) :
    ∃ r : Sa, cs = Rec.cells r ∧ True := by
  obtain ⟨y0, y1, y2, y3, m, hl, e0, e1, e2, e3⟩ := rtrod4 Try.underlying127 h
  rw [rcellsSt] at hl
  obtain ⟨c0, c1, c2, c3, rfl⟩ := rlen4 hl
  simp only [rcellsI, List.drop_zero, List.drop_succ_cons, List.take_succ_cons, List.take_zero] at e0 e1 e2 e3
  obtain ⟨k0, g0, _, _⟩ := DataW.trod_int Try.underlying3 e0
  obtain ⟨k1, g1, _, _⟩ := DataW.trod_int Try.underlying3 e1
  obtain ⟨k2, g2, _, _⟩ := DataW.trod_int Try.underlying3 e2
  obtain ⟨k3, g3, _, _⟩ := DataW.trod_int Try.underlying3 e3
  simp only [List.cons.injEq, and_true] at g0 g1 g2 g3
  subst g0 g1 g2 g3
  exact ⟨⟨k0, k1, k2, k3⟩, rfl, trivial⟩
theorem rspan_cells {H : Type} {enc : TypeId × Value → H} {W : World} {n : Nat} {cs : List Value} {y : DataW H × List MemPlace} (h : DataW.trod enc Try.prog W 0 (fun _ => true) true n 94 cs = some y) :
    ∃ a b : Int, cs = [.int .i64 a, .int .i64 b] := by
  obtain ⟨y0, y1, m, _, hl, e0, e1⟩ := Go.ChangeShapes.trod_struct2 Try.underlying94 h
  rw [rcellsSp] at hl
  obtain ⟨c0, c1, rfl⟩ := rlen2 hl
  simp only [rcellsI, List.drop_zero, List.drop_succ_cons, List.take_succ_cons, List.take_zero] at e0 e1
  obtain ⟨k0, g0, _, _⟩ := DataW.trod_int Try.underlying3 e0
  obtain ⟨k1, g1, _, _⟩ := DataW.trod_int Try.underlying3 e1
  simp only [List.cons.injEq, and_true] at g0 g1
  subst g0 g1
  exact ⟨k0, k1, rfl⟩
theorem rslice_form {H : Type} {enc : TypeId × Value → H} {P : Program} {W : World} {t e : TypeId} {fuel : Nat} {v : Value} {x : DataW H × List MemPlace} (ht : P.underlying t = some (.slice e)) (h : DataW.trod enc P W 0 (fun _ => true) true fuel t [v] = some x) : ∃ a n c, v = .slice a n c := by
  rcases Deep.open_slice ht h with ⟨hcs, _⟩ | ⟨b, len', cap', m, n, D, Pl, hcs, _⟩
  · simp only [List.cons.injEq, and_true] at hcs
    exact ⟨_, _, _, hcs⟩
  · simp only [List.cons.injEq, and_true] at hcs
    exact ⟨_, _, _, hcs⟩
/-- A run, opened. -/
theorem open_run {H : Type} {enc : TypeId × Value → H} {W : World} {v : Value} {d : DataW H} {p : List MemPlace} (hv : ∃ cs, v = .agg cs ∧ cs.size = Try.prog.cellsOf 97) (h : DataW.Trod enc Try.prog W 0 (fun _ => true) true 97 v d p) :
    ∃ (ro : Option Addr) (rl rc : Nat) (rn : ByteArray) (rf ru re : Int) (st : List Sa), v = .agg #[.string rn, .int .i64 rf, .int .i64 ru, .int .i64 re, .slice ro rl rc] ∧ Reads W (.slice ro rl rc) st ∧ rl ≤ 9223372036854775807 ∧ rn.size ≤ 9223372036854775807 := by
  obtain ⟨cs, rfl, _⟩ := hv
  obtain ⟨fuel, hf⟩ := h
  obtain ⟨y0, y1, y2, y3, m, hl, e0, e1, e2, e3⟩ := rtrod4 Try.underlying97 hf
  rw [rcellsR] at hl
  obtain ⟨c0, c1, c2, c3, c4, hcs⟩ := rlen5 hl
  simp only [rcellsS, rcellsSp, rcellsI, rcellsSS, hcs, List.drop_zero, List.drop_succ_cons, List.take_succ_cons, List.take_zero] at e0 e1 e2 e3
  obtain ⟨s0, g0, _, z0⟩ := DataW.trod_string Try.underlying9 e0
  obtain ⟨a1, b1, g1⟩ := rspan_cells e1
  obtain ⟨k2, g2, _, _⟩ := DataW.trod_int Try.underlying3 e2
  obtain ⟨a, n, c, rfl⟩ := rslice_form Try.underlying95 e3
  obtain ⟨l, hr, _, hm⟩ := open_rows (fun _ : Sa => True) Try.underlying95 rcellsSt (fun n cs y h => state_cells h) e3
  simp only [List.cons.injEq, and_true] at g0 g1 g2
  obtain ⟨g1, g3⟩ := g1
  subst g0 g1 g2 g3
  refine ⟨a, n, c, s0, a1, b1, k2, l, ?_, hr, hm, z0⟩
  congr 1
  exact Array.toList_inj.1 hcs
/-- A span, opened. -/
theorem open_span {H : Type} {enc : TypeId × Value → H} {W : World} {v : Value} {d : DataW H} {p : List MemPlace} (hv : ∃ cs, v = .agg cs ∧ cs.size = Try.prog.cellsOf 94) (h : DataW.Trod enc Try.prog W 0 (fun _ => true) true 94 v d p) :
    ∃ a b : Int, v = .agg #[.int .i64 a, .int .i64 b] := by
  obtain ⟨cs, rfl, _⟩ := hv
  obtain ⟨fuel, hf⟩ := h
  obtain ⟨a, b, e⟩ := rspan_cells hf
  refine ⟨a, b, ?_⟩
  congr 1
  exact Array.toList_inj.1 e
end Go.Proofs.Ytjmclcjhimcehaa
