/-
  A plan that came in as an argument, opened. A run that came in as an argument, opened. A board that came in as an argument, opened.
-/
import Derived.Test.YtkfhmeiiicidaaaRows
import Derived.Test.YtkfhmeiiicidaaaX9
import Derived.Deep.Strs
import Derived.ProofKit
import Derived.OpenShut
import Derived.Test.YtkfhmeiiicidaaaTot
import Derived.Test.YtkfhmeiiicidaaaSts
import Derived.ChangeSame
import Derived.Test.YtkfhmeiiicidaaaX1
namespace Go.Proofs.Ytkfhmeiiicidaaa
open Go Go.RowKit Go.ChangeShapes Go.WideShapes
set_option linter.unusedVariables false

theorem len5 {α : Type} {l : List α} (h : l.length = 5) : ∃ a b c d e, l = [a, b, c, d, e] := by
  match l, h with
  | [a, b, c, d, e], _ => exact ⟨a, b, c, d, e, rfl⟩
theorem trod_struct5 {H : Type} {enc : TypeId × Value → H} {P : Program} {w : World} {base : Nat} {spare : Nat → Bool} {held : Bool} {t : TypeId} {f0 f1 f2 f3 f4 : Field} {fuel : Nat} {cs : List Value} {x : DataW H × List MemPlace} (ht : P.underlying t = some (.struct #[f0, f1, f2, f3, f4])) (h : DataW.trod enc P w base spare held fuel t cs = some x) :
    ∃ y0 y1 y2 y3 y4 n, cs.length = P.cellsOf t ∧ DataW.trod enc P w base spare held n f0.type ((cs.drop f0.offset).take (P.cellsOf f0.type)) = some y0 ∧
      DataW.trod enc P w base spare held n f1.type ((cs.drop f1.offset).take (P.cellsOf f1.type)) = some y1 ∧ DataW.trod enc P w base spare held n f2.type ((cs.drop f2.offset).take (P.cellsOf f2.type)) = some y2 ∧
      DataW.trod enc P w base spare held n f3.type ((cs.drop f3.offset).take (P.cellsOf f3.type)) = some y3 ∧ DataW.trod enc P w base spare held n f4.type ((cs.drop f4.offset).take (P.cellsOf f4.type)) = some y4 := by
  obtain ⟨xs, n, _, rfl, hl, hlen, hf⟩ := DataW.trod_struct ht h
  match xs, hlen with
  | [y0, y1, y2, y3, y4], _ => exact ⟨y0, y1, y2, y3, y4, n, hl, by simpa using hf 0 f0 rfl, by simpa using hf 1 f1 rfl, by simpa using hf 2 f2 rfl, by simpa using hf 3 f3 rfl, by simpa using hf 4 f4 rfl⟩
instance : Inhabited Ta := ⟨⟨⟨#[]⟩, ⟨#[]⟩, 0, false, []⟩⟩
theorem cellsT : Try.prog.cellsOf 136 = 5 := by kernel_rfl
theorem cellsD : Try.prog.cellsOf 83 = 6 := by kernel_rfl
theorem cellsS : Try.prog.cellsOf 9 = 1 := by kernel_rfl
theorem cellsI : Try.prog.cellsOf 3 = 1 := by kernel_rfl
theorem cellsB : Try.prog.cellsOf 4 = 1 := by kernel_rfl
theorem cellsSS : Try.prog.cellsOf 107 = 1 := by kernel_rfl
theorem cellsTS : Try.prog.cellsOf 81 = 1 := by kernel_rfl
theorem len6 {α : Type} {l : List α} (h : l.length = 6) : ∃ a b c d e f, l = [a, b, c, d, e, f] := by
  match l, h with
  | [a, b, c, d, e, f], _ => exact ⟨a, b, c, d, e, f, rfl⟩
theorem trod_struct6 {H : Type} {enc : TypeId × Value → H} {P : Program} {w : World} {base : Nat} {spare : Nat → Bool} {held : Bool} {t : TypeId} {f0 f1 f2 f3 f4 f5 : Field} {fuel : Nat} {cs : List Value} {x : DataW H × List MemPlace} (ht : P.underlying t = some (.struct #[f0, f1, f2, f3, f4, f5])) (h : DataW.trod enc P w base spare held fuel t cs = some x) :
    ∃ y0 y1 y2 y3 y4 y5 n, cs.length = P.cellsOf t ∧ DataW.trod enc P w base spare held n f0.type ((cs.drop f0.offset).take (P.cellsOf f0.type)) = some y0 ∧
      DataW.trod enc P w base spare held n f1.type ((cs.drop f1.offset).take (P.cellsOf f1.type)) = some y1 ∧ DataW.trod enc P w base spare held n f2.type ((cs.drop f2.offset).take (P.cellsOf f2.type)) = some y2 ∧
      DataW.trod enc P w base spare held n f3.type ((cs.drop f3.offset).take (P.cellsOf f3.type)) = some y3 ∧ DataW.trod enc P w base spare held n f4.type ((cs.drop f4.offset).take (P.cellsOf f4.type)) = some y4 ∧ DataW.trod enc P w base spare held n f5.type ((cs.drop f5.offset).take (P.cellsOf f5.type)) = some y5 := by
  obtain ⟨xs, n, _, rfl, hl, hlen, hf⟩ := DataW.trod_struct ht h
  match xs, hlen with
  | [y0, y1, y2, y3, y4, y5], _ => exact ⟨y0, y1, y2, y3, y4, y5, n, hl, by simpa using hf 0 f0 rfl, by simpa using hf 1 f1 rfl, by simpa using hf 2 f2 rfl, by simpa using hf 3 f3 rfl, by simpa using hf 4 f4 rfl, by simpa using hf 5 f5 rfl⟩
theorem slice_form {H : Type} {enc : TypeId × Value → H} {P : Program} {W : World} {t e : TypeId} {fuel : Nat} {v : Value} {x : DataW H × List MemPlace} (ht : P.underlying t = some (.slice e)) (h : DataW.trod enc P W 0 (fun _ => true) true fuel t [v] = some x) : ∃ a n c, v = .slice a n c := by
  rcases Deep.open_slice ht h with ⟨hcs, _⟩ | ⟨b, len', cap', m, n, D, Pl, hcs, _⟩
  · simp only [List.cons.injEq, and_true] at hcs
    exact ⟨_, _, _, hcs⟩
  · simp only [List.cons.injEq, and_true] at hcs
    exact ⟨_, _, _, hcs⟩
theorem texts_of {H : Type} {enc : TypeId × Value → H} {W : World} {fuel : Nat} {v : Value} {x : DataW H × List MemPlace} (h : DataW.trod enc Try.prog W 0 (fun _ => true) true fuel 107 [v] = some x) :
    ∃ l : List ByteArray, Reads W v l ∧ (∀ s ∈ l, Fit s) ∧ l.length ≤ maxLen := by
  obtain ⟨a, n, c, rfl⟩ := slice_form Try.underlying107 h
  obtain ⟨l, hr, hG, hm⟩ := open_rows (fun s : ByteArray => Fit s) Try.underlying107 cellsS (fun n cs y h => by
    obtain ⟨s, rfl, _, hz⟩ := DataW.trod_string Try.underlying9 h
    exact ⟨s, rfl, hz⟩) h
  exact ⟨l, hr, hG, by rw [← hr.len]; exact hm⟩
theorem task_cells {H : Type} {enc : TypeId × Value → H} {W : World} {n : Nat} {cs : List Value} {y : DataW H × List MemPlace} (h : DataW.trod enc Try.prog W 0 (fun _ => true) true n 136 cs = some y) :
    ∃ r : Tk, cs = Rec.cells r ∧ ∃ t : Ta, OneT W r t ∧ FitT t := by
  obtain ⟨y0, y1, y2, y3, y4, m, hl, e0, e1, e2, e3, e4⟩ := trod_struct5 Try.underlying136 h
  rw [cellsT] at hl
  obtain ⟨c0, c1, c2, c3, c4, rfl⟩ := len5 hl
  simp only [cellsS, cellsI, cellsB, cellsSS, List.drop_zero, List.drop_succ_cons, List.take_succ_cons, List.take_zero] at e0 e1 e2 e3 e4
  obtain ⟨s0, g0, _, z0⟩ := DataW.trod_string Try.underlying9 e0
  obtain ⟨s1, g1, _, z1⟩ := DataW.trod_string Try.underlying9 e1
  obtain ⟨k2, g2, _, _⟩ := DataW.trod_int Try.underlying3 e2
  obtain ⟨b3, g3, _⟩ := DataW.trod_bool Try.underlying4 e3
  obtain ⟨l, hr, hf, hm⟩ := texts_of e4
  simp only [List.cons.injEq, and_true] at g0 g1 g2 g3
  subst g0 g1 g2 g3
  exact ⟨⟨s0, s1, k2, b3, c4⟩, rfl, ⟨s0, s1, k2, b3, l⟩, ⟨rfl, rfl, rfl, rfl, hr⟩, ⟨z0, z1, hm, hf⟩⟩
theorem tasks_of {H : Type} {enc : TypeId × Value → H} {W : World} {fuel : Nat} {v : Value} {x : DataW H × List MemPlace} (h : DataW.trod enc Try.prog W 0 (fun _ => true) true fuel 81 [v] = some x) :
    ∃ (ao : Option Addr) (n cap : Nat) (ts : List Ta), v = .slice ao n cap ∧ Tasks W (.slice ao n cap) ts ∧ (∀ t ∈ ts, FitT t) ∧ n ≤ maxLen := by
  obtain ⟨a, n, c, rfl⟩ := slice_form Try.underlying81 h
  obtain ⟨l, hr, hG, hm⟩ := open_rows (fun r : Tk => ∃ t : Ta, OneT W r t ∧ FitT t) Try.underlying81 cellsT (fun n cs y h => task_cells h) h
  have hl : n = l.length := hr.len
  have hex : ∀ i, i < l.length → ∃ t : Ta, (∀ r, l[i]? = some r → OneT W r t) ∧ FitT t := fun i hi => by
    obtain ⟨t, h1, h2⟩ := hG l[i] (List.getElem_mem hi)
    exact ⟨t, fun r hr => by rw [List.getElem?_eq_getElem hi] at hr; cases hr; exact h1, h2⟩
  obtain ⟨f, hf⟩ := Deep.choose_lt hex
  refine ⟨a, n, c, (List.range l.length).map f, rfl, ⟨l, hr, by simp, fun i t ht => ?_⟩, fun t ht => ?_, hm⟩
  · rw [List.getElem?_map] at ht
    obtain ⟨j, hj, rfl⟩ := Option.map_eq_some_iff.1 ht
    have hi : i < l.length := by
      have := (List.getElem?_eq_some_iff.1 hj).1
      simpa using this
    have : j = i := by rw [List.getElem?_range hi] at hj; exact (Option.some.inj hj).symm
    subst this
    exact ⟨l[j], List.getElem?_eq_getElem hi, (hf j hi).1 _ (List.getElem?_eq_getElem hi)⟩
  · obtain ⟨j, hj, rfl⟩ := List.mem_map.1 ht
    exact (hf j (List.mem_range.1 hj)).2
/-- A plan, opened. -/
theorem open_dag {H : Type} {enc : TypeId × Value → H} {W : World} {v : Value} {d : DataW H} {p : List MemPlace} (hv : ∃ cs, v = .agg cs ∧ cs.size = Try.prog.cellsOf 83) (h : DataW.Trod enc Try.prog W 0 (fun _ => true) true 83 v d p) :
    ∃ (ao : Option Addr) (n cap : Nat) (nm cr : ByteArray) (fr up : Int) (cu : Bool) (ts : List Ta), v = .agg #[.string nm, .string cr, .int .i64 fr, .int .i64 up, .bool cu, .slice ao n cap] ∧ Tasks W (.slice ao n cap) ts ∧ FitD ⟨nm, cr, fr, up, cu, ts⟩ n := by
  obtain ⟨cs, rfl, _⟩ := hv
  obtain ⟨fuel, hf⟩ := h
  obtain ⟨y0, y1, y2, y3, y4, y5, m, hl, e0, e1, e2, e3, e4, e5⟩ := trod_struct6 Try.underlying83 hf
  rw [cellsD] at hl
  obtain ⟨c0, c1, c2, c3, c4, c5, hcs⟩ := len6 hl
  simp only [cellsS, cellsI, cellsB, cellsTS, hcs, List.drop_zero, List.drop_succ_cons, List.take_succ_cons, List.take_zero] at e0 e1 e2 e3 e4 e5
  obtain ⟨s0, g0, _, z0⟩ := DataW.trod_string Try.underlying9 e0
  obtain ⟨s1, g1, _, z1⟩ := DataW.trod_string Try.underlying9 e1
  obtain ⟨k2, g2, _, _⟩ := DataW.trod_int Try.underlying3 e2
  obtain ⟨k3, g3, _, _⟩ := DataW.trod_int Try.underlying3 e3
  obtain ⟨b4, g4, _⟩ := DataW.trod_bool Try.underlying4 e4
  obtain ⟨ao, n, cap, ts, rfl, hT, hF, hm⟩ := tasks_of e5
  simp only [List.cons.injEq, and_true] at g0 g1 g2 g3 g4
  subst g0 g1 g2 g3 g4
  refine ⟨ao, n, cap, s0, s1, k2, k3, b4, ts, ?_, hT, ⟨z0, z1, hm, hF⟩⟩
  congr 1
  exact Array.toList_inj.1 hcs
end Go.Proofs.Ytkfhmeiiicidaaa

namespace Go.Proofs.Ytkfhmeiiicidaaa
open Go Go.RowKit Go.ChangeShapes Go.WideShapes
set_option linter.unusedVariables false

theorem rcellsSt : Try.prog.cellsOf 130 = 4 := by kernel_rfl
theorem rcellsSp : Try.prog.cellsOf 87 = 2 := by kernel_rfl
theorem rcellsR : Try.prog.cellsOf 90 = 5 := by kernel_rfl
theorem rcellsI : Try.prog.cellsOf 3 = 1 := by kernel_rfl
theorem rcellsS : Try.prog.cellsOf 9 = 1 := by kernel_rfl
theorem rcellsSS : Try.prog.cellsOf 88 = 1 := by kernel_rfl
theorem rlen2 {α : Type} {l : List α} (h : l.length = 2) : ∃ a b, l = [a, b] := by
  match l, h with
  | [a, b], _ => exact ⟨a, b, rfl⟩
theorem rlen4 {α : Type} {l : List α} (h : l.length = 4) : ∃ a b c d, l = [a, b, c, d] := by
  match l, h with
  | [a, b, c, d], _ => exact ⟨a, b, c, d, rfl⟩
theorem rlen5 {α : Type} {l : List α} (h : l.length = 5) : ∃ a b c d e, l = [a, b, c, d, e] := by
  match l, h with
  | [a, b, c, d, e], _ => exact ⟨a, b, c, d, e, rfl⟩
theorem rtrod4 {H : Type} {enc : TypeId × Value → H} {P : Program} {w : World} {base : Nat} {spare : Nat → Bool} {held : Bool} {t : TypeId} {f0 f1 f2 f3 : Field} {fuel : Nat} {cs : List Value} {x : DataW H × List MemPlace} (ht : P.underlying t = some (.struct #[f0, f1, f2, f3])) (h : DataW.trod enc P w base spare held fuel t cs = some x) :
    ∃ y0 y1 y2 y3 n, cs.length = P.cellsOf t ∧ DataW.trod enc P w base spare held n f0.type ((cs.drop f0.offset).take (P.cellsOf f0.type)) = some y0 ∧
      DataW.trod enc P w base spare held n f1.type ((cs.drop f1.offset).take (P.cellsOf f1.type)) = some y1 ∧ DataW.trod enc P w base spare held n f2.type ((cs.drop f2.offset).take (P.cellsOf f2.type)) = some y2 ∧
      DataW.trod enc P w base spare held n f3.type ((cs.drop f3.offset).take (P.cellsOf f3.type)) = some y3 := by
  obtain ⟨xs, n, _, rfl, hl, hlen, hf⟩ := DataW.trod_struct ht h
  match xs, hlen with
  | [y0, y1, y2, y3], _ => exact ⟨y0, y1, y2, y3, n, hl, by simpa using hf 0 f0 rfl, by simpa using hf 1 f1 rfl, by simpa using hf 2 f2 rfl, by simpa using hf 3 f3 rfl⟩
theorem state_cells {H : Type} {enc : TypeId × Value → H} {W : World} {n : Nat} {cs : List Value} {y : DataW H × List MemPlace} (h : DataW.trod enc Try.prog W 0 (fun _ => true) true n 130 cs = some y) :
    ∃ r : Sa, cs = Rec.cells r ∧ True := by
  obtain ⟨y0, y1, y2, y3, m, hl, e0, e1, e2, e3⟩ := rtrod4 Try.underlying130 h
  rw [rcellsSt] at hl
  obtain ⟨c0, c1, c2, c3, rfl⟩ := rlen4 hl
  simp only [rcellsI, List.drop_zero, List.drop_succ_cons, List.take_succ_cons, List.take_zero] at e0 e1 e2 e3
  obtain ⟨k0, g0, _, _⟩ := DataW.trod_int Try.underlying3 e0
  obtain ⟨k1, g1, _, _⟩ := DataW.trod_int Try.underlying3 e1
  obtain ⟨k2, g2, _, _⟩ := DataW.trod_int Try.underlying3 e2
  obtain ⟨k3, g3, _, _⟩ := DataW.trod_int Try.underlying3 e3
  simp only [List.cons.injEq, and_true] at g0 g1 g2 g3
  subst g0 g1 g2 g3
  exact ⟨⟨k0, k1, k2, k3⟩, rfl, trivial⟩
theorem rspan_cells {H : Type} {enc : TypeId × Value → H} {W : World} {n : Nat} {cs : List Value} {y : DataW H × List MemPlace} (h : DataW.trod enc Try.prog W 0 (fun _ => true) true n 87 cs = some y) :
    ∃ a b : Int, cs = [.int .i64 a, .int .i64 b] := by
  obtain ⟨y0, y1, m, _, hl, e0, e1⟩ := Go.ChangeShapes.trod_struct2 Try.underlying87 h
  rw [rcellsSp] at hl
  obtain ⟨c0, c1, rfl⟩ := rlen2 hl
  simp only [rcellsI, List.drop_zero, List.drop_succ_cons, List.take_succ_cons, List.take_zero] at e0 e1
  obtain ⟨k0, g0, _, _⟩ := DataW.trod_int Try.underlying3 e0
  obtain ⟨k1, g1, _, _⟩ := DataW.trod_int Try.underlying3 e1
  simp only [List.cons.injEq, and_true] at g0 g1
  subst g0 g1
  exact ⟨k0, k1, rfl⟩
theorem rslice_form {H : Type} {enc : TypeId × Value → H} {P : Program} {W : World} {t e : TypeId} {fuel : Nat} {v : Value} {x : DataW H × List MemPlace} (ht : P.underlying t = some (.slice e)) (h : DataW.trod enc P W 0 (fun _ => true) true fuel t [v] = some x) : ∃ a n c, v = .slice a n c := by
  rcases Deep.open_slice ht h with ⟨hcs, _⟩ | ⟨b, len', cap', m, n, D, Pl, hcs, _⟩
  · simp only [List.cons.injEq, and_true] at hcs
    exact ⟨_, _, _, hcs⟩
  · simp only [List.cons.injEq, and_true] at hcs
    exact ⟨_, _, _, hcs⟩
/-- A run, opened. -/
theorem open_run {H : Type} {enc : TypeId × Value → H} {W : World} {v : Value} {d : DataW H} {p : List MemPlace} (hv : ∃ cs, v = .agg cs ∧ cs.size = Try.prog.cellsOf 90) (h : DataW.Trod enc Try.prog W 0 (fun _ => true) true 90 v d p) :
    ∃ (ro : Option Addr) (rl rc : Nat) (rn : ByteArray) (rf ru re : Int) (st : List Sa), v = .agg #[.string rn, .int .i64 rf, .int .i64 ru, .int .i64 re, .slice ro rl rc] ∧ Reads W (.slice ro rl rc) st ∧ rl ≤ 9223372036854775807 ∧ rn.size ≤ 9223372036854775807 := by
  obtain ⟨cs, rfl, _⟩ := hv
  obtain ⟨fuel, hf⟩ := h
  obtain ⟨y0, y1, y2, y3, m, hl, e0, e1, e2, e3⟩ := rtrod4 Try.underlying90 hf
  rw [rcellsR] at hl
  obtain ⟨c0, c1, c2, c3, c4, hcs⟩ := rlen5 hl
  simp only [rcellsS, rcellsSp, rcellsI, rcellsSS, hcs, List.drop_zero, List.drop_succ_cons, List.take_succ_cons, List.take_zero] at e0 e1 e2 e3
  obtain ⟨s0, g0, _, z0⟩ := DataW.trod_string Try.underlying9 e0
  obtain ⟨a1, b1, g1⟩ := rspan_cells e1
  obtain ⟨k2, g2, _, _⟩ := DataW.trod_int Try.underlying3 e2
  obtain ⟨a, n, c, rfl⟩ := rslice_form Try.underlying88 e3
  obtain ⟨l, hr, _, hm⟩ := open_rows (fun _ : Sa => True) Try.underlying88 rcellsSt (fun n cs y h => state_cells h) e3
  simp only [List.cons.injEq, and_true] at g0 g1 g2
  obtain ⟨g1, g3⟩ := g1
  subst g0 g1 g2 g3
  refine ⟨a, n, c, s0, a1, b1, k2, l, ?_, hr, hm, z0⟩
  congr 1
  exact Array.toList_inj.1 hcs
/-- A span, opened. -/
theorem open_span {H : Type} {enc : TypeId × Value → H} {W : World} {v : Value} {d : DataW H} {p : List MemPlace} (hv : ∃ cs, v = .agg cs ∧ cs.size = Try.prog.cellsOf 87) (h : DataW.Trod enc Try.prog W 0 (fun _ => true) true 87 v d p) :
    ∃ a b : Int, v = .agg #[.int .i64 a, .int .i64 b] := by
  obtain ⟨cs, rfl, _⟩ := hv
  obtain ⟨fuel, hf⟩ := h
  obtain ⟨a, b, e⟩ := rspan_cells hf
  refine ⟨a, b, ?_⟩
  congr 1
  exact Array.toList_inj.1 e
end Go.Proofs.Ytkfhmeiiicidaaa

namespace Go.Proofs.Ytkfhmeiiicidaaa
open Go Go.RowKit Go.ChangeShapes Go.WideShapes
set_option linter.unusedVariables false

theorem cellsSe : Try.prog.cellsOf 79 = 3 := by kernel_rfl
theorem cellsPl : Try.prog.cellsOf 85 = 9 := by kernel_rfl
theorem cellsBd : Try.prog.cellsOf 26 = 5 := by kernel_rfl
theorem cellsSeS : Try.prog.cellsOf 22 = 1 := by kernel_rfl
theorem cellsPlS : Try.prog.cellsOf 23 = 1 := by kernel_rfl
theorem cellsRkS : Try.prog.cellsOf 24 = 1 := by kernel_rfl
theorem len9 {α : Type} {l : List α} (h : l.length = 9) : ∃ a b c d e f g i j, l = [a, b, c, d, e, f, g, i, j] := by
  match l, h with
  | [a, b, c, d, e, f, g, i, j], _ => exact ⟨a, b, c, d, e, f, g, i, j, rfl⟩
theorem rtrod3 {H : Type} {enc : TypeId × Value → H} {P : Program} {w : World} {base : Nat} {spare : Nat → Bool} {held : Bool} {t : TypeId} {f0 f1 f2 : Field} {fuel : Nat} {cs : List Value} {x : DataW H × List MemPlace} (ht : P.underlying t = some (.struct #[f0, f1, f2])) (h : DataW.trod enc P w base spare held fuel t cs = some x) :
    ∃ y0 y1 y2 n, cs.length = P.cellsOf t ∧ DataW.trod enc P w base spare held n f0.type ((cs.drop f0.offset).take (P.cellsOf f0.type)) = some y0 ∧
      DataW.trod enc P w base spare held n f1.type ((cs.drop f1.offset).take (P.cellsOf f1.type)) = some y1 ∧ DataW.trod enc P w base spare held n f2.type ((cs.drop f2.offset).take (P.cellsOf f2.type)) = some y2 := by
  obtain ⟨xs, n, _, rfl, hl, hlen, hf⟩ := DataW.trod_struct ht h
  match xs, hlen with
  | [y0, y1, y2], _ => exact ⟨y0, y1, y2, n, hl, by simpa using hf 0 f0 rfl, by simpa using hf 1 f1 rfl, by simpa using hf 2 f2 rfl⟩
theorem plains_of {κ τ : Type} {R : κ → τ → Prop} : ∀ l : List κ, (∀ r ∈ l, ∃ t, R r t) → ∃ ts : List τ, ts.length = l.length ∧ ∀ (i : Nat) (t : τ), ts[i]? = some t → ∃ r, l[i]? = some r ∧ R r t
  | [], _ => ⟨[], rfl, fun i t h => by simp at h⟩
  | r :: l, h => by
    obtain ⟨t, ht⟩ := h r (List.mem_cons_self ..)
    obtain ⟨ts, h1, h2⟩ := plains_of l (fun x hx => h x (List.mem_cons_of_mem _ hx))
    refine ⟨t :: ts, by simp [h1], fun i u hu => ?_⟩
    cases i with
    | zero => simp at hu; subst hu; exact ⟨r, rfl, ht⟩
    | succ i => simp at hu; obtain ⟨x, hx, ho⟩ := h2 i u hu; exact ⟨x, by simpa using hx, ho⟩
theorem drow_of {κ τ : Type} [Rec κ] {One : World → κ → τ → Prop} {Fit : τ → Prop} {w : World} {v : Value} {l : List κ} (hr : Reads w v l) (hG : ∀ r ∈ l, ∃ t, One w r t ∧ Fit t) : ∃ ts : List τ, DRow One w v ts ∧ ∀ t ∈ ts, Fit t := by
  obtain ⟨ts, h1, h2⟩ := plains_of (R := fun r t => One w r t ∧ Fit t) l hG
  refine ⟨ts, ⟨l, hr, h1.symm, fun i t ht => ?_⟩, fun t ht => ?_⟩
  · obtain ⟨r, hr, ho, _⟩ := h2 i t ht
    exact ⟨r, hr, ho⟩
  · obtain ⟨i, hi⟩ := List.getElem?_of_mem ht
    obtain ⟨r, hr, _, hf⟩ := h2 i t hi
    exact hf
theorem session_cells {H : Type} {enc : TypeId × Value → H} {W : World} {n : Nat} {cs : List Value} {y : DataW H × List MemPlace} (h : DataW.trod enc Try.prog W 0 (fun _ => true) true n 79 cs = some y) :
    ∃ r : Se, cs = Rec.cells r ∧ r.reply.size ≤ 9223372036854775807 := by
  obtain ⟨y0, y1, y2, m, hl, e0, e1, e2⟩ := rtrod3 Try.underlying79 h
  rw [cellsSe] at hl
  obtain ⟨c0, c1, c2, rfl⟩ := len3 hl
  simp only [cellsI, cellsS, List.drop_zero, List.drop_succ_cons, List.take_succ_cons, List.take_zero] at e0 e1 e2
  obtain ⟨k0, g0, _, _⟩ := DataW.trod_int Try.underlying3 e0
  obtain ⟨k1, g1, _, _⟩ := DataW.trod_int Try.underlying3 e1
  obtain ⟨s2, g2, _, z2⟩ := DataW.trod_string Try.underlying9 e2
  simp only [List.cons.injEq, and_true] at g0 g1 g2
  subst g0 g1 g2
  exact ⟨⟨k0, k1, s2⟩, rfl, z2⟩
theorem plan_cells {H : Type} {enc : TypeId × Value → H} {W : World} {n : Nat} {cs : List Value} {y : DataW H × List MemPlace} (h : DataW.trod enc Try.prog W 0 (fun _ => true) true n 85 cs = some y) :
    ∃ r : Pl, cs = Rec.cells r ∧ ∃ p : Po, OnePl W r p ∧ FitP p := by
  obtain ⟨y0, y1, y2, y3, m, hl, e0, e1, e2, e3⟩ := rtrod4 Try.underlying85 h
  rw [cellsPl] at hl
  obtain ⟨c0, c1, c2, c3, c4, c5, c6, c7, c8, rfl⟩ := len9 hl
  simp only [cellsD, cellsI, cellsB, List.drop_zero, List.drop_succ_cons, List.take_succ_cons, List.take_zero] at e0 e1 e2 e3
  obtain ⟨x0, x1, x2, x3, x4, x5, m', hl', d0, d1, d2, d3, d4, d5⟩ := trod_struct6 Try.underlying83 e0
  simp only [cellsS, cellsI, cellsB, cellsTS, List.drop_zero, List.drop_succ_cons, List.take_succ_cons, List.take_zero] at d0 d1 d2 d3 d4 d5
  obtain ⟨s0, g0, _, z0⟩ := DataW.trod_string Try.underlying9 d0
  obtain ⟨s1, g1, _, z1⟩ := DataW.trod_string Try.underlying9 d1
  obtain ⟨k2, g2, _, _⟩ := DataW.trod_int Try.underlying3 d2
  obtain ⟨k3, g3, _, _⟩ := DataW.trod_int Try.underlying3 d3
  obtain ⟨b4, g4, _⟩ := DataW.trod_bool Try.underlying4 d4
  obtain ⟨ao, k, cap, ts, hv, hT, hF, hm⟩ := tasks_of d5
  obtain ⟨b6, g6, _⟩ := DataW.trod_bool Try.underlying4 e1
  obtain ⟨k7, g7, _, _⟩ := DataW.trod_int Try.underlying3 e2
  obtain ⟨k8, g8, _, _⟩ := DataW.trod_int Try.underlying3 e3
  simp only [List.cons.injEq, and_true] at g0 g1 g2 g3 g4 g6 g7 g8
  subst g0 g1 g2 g3 g4 g6 g7 g8 hv
  have hlen : ts.length = k := by
    obtain ⟨ao', cap', e⟩ := hT.slice
    injection e with _ e2 _
    exact e2.symm
  exact ⟨⟨s0, s1, k2, k3, b4, .slice ao k cap, b6, k7, k8⟩, rfl, ⟨s0, s1, k2, k3, b4, ts, b6, k7, k8⟩, ⟨rfl, rfl, rfl, rfl, rfl, hT, rfl, rfl, rfl⟩, ⟨z0, z1, by rw [hlen]; exact hm, hF⟩⟩
theorem brun_cells {H : Type} {enc : TypeId × Value → H} {W : World} {n : Nat} {cs : List Value} {y : DataW H × List MemPlace} (h : DataW.trod enc Try.prog W 0 (fun _ => true) true n 90 cs = some y) :
    ∃ r : Rk, cs = Rec.cells r ∧ ∃ p : Rr, OneRk W r p ∧ FitR p := by
  obtain ⟨y0, y1, y2, y3, m, hl, e0, e1, e2, e3⟩ := rtrod4 Try.underlying90 h
  rw [rcellsR] at hl
  obtain ⟨c0, c1, c2, c3, c4, rfl⟩ := rlen5 hl
  simp only [rcellsS, rcellsSp, rcellsI, rcellsSS, List.drop_zero, List.drop_succ_cons, List.take_succ_cons, List.take_zero] at e0 e1 e2 e3
  obtain ⟨s0, g0, _, z0⟩ := DataW.trod_string Try.underlying9 e0
  obtain ⟨a1, b1, g1⟩ := rspan_cells e1
  obtain ⟨k2, g2, _, _⟩ := DataW.trod_int Try.underlying3 e2
  obtain ⟨a, k, c, rfl⟩ := rslice_form Try.underlying88 e3
  obtain ⟨l, hr, _, hm⟩ := open_rows (fun _ : Sa => True) Try.underlying88 rcellsSt (fun n cs y h => state_cells h) e3
  simp only [List.cons.injEq, and_true] at g0 g1 g2
  obtain ⟨g1, g3⟩ := g1
  subst g0 g1 g2 g3
  exact ⟨⟨s0, a1, b1, k2, .slice a k c⟩, rfl, ⟨s0, a1, b1, k2, l⟩, ⟨rfl, rfl, rfl, rfl, hr⟩, ⟨z0, by rw [← hr.len]; exact hm⟩⟩
/-- A board, opened. -/
theorem open_board {H : Type} {enc : TypeId × Value → H} {W : World} {v : Value} {d : DataW H} {p : List MemPlace} (hv : ∃ cs, v = .agg cs ∧ cs.size = Try.prog.cellsOf 26) (h : DataW.Trod enc Try.prog W 0 (fun _ => true) true 26 v d p) :
    ∃ (so po ro : Option Addr) (sn sc pn pc rn rc : Nat) (ck tk : Int) (b : Bo), v = .agg #[.slice so sn sc, .slice po pn pc, .slice ro rn rc, .int .i64 ck, .int .i64 tk] ∧ BdA W (.slice so sn sc) (.slice po pn pc) (.slice ro rn rc) b ∧ FitB b := by
  obtain ⟨cs, rfl, _⟩ := hv
  obtain ⟨fuel, hf⟩ := h
  obtain ⟨y0, y1, y2, y3, y4, m, hl, e0, e1, e2, e3, e4⟩ := trod_struct5 Try.underlying26 hf
  rw [cellsBd] at hl
  obtain ⟨c0, c1, c2, c3, c4, hcs⟩ := len5 hl
  simp only [cellsSeS, cellsPlS, cellsRkS, cellsI, hcs, List.drop_zero, List.drop_succ_cons, List.take_succ_cons, List.take_zero] at e0 e1 e2 e3 e4
  obtain ⟨so, sn, sc, rfl⟩ := slice_form Try.underlying22 e0
  obtain ⟨po, pn, pc, rfl⟩ := slice_form Try.underlying23 e1
  obtain ⟨ro, rn, rc, rfl⟩ := slice_form Try.underlying24 e2
  obtain ⟨k3, g3, _, _⟩ := DataW.trod_int Try.underlying3 e3
  obtain ⟨k4, g4, _, _⟩ := DataW.trod_int Try.underlying3 e4
  simp only [List.cons.injEq, and_true] at g3 g4
  subst g3 g4
  obtain ⟨ls, hs, hsG, hsm⟩ := open_rows (fun s : Se => s.reply.size ≤ 9223372036854775807) Try.underlying22 cellsSe (fun n cs y h => session_cells h) e0
  obtain ⟨lp, hp, hpG, hpm⟩ := open_rows (fun r : Pl => ∃ p : Po, OnePl W r p ∧ FitP p) Try.underlying23 cellsPl (fun n cs y h => plan_cells h) e1
  obtain ⟨lr, hr, hrG, hrm⟩ := open_rows (fun r : Rk => ∃ p : Rr, OneRk W r p ∧ FitR p) Try.underlying24 rcellsR (fun n cs y h => brun_cells h) e2
  obtain ⟨ps, hP, hPf⟩ := drow_of hp hpG
  obtain ⟨rs, hR, hRf⟩ := drow_of hr hrG
  refine ⟨so, po, ro, sn, sc, pn, pc, rn, rc, k3, k4, ⟨ls, ps, rs⟩, ?_, ⟨hs, hP, hR⟩, ⟨by rw [← hs.len]; exact hsm, hsG, by rw [hP.len]; exact hpm, hPf, by rw [hR.len]; exact hrm, hRf⟩⟩
  congr 1
  exact Array.toList_inj.1 hcs
end Go.Proofs.Ytkfhmeiiicidaaa
