/-
  A plan that came in as an argument, opened.
-/
import Derived.Test.YtjmclcjhimcehaaRows
import Derived.Test.YtjmclcjhimcehaaOn
import Derived.Deep.Strs
import Derived.ProofKit
import Derived.OpenShut
import Derived.Test.YtjmclcjhimcehaaTot
namespace Go.Proofs.Ytjmclcjhimcehaa
open Go Go.RowKit Go.ChangeShapes Go.WideShapes
set_option linter.unusedVariables false

theorem len5 {α : Type} {l : List α} (h : l.length = 5) : ∃ a b c d e, l = [a, b, c, d, e] := by
  match l, h with
  | [a, b, c, d, e], _ => exact ⟨a, b, c, d, e, rfl⟩
theorem trod_struct5 {H : Type} {enc : TypeId × Value → H} {P : Program} {w : World} {base : Nat} {spare : Nat → Bool} {held : Bool} {t : TypeId} {f0 f1 f2 f3 f4 : Field} {fuel : Nat} {cs : List Value} {x : DataW H × List MemPlace} (ht : P.underlying t = some (.struct #[f0, f1, f2, f3, f4])) (h : DataW.trod enc P w base spare held fuel t cs = some x) :
    ∃ y0 y1 y2 y3 y4 n, cs.length = P.cellsOf t ∧ DataW.trod enc P w base spare held n f0.type ((cs.drop f0.offset).take (P.cellsOf f0.type)) = some y0 ∧
      DataW.trod enc P w base spare held n f1.type ((cs.drop f1.offset).take (P.cellsOf f1.type)) = some y1 ∧ DataW.trod enc P w base spare held n f2.type ((cs.drop f2.offset).take (P.cellsOf f2.type)) = some y2 ∧
      DataW.trod enc P w base spare held n f3.type ((cs.drop f3.offset).take (P.cellsOf f3.type)) = some y3 ∧ DataW.trod enc P w base spare held n f4.type ((cs.drop f4.offset).take (P.cellsOf f4.type)) = some y4 := by
  obtain ⟨xs, n, _, rfl, hl, hlen, hf⟩ := DataW.trod_struct ht h
  match xs, hlen with
  | [y0, y1, y2, y3, y4], _ => exact ⟨y0, y1, y2, y3, y4, n, hl, by simpa using hf 0 f0 rfl, by simpa using hf 1 f1 rfl, by simpa using hf 2 f2 rfl, by simpa using hf 3 f3 rfl, by simpa using hf 4 f4 rfl⟩
instance : Inhabited Ta := ⟨⟨⟨#[]⟩, ⟨#[]⟩, 0, false, []⟩⟩
theorem cellsT : Try.prog.cellsOf 130 = 5 := by kernel_rfl
theorem cellsD : Try.prog.cellsOf 90 = 6 := by kernel_rfl
theorem cellsS : Try.prog.cellsOf 9 = 1 := by kernel_rfl
theorem cellsI : Try.prog.cellsOf 3 = 1 := by kernel_rfl
theorem cellsB : Try.prog.cellsOf 4 = 1 := by kernel_rfl
theorem cellsSS : Try.prog.cellsOf 70 = 1 := by kernel_rfl
theorem cellsTS : Try.prog.cellsOf 88 = 1 := by kernel_rfl
theorem len6 {α : Type} {l : List α} (h : l.length = 6) : ∃ a b c d e f, l = [a, b, c, d, e, f] := by
  match l, h with
  | [a, b, c, d, e, f], _ => exact ⟨a, b, c, d, e, f, rfl⟩
theorem trod_struct6 {H : Type} {enc : TypeId × Value → H} {P : Program} {w : World} {base : Nat} {spare : Nat → Bool} {held : Bool} {t : TypeId} {f0 f1 f2 f3 f4 f5 : Field} {fuel : Nat} {cs : List Value} {x : DataW H × List MemPlace} (ht : P.underlying t = some (.struct #[f0, f1, f2, f3, f4, f5])) (h : DataW.trod enc P w base spare held fuel t cs = some x) :
    ∃ y0 y1 y2 y3 y4 y5 n, cs.length = P.cellsOf t ∧ DataW.trod enc P w base spare held n f0.type ((cs.drop f0.offset).take (P.cellsOf f0.type)) = some y0 ∧
      DataW.trod enc P w base spare held n f1.type ((cs.drop f1.offset).take (P.cellsOf f1.type)) = some y1 ∧ DataW.trod enc P w base spare held n f2.type ((cs.drop f2.offset).take (P.cellsOf f2.type)) = some y2 ∧
      DataW.trod enc P w base spare held n f3.type ((cs.drop f3.offset).take (P.cellsOf f3.type)) = some y3 ∧ DataW.trod enc P w base spare held n f4.type ((cs.drop f4.offset).take (P.cellsOf f4.type)) = some y4 ∧ DataW.trod enc P w base spare held n f5.type ((cs.drop f5.offset).take (P.cellsOf f5.type)) = some y5 := by
  obtain ⟨xs, n, _, rfl, hl, hlen, hf⟩ := DataW.trod_struct ht h
  match xs, hlen with
  | [y0, y1, y2, y3, y4, y5], _ => exact ⟨y0, y1, y2, y3, y4, y5, n, hl, by simpa using hf 0 f0 rfl, by simpa using hf 1 f1 rfl, by simpa using hf 2 f2 rfl, by simpa using hf 3 f3 rfl, by simpa using hf 4 f4 rfl, by simpa using hf 5 f5 rfl⟩
theorem slice_form {H : Type} {enc : TypeId × Value → H} {P : Program} {W : World} {t e : TypeId} {fuel : Nat} {v : Value} {x : DataW H × List MemPlace} (ht : P.underlying t = some (.slice e)) (h : DataW.trod enc P W 0 (fun _ => true) true fuel t [v] = some x) : ∃ a n c, v = .slice a n c := by
  rcases Deep.open_slice ht h with ⟨hcs, _⟩ | ⟨b, len', cap', m, n, D, Pl, hcs, _⟩
  · simp only [List.cons.injEq, and_true] at hcs
    exact ⟨_, _, _, hcs⟩
  · simp only [List.cons.injEq, and_true] at hcs
    exact ⟨_, _, _, hcs⟩
theorem texts_of {H : Type} {enc : TypeId × Value → H} {W : World} {fuel : Nat} {v : Value} {x : DataW H × List MemPlace} (h : DataW.trod enc Try.prog W 0 (fun _ => true) true fuel 70 [v] = some x) :
    ∃ l : List ByteArray, Reads W v l ∧ (∀ s ∈ l, Fit s) ∧ l.length ≤ maxLen := by
  obtain ⟨a, n, c, rfl⟩ := slice_form Try.underlying70 h
  obtain ⟨l, hr, hG, hm⟩ := open_rows (fun s : ByteArray => Fit s) Try.underlying70 cellsS (fun n cs y h => by
    obtain ⟨s, rfl, _, hz⟩ := DataW.trod_string Try.underlying9 h
    exact ⟨s, rfl, hz⟩) h
  exact ⟨l, hr, hG, by rw [← hr.len]; exact hm⟩
theorem task_cells {H : Type} {enc : TypeId × Value → H} {W : World} {n : Nat} {cs : List Value} {y : DataW H × List MemPlace} (h : DataW.trod enc Try.prog W 0 (fun _ => true) true n 130 cs = some y) :
    ∃ r : Tk, cs = Rec.cells r ∧ ∃ t : Ta, OneT W r t ∧ FitT t := by
  obtain ⟨y0, y1, y2, y3, y4, m, hl, e0, e1, e2, e3, e4⟩ := trod_struct5 Try.underlying130 h
  rw [cellsT] at hl
  obtain ⟨c0, c1, c2, c3, c4, rfl⟩ := len5 hl
  simp only [cellsS, cellsI, cellsB, cellsSS, List.drop_zero, List.drop_succ_cons, List.take_succ_cons, List.take_zero] at e0 e1 e2 e3 e4
  obtain ⟨s0, g0, _, z0⟩ := DataW.trod_string Try.underlying9 e0
  obtain ⟨s1, g1, _, z1⟩ := DataW.trod_string Try.underlying9 e1
  obtain ⟨k2, g2, _, _⟩ := DataW.trod_int Try.underlying3 e2
  obtain ⟨b3, g3, _⟩ := DataW.trod_bool Try.underlying4 e3
  obtain ⟨l, hr, hf, hm⟩ := texts_of e4
  simp only [List.cons.injEq, and_true] at g0 g1 g2 g3
  subst g0 g1 g2 g3
  exact ⟨⟨s0, s1, k2, b3, c4⟩, rfl, ⟨s0, s1, k2, b3, l⟩, ⟨rfl, rfl, rfl, rfl, hr⟩, ⟨z0, z1, hm, hf⟩⟩
theorem tasks_of {H : Type} {enc : TypeId × Value → H} {W : World} {fuel : Nat} {v : Value} {x : DataW H × List MemPlace} (h : DataW.trod enc Try.prog W 0 (fun _ => true) true fuel 88 [v] = some x) :
    ∃ (ao : Option Addr) (n cap : Nat) (ts : List Ta), v = .slice ao n cap ∧ Tasks W (.slice ao n cap) ts ∧ (∀ t ∈ ts, FitT t) ∧ n ≤ maxLen := by
  obtain ⟨a, n, c, rfl⟩ := slice_form Try.underlying88 h
  obtain ⟨l, hr, hG, hm⟩ := open_rows (fun r : Tk => ∃ t : Ta, OneT W r t ∧ FitT t) Try.underlying88 cellsT (fun n cs y h => task_cells h) h
  have hl : n = l.length := hr.len
  have hex : ∀ i, i < l.length → ∃ t : Ta, (∀ r, l[i]? = some r → OneT W r t) ∧ FitT t := fun i hi => by
    obtain ⟨t, h1, h2⟩ := hG l[i] (List.getElem_mem hi)
    exact ⟨t, fun r hr => by rw [List.getElem?_eq_getElem hi] at hr; cases hr; exact h1, h2⟩
  obtain ⟨f, hf⟩ := Deep.choose_lt hex
  refine ⟨a, n, c, (List.range l.length).map f, rfl, ⟨l, hr, by simp, fun i t ht => ?_⟩, fun t ht => ?_, hm⟩
  · rw [List.getElem?_map] at ht
    obtain ⟨j, hj, rfl⟩ := Option.map_eq_some_iff.1 ht
    have hi : i < l.length := by
      have := (List.getElem?_eq_some_iff.1 hj).1
      simpa using this
    have : j = i := by rw [List.getElem?_range hi] at hj; exact (Option.some.inj hj).symm
    subst this
    exact ⟨l[j], List.getElem?_eq_getElem hi, (hf j hi).1 _ (List.getElem?_eq_getElem hi)⟩
  · obtain ⟨j, hj, rfl⟩ := List.mem_map.1 ht
    exact (hf j (List.mem_range.1 hj)).2
/-- A plan, opened. -/
theorem open_dag {H : Type} {enc : TypeId × Value → H} {W : World} {v : Value} {d : DataW H} {p : List MemPlace} (hv : ∃ cs, v = .agg cs ∧ cs.size = Try.prog.cellsOf 90) (h : DataW.Trod enc Try.prog W 0 (fun _ => true) true 90 v d p) :
    ∃ (ao : Option Addr) (n cap : Nat) (nm cr : ByteArray) (fr up : Int) (cu : Bool) (ts : List Ta), v = .agg #[.string nm, .string cr, .int .i64 fr, .int .i64 up, .bool cu, .slice ao n cap] ∧ Tasks W (.slice ao n cap) ts ∧ FitD ⟨nm, cr, fr, up, cu, ts⟩ n := by
  obtain ⟨cs, rfl, _⟩ := hv
  obtain ⟨fuel, hf⟩ := h
  obtain ⟨y0, y1, y2, y3, y4, y5, m, hl, e0, e1, e2, e3, e4, e5⟩ := trod_struct6 Try.underlying90 hf
  rw [cellsD] at hl
  obtain ⟨c0, c1, c2, c3, c4, c5, hcs⟩ := len6 hl
  simp only [cellsS, cellsI, cellsB, cellsTS, hcs, List.drop_zero, List.drop_succ_cons, List.take_succ_cons, List.take_zero] at e0 e1 e2 e3 e4 e5
  obtain ⟨s0, g0, _, z0⟩ := DataW.trod_string Try.underlying9 e0
  obtain ⟨s1, g1, _, z1⟩ := DataW.trod_string Try.underlying9 e1
  obtain ⟨k2, g2, _, _⟩ := DataW.trod_int Try.underlying3 e2
  obtain ⟨k3, g3, _, _⟩ := DataW.trod_int Try.underlying3 e3
  obtain ⟨b4, g4, _⟩ := DataW.trod_bool Try.underlying4 e4
  obtain ⟨ao, n, cap, ts, rfl, hT, hF, hm⟩ := tasks_of e5
  simp only [List.cons.injEq, and_true] at g0 g1 g2 g3 g4
  subst g0 g1 g2 g3 g4
  refine ⟨ao, n, cap, s0, s1, k2, k3, b4, ts, ?_, hT, ⟨z0, z1, hm, hF⟩⟩
  congr 1
  exact Array.toList_inj.1 hcs
end Go.Proofs.Ytjmclcjhimcehaa
