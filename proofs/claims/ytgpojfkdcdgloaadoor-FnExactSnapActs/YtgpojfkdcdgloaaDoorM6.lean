/-
  Numbers that came in as an argument, opened. A snapshot that came in as an argument, opened.
-/
import Derived.Test.YtgpojfkdcdgloaaDoorRi
import Derived.Test.YtgpojfkdcdgloaaDoorOpen
import Derived.Lib.SmallJoins
namespace Go.Proofs.YtgpojfkdcdgloaaDoor
open Go Go.RowKit Go.ChangeShapes Go.WideShapes

theorem cells3' : Tryd.prog.cellsOf 3 = 1 := by kernel_rfl
theorem open_intS {H : Type} {enc : TypeId × Value → H} {W : World} {v : Value} {d : DataW H} {p : List MemPlace} (hv : ∃ a len cap, v = .slice a len cap) (h : DataW.Trod enc Tryd.prog W 0 (fun _ => true) true 24 v d p) :
    ∃ a len cap, ∃ l : List Int, v = .slice a len cap ∧ Reads W (.slice a len cap) l ∧ True ∧ len ≤ 9223372036854775807 := by
  obtain ⟨a, len, cap, rfl⟩ := hv
  obtain ⟨fuel, hf⟩ := h
  obtain ⟨l, hr, _, hm⟩ := open_rows (fun _ : Int => True) Tryd.underlying24 cells3' (fun n cs y h => by
    obtain ⟨k, rfl, _, _⟩ := DataW.trod_int Tryd.underlying3 h
    exact ⟨k, rfl, trivial⟩) hf
  exact ⟨a, len, cap, l, rfl, hr, trivial, hm⟩
end Go.Proofs.YtgpojfkdcdgloaaDoor

namespace Go.Proofs.YtgpojfkdcdgloaaDoor
open Go Go.RowKit Go.ChangeShapes Go.WideShapes

theorem cellsSn : Tryd.prog.cellsOf 26 = 4 := by kernel_rfl
theorem cellsSl : Tryd.prog.cellsOf 24 = 1 := by kernel_rfl
theorem cellsS9 : Tryd.prog.cellsOf 9 = 1 := by kernel_rfl
theorem open_snap {H : Type} {enc : TypeId × Value → H} {W : World} {v : Value} {d : DataW H} {p : List MemPlace} (hv : ∃ cs, v = .agg cs ∧ cs.size = Tryd.prog.cellsOf 26) (h : DataW.Trod enc Tryd.prog W 0 (fun _ => true) true 26 v d p) :
    ∃ (i t : Int) (a : Option Addr) (k c : Nat) (l : List Int) (b : ByteArray), v = .agg #[.int .i64 i, .int .i64 t, .slice a k c, .string b] ∧ Reads W (.slice a k c) l ∧ k ≤ 9223372036854775807 ∧ b.size ≤ 9223372036854775807 := by
  obtain ⟨cs, rfl, _⟩ := hv
  obtain ⟨fuel, hf⟩ := h
  obtain ⟨y0, y1, y2, y3, m, _, hl, e0, e1, e2, e3⟩ := Go.Joins.trod_struct4 Tryd.underlying26 hf
  rw [cellsSn] at hl
  obtain ⟨c0, c1, c2, c3, hcs⟩ := len4 hl
  simp only [cellsSl, cellsS9, cells3', hcs, List.drop_zero, List.drop_succ_cons, List.take_succ_cons, List.take_zero] at e0 e1 e2 e3
  obtain ⟨k0, g0, _, _⟩ := DataW.trod_int Tryd.underlying3 e0
  obtain ⟨k1, g1, _, _⟩ := DataW.trod_int Tryd.underlying3 e1
  obtain ⟨s3, g3, _, z3⟩ := DataW.trod_string Tryd.underlying9 e3
  simp only [List.cons.injEq, and_true] at g0 g1 g3
  subst g0 g1 g3
  obtain ⟨a, n, c, rfl⟩ : ∃ a n c, c2 = .slice a n c := by
    rcases Deep.open_slice Tryd.underlying24 e2 with ⟨hcs, _⟩ | ⟨b, len', cap', m, n, D, Pl, hcs, _⟩
    · simp only [List.cons.injEq, and_true] at hcs
      exact ⟨_, _, _, hcs⟩
    · simp only [List.cons.injEq, and_true] at hcs
      exact ⟨_, _, _, hcs⟩
  obtain ⟨l, hr, _, hm⟩ := open_rows (fun _ : Int => True) Tryd.underlying24 cells3' (fun n cs y h => by
    obtain ⟨k, rfl, _, _⟩ := DataW.trod_int Tryd.underlying3 h
    exact ⟨k, rfl, trivial⟩) e2
  refine ⟨k0, k1, a, n, c, l, s3, ?_, hr, hm, z3⟩
  have e : cs.toList = [.int .i64 k0, .int .i64 k1, .slice a n c, .string s3] := hcs
  congr 1
  exact Array.toList_inj.1 e
end Go.Proofs.YtgpojfkdcdgloaaDoor
