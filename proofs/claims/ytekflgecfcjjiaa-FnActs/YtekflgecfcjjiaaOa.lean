/-
  An act, and a row of acts, that came in as an argument, opened.
-/
import Derived.Test.YtekflgecfcjjiaaOd
import Derived.Test.YtekflgecfcjjiaaAcs
import Derived.Lib.SmallJoins
namespace Go.Proofs.Ytekflgecfcjjiaa
open Go Go.RowKit Go.ChangeShapes Go.WideShapes

theorem cells56 : Try.prog.cellsOf 56 = 4 := by kernel_rfl

theorem act_cells {H : Type} {enc : TypeId × Value → H} {W : World} {n : Nat} {cs : List Value} {y : DataW H × List MemPlace} (h : DataW.trod enc Try.prog W 0 (fun _ => true) true n 56 cs = some y) :
    ∃ r : Ac, cs = [.int .i64 r.kind, .string r.name, .string r.text, .string r.to] ∧ r.name.size ≤ 9223372036854775807 ∧ r.text.size ≤ 9223372036854775807 ∧ r.to.size ≤ 9223372036854775807 := by
  obtain ⟨y0, y1, y2, y3, m, _, hl, e0, e1, e2, e3⟩ := Go.Joins.trod_struct4 Try.underlying56 h
  rw [cells56] at hl
  obtain ⟨c0, c1, c2, c3, rfl⟩ := len4 hl
  simp only [cells9, cells3, List.drop_zero, List.drop_succ_cons, List.take_succ_cons, List.take_zero] at e0 e1 e2 e3
  obtain ⟨k0, g0, _, _⟩ := DataW.trod_int Try.underlying3 e0
  obtain ⟨s1, g1, _, z1⟩ := DataW.trod_string Try.underlying9 e1
  obtain ⟨s2, g2, _, z2⟩ := DataW.trod_string Try.underlying9 e2
  obtain ⟨s3, g3, _, z3⟩ := DataW.trod_string Try.underlying9 e3
  simp only [List.cons.injEq, and_true] at g0 g1 g2 g3
  subst g0 g1 g2 g3
  exact ⟨⟨k0, s1, s2, s3⟩, rfl, z1, z2, z3⟩

theorem open_act {H : Type} {enc : TypeId × Value → H} {W : World} {v : Value} {d : DataW H} {p : List MemPlace} (hv : ∃ cs, v = .agg cs ∧ cs.size = Try.prog.cellsOf 56) (h : DataW.Trod enc Try.prog W 0 (fun _ => true) true 56 v d p) :
    ∃ r : Ac, v = .agg #[.int .i64 r.kind, .string r.name, .string r.text, .string r.to] ∧ r.name.size ≤ 9223372036854775807 ∧ r.text.size ≤ 9223372036854775807 ∧ r.to.size ≤ 9223372036854775807 := by
  obtain ⟨cs, rfl, _⟩ := hv
  obtain ⟨fuel, hf⟩ := h
  obtain ⟨r, he, hs⟩ := act_cells hf
  refine ⟨r, ?_, hs⟩
  have e2 : cs.toList = [.int .i64 r.kind, .string r.name, .string r.text, .string r.to] := he
  congr 1
  exact Array.toList_inj.1 e2

theorem open_actS {H : Type} {enc : TypeId × Value → H} {W : World} {v : Value} {d : DataW H} {p : List MemPlace} (hv : ∃ a len cap, v = .slice a len cap) (h : DataW.Trod enc Try.prog W 0 (fun _ => true) true 61 v d p) :
    ∃ a len cap, ∃ l : List Ac, v = .slice a len cap ∧ Reads W (.slice a len cap) l ∧ SmallAc l ∧ len ≤ 9223372036854775807 := by
  obtain ⟨a, len, cap, rfl⟩ := hv
  obtain ⟨fuel, hf⟩ := h
  obtain ⟨l, hr, hG, hm⟩ := open_rows (fun r : Ac => r.name.size ≤ 9223372036854775807 ∧ r.text.size ≤ 9223372036854775807 ∧ r.to.size ≤ 9223372036854775807) Try.underlying61 cells56 (fun n cs y h => act_cells h) hf
  exact ⟨a, len, cap, l, rfl, hr, hG, hm⟩
end Go.Proofs.Ytekflgecfcjjiaa
