/-
  A log that came in as an argument, opened.
-/
import Derived.Test.YtijmaplejpnggaaDoorOe
import Derived.Test.YtijmaplejpnggaaDoorEns
namespace Go.Proofs.YtijmaplejpnggaaDoor
open Go Go.RowKit Go.ChangeShapes Go.WideShapes

theorem cells24 : Tryd.prog.cellsOf 39 = 3 := by kernel_rfl
theorem cells22 : Tryd.prog.cellsOf 37 = 1 := by kernel_rfl
theorem open_log {H : Type} {enc : TypeId × Value → H} {W : World} {v : Value} {d : DataW H} {p : List MemPlace} (hv : ∃ cs, v = .agg cs ∧ cs.size = Tryd.prog.cellsOf 39) (h : DataW.Trod enc Tryd.prog W 0 (fun _ => true) true 39 v d p) :
    ∃ (s t : Int) (a : Option Addr) (n c : Nat) (l : List En), v = .agg #[.int .i64 s, .int .i64 t, .slice a n c] ∧ Reads W (.slice a n c) l ∧ SmallEn l ∧ n ≤ 9223372036854775807 := by
  obtain ⟨cs, rfl, _⟩ := hv
  obtain ⟨fuel, hf⟩ := h
  obtain ⟨y0, y1, y2, m, _, hl, e0, e1, e2⟩ := Deep.trod_struct3 Tryd.underlying39 hf
  rw [cells24] at hl
  obtain ⟨c0, c1, c2, hcs⟩ := len3 hl
  simp only [cells22, cells3, hcs, List.drop_zero, List.drop_succ_cons, List.take_succ_cons, List.take_zero] at e0 e1 e2
  obtain ⟨k0, g0, _, _⟩ := DataW.trod_int Tryd.underlying3 e0
  obtain ⟨k1, g1, _, _⟩ := DataW.trod_int Tryd.underlying3 e1
  simp only [List.cons.injEq, and_true] at g0 g1
  subst g0 g1
  obtain ⟨a, n, c, rfl⟩ : ∃ a n c, c2 = .slice a n c := by
    rcases Deep.open_slice Tryd.underlying37 e2 with ⟨hcs, _⟩ | ⟨b, len', cap', m, n, D, Pl, hcs, _⟩
    · simp only [List.cons.injEq, and_true] at hcs
      exact ⟨_, _, _, hcs⟩
    · simp only [List.cons.injEq, and_true] at hcs
      exact ⟨_, _, _, hcs⟩
  obtain ⟨l, hr, hG, hm⟩ := open_rows (fun f : En => f.data.size ≤ 9223372036854775807) Tryd.underlying37 cells33 (fun n cs y h => by
    obtain ⟨t, k, d, rfl, hs⟩ := entry_cells h
    exact ⟨⟨t, k, d⟩, rfl, hs⟩) e2
  refine ⟨k0, k1, a, n, c, l, ?_, hr, hG, hm⟩
  have e : cs.toList = [.int .i64 k0, .int .i64 k1, .slice a n c] := hcs
  congr 1
  exact Array.toList_inj.1 e
theorem int_max {k : Int} (h : (Lit.int .i64 k).wf = true) : k ≤ 9223372036854775807 := by
  simp only [Lit.wf, IntKind.min, IntKind.max, IntKind.signed, IntKind.bits, Bool.and_eq_true, decide_eq_true_eq, if_true] at h
  omega
end Go.Proofs.YtijmaplejpnggaaDoor
