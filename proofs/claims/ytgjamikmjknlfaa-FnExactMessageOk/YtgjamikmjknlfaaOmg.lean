/-
  A message that came in as an argument, opened.
-/
import Derived.Test.YtgjamikmjknlfaaRows
import Derived.Test.YtgjamikmjknlfaaOe
import Derived.Test.YtgjamikmjknlfaaOn
import Derived.Test.YtgjamikmjknlfaaEns
import Derived.Deep.Strs
import Derived.ProofKit
import Derived.OpenShut
namespace Go.Proofs.Ytgjamikmjknlfaa
open Go Go.RowKit Go.ChangeShapes Go.WideShapes

theorem mcells : Try.prog.cellsOf 25 = 12 := by kernel_rfl
theorem mcells9 : Try.prog.cellsOf 9 = 1 := by kernel_rfl
theorem mcells3 : Try.prog.cellsOf 3 = 1 := by kernel_rfl
theorem mcells4 : Try.prog.cellsOf 4 = 1 := by kernel_rfl
theorem mcellsE : Try.prog.cellsOf 22 = 1 := by kernel_rfl
theorem mcellsI : Try.prog.cellsOf 23 = 1 := by kernel_rfl
theorem len12 {α : Type} {l : List α} (h : l.length = 12) : ∃ a0 a1 a2 a3 a4 a5 a6 a7 a8 a9 a10 a11, l = [a0, a1, a2, a3, a4, a5, a6, a7, a8, a9, a10, a11] := by
  match l, h with
  | [a0, a1, a2, a3, a4, a5, a6, a7, a8, a9, a10, a11], _ => exact ⟨a0, a1, a2, a3, a4, a5, a6, a7, a8, a9, a10, a11, rfl⟩
theorem trod_struct12 {H : Type} {enc : TypeId × Value → H} {P : Program} {w : World} {base : Nat} {spare : Nat → Bool} {held : Bool} {t : TypeId} {f0 f1 f2 f3 f4 f5 f6 f7 f8 f9 f10 f11 : Field} {fuel : Nat} {cs : List Value} {x : DataW H × List MemPlace} (ht : P.underlying t = some (.struct #[f0, f1, f2, f3, f4, f5, f6, f7, f8, f9, f10, f11])) (h : DataW.trod enc P w base spare held fuel t cs = some x) :
    ∃ y0 y1 y2 y3 y4 y5 y6 y7 y8 y9 y10 y11 n, cs.length = P.cellsOf t ∧ DataW.trod enc P w base spare held n f0.type ((cs.drop f0.offset).take (P.cellsOf f0.type)) = some y0 ∧ DataW.trod enc P w base spare held n f1.type ((cs.drop f1.offset).take (P.cellsOf f1.type)) = some y1 ∧ DataW.trod enc P w base spare held n f2.type ((cs.drop f2.offset).take (P.cellsOf f2.type)) = some y2 ∧ DataW.trod enc P w base spare held n f3.type ((cs.drop f3.offset).take (P.cellsOf f3.type)) = some y3 ∧ DataW.trod enc P w base spare held n f4.type ((cs.drop f4.offset).take (P.cellsOf f4.type)) = some y4 ∧ DataW.trod enc P w base spare held n f5.type ((cs.drop f5.offset).take (P.cellsOf f5.type)) = some y5 ∧ DataW.trod enc P w base spare held n f6.type ((cs.drop f6.offset).take (P.cellsOf f6.type)) = some y6 ∧ DataW.trod enc P w base spare held n f7.type ((cs.drop f7.offset).take (P.cellsOf f7.type)) = some y7 ∧ DataW.trod enc P w base spare held n f8.type ((cs.drop f8.offset).take (P.cellsOf f8.type)) = some y8 ∧ DataW.trod enc P w base spare held n f9.type ((cs.drop f9.offset).take (P.cellsOf f9.type)) = some y9 ∧ DataW.trod enc P w base spare held n f10.type ((cs.drop f10.offset).take (P.cellsOf f10.type)) = some y10 ∧ DataW.trod enc P w base spare held n f11.type ((cs.drop f11.offset).take (P.cellsOf f11.type)) = some y11 := by
  obtain ⟨xs, n, _, rfl, hl, hlen, hf⟩ := DataW.trod_struct ht h
  match xs, hlen with
  | [y0, y1, y2, y3, y4, y5, y6, y7, y8, y9, y10, y11], _ => exact ⟨y0, y1, y2, y3, y4, y5, y6, y7, y8, y9, y10, y11, n, hl, by simpa using hf 0 f0 rfl, by simpa using hf 1 f1 rfl, by simpa using hf 2 f2 rfl, by simpa using hf 3 f3 rfl, by simpa using hf 4 f4 rfl, by simpa using hf 5 f5 rfl, by simpa using hf 6 f6 rfl, by simpa using hf 7 f7 rfl, by simpa using hf 8 f8 rfl, by simpa using hf 9 f9 rfl, by simpa using hf 10 f10 rfl, by simpa using hf 11 f11 rfl⟩
set_option maxHeartbeats 1000000 in
theorem open_message {H : Type} {enc : TypeId × Value → H} {W : World} {v : Value} {d : DataW H} {p : List MemPlace} (hv : ∃ cs, v = .agg cs ∧ cs.size = Try.prog.cellsOf 25) (h : DataW.Trod enc Try.prog W 0 (fun _ => true) true 25 v d p) :
    ∃ (kd fr up tm ix lt cm : Int) (ok : Bool) (da : ByteArray) (la : Bool) (a : Option Addr) (n c : Nat) (l : List En) (b : Option Addr) (m q : Nat) (r : List Int), v = .agg #[.int .i64 kd, .int .i64 fr, .int .i64 up, .int .i64 tm, .int .i64 ix, .int .i64 lt, .int .i64 cm, .bool ok, .slice a n c, .slice b m q, .string da, .bool la] ∧ Reads W (.slice a n c) l ∧ SmallEn l ∧ n ≤ 9223372036854775807 ∧ Reads W (.slice b m q) r ∧ m ≤ 9223372036854775807 ∧ da.size ≤ 9223372036854775807 := by
  obtain ⟨cs, rfl, _⟩ := hv
  obtain ⟨fuel, hf⟩ := h
  obtain ⟨y0, y1, y2, y3, y4, y5, y6, y7, y8, y9, y10, y11, k, hl, e0, e1, e2, e3, e4, e5, e6, e7, e8, e9, e10, e11⟩ := trod_struct12 Try.underlying25 hf
  rw [mcells] at hl
  obtain ⟨c0, c1, c2, c3, c4, c5, c6, c7, c8, c9, c10, c11, hcs⟩ := len12 hl
  simp only [mcells9, mcells3, mcells4, mcellsE, mcellsI, hcs, List.drop_zero, List.drop_succ_cons, List.take_succ_cons, List.take_zero] at e0 e1 e2 e3 e4 e5 e6 e7 e8 e9 e10 e11
  obtain ⟨k0, g0, _, _⟩ := DataW.trod_int Try.underlying3 e0
  obtain ⟨k1, g1, _, _⟩ := DataW.trod_int Try.underlying3 e1
  obtain ⟨k2, g2, _, _⟩ := DataW.trod_int Try.underlying3 e2
  obtain ⟨k3, g3, _, _⟩ := DataW.trod_int Try.underlying3 e3
  obtain ⟨k4, g4, _, _⟩ := DataW.trod_int Try.underlying3 e4
  obtain ⟨k5, g5, _, _⟩ := DataW.trod_int Try.underlying3 e5
  obtain ⟨k6, g6, _, _⟩ := DataW.trod_int Try.underlying3 e6
  obtain ⟨k7, g7, _⟩ := DataW.trod_bool Try.underlying4 e7
  obtain ⟨k10, g10, _, z10⟩ := DataW.trod_string Try.underlying9 e10
  obtain ⟨k11, g11, _⟩ := DataW.trod_bool Try.underlying4 e11
  simp only [List.cons.injEq, and_true] at g0 g1 g2 g3 g4 g5 g6 g7 g10 g11
  subst g0 g1 g2 g3 g4 g5 g6 g7 g10 g11
  obtain ⟨a8, n8, q8, rfl⟩ : ∃ a n c, c8 = .slice a n c := by
    rcases Deep.open_slice Try.underlying22 e8 with ⟨hcs, _⟩ | ⟨b, len', cap', m, n, D, Pl, hcs, _⟩
    · simp only [List.cons.injEq, and_true] at hcs
      exact ⟨_, _, _, hcs⟩
    · simp only [List.cons.injEq, and_true] at hcs
      exact ⟨_, _, _, hcs⟩
  obtain ⟨a9, n9, q9, rfl⟩ : ∃ a n c, c9 = .slice a n c := by
    rcases Deep.open_slice Try.underlying23 e9 with ⟨hcs, _⟩ | ⟨b, len', cap', m, n, D, Pl, hcs, _⟩
    · simp only [List.cons.injEq, and_true] at hcs
      exact ⟨_, _, _, hcs⟩
    · simp only [List.cons.injEq, and_true] at hcs
      exact ⟨_, _, _, hcs⟩
  obtain ⟨l, hr, hG, hm⟩ := open_rows (fun f : En => f.data.size ≤ 9223372036854775807) Try.underlying22 cells33 (fun n cs y h => by
    obtain ⟨t, k, d, rfl, hs⟩ := entry_cells h
    exact ⟨⟨t, k, d⟩, rfl, hs⟩) e8
  obtain ⟨r, hr2, _, hm2⟩ := open_rows (fun _ : Int => True) Try.underlying23 cells3' (fun n cs y h => by
    obtain ⟨k, rfl, _, _⟩ := DataW.trod_int Try.underlying3 h
    exact ⟨k, rfl, trivial⟩) e9
  refine ⟨k0, k1, k2, k3, k4, k5, k6, k7, k10, k11, a8, n8, q8, l, a9, n9, q9, r, ?_, hr, hG, hm, hr2, hm2, z10⟩
  have e : cs.toList = [.int .i64 k0, .int .i64 k1, .int .i64 k2, .int .i64 k3, .int .i64 k4, .int .i64 k5, .int .i64 k6, .bool k7, .slice a8 n8 q8, .slice a9 n9 q9, .string k10, .bool k11] := hcs
  congr 1
  exact Array.toList_inj.1 e
end Go.Proofs.Ytgjamikmjknlfaa
