/-
  A disk that came in as an argument, opened.
-/
import Derived.Test.YtingfgbcinlflaaGreatDoorMZ2
import Derived.Test.YtingfgbcinlflaaGreatDoorMZ3
namespace Go.Proofs.YtingfgbcinlflaaGreatDoor
open Go Go.RowKit Go.ChangeShapes Go.WideShapes

theorem cells51 : Tryz.prog.cellsOf 24 = 1 := by kernel_rfl
theorem cells49 : Tryz.prog.cellsOf 22 = 1 := by kernel_rfl
theorem cells115 : Tryz.prog.cellsOf 53 = 3 := by kernel_rfl
theorem cells9d : Tryz.prog.cellsOf 9 = 1 := by kernel_rfl
theorem cells3d : Tryz.prog.cellsOf 3 = 1 := by kernel_rfl

theorem open_disk {H : Type} {enc : TypeId × Value → H} {W : World} {v : Value} {d : DataW H} {p : List MemPlace} (hv : ∃ cs, v = .agg cs ∧ cs.size = Tryz.prog.cellsOf 24) (h : DataW.Trod enc Tryz.prog W 0 (fun _ => true) true 24 v d p) :
    ∃ a len cap l, v = .agg #[.slice a len cap] ∧ Reads W (.slice a len cap) l ∧ Small l ∧ len ≤ 9223372036854775807 := by
  obtain ⟨cs, rfl, _⟩ := hv
  obtain ⟨fuel, hf⟩ := h
  obtain ⟨xs, n, _, _, hl, hlen, hfs⟩ := DataW.trod_struct Tryz.underlying24 hf
  rw [cells51] at hl
  have h0 := hfs 0 _ rfl
  obtain ⟨c, rfl⟩ := arr1 hl
  obtain ⟨y0, rfl⟩ := len1 hlen
  have h1 : DataW.trod enc Tryz.prog W 0 (fun _ => true) true n 22 [c] = some y0 := by simpa [Value.cells, cells49] using h0
  obtain ⟨a, len, cap, rfl⟩ : ∃ a len cap, c = .slice a len cap := by
    rcases Deep.open_slice Tryz.underlying22 h1 with ⟨hcs, _⟩ | ⟨b, len', cap', _, _, _, _, hcs, _⟩
    · exact ⟨_, _, _, by simpa using hcs⟩
    · exact ⟨_, _, _, by simpa using hcs⟩
  obtain ⟨l, hr, hG, hm⟩ := open_rows (fun f : Fl => f.name.size ≤ 9223372036854775807 ∧ f.text.size ≤ 9223372036854775807) Tryz.underlying22 cells115 (fun n cs y h => by
    obtain ⟨y0, y1, y2, m, _, hl, e0, e1, e2⟩ := Deep.trod_struct3 Tryz.underlying53 h
    rw [cells115] at hl
    obtain ⟨c0, c1, c2, rfl⟩ := len3 hl
    simp only [cells9d, cells3d, List.drop_zero, List.drop_succ_cons, List.take_succ_cons, List.take_zero] at e0 e1 e2
    obtain ⟨s0, g0, _, z0⟩ := DataW.trod_string Tryz.underlying9 e0
    obtain ⟨s1, g1, _, z1⟩ := DataW.trod_string Tryz.underlying9 e1
    obtain ⟨k2, g2, _, _⟩ := DataW.trod_int Tryz.underlying3 e2
    simp only [List.cons.injEq, and_true] at g0 g1 g2
    subst g0 g1 g2
    exact ⟨⟨s0, s1, k2⟩, rfl, z0, z1⟩) h1
  exact ⟨a, len, cap, l, rfl, hr, hG, hm⟩
end Go.Proofs.YtingfgbcinlflaaGreatDoor
