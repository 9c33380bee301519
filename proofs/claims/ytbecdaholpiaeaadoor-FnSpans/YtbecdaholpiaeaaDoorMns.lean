/-
  The minute of a day as the specification tells it, and the law on it: the walks.
-/
import Derived.Test.YtbecdaholpiaeaaDoorMn
namespace Go.Proofs.YtbecdaholpiaeaaDoor
open Go Go.RowKit

theorem l09Year_any (y : Int) (w : World) (h0 : 1970 ≤ y) (h1 : y ≤ 3000) :
    Calls Tryd.prog 55 #[.int .i64 y] w fun e w' => e = .returned (.int .i64 (yearN (y - 1970))) ∧ w' = w := by
  go_enter Tryd.func55, Tryd.ntmps55
  go_wp2
  go_ret
  exact ⟨rfl, rfl⟩
theorem ret_civ {fn : Func} {p : Tmp} {w : World} {g : Nat} {c : Cv} {tmps : Array Value} (h : fn.results = #[.cell p 77]) (hp : tmps.getD p undef = .pointer (some ⟨g, 0, none⟩)) (hc : At5 w g c) :
    (results fn tmps).run Tryd.prog w = .ok (.agg #[.int .i64 c.y, .int .i64 c.mo, .int .i64 c.d, .int .i64 c.h, .int .i64 c.mi]) w := by
  have hp' : tmps[p]?.getD undef = .pointer (some ⟨g, 0, none⟩) := by simpa using hp
  simp [results, h, hp', hc.c0, hc.c1, hc.c2, hc.c3, hc.c4, asAddr, go_sem]
theorem ret_civ2 {fn : Func} {p u : Tmp} {w : World} {g : Nat} {c : Cv} {x : Value} {tmps : Array Value} (h : fn.results = #[.cell p 77, .tmp u]) (hp : tmps.getD p undef = .pointer (some ⟨g, 0, none⟩)) (hu : tmps.getD u undef = x) (hc : At5 w g c) :
    (results fn tmps).run Tryd.prog w = .ok (.tuple #[.agg #[.int .i64 c.y, .int .i64 c.mo, .int .i64 c.d, .int .i64 c.h, .int .i64 c.mi], x]) w := by
  have hp' : tmps[p]?.getD undef = .pointer (some ⟨g, 0, none⟩) := by simpa using hp
  have hu' : tmps[u]?.getD undef = x := by simpa using hu
  simp [results, h, hp', hu', hc.c0, hc.c1, hc.c2, hc.c3, hc.c4, asAddr, go_sem]
end Go.Proofs.YtbecdaholpiaeaaDoor
