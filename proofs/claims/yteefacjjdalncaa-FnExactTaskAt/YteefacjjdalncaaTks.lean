/-
  Where a name stands among a plan's tasks, as the specification tells it: the walk.
-/
import Derived.Test.YteefacjjdalncaaTki
namespace Go.Proofs.Yteefacjjdalncaa
open Go Go.RowKit

theorem specTaskAt_any (ao : Option Addr) (n cap : Nat) (nm cr : ByteArray) (fr up : Int) (cu : Bool) (ts : List Ta) (s : ByteArray) (w : World) (hr : Tasks w (.slice ao n cap) ts) (hn : n ≤ 1048577) :
    Calls Try.prog 5 #[.agg #[.string nm, .string cr, .int .i64 fr, .int .i64 up, .bool cu, .slice ao n cap], .string s] w fun e w' => e = .returned (.int .i64 (atN ts s)) ∧ Below w.heap.size w w' := by
  have HN : Hid (ts.length = n) := by
    obtain ⟨ao', cap', e⟩ := hr.slice
    injection e with _ e2 _
    exact e2.symm
  have H1 := l12At_any s (hr.below (ba (Below.refl _ _) (.cells #[.string nm, .string cr, .int .i64 fr, .int .i64 up, .bool cu, .slice ao n cap] 29))) (by rw [HN.out]; exact hn)
  go_enter Try.func5, Try.ntmps5
  go_wp2_with fail
  refine H1.mono ?_
  rintro e w1 ⟨rfl, rfl⟩
  go_wp2
  go_ret
  exact ⟨rfl, ba (Below.refl _ _) _⟩
end Go.Proofs.Yteefacjjdalncaa
