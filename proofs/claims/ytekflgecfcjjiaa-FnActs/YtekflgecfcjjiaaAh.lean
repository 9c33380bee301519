/-
  The law's helpers on one act: the walks; an act that came in as an argument, opened.
-/
import Derived.Test.YtekflgecfcjjiaaSe
import Derived.Test.YtekflgecfcjjiaaOd
namespace Go.Proofs.Ytekflgecfcjjiaa
open Go Go.RowKit Go.ChangeShapes Go.WideShapes

set_option maxHeartbeats 400000 in
theorem szAct_any (k : Int) (n t o : ByteArray) (left : Int) (w : World) (hn : n.size ≤ 9223372036854775807) (ht : t.size ≤ 9223372036854775807) (ho : o.size ≤ 9223372036854775807) (hl : left ≤ 1048576) (h0 : 0 ≤ left) :
    Calls Try.prog 33 #[.agg #[.int .i64 k, .string n, .string t, .string o], .int .i64 left] w fun e w' => ∃ r : Int, e = .returned (.int .i64 r) ∧ (r = -1 ∨ 0 ≤ r ∧ r = left - n.size - t.size - o.size) ∧ Below w.heap.size w w' := by
  by_cases h1 : left - n.size < 0
  · go_enter Try.func33, Try.ntmps33
    go_wp2
    go_ret
    exact ⟨_, rfl, .inl rfl, ba (Below.refl _ _) _⟩
  · by_cases h2 : left - n.size - t.size < 0
    · go_enter Try.func33, Try.ntmps33
      go_wp2
      go_ret
      exact ⟨_, rfl, .inl rfl, ba (Below.refl _ _) _⟩
    · by_cases h3 : left - n.size - t.size - o.size < 0
      · go_enter Try.func33, Try.ntmps33
        go_wp2
        go_ret
        exact ⟨_, rfl, .inl rfl, ba (Below.refl _ _) _⟩
      · go_enter Try.func33, Try.ntmps33
        go_wp2
        go_ret
        exact ⟨_, rfl, .inr ⟨by omega, rfl⟩, ba (Below.refl _ _) _⟩

set_option maxHeartbeats 400000 in
theorem toAct_any (k : Int) (n t o : ByteArray) (w : World) :
    Calls Try.prog 35 #[.agg #[.int .i64 k, .string n, .string t, .string o]] w fun e w' => e = .returned (.agg #[.int .i64 k, .string n, .string t, .string o]) ∧ Below w.heap.size w w' := by
  go_enter Try.func35, Try.ntmps35
  go_wp2
  go_returns
  exact ⟨rfl, ba (ba (ba (Below.refl _ _) _) _) _⟩
end Go.Proofs.Ytekflgecfcjjiaa
