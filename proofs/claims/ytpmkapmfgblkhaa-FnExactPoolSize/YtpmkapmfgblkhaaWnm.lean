/-
  The laws of names and of pools: the walks.
-/
import Derived.Test.YtpmkapmfgblkhaaNmi
namespace Go.Proofs.Ytpmkapmfgblkhaa
open Go Go.RowKit

set_option maxRecDepth 10000 in
set_option maxHeartbeats 400000 in
theorem law_NameOk (s : ByteArray) (w : World) (hs0 : s.size ≤ maxLen) :
    Calls Try.prog 3 #[.string s] w fun e w' => e = .returned (.bool true) ∧ Below w.heap.size w w' := by
  unfold maxLen at hs0
  have hs1 : s.size ≤ 9223372036854775807 := by omega
  have H1 : Hid (∀ W, Calls Try.prog 5 #[.string s] W fun e w' => e = .returned (.bool (nameB s)) ∧ w' = W) := fun W => nameOk_any s W hs1
  have H2 : Hid (∀ W, Calls Try.prog 6 #[.string s] W fun e w' => e = .returned (.bool (nameB s)) ∧ Below W.heap.size W w') := fun W => implName_any s W hs1
  generalize nameB s = b at H1 H2
  by_cases hs : (1048576 : Int) < (s.size : Int)
  · go_enter Try.func3, Try.ntmps3
    go_wp2
    go_ret
    exact ⟨rfl, Below.refl _ _⟩
  · cases b <;>
    · go_enter Try.func3, Try.ntmps3
      go_wp2_with (first | (go_at_call 5; refine (H1.out _).mono ?_; rintro e w1 ⟨rfl, hw⟩; have hw2 := hw.symm; subst hw2) | (go_at_call 6; refine (H2.out _).mono ?_; rintro e w2 ⟨rfl, hb2⟩))
      go_ret
      exact ⟨rfl, hb2⟩
set_option maxRecDepth 10000 in
set_option maxHeartbeats 400000 in
theorem law_PoolSize (s : ByteArray) (w : World) (_ : s.size ≤ maxLen) :
    Calls Try.prog 4 #[.string s] w fun e w' => e = .returned (.bool true) ∧ Below w.heap.size w w' := by
  have H1 : Hid (∀ W, Calls Try.prog 7 #[.string s] W fun e w' => e = .returned (.int .i64 (poolN s)) ∧ w' = W) := fun W => poolSize_any s W
  have H2 : Hid (∀ W, Calls Try.prog 8 #[.string s] W fun e w' => e = .returned (.int .i64 (poolN s)) ∧ w' = W) := fun W => implPool_any s W
  generalize poolN s = b at H1 H2
  by_cases hs : (1048576 : Int) < (s.size : Int)
  · go_enter Try.func4, Try.ntmps4
    go_wp2
    go_ret
    exact ⟨rfl, Below.refl _ _⟩
  · go_enter Try.func4, Try.ntmps4
    go_wp2_with (first | (go_at_call 7; refine (H1.out _).mono ?_; rintro e w1 ⟨rfl, hw⟩; have hw2 := hw.symm; subst hw2) | (go_at_call 8; refine (H2.out _).mono ?_; rintro e w2 ⟨rfl, hw3⟩; have hw4 := hw3.symm; subst hw4))
    go_ret
    exact ⟨rfl, Below.refl _ _⟩
end Go.Proofs.Ytpmkapmfgblkhaa
