/-
  Whether a command of Op 4 is right, as the program tells it: the walks.
-/
import Derived.Test.YtkfhmeiiicidaaaDoorCok
namespace Go.Proofs.YtkfhmeiiicidaaaDoor
open Go Go.RowKit

set_option maxRecDepth 10000 in
set_option maxHeartbeats 4000000 in
theorem icmd_4a (tok seq : Int) (text task : ByteArray) (num up : Int) (yes : Bool) (w : World) (_ht : text.size ≤ 9223372036854775807) (_hk : task.size ≤ 9223372036854775807) (h0 : decide (0 ≤ tok ∧ tok ≤ 1000000) = false)  :
    Calls Tryd.prog 17 #[.agg #[.int .i64 4, .int .i64 tok, .int .i64 seq, .string text, .string task, .int .i64 num, .int .i64 up, .bool yes]] w fun e w' => e = .returned (.bool (false)) ∧ Below w.heap.size w w' := by
  have H0 : Hid (∀ W, Calls Tryd.prog 31 #[.int .i64 tok, .int .i64 1000000] W fun e w' => e = .returned (.bool false) ∧ w' = W) := by intro W; have := upTo_any tok 1000000 W; rwa [h0] at this
  clear h0
  go_enter Tryd.func17, Tryd.ntmps17
  go_wp2_with (first | (go_at_call 31; with_reducible refine (H0.out _).mono ?_; rintro e w1 ⟨rfl, hw⟩; have hw2 := hw.symm; subst hw2))
  all_goals (go_ret; refine ⟨?_, ?_⟩)
  all_goals first | exact ba (ba (Below.refl _ _) _) _ | exact ((ba (ba (Below.refl _ _) _) _).set (by simp)) | exact ((Below.refl _ _).alloc (Nat.le_refl _) _).set (by simp) | rfl | (rw [restL]; simp [*]) | simp [*]

set_option maxRecDepth 10000 in
set_option maxHeartbeats 4000000 in
theorem icmd_4b (tok seq : Int) (text task : ByteArray) (num up : Int) (yes : Bool) (w : World) (_ht : text.size ≤ 9223372036854775807) (_hk : task.size ≤ 9223372036854775807) (h0 : decide (0 ≤ tok ∧ tok ≤ 1000000) = true) (h1 : decide (0 ≤ seq ∧ seq ≤ 1000000) = false)  :
    Calls Tryd.prog 17 #[.agg #[.int .i64 4, .int .i64 tok, .int .i64 seq, .string text, .string task, .int .i64 num, .int .i64 up, .bool yes]] w fun e w' => e = .returned (.bool (false)) ∧ Below w.heap.size w w' := by
  have H0 : Hid (∀ W, Calls Tryd.prog 31 #[.int .i64 tok, .int .i64 1000000] W fun e w' => e = .returned (.bool true) ∧ w' = W) := by intro W; have := upTo_any tok 1000000 W; rwa [h0] at this
  have H1 : Hid (∀ W, Calls Tryd.prog 31 #[.int .i64 seq, .int .i64 1000000] W fun e w' => e = .returned (.bool false) ∧ w' = W) := by intro W; have := upTo_any seq 1000000 W; rwa [h1] at this
  clear h0 h1
  go_enter Tryd.func17, Tryd.ntmps17
  go_wp2_with (first | (go_at_call 31; with_reducible refine (H0.out _).mono ?_; rintro e w1 ⟨rfl, hw⟩; have hw2 := hw.symm; subst hw2) | (go_at_call 31; with_reducible refine (H1.out _).mono ?_; rintro e w1 ⟨rfl, hw⟩; have hw2 := hw.symm; subst hw2))
  all_goals (go_ret; refine ⟨?_, ?_⟩)
  all_goals first | exact ba (ba (Below.refl _ _) _) _ | exact ((ba (ba (Below.refl _ _) _) _).set (by simp)) | exact ((Below.refl _ _).alloc (Nat.le_refl _) _).set (by simp) | rfl | (rw [restL]; simp [*]) | simp [*]

set_option maxRecDepth 10000 in
set_option maxHeartbeats 4000000 in
theorem icmd_4_0 (tok seq : Int) (text task : ByteArray) (num up : Int) (yes : Bool) (w : World) (_ht : text.size ≤ 9223372036854775807) (_hk : task.size ≤ 9223372036854775807) (h0 : decide (0 ≤ tok ∧ tok ≤ 1000000) = true) (h1 : decide (0 ≤ seq ∧ seq ≤ 1000000) = true) (h2 : decide (0 ≤ num ∧ num ≤ 68374079) = false)  :
    Calls Tryd.prog 17 #[.agg #[.int .i64 4, .int .i64 tok, .int .i64 seq, .string text, .string task, .int .i64 num, .int .i64 up, .bool yes]] w fun e w' => e = .returned (.bool (false)) ∧ Below w.heap.size w w' := by
  have H0 : Hid (∀ W, Calls Tryd.prog 31 #[.int .i64 tok, .int .i64 1000000] W fun e w' => e = .returned (.bool true) ∧ w' = W) := by intro W; have := upTo_any tok 1000000 W; rwa [h0] at this
  have H1 : Hid (∀ W, Calls Tryd.prog 31 #[.int .i64 seq, .int .i64 1000000] W fun e w' => e = .returned (.bool true) ∧ w' = W) := by intro W; have := upTo_any seq 1000000 W; rwa [h1] at this
  have H2 : Hid (∀ W, Calls Tryd.prog 33 #[.int .i64 num] W fun e w' => e = .returned (.bool false) ∧ w' = W) := by intro W; have := isMinC_any num W; rwa [h2] at this
  clear h0 h1 h2
  go_enter Tryd.func17, Tryd.ntmps17
  go_wp2_with (first | (go_at_call 31; with_reducible refine (H0.out _).mono ?_; rintro e w1 ⟨rfl, hw⟩; have hw2 := hw.symm; subst hw2) | (go_at_call 31; with_reducible refine (H1.out _).mono ?_; rintro e w1 ⟨rfl, hw⟩; have hw2 := hw.symm; subst hw2) | (go_at_call 33; with_reducible refine (H2.out _).mono ?_; rintro e w1 ⟨rfl, hw⟩; have hw2 := hw.symm; subst hw2))
  all_goals (go_ret; refine ⟨?_, ?_⟩)
  all_goals first | exact ba (ba (Below.refl _ _) _) _ | exact ((ba (ba (Below.refl _ _) _) _).set (by simp)) | exact ((Below.refl _ _).alloc (Nat.le_refl _) _).set (by simp) | rfl | (rw [restL]; simp [*]) | simp [*]

set_option maxRecDepth 10000 in
set_option maxHeartbeats 4000000 in
theorem icmd_4 (tok seq : Int) (text task : ByteArray) (num up : Int) (yes : Bool) (w : World) (_ht : text.size ≤ 9223372036854775807) (_hk : task.size ≤ 9223372036854775807) (h0 : decide (0 ≤ tok ∧ tok ≤ 1000000) = true) (h1 : decide (0 ≤ seq ∧ seq ≤ 1000000) = true) (h2 : decide (0 ≤ num ∧ num ≤ 68374079) = true)  :
    Calls Tryd.prog 17 #[.agg #[.int .i64 4, .int .i64 tok, .int .i64 seq, .string text, .string task, .int .i64 num, .int .i64 up, .bool yes]] w fun e w' => e = .returned (.bool (restB false false true false false text task num up yes)) ∧ Below w.heap.size w w' := by
  have H0 : Hid (∀ W, Calls Tryd.prog 31 #[.int .i64 tok, .int .i64 1000000] W fun e w' => e = .returned (.bool true) ∧ w' = W) := by intro W; have := upTo_any tok 1000000 W; rwa [h0] at this
  have H1 : Hid (∀ W, Calls Tryd.prog 31 #[.int .i64 seq, .int .i64 1000000] W fun e w' => e = .returned (.bool true) ∧ w' = W) := by intro W; have := upTo_any seq 1000000 W; rwa [h1] at this
  have H2 : Hid (∀ W, Calls Tryd.prog 33 #[.int .i64 num] W fun e w' => e = .returned (.bool true) ∧ w' = W) := by intro W; have := isMinC_any num W; rwa [h2] at this
  clear h0 h1 h2
  go_enter Tryd.func17, Tryd.ntmps17
  go_wp2_with (first | (go_at_call 31; with_reducible refine (H0.out _).mono ?_; rintro e w1 ⟨rfl, hw⟩; have hw2 := hw.symm; subst hw2) | (go_at_call 31; with_reducible refine (H1.out _).mono ?_; rintro e w1 ⟨rfl, hw⟩; have hw2 := hw.symm; subst hw2) | (go_at_call 33; with_reducible refine (H2.out _).mono ?_; rintro e w1 ⟨rfl, hw⟩; have hw2 := hw.symm; subst hw2))
  all_goals (go_ret; refine ⟨?_, ?_⟩)
  all_goals first | exact ba (ba (Below.refl _ _) _) _ | exact ((ba (ba (Below.refl _ _) _) _).set (by simp)) | exact ((Below.refl _ _).alloc (Nat.le_refl _) _).set (by simp) | rfl | (rw [restL]; simp [*]) | simp [*]
end Go.Proofs.YtkfhmeiiicidaaaDoor
