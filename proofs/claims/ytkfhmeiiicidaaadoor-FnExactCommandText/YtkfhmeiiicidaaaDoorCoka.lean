/-
  Whether a command is right, as the program tells it: all of it.
-/
import Derived.Test.YtkfhmeiiicidaaaDoorCok1
import Derived.Test.YtkfhmeiiicidaaaDoorCok2
import Derived.Test.YtkfhmeiiicidaaaDoorCok3
import Derived.Test.YtkfhmeiiicidaaaDoorCok4
import Derived.Test.YtkfhmeiiicidaaaDoorCok5
import Derived.Test.YtkfhmeiiicidaaaDoorCok6
import Derived.Test.YtkfhmeiiicidaaaDoorCok7
import Derived.Test.YtkfhmeiiicidaaaDoorCok8
import Derived.Test.YtkfhmeiiicidaaaDoorCok9
namespace Go.Proofs.YtkfhmeiiicidaaaDoor
open Go Go.RowKit

set_option maxRecDepth 10000 in
set_option maxHeartbeats 4000000 in
theorem icmd_none (op tok seq : Int) (text task : ByteArray) (num up : Int) (yes : Bool) (w : World) (e1 : ¬ op = 1) (e2 : ¬ op = 2) (e3 : ¬ op = 3) (e4 : ¬ op = 4) (e5 : ¬ op = 5) (e6 : ¬ op = 6) (e7 : ¬ op = 7) (e8 : ¬ op = 8) (e9 : ¬ op = 9) :
    Calls Tryd.prog 17 #[.agg #[.int .i64 op, .int .i64 tok, .int .i64 seq, .string text, .string task, .int .i64 num, .int .i64 up, .bool yes]] w fun e w' => e = .returned (.bool false) ∧ Below w.heap.size w w' := by
  have d1 : (op == 1) = false := beq_eq_false_iff_ne.2 e1
  have d2 : (op == 2) = false := beq_eq_false_iff_ne.2 e2
  have d3 : (op == 3) = false := beq_eq_false_iff_ne.2 e3
  have d4 : (op == 4) = false := beq_eq_false_iff_ne.2 e4
  have d5 : (op == 5) = false := beq_eq_false_iff_ne.2 e5
  have d6 : (op == 6) = false := beq_eq_false_iff_ne.2 e6
  have d7 : (op == 7) = false := beq_eq_false_iff_ne.2 e7
  have d8 : (op == 8) = false := beq_eq_false_iff_ne.2 e8
  have d9 : (op == 9) = false := beq_eq_false_iff_ne.2 e9
  have H0 : Hid (∀ W, Calls Tryd.prog 31 #[.int .i64 tok, .int .i64 1000000] W fun e w' => e = .returned (.bool (decide (0 ≤ tok ∧ tok ≤ 1000000))) ∧ w' = W) := fun W => upTo_any tok 1000000 W
  have H1 : Hid (∀ W, Calls Tryd.prog 31 #[.int .i64 seq, .int .i64 1000000] W fun e w' => e = .returned (.bool (decide (0 ≤ seq ∧ seq ≤ 1000000))) ∧ w' = W) := fun W => upTo_any seq 1000000 W
  generalize decide (0 ≤ tok ∧ tok ≤ 1000000) = b0 at H0
  generalize decide (0 ≤ seq ∧ seq ≤ 1000000) = b1 at H1
  clear e1 e2 e3 e4 e5 e6 e7 e8 e9
  cases b0 <;>
  · go_enter Tryd.func17, Tryd.ntmps17
    go_wp2_with (first | (go_at_call 31; with_reducible refine (H0.out _).mono ?_; rintro e w1 ⟨rfl, hw⟩; have hw2 := hw.symm; subst hw2) | (go_at_call 31; with_reducible refine (H1.out _).mono ?_; rintro e w1 ⟨rfl, hw⟩; have hw2 := hw.symm; subst hw2))
    go_ret
    exact ⟨rfl, ba (ba (Below.refl _ _) _) _⟩

theorem implCommand_any (op tok seq : Int) (text task : ByteArray) (num up : Int) (yes : Bool) (w : World) (ht : text.size ≤ 9223372036854775807) (hk : task.size ≤ 9223372036854775807) :
    Calls Tryd.prog 17 #[.agg #[.int .i64 op, .int .i64 tok, .int .i64 seq, .string text, .string task, .int .i64 num, .int .i64 up, .bool yes]] w fun e w' => e = .returned (.bool (cmdB op tok seq text task num up yes)) ∧ Below w.heap.size w w' := by
  unfold cmdB opB
  by_cases e1 : op = 1
  · subst e1
    cases h0 : decide (0 ≤ tok ∧ tok ≤ 1000000)
    · rw [Bool.false_and]; exact icmd_1a tok seq text task num up yes w ht hk h0 (by rintro rfl; simp at h0)
    rw [Bool.true_and]
    cases h1 : decide (0 ≤ seq ∧ seq ≤ 1000000)
    · rw [Bool.false_and]; exact icmd_1b tok seq text task num up yes w ht hk h0 h1 (by rintro rfl; simp at h1)
    rw [Bool.true_and]
    rw [if_pos rfl]
    exact icmd_1 tok seq text task num up yes w ht hk h0 h1
  by_cases e2 : op = 2
  · subst e2
    cases h0 : decide (0 ≤ tok ∧ tok ≤ 1000000)
    · rw [Bool.false_and]; exact icmd_2a tok seq text task num up yes w ht hk h0
    rw [Bool.true_and]
    cases h1 : decide (0 ≤ seq ∧ seq ≤ 1000000)
    · rw [Bool.false_and]; exact icmd_2b tok seq text task num up yes w ht hk h0 h1
    rw [Bool.true_and]
    rw [if_neg (by decide)]
    rw [if_pos rfl]
    by_cases hz : text.size ≤ 600
    · rw [decide_eq_true hz, Bool.true_and]; exact icmd_2 tok seq text task num up yes w ht hk h0 h1 hz
    · rw [decide_eq_false hz, Bool.false_and]; exact icmd_2_0 tok seq text task num up yes w ht hk h0 h1 hz
  by_cases e3 : op = 3
  · subst e3
    cases h0 : decide (0 ≤ tok ∧ tok ≤ 1000000)
    · rw [Bool.false_and]; exact icmd_3a tok seq text task num up yes w ht hk h0
    rw [Bool.true_and]
    cases h1 : decide (0 ≤ seq ∧ seq ≤ 1000000)
    · rw [Bool.false_and]; exact icmd_3b tok seq text task num up yes w ht hk h0 h1
    rw [Bool.true_and]
    rw [if_neg (by decide)]
    rw [if_neg (by decide)]
    rw [if_pos rfl]
    cases h2 : nameB text
    · rw [Bool.false_and]; exact icmd_3_0 tok seq text task num up yes w ht hk h0 h1 h2
    rw [Bool.true_and]
    exact icmd_3 tok seq text task num up yes w ht hk h0 h1 h2
  by_cases e4 : op = 4
  · subst e4
    cases h0 : decide (0 ≤ tok ∧ tok ≤ 1000000)
    · rw [Bool.false_and]; exact icmd_4a tok seq text task num up yes w ht hk h0
    rw [Bool.true_and]
    cases h1 : decide (0 ≤ seq ∧ seq ≤ 1000000)
    · rw [Bool.false_and]; exact icmd_4b tok seq text task num up yes w ht hk h0 h1
    rw [Bool.true_and]
    rw [if_neg (by decide)]
    rw [if_neg (by decide)]
    rw [if_neg (by decide)]
    rw [if_pos rfl]
    cases h2 : decide (0 ≤ num ∧ num ≤ 68374079)
    · rw [Bool.false_and]; exact icmd_4_0 tok seq text task num up yes w ht hk h0 h1 h2
    rw [Bool.true_and]
    exact icmd_4 tok seq text task num up yes w ht hk h0 h1 h2
  by_cases e5 : op = 5
  · subst e5
    cases h0 : decide (0 ≤ tok ∧ tok ≤ 1000000)
    · rw [Bool.false_and]; exact icmd_5a tok seq text task num up yes w ht hk h0
    rw [Bool.true_and]
    cases h1 : decide (0 ≤ seq ∧ seq ≤ 1000000)
    · rw [Bool.false_and]; exact icmd_5b tok seq text task num up yes w ht hk h0 h1
    rw [Bool.true_and]
    rw [if_neg (by decide)]
    rw [if_neg (by decide)]
    rw [if_neg (by decide)]
    rw [if_neg (by decide)]
    rw [if_pos rfl]
    exact icmd_5 tok seq text task num up yes w ht hk h0 h1
  by_cases e6 : op = 6
  · subst e6
    cases h0 : decide (0 ≤ tok ∧ tok ≤ 1000000)
    · rw [Bool.false_and]; exact icmd_6a tok seq text task num up yes w ht hk h0
    rw [Bool.true_and]
    cases h1 : decide (0 ≤ seq ∧ seq ≤ 1000000)
    · rw [Bool.false_and]; exact icmd_6b tok seq text task num up yes w ht hk h0 h1
    rw [Bool.true_and]
    rw [if_neg (by decide)]
    rw [if_neg (by decide)]
    rw [if_neg (by decide)]
    rw [if_neg (by decide)]
    rw [if_neg (by decide)]
    rw [if_pos rfl]
    cases h2 : decide (0 ≤ num ∧ num ≤ 1000000000)
    · rw [Bool.false_and]; exact icmd_6_0 tok seq text task num up yes w ht hk h0 h1 h2
    rw [Bool.true_and]
    exact icmd_6 tok seq text task num up yes w ht hk h0 h1 h2
  by_cases e7 : op = 7
  · subst e7
    cases h0 : decide (0 ≤ tok ∧ tok ≤ 1000000)
    · rw [Bool.false_and]; exact icmd_7a tok seq text task num up yes w ht hk h0
    rw [Bool.true_and]
    cases h1 : decide (0 ≤ seq ∧ seq ≤ 1000000)
    · rw [Bool.false_and]; exact icmd_7b tok seq text task num up yes w ht hk h0 h1
    rw [Bool.true_and]
    rw [if_neg (by decide)]
    rw [if_neg (by decide)]
    rw [if_neg (by decide)]
    rw [if_neg (by decide)]
    rw [if_neg (by decide)]
    rw [if_neg (by decide)]
    rw [if_pos rfl]
    cases h2 : decide (0 ≤ num ∧ num ≤ 1000000000)
    · rw [Bool.false_and]; exact icmd_7_0 tok seq text task num up yes w ht hk h0 h1 h2
    rw [Bool.true_and]
    exact icmd_7 tok seq text task num up yes w ht hk h0 h1 h2
  by_cases e8 : op = 8
  · subst e8
    cases h0 : decide (0 ≤ tok ∧ tok ≤ 1000000)
    · rw [Bool.false_and]; exact icmd_8a tok seq text task num up yes w ht hk h0
    rw [Bool.true_and]
    cases h1 : decide (0 ≤ seq ∧ seq ≤ 1000000)
    · rw [Bool.false_and]; exact icmd_8b tok seq text task num up yes w ht hk h0 h1
    rw [Bool.true_and]
    rw [if_neg (by decide)]
    rw [if_neg (by decide)]
    rw [if_neg (by decide)]
    rw [if_neg (by decide)]
    rw [if_neg (by decide)]
    rw [if_neg (by decide)]
    rw [if_neg (by decide)]
    rw [if_pos rfl]
    cases h2 : nameB text
    · rw [Bool.false_and]; exact icmd_8_0 tok seq text task num up yes w ht hk h0 h1 h2
    rw [Bool.true_and]
    cases h3 : decide (0 ≤ up ∧ up ≤ 68374079)
    · rw [Bool.false_and, Bool.and_false]; exact icmd_8_1 tok seq text task num up yes w ht hk h0 h1 h2 h3
    rw [Bool.true_and]
    cases h4 : decide (0 ≤ num ∧ num ≤ 68374079)
    · rw [Bool.false_and]; exact icmd_8_2 tok seq text task num up yes w ht hk h0 h1 h2 h3 h4
    rw [Bool.true_and]
    exact icmd_8 tok seq text task num up yes w ht hk h0 h1 h2 h3 h4
  by_cases e9 : op = 9
  · subst e9
    cases h0 : decide (0 ≤ tok ∧ tok ≤ 1000000)
    · rw [Bool.false_and]; exact icmd_9a tok seq text task num up yes w ht hk h0
    rw [Bool.true_and]
    cases h1 : decide (0 ≤ seq ∧ seq ≤ 1000000)
    · rw [Bool.false_and]; exact icmd_9b tok seq text task num up yes w ht hk h0 h1
    rw [Bool.true_and]
    rw [if_neg (by decide)]
    rw [if_neg (by decide)]
    rw [if_neg (by decide)]
    rw [if_neg (by decide)]
    rw [if_neg (by decide)]
    rw [if_neg (by decide)]
    rw [if_neg (by decide)]
    rw [if_neg (by decide)]
    rw [if_pos rfl]
    cases h3 : nameB text
    · rw [Bool.false_and]
      cases h2 : nameB task
      · exact icmd_9_0 tok seq text task num up yes w ht hk h0 h1 h2
      by_cases hu : up = 0
      · exact icmd_9_2 tok seq text task num up yes w ht hk h0 h1 h2 h3 hu
      · exact icmd_9_1 tok seq text task num up yes w ht hk h0 h1 h2 hu
    rw [Bool.true_and]
    cases h2 : nameB task
    · rw [Bool.false_and]; exact icmd_9_0 tok seq text task num up yes w ht hk h0 h1 h2
    rw [Bool.true_and]
    by_cases hu : up = 0
    · cases h5 : decide (0 ≤ num ∧ num ≤ 68374079)
      · rw [Bool.false_and]; exact icmd_9_3 tok seq text task num up yes w ht hk h0 h1 h2 h3 h5 hu
      · rw [Bool.true_and]; exact icmd_9 tok seq text task num up yes w ht hk h0 h1 h2 h3 h5 hu
    · have e : restB true true true false false text task num up yes = false := by unfold restB; rw [decide_eq_false hu]; simp
      rw [e, Bool.and_false]; exact icmd_9_1 tok seq text task num up yes w ht hk h0 h1 h2 hu
  rw [if_neg e1]
  rw [if_neg e2]
  rw [if_neg e3]
  rw [if_neg e4]
  rw [if_neg e5]
  rw [if_neg e6]
  rw [if_neg e7]
  rw [if_neg e8]
  rw [if_neg e9]
  rw [Bool.and_false, Bool.and_false]
  exact icmd_none op tok seq text task num up yes w e1 e2 e3 e4 e5 e6 e7 e8 e9
end Go.Proofs.YtkfhmeiiicidaaaDoor
