/-
  Weekdays on both sides, and the laws on leap years, the days of a month and weekdays: the walks.
-/
import Derived.Test.YtbecdaholpiaeaaDoorLy
namespace Go.Proofs.YtbecdaholpiaeaaDoor
open Go Go.RowKit

theorem isMin_any (m : Int) (w : World) :
    Calls Tryd.prog 59 #[.int .i64 m] w fun e w' => e = .returned (.bool (decide (0 ≤ m ∧ m ≤ 68374079))) ∧ w' = w := by
  by_cases h1 : 0 ≤ m
  · have h2 : decide (0 ≤ m) = true := decide_eq_true h1
    go_enter Tryd.func59, Tryd.ntmps59
    go_wp2
    go_ret
    exact ⟨by simp [h1], rfl⟩
  · have h2 : decide (0 ≤ m) = false := decide_eq_false h1
    go_enter Tryd.func59, Tryd.ntmps59
    go_wp2
    go_ret
    exact ⟨by simp, rfl⟩
theorem isMin_yes {m : Int} {w : World} (h : 0 ≤ m ∧ m ≤ 68374079) : Calls Tryd.prog 59 #[.int .i64 m] w fun e w' => e = .returned (.bool true) ∧ w' = w := by
  have := isMin_any m w
  rwa [decide_eq_true h] at this
theorem isMin_no {m : Int} {w : World} (h : ¬ (0 ≤ m ∧ m ≤ 68374079)) : Calls Tryd.prog 59 #[.int .i64 m] w fun e w' => e = .returned (.bool false) ∧ w' = w := by
  have := isMin_any m w
  rwa [decide_eq_false h] at this
set_option maxHeartbeats 400000 in
theorem week_any (m : Int) (w : World) :
    Calls Tryd.prog 69 #[.int .i64 m] w fun e w' => e = .returned (.int .i64 (weekN m)) ∧ w' = w := by
  unfold weekN
  by_cases h : 0 ≤ m ∧ m ≤ 68374079
  · rw [if_pos h]
    have h0 := h.1
    have h1 := h.2
    have hY := isMin_yes (w := w) h
    clear h
    go_enter Tryd.func69, Tryd.ntmps69
    go_wp2_with (go_at_call 59; refine hY.mono ?_; rintro e w1 ⟨rfl, hw⟩; have hw2 := hw.symm; subst hw2)
    go_ret
    refine ⟨congrArg (fun x => Ending.returned (.int .i64 x)) ?_, rfl⟩
    omega
  · rw [if_neg h]
    have hY := isMin_no (w := w) h
    clear h
    go_enter Tryd.func69, Tryd.ntmps69
    go_wp2_with (go_at_call 59; refine hY.mono ?_; rintro e w1 ⟨rfl, hw⟩; have hw2 := hw.symm; subst hw2)
    go_ret
    exact ⟨rfl, rfl⟩
set_option maxHeartbeats 400000 in
theorem specWeek_any (m : Int) (w : World) :
    Calls Tryd.prog 49 #[.int .i64 m] w fun e w' => e = .returned (.int .i64 (weekN m)) ∧ w' = w := by
  unfold weekN
  by_cases h : 0 ≤ m ∧ m ≤ 68374079
  · rw [if_pos h]
    have h0 := h.1
    have h1 := h.2
    have hY := in_yes (w := w) h0 h1
    clear h
    go_enter Tryd.func49, Tryd.ntmps49
    go_wp2_with (go_at_call 35; refine hY.mono ?_; rintro e w1 ⟨rfl, hw⟩; have hw2 := hw.symm; subst hw2)
    go_ret
    refine ⟨congrArg (fun x => Ending.returned (.int .i64 x)) ?_, rfl⟩
    omega
  · rw [if_neg h]
    have hY := in_no (w := w) h
    clear h
    go_enter Tryd.func49, Tryd.ntmps49
    go_wp2_with (go_at_call 35; refine hY.mono ?_; rintro e w1 ⟨rfl, hw⟩; have hw2 := hw.symm; subst hw2)
    go_ret
    exact ⟨rfl, rfl⟩

end Go.Proofs.YtbecdaholpiaeaaDoor
