/-
  Weekdays on both sides, and the laws on leap years, the days of a month and weekdays: the walks.
-/
import Derived.Test.YtacfbagieefikaaLy
namespace Go.Proofs.Ytacfbagieefikaa
open Go Go.RowKit

theorem isMin_any (m : Int) (w : World) :
    Calls Try.prog 30 #[.int .i64 m] w fun e w' => e = .returned (.bool (decide (0 ≤ m ∧ m ≤ 68374079))) ∧ w' = w := by
  by_cases h1 : 0 ≤ m
  · have h2 : decide (0 ≤ m) = true := decide_eq_true h1
    go_enter Try.func30, Try.ntmps30
    go_wp2
    go_ret
    exact ⟨by simp [h1], rfl⟩
  · have h2 : decide (0 ≤ m) = false := decide_eq_false h1
    go_enter Try.func30, Try.ntmps30
    go_wp2
    go_ret
    exact ⟨by simp, rfl⟩
theorem isMin_yes {m : Int} {w : World} (h : 0 ≤ m ∧ m ≤ 68374079) : Calls Try.prog 30 #[.int .i64 m] w fun e w' => e = .returned (.bool true) ∧ w' = w := by
  have := isMin_any m w
  rwa [decide_eq_true h] at this
theorem isMin_no {m : Int} {w : World} (h : ¬ (0 ≤ m ∧ m ≤ 68374079)) : Calls Try.prog 30 #[.int .i64 m] w fun e w' => e = .returned (.bool false) ∧ w' = w := by
  have := isMin_any m w
  rwa [decide_eq_false h] at this
/-- The weekday of a minute. -/
def weekN (m : Int) : Int := if 0 ≤ m ∧ m ≤ 68374079 then (m / 1440 + 4) % 7 else -1
set_option maxHeartbeats 400000 in
theorem week_any (m : Int) (w : World) :
    Calls Try.prog 14 #[.int .i64 m] w fun e w' => e = .returned (.int .i64 (weekN m)) ∧ w' = w := by
  unfold weekN
  by_cases h : 0 ≤ m ∧ m ≤ 68374079
  · rw [if_pos h]
    have h0 := h.1
    have h1 := h.2
    have hY := isMin_yes (w := w) h
    clear h
    go_enter Try.func14, Try.ntmps14
    go_wp2_with (go_at_call 30; refine hY.mono ?_; rintro e w1 ⟨rfl, hw⟩; have hw2 := hw.symm; subst hw2)
    go_ret
    refine ⟨congrArg (fun x => Ending.returned (.int .i64 x)) ?_, rfl⟩
    omega
  · rw [if_neg h]
    have hY := isMin_no (w := w) h
    clear h
    go_enter Try.func14, Try.ntmps14
    go_wp2_with (go_at_call 30; refine hY.mono ?_; rintro e w1 ⟨rfl, hw⟩; have hw2 := hw.symm; subst hw2)
    go_ret
    exact ⟨rfl, rfl⟩
set_option maxHeartbeats 400000 in
theorem specWeek_any (m : Int) (w : World) :
    Calls Try.prog 27 #[.int .i64 m] w fun e w' => e = .returned (.int .i64 (weekN m)) ∧ w' = w := by
  unfold weekN
  by_cases h : 0 ≤ m ∧ m ≤ 68374079
  · rw [if_pos h]
    have h0 := h.1
    have h1 := h.2
    have hY := in_yes (w := w) h0 h1
    clear h
    go_enter Try.func27, Try.ntmps27
    go_wp2_with (go_at_call 35; refine hY.mono ?_; rintro e w1 ⟨rfl, hw⟩; have hw2 := hw.symm; subst hw2)
    go_ret
    refine ⟨congrArg (fun x => Ending.returned (.int .i64 x)) ?_, rfl⟩
    omega
  · rw [if_neg h]
    have hY := in_no (w := w) h
    clear h
    go_enter Try.func27, Try.ntmps27
    go_wp2_with (go_at_call 35; refine hY.mono ?_; rintro e w1 ⟨rfl, hw⟩; have hw2 := hw.symm; subst hw2)
    go_ret
    exact ⟨rfl, rfl⟩

theorem law_LeapYear (y : Int) (w : World) : Calls Try.prog 5 #[.int .i64 y] w fun e w' => e = .returned (.bool true) ∧ Below w.heap.size w w' := by
  have hS := specLeap_any y w
  have hI := leap_any y w
  obtain ⟨b, hb⟩ : ∃ b, leapB y = b := ⟨_, rfl⟩
  rw [hb] at hS hI
  clear hb
  cases b <;>
  · go_enter Try.func5, Try.ntmps5
    go_wp2_with (first | (go_at_call 21; refine hS.mono ?_; rintro e w1 ⟨rfl, hw⟩; have hw2 := hw.symm; subst hw2) | (go_at_call 20; refine hI.mono ?_; rintro e w2 ⟨rfl, hw3⟩; have hw4 := hw3.symm; subst hw4))
    go_ret
    exact ⟨rfl, Below.refl _ _⟩
theorem law_DaysIn (y m : Int) (w : World) : Calls Try.prog 6 #[.int .i64 y, .int .i64 m] w fun e w' => e = .returned (.bool true) ∧ Below w.heap.size w w' := by
  have hS := specDays_any y m w
  have hI : ∀ w, Calls Try.prog 19 #[.int .i64 y, .int .i64 m] w fun e w' => e = .returned (.int .i64 (daysB y m)) ∧ w' = w := days_any y m
  obtain ⟨b, hb⟩ : ∃ b, daysB y m = b := ⟨_, rfl⟩
  rw [hb] at hS hI
  clear hb
  go_enter Try.func6, Try.ntmps6
  go_wp2_with (first | (go_at_call 22; refine hS.mono ?_; rintro e w1 ⟨rfl, hb1⟩) | (go_at_call 19; refine (hI _).mono ?_; rintro e w2 ⟨rfl, hw3⟩; have hw4 := hw3.symm; subst hw4))
  go_ret
  exact ⟨rfl, hb1⟩
theorem law_WeekdayOf (m : Int) (w : World) : Calls Try.prog 10 #[.int .i64 m] w fun e w' => e = .returned (.bool true) ∧ Below w.heap.size w w' := by
  have hS := specWeek_any m w
  have hI := week_any m w
  obtain ⟨b, hb⟩ : ∃ b, weekN m = b := ⟨_, rfl⟩
  rw [hb] at hS hI
  clear hb
  go_enter Try.func10, Try.ntmps10
  go_wp2_with (first | (go_at_call 27; refine hS.mono ?_; rintro e w1 ⟨rfl, hw⟩; have hw2 := hw.symm; subst hw2) | (go_at_call 14; refine hI.mono ?_; rintro e w2 ⟨rfl, hw3⟩; have hw4 := hw3.symm; subst hw4))
  go_ret
  exact ⟨rfl, Below.refl _ _⟩
end Go.Proofs.Ytacfbagieefikaa
