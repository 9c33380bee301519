/-
  Leap years and the days of a month, on both sides: the walks.
-/
import Derived.Test.YtbecdaholpiaeaaDoorRows
import Derived.Test.YtbecdaholpiaeaaDoorCv
import Derived.Test.YtbecdaholpiaeaaDoorCrl
import Derived.WalkLawsBesides
namespace Go.Proofs.YtbecdaholpiaeaaDoor
open Go Go.RowKit

theorem leap_4 {y : Int} (h : ¬ y.tmod 4 = 0) : leapB y = (y.tmod 400 == 0) := by
  unfold leapB
  rw [decide_eq_false h, Bool.false_and, Bool.false_or]
  exact Bool.eq_iff_iff.2 (by simp)
theorem leap_100 {y : Int} (h : y.tmod 100 = 0) : leapB y = (y.tmod 400 == 0) := by
  unfold leapB
  rw [decide_eq_true h, Bool.not_true, Bool.and_false, Bool.false_or]
  exact Bool.eq_iff_iff.2 (by simp)
theorem leap_yes {y : Int} (h : y.tmod 4 = 0) (h2 : ¬ y.tmod 100 = 0) : leapB y = true := by
  unfold leapB
  rw [decide_eq_true h, decide_eq_false h2]
  rfl
set_option maxHeartbeats 1000000 in
theorem leap_any (y : Int) (w : World) :
    Calls Tryd.prog 76 #[.int .i64 y] w fun e w' => e = .returned (.bool (leapB y)) ∧ w' = w := by
  by_cases h4 : y.tmod 4 = 0
  · by_cases h1 : y.tmod 100 = 0
    · rw [leap_100 h1]
      go_enter Tryd.func76, Tryd.ntmps76
      go_wp2
      go_ret
      exact ⟨rfl, rfl⟩
    · rw [leap_yes h4 h1]
      go_enter Tryd.func76, Tryd.ntmps76
      go_wp2
      go_ret
      exact ⟨rfl, rfl⟩
  · rw [leap_4 h4]
    go_enter Tryd.func76, Tryd.ntmps76
    go_wp2
    go_ret
    exact ⟨rfl, rfl⟩
set_option maxHeartbeats 1000000 in
theorem specLeap_any (y : Int) (w : World) :
    Calls Tryd.prog 62 #[.int .i64 y] w fun e w' => e = .returned (.bool (leapB y)) ∧ w' = w := by
  by_cases h4 : y.tmod 4 = 0
  · by_cases h1 : y.tmod 100 = 0
    · rw [leap_100 h1]
      go_enter Tryd.func62, Tryd.ntmps62
      go_wp2
      go_ret
      exact ⟨rfl, rfl⟩
    · rw [leap_yes h4 h1]
      go_enter Tryd.func62, Tryd.ntmps62
      go_wp2
      go_ret
      exact ⟨rfl, rfl⟩
  · rw [leap_4 h4]
    go_enter Tryd.func62, Tryd.ntmps62
    go_wp2
    go_ret
    exact ⟨rfl, rfl⟩
set_option maxHeartbeats 400000 in
theorem yearL_any (y : Int) (w : World) :
    Calls Tryd.prog 74 #[.int .i64 y] w fun e w' => e = .returned (.int .i64 (yearL y)) ∧ w' = w := by
  have hL := leap_any y w
  unfold yearL
  cases h : leapB y with
  | true =>
    rw [h] at hL
    go_enter Tryd.func74, Tryd.ntmps74
    go_wp2_with (go_at_call 76; refine hL.mono ?_; rintro e w1 ⟨rfl, hw⟩; have hw2 := hw.symm; subst hw2)
    go_ret
    exact ⟨rfl, rfl⟩
  | false =>
    rw [h] at hL
    go_enter Tryd.func74, Tryd.ntmps74
    go_wp2_with (go_at_call 76; refine hL.mono ?_; rintro e w1 ⟨rfl, hw⟩; have hw2 := hw.symm; subst hw2)
    go_ret
    exact ⟨rfl, rfl⟩
set_option maxHeartbeats 1000000 in
theorem days_any (y m : Int) (w : World) :
    Calls Tryd.prog 75 #[.int .i64 y, .int .i64 m] w fun e w' => e = .returned (.int .i64 (daysB y m)) ∧ w' = w := by
  by_cases hm : 1 ≤ m ∧ m ≤ 12
  · have hL := leap_any y w
    unfold daysB
    obtain ⟨b, hb⟩ : ∃ b, leapB y = b := ⟨_, rfl⟩
    rw [hb] at hL ⊢
    clear hb
    rcases months hm.1 hm.2 with h | h | h | h | h | h | h | h | h | h | h | h <;> subst h <;> clear hm
    case inr.inl =>
      cases b <;>
      · go_enter Tryd.func75, Tryd.ntmps75
        go_wp2_with (go_at_call 76; refine hL.mono ?_; rintro e w1 ⟨rfl, hw⟩; have hw2 := hw.symm; subst hw2)
        go_ret
        exact ⟨rfl, rfl⟩
    all_goals
      clear hL
      go_enter Tryd.func75, Tryd.ntmps75
      go_wp2
      go_ret
      exact ⟨rfl, rfl⟩
  · rw [daysB_no hm]
    go_enter Tryd.func75, Tryd.ntmps75
    have e1 : ¬ m = 1 := by omega
    have e2 : ¬ m = 2 := by omega
    have e3 : ¬ m = 3 := by omega
    have e4 : ¬ m = 4 := by omega
    have e5 : ¬ m = 5 := by omega
    have e6 : ¬ m = 6 := by omega
    have e7 : ¬ m = 7 := by omega
    have e8 : ¬ m = 8 := by omega
    have e9 : ¬ m = 9 := by omega
    have e10 : ¬ m = 10 := by omega
    have e11 : ¬ m = 11 := by omega
    have e12 : ¬ m = 12 := by omega
    clear hm
    go_wp2
    go_ret
    exact ⟨rfl, rfl⟩
theorem in_yes {x lo hi : Int} {w : World} (h0 : lo ≤ x) (h1 : x ≤ hi) :
    Calls Tryd.prog 35 #[.int .i64 x, .int .i64 lo, .int .i64 hi] w fun e w' => e = .returned (.bool true) ∧ w' = w := by
  have := in_any x lo hi w
  rwa [decide_eq_true h0, decide_eq_true h1] at this
theorem in_no {x lo hi : Int} {w : World} (h : ¬ (lo ≤ x ∧ x ≤ hi)) :
    Calls Tryd.prog 35 #[.int .i64 x, .int .i64 lo, .int .i64 hi] w fun e w' => e = .returned (.bool false) ∧ w' = w := by
  have := in_any x lo hi w
  rwa [show (decide (lo ≤ x) && decide (x ≤ hi)) = false by rw [← Bool.decide_and]; exact decide_eq_false h] at this
set_option maxHeartbeats 1000000 in
theorem specDays_any (y m : Int) (w : World) :
    Calls Tryd.prog 56 #[.int .i64 y, .int .i64 m] w fun e w' => e = .returned (.int .i64 (daysB y m)) ∧ Below w.heap.size w w' := by
  by_cases hm : 1 ≤ m ∧ m ≤ 12
  · have hL : ∀ w, Calls Tryd.prog 62 #[.int .i64 y] w fun e w' => e = .returned (.bool (leapB y)) ∧ w' = w := specLeap_any y
    unfold daysB
    obtain ⟨b, hb⟩ : ∃ b, leapB y = b := ⟨_, rfl⟩
    rw [hb] at hL ⊢
    clear hb
    have hI : ∀ w, Calls Tryd.prog 35 #[.int .i64 m, .int .i64 1, .int .i64 12] w fun e w' => e = .returned (.bool true) ∧ w' = w := fun w => in_yes hm.1 hm.2
    rcases months hm.1 hm.2 with h | h | h | h | h | h | h | h | h | h | h | h <;> subst h <;> clear hm
    case inr.inl =>
      cases b <;>
      · go_enter Tryd.func56, Tryd.ntmps56
        go_wp2_with (first | (go_at_call 35; refine (hI _).mono ?_; rintro e w1 ⟨rfl, hw⟩; have hw2 := hw.symm; subst hw2) | (go_at_call 62; refine (hL _).mono ?_; rintro e w2 ⟨rfl, hw3⟩; have hw4 := hw3.symm; subst hw4))
        go_ret
        exact ⟨rfl, (Below.refl _ _).alloc (Nat.le_refl _) _⟩
    all_goals
      · go_enter Tryd.func56, Tryd.ntmps56
        go_wp2_with (first | (go_at_call 35; refine (hI _).mono ?_; rintro e w1 ⟨rfl, hw⟩; have hw2 := hw.symm; subst hw2) | (go_at_call 62; refine (hL _).mono ?_; rintro e w2 ⟨rfl, hw3⟩; have hw4 := hw3.symm; subst hw4))
        go_ret
        exact ⟨rfl, (Below.refl _ _).alloc (Nat.le_refl _) _⟩
  · rw [daysB_no hm]
    go_enter Tryd.func56, Tryd.ntmps56
    go_wp2_with (go_at_call 35; refine (in_no hm).mono ?_; rintro e w1 ⟨rfl, hw⟩; have hw2 := hw.symm; subst hw2)
    go_ret
    exact ⟨rfl, (Below.refl _ _).alloc (Nat.le_refl _) _⟩
end Go.Proofs.YtbecdaholpiaeaaDoor
