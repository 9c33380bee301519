/-
  Leap years and the days of a month, on both sides: the walks. Weekdays on both sides, and the laws on leap years, the days of a month and weekdays: the walks. Whether a day is right, on both sides: the walks.
-/
import Derived.Test.YtgeimliibddhmaaDoorRows
import Derived.Test.YtgeimliibddhmaaDoorCv
import Derived.Test.YtgeimliibddhmaaDoorCrl
import Derived.WalkLawsBesides
namespace Go.Proofs.YtgeimliibddhmaaDoor
open Go Go.RowKit

theorem leap_4 {y : Int} (h : ¬ y.tmod 4 = 0) : leapB y = (y.tmod 400 == 0) := by
  unfold leapB
  rw [decide_eq_false h, Bool.false_and, Bool.false_or]
  exact Bool.eq_iff_iff.2 (by simp)
theorem leap_100 {y : Int} (h : y.tmod 100 = 0) : leapB y = (y.tmod 400 == 0) := by
  unfold leapB
  rw [decide_eq_true h, Bool.not_true, Bool.and_false, Bool.false_or]
  exact Bool.eq_iff_iff.2 (by simp)
theorem leap_yes {y : Int} (h : y.tmod 4 = 0) (h2 : ¬ y.tmod 100 = 0) : leapB y = true := by
  unfold leapB
  rw [decide_eq_true h, decide_eq_false h2]
  rfl
set_option maxHeartbeats 1000000 in
theorem leap_any (y : Int) (w : World) :
    Calls Tryd.prog 126 #[.int .i64 y] w fun e w' => e = .returned (.bool (leapB y)) ∧ w' = w := by
  by_cases h4 : y.tmod 4 = 0
  · by_cases h1 : y.tmod 100 = 0
    · rw [leap_100 h1]
      go_enter Tryd.func126, Tryd.ntmps126
      go_wp2
      go_ret
      exact ⟨rfl, rfl⟩
    · rw [leap_yes h4 h1]
      go_enter Tryd.func126, Tryd.ntmps126
      go_wp2
      go_ret
      exact ⟨rfl, rfl⟩
  · rw [leap_4 h4]
    go_enter Tryd.func126, Tryd.ntmps126
    go_wp2
    go_ret
    exact ⟨rfl, rfl⟩
set_option maxHeartbeats 1000000 in
theorem specLeap_any (y : Int) (w : World) :
    Calls Tryd.prog 115 #[.int .i64 y] w fun e w' => e = .returned (.bool (leapB y)) ∧ w' = w := by
  by_cases h4 : y.tmod 4 = 0
  · by_cases h1 : y.tmod 100 = 0
    · rw [leap_100 h1]
      go_enter Tryd.func115, Tryd.ntmps115
      go_wp2
      go_ret
      exact ⟨rfl, rfl⟩
    · rw [leap_yes h4 h1]
      go_enter Tryd.func115, Tryd.ntmps115
      go_wp2
      go_ret
      exact ⟨rfl, rfl⟩
  · rw [leap_4 h4]
    go_enter Tryd.func115, Tryd.ntmps115
    go_wp2
    go_ret
    exact ⟨rfl, rfl⟩
set_option maxHeartbeats 400000 in
theorem yearL_any (y : Int) (w : World) :
    Calls Tryd.prog 116 #[.int .i64 y] w fun e w' => e = .returned (.int .i64 (yearL y)) ∧ w' = w := by
  have hL := leap_any y w
  unfold yearL
  cases h : leapB y with
  | true =>
    rw [h] at hL
    go_enter Tryd.func116, Tryd.ntmps116
    go_wp2_with (go_at_call 126; refine hL.mono ?_; rintro e w1 ⟨rfl, hw⟩; have hw2 := hw.symm; subst hw2)
    go_ret
    exact ⟨rfl, rfl⟩
  | false =>
    rw [h] at hL
    go_enter Tryd.func116, Tryd.ntmps116
    go_wp2_with (go_at_call 126; refine hL.mono ?_; rintro e w1 ⟨rfl, hw⟩; have hw2 := hw.symm; subst hw2)
    go_ret
    exact ⟨rfl, rfl⟩
set_option maxHeartbeats 1000000 in
theorem days_any (y m : Int) (w : World) :
    Calls Tryd.prog 117 #[.int .i64 y, .int .i64 m] w fun e w' => e = .returned (.int .i64 (daysB y m)) ∧ w' = w := by
  by_cases hm : 1 ≤ m ∧ m ≤ 12
  · have hL := leap_any y w
    unfold daysB
    obtain ⟨b, hb⟩ : ∃ b, leapB y = b := ⟨_, rfl⟩
    rw [hb] at hL ⊢
    clear hb
    rcases months hm.1 hm.2 with h | h | h | h | h | h | h | h | h | h | h | h <;> subst h <;> clear hm
    case inr.inl =>
      cases b <;>
      · go_enter Tryd.func117, Tryd.ntmps117
        go_wp2_with (go_at_call 126; refine hL.mono ?_; rintro e w1 ⟨rfl, hw⟩; have hw2 := hw.symm; subst hw2)
        go_ret
        exact ⟨rfl, rfl⟩
    all_goals
      clear hL
      go_enter Tryd.func117, Tryd.ntmps117
      go_wp2
      go_ret
      exact ⟨rfl, rfl⟩
  · rw [daysB_no hm]
    go_enter Tryd.func117, Tryd.ntmps117
    have e1 : ¬ m = 1 := by omega
    have e2 : ¬ m = 2 := by omega
    have e3 : ¬ m = 3 := by omega
    have e4 : ¬ m = 4 := by omega
    have e5 : ¬ m = 5 := by omega
    have e6 : ¬ m = 6 := by omega
    have e7 : ¬ m = 7 := by omega
    have e8 : ¬ m = 8 := by omega
    have e9 : ¬ m = 9 := by omega
    have e10 : ¬ m = 10 := by omega
    have e11 : ¬ m = 11 := by omega
    have e12 : ¬ m = 12 := by omega
    clear hm
    go_wp2
    go_ret
    exact ⟨rfl, rfl⟩
theorem in_yes {x lo hi : Int} {w : World} (h0 : lo ≤ x) (h1 : x ≤ hi) :
    Calls Tryd.prog 54 #[.int .i64 x, .int .i64 lo, .int .i64 hi] w fun e w' => e = .returned (.bool true) ∧ w' = w := by
  have := in_any x lo hi w
  rwa [decide_eq_true h0, decide_eq_true h1] at this
theorem in_no {x lo hi : Int} {w : World} (h : ¬ (lo ≤ x ∧ x ≤ hi)) :
    Calls Tryd.prog 54 #[.int .i64 x, .int .i64 lo, .int .i64 hi] w fun e w' => e = .returned (.bool false) ∧ w' = w := by
  have := in_any x lo hi w
  rwa [show (decide (lo ≤ x) && decide (x ≤ hi)) = false by rw [← Bool.decide_and]; exact decide_eq_false h] at this
set_option maxHeartbeats 1000000 in
theorem specDays_any (y m : Int) (w : World) :
    Calls Tryd.prog 102 #[.int .i64 y, .int .i64 m] w fun e w' => e = .returned (.int .i64 (daysB y m)) ∧ Below w.heap.size w w' := by
  by_cases hm : 1 ≤ m ∧ m ≤ 12
  · have hL : ∀ w, Calls Tryd.prog 115 #[.int .i64 y] w fun e w' => e = .returned (.bool (leapB y)) ∧ w' = w := specLeap_any y
    unfold daysB
    obtain ⟨b, hb⟩ : ∃ b, leapB y = b := ⟨_, rfl⟩
    rw [hb] at hL ⊢
    clear hb
    have hI : ∀ w, Calls Tryd.prog 54 #[.int .i64 m, .int .i64 1, .int .i64 12] w fun e w' => e = .returned (.bool true) ∧ w' = w := fun w => in_yes hm.1 hm.2
    rcases months hm.1 hm.2 with h | h | h | h | h | h | h | h | h | h | h | h <;> subst h <;> clear hm
    case inr.inl =>
      cases b <;>
      · go_enter Tryd.func102, Tryd.ntmps102
        go_wp2_with (first | (go_at_call 54; refine (hI _).mono ?_; rintro e w1 ⟨rfl, hw⟩; have hw2 := hw.symm; subst hw2) | (go_at_call 115; refine (hL _).mono ?_; rintro e w2 ⟨rfl, hw3⟩; have hw4 := hw3.symm; subst hw4))
        go_ret
        exact ⟨rfl, (Below.refl _ _).alloc (Nat.le_refl _) _⟩
    all_goals
      · go_enter Tryd.func102, Tryd.ntmps102
        go_wp2_with (first | (go_at_call 54; refine (hI _).mono ?_; rintro e w1 ⟨rfl, hw⟩; have hw2 := hw.symm; subst hw2) | (go_at_call 115; refine (hL _).mono ?_; rintro e w2 ⟨rfl, hw3⟩; have hw4 := hw3.symm; subst hw4))
        go_ret
        exact ⟨rfl, (Below.refl _ _).alloc (Nat.le_refl _) _⟩
  · rw [daysB_no hm]
    go_enter Tryd.func102, Tryd.ntmps102
    go_wp2_with (go_at_call 54; refine (in_no hm).mono ?_; rintro e w1 ⟨rfl, hw⟩; have hw2 := hw.symm; subst hw2)
    go_ret
    exact ⟨rfl, (Below.refl _ _).alloc (Nat.le_refl _) _⟩
end Go.Proofs.YtgeimliibddhmaaDoor

namespace Go.Proofs.YtgeimliibddhmaaDoor
open Go Go.RowKit

theorem isMin_any (m : Int) (w : World) :
    Calls Tryd.prog 51 #[.int .i64 m] w fun e w' => e = .returned (.bool (decide (0 ≤ m ∧ m ≤ 68374079))) ∧ w' = w := by
  by_cases h1 : 0 ≤ m
  · have h2 : decide (0 ≤ m) = true := decide_eq_true h1
    go_enter Tryd.func51, Tryd.ntmps51
    go_wp2
    go_ret
    exact ⟨by simp [h1], rfl⟩
  · have h2 : decide (0 ≤ m) = false := decide_eq_false h1
    go_enter Tryd.func51, Tryd.ntmps51
    go_wp2
    go_ret
    exact ⟨by simp, rfl⟩
theorem isMin_yes {m : Int} {w : World} (h : 0 ≤ m ∧ m ≤ 68374079) : Calls Tryd.prog 51 #[.int .i64 m] w fun e w' => e = .returned (.bool true) ∧ w' = w := by
  have := isMin_any m w
  rwa [decide_eq_true h] at this
theorem isMin_no {m : Int} {w : World} (h : ¬ (0 ≤ m ∧ m ≤ 68374079)) : Calls Tryd.prog 51 #[.int .i64 m] w fun e w' => e = .returned (.bool false) ∧ w' = w := by
  have := isMin_any m w
  rwa [decide_eq_false h] at this
set_option maxHeartbeats 400000 in
theorem week_any (m : Int) (w : World) :
    Calls Tryd.prog 86 #[.int .i64 m] w fun e w' => e = .returned (.int .i64 (weekN m)) ∧ w' = w := by
  unfold weekN
  by_cases h : 0 ≤ m ∧ m ≤ 68374079
  · rw [if_pos h]
    have h0 := h.1
    have h1 := h.2
    have hY := isMin_yes (w := w) h
    clear h
    go_enter Tryd.func86, Tryd.ntmps86
    go_wp2_with (go_at_call 51; refine hY.mono ?_; rintro e w1 ⟨rfl, hw⟩; have hw2 := hw.symm; subst hw2)
    go_ret
    refine ⟨congrArg (fun x => Ending.returned (.int .i64 x)) ?_, rfl⟩
    omega
  · rw [if_neg h]
    have hY := isMin_no (w := w) h
    clear h
    go_enter Tryd.func86, Tryd.ntmps86
    go_wp2_with (go_at_call 51; refine hY.mono ?_; rintro e w1 ⟨rfl, hw⟩; have hw2 := hw.symm; subst hw2)
    go_ret
    exact ⟨rfl, rfl⟩
set_option maxHeartbeats 400000 in
theorem specWeek_any (m : Int) (w : World) :
    Calls Tryd.prog 84 #[.int .i64 m] w fun e w' => e = .returned (.int .i64 (weekN m)) ∧ w' = w := by
  unfold weekN
  by_cases h : 0 ≤ m ∧ m ≤ 68374079
  · rw [if_pos h]
    have h0 := h.1
    have h1 := h.2
    have hY := in_yes (w := w) h0 h1
    clear h
    go_enter Tryd.func84, Tryd.ntmps84
    go_wp2_with (go_at_call 54; refine hY.mono ?_; rintro e w1 ⟨rfl, hw⟩; have hw2 := hw.symm; subst hw2)
    go_ret
    refine ⟨congrArg (fun x => Ending.returned (.int .i64 x)) ?_, rfl⟩
    omega
  · rw [if_neg h]
    have hY := in_no (w := w) h
    clear h
    go_enter Tryd.func84, Tryd.ntmps84
    go_wp2_with (go_at_call 54; refine hY.mono ?_; rintro e w1 ⟨rfl, hw⟩; have hw2 := hw.symm; subst hw2)
    go_ret
    exact ⟨rfl, rfl⟩

end Go.Proofs.YtgeimliibddhmaaDoor

namespace Go.Proofs.YtgeimliibddhmaaDoor
open Go Go.RowKit

theorem belowOn {w w1 w2 : World} (h1 : Below w.heap.size w w1) (h2 : Below w1.heap.size w1 w2) : Below w.heap.size w w2 := h1.trans (h2.mono h1.size)
/-- Where a day lies. -/
structure At5 (w : World) (g : Nat) (c : Cv) : Prop where
  c0 : w.cell? ⟨g, 0, none⟩ = some (.int .i64 c.y)
  c1 : w.cell? ⟨g, 1, none⟩ = some (.int .i64 c.mo)
  c2 : w.cell? ⟨g, 2, none⟩ = some (.int .i64 c.d)
  c3 : w.cell? ⟨g, 3, none⟩ = some (.int .i64 c.h)
  c4 : w.cell? ⟨g, 4, none⟩ = some (.int .i64 c.mi)
theorem At5.up {w w' : World} {B g : Nat} {c : Cv} (h : At5 w g c) (hb : Below B w w') (hg : g < B) : At5 w' g c :=
  ⟨(hb.cell hg).trans h.c0, (hb.cell hg).trans h.c1, (hb.cell hg).trans h.c2, (hb.cell hg).trans h.c3, (hb.cell hg).trans h.c4⟩
theorem At5.made (w : World) (c : Cv) (t : TypeId) : At5 (w.alloc (.cells #[.int .i64 c.y, .int .i64 c.mo, .int .i64 c.d, .int .i64 c.h, .int .i64 c.mi] t)) w.heap.size c :=
  ⟨by simp [go_sem], by simp [go_sem], by simp [go_sem], by simp [go_sem], by simp [go_sem]⟩
theorem ok_no {c : Cv} (h : ¬ Right c) : okC c = false := by
  cases hq : okC c with
  | false => rfl
  | true => exact absurd ((okC_iff c).1 hq) h
theorem ok_yes {c : Cv} (h : Right c) : okC c = true := (okC_iff c).2 h
theorem month_of {y m d : Int} (h0 : 1 ≤ d) (h1 : d ≤ daysB y m) : 1 ≤ m ∧ m ≤ 12 := by
  by_cases h : 1 ≤ m ∧ m ≤ 12
  · exact h
  · rw [daysB_no h] at h1; omega

end Go.Proofs.YtgeimliibddhmaaDoor
