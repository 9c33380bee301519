/-
  Weekdays on both sides, and the laws on leap years, the days of a month and weekdays: the walks. Whether a day is right, on both sides: the walks. The minute of a day, on both sides: the walks.
-/
import Derived.Test.YtgeimliibddhmaaDoorC4
namespace Go.Proofs.YtgeimliibddhmaaDoor
open Go Go.RowKit

theorem isMin_any (m : Int) (w : World) :
    Calls Tryd.prog 51 #[.int .i64 m] w fun e w' => e = .returned (.bool (decide (0 ≤ m ∧ m ≤ 68374079))) ∧ w' = w := by
  by_cases h1 : 0 ≤ m
  · have h2 : decide (0 ≤ m) = true := decide_eq_true h1
    go_enter Tryd.func51, Tryd.ntmps51
    go_wp2
    go_ret
    exact ⟨by simp [h1], rfl⟩
  · have h2 : decide (0 ≤ m) = false := decide_eq_false h1
    go_enter Tryd.func51, Tryd.ntmps51
    go_wp2
    go_ret
    exact ⟨by simp, rfl⟩
theorem isMin_yes {m : Int} {w : World} (h : 0 ≤ m ∧ m ≤ 68374079) : Calls Tryd.prog 51 #[.int .i64 m] w fun e w' => e = .returned (.bool true) ∧ w' = w := by
  have := isMin_any m w
  rwa [decide_eq_true h] at this
theorem isMin_no {m : Int} {w : World} (h : ¬ (0 ≤ m ∧ m ≤ 68374079)) : Calls Tryd.prog 51 #[.int .i64 m] w fun e w' => e = .returned (.bool false) ∧ w' = w := by
  have := isMin_any m w
  rwa [decide_eq_false h] at this
set_option maxHeartbeats 400000 in
theorem week_any (m : Int) (w : World) :
    Calls Tryd.prog 86 #[.int .i64 m] w fun e w' => e = .returned (.int .i64 (weekN m)) ∧ w' = w := by
  unfold weekN
  by_cases h : 0 ≤ m ∧ m ≤ 68374079
  · rw [if_pos h]
    have h0 := h.1
    have h1 := h.2
    have hY := isMin_yes (w := w) h
    clear h
    go_enter Tryd.func86, Tryd.ntmps86
    go_wp2_with (go_at_call 51; refine hY.mono ?_; rintro e w1 ⟨rfl, hw⟩; have hw2 := hw.symm; subst hw2)
    go_ret
    refine ⟨congrArg (fun x => Ending.returned (.int .i64 x)) ?_, rfl⟩
    omega
  · rw [if_neg h]
    have hY := isMin_no (w := w) h
    clear h
    go_enter Tryd.func86, Tryd.ntmps86
    go_wp2_with (go_at_call 51; refine hY.mono ?_; rintro e w1 ⟨rfl, hw⟩; have hw2 := hw.symm; subst hw2)
    go_ret
    exact ⟨rfl, rfl⟩
set_option maxHeartbeats 400000 in
theorem specWeek_any (m : Int) (w : World) :
    Calls Tryd.prog 84 #[.int .i64 m] w fun e w' => e = .returned (.int .i64 (weekN m)) ∧ w' = w := by
  unfold weekN
  by_cases h : 0 ≤ m ∧ m ≤ 68374079
  · rw [if_pos h]
    have h0 := h.1
    have h1 := h.2
    have hY := in_yes (w := w) h0 h1
    clear h
    go_enter Tryd.func84, Tryd.ntmps84
    go_wp2_with (go_at_call 54; refine hY.mono ?_; rintro e w1 ⟨rfl, hw⟩; have hw2 := hw.symm; subst hw2)
    go_ret
    refine ⟨congrArg (fun x => Ending.returned (.int .i64 x)) ?_, rfl⟩
    omega
  · rw [if_neg h]
    have hY := in_no (w := w) h
    clear h
    go_enter Tryd.func84, Tryd.ntmps84
    go_wp2_with (go_at_call 54; refine hY.mono ?_; rintro e w1 ⟨rfl, hw⟩; have hw2 := hw.symm; subst hw2)
    go_ret
    exact ⟨rfl, rfl⟩

end Go.Proofs.YtgeimliibddhmaaDoor

namespace Go.Proofs.YtgeimliibddhmaaDoor
open Go Go.RowKit

theorem belowOn {w w1 w2 : World} (h1 : Below w.heap.size w w1) (h2 : Below w1.heap.size w1 w2) : Below w.heap.size w w2 := h1.trans (h2.mono h1.size)
/-- Where a day lies. -/
structure At5 (w : World) (g : Nat) (c : Cv) : Prop where
  c0 : w.cell? ⟨g, 0, none⟩ = some (.int .i64 c.y)
  c1 : w.cell? ⟨g, 1, none⟩ = some (.int .i64 c.mo)
  c2 : w.cell? ⟨g, 2, none⟩ = some (.int .i64 c.d)
  c3 : w.cell? ⟨g, 3, none⟩ = some (.int .i64 c.h)
  c4 : w.cell? ⟨g, 4, none⟩ = some (.int .i64 c.mi)
theorem At5.up {w w' : World} {B g : Nat} {c : Cv} (h : At5 w g c) (hb : Below B w w') (hg : g < B) : At5 w' g c :=
  ⟨(hb.cell hg).trans h.c0, (hb.cell hg).trans h.c1, (hb.cell hg).trans h.c2, (hb.cell hg).trans h.c3, (hb.cell hg).trans h.c4⟩
theorem At5.made (w : World) (c : Cv) (t : TypeId) : At5 (w.alloc (.cells #[.int .i64 c.y, .int .i64 c.mo, .int .i64 c.d, .int .i64 c.h, .int .i64 c.mi] t)) w.heap.size c :=
  ⟨by simp [go_sem], by simp [go_sem], by simp [go_sem], by simp [go_sem], by simp [go_sem]⟩
theorem ok_no {c : Cv} (h : ¬ Right c) : okC c = false := by
  cases hq : okC c with
  | false => rfl
  | true => exact absurd ((okC_iff c).1 hq) h
theorem ok_yes {c : Cv} (h : Right c) : okC c = true := (okC_iff c).2 h
theorem month_of {y m d : Int} (h0 : 1 ≤ d) (h1 : d ≤ daysB y m) : 1 ≤ m ∧ m ≤ 12 := by
  by_cases h : 1 ≤ m ∧ m ≤ 12
  · exact h
  · rw [daysB_no h] at h1; omega

end Go.Proofs.YtgeimliibddhmaaDoor

namespace Go.Proofs.YtgeimliibddhmaaDoor
open Go Go.RowKit

end Go.Proofs.YtgeimliibddhmaaDoor
