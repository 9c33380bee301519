/-
  When a rule fires, day by day: plain facts, and the program's two walks over a day.
-/
import Derived.Test.YtbecdaholpiaeaaDoorFi
import Derived.Test.YtbecdaholpiaeaaDoorNx
namespace Go.Proofs.YtbecdaholpiaeaaDoor
open Go Go.RowKit
set_option linter.unusedVariables false

theorem timeQ_is {a b c d e : List Int} {m : Int} (h0 : 0 ≤ m) : timeQ (mem5 a b c d e) m = (decide (m % 1440 / 60 ∈ b) && decide (m % 60 ∈ a)) := by
  show (memP b (m % 1440 / 60).toNat && memP a (m % 60).toNat) = _
  unfold memP
  rw [Int.toNat_of_nonneg (by omega), Int.toNat_of_nonneg (by omega)]
theorem fires_time {a b c d e : List Int} {m : Int} (h0 : 0 ≤ m) (h1 : m ≤ 68374079) : firesB a b c d e m = (timeQ (mem5 a b c d e) m && dayF c d e m) := by
  rw [timeQ_is h0]
  unfold firesB
  rw [decide_eq_true (show 0 ≤ m ∧ m ≤ 68374079 from ⟨h0, h1⟩)]
  cases decide (m % 60 ∈ a) <;> cases decide (m % 1440 / 60 ∈ b) <;> simp
theorem fires_out {a b c d e : List Int} {m : Int} (h : ¬ (0 ≤ m ∧ m ≤ 68374079)) : firesB a b c d e m = false := by
  unfold firesB
  rw [decide_eq_false h]
  rfl
theorem dayF_same {c d e : List Int} {m n : Int} (h0 : 0 ≤ m) (h1 : m ≤ 68374079) (h2 : 0 ≤ n) (h3 : n ≤ 68374079) (h : m / 1440 = n / 1440) : dayF c d e m = dayF c d e n := by
  rw [← dayF_day h0 h1, ← dayF_day h2 h3, h]
theorem Least.congr {f g : Int → Bool} {x y : Int} : ∀ {o : Option Int}, (∀ m, x ≤ m → m < y → f m = g m) → Least f x y o → Least g x y o
  | none, h, k => fun m h0 h1 => (h m h0 h1).symm.trans (k m h0 h1)
  | some r, h, k => ⟨k.1, k.2.1, (h r k.1 k.2.1).symm.trans k.2.2.1, fun m h0 h1 => (h m h0 (by have := k.2.1; omega)).symm.trans (k.2.2.2 m h0 h1)⟩
theorem countN_congr {f g : Int → Bool} {x : Int} : ∀ n : Nat, (∀ m, x ≤ m → m < x + n → f m = g m) → countN f x n = countN g x n
  | 0, _ => rfl
  | n + 1, h => by
    unfold countN
    rw [countN_congr n (fun m h0 h1 => h m h0 (by omega)), h (x + n) (by omega) (by omega)]
theorem countN_none {f : Int → Bool} {x : Int} (n : Nat) (h : ∀ m, x ≤ m → m < x + n → f m = false) : countN f x n = 0 := by
  have := countN_idle (f := f) (a := x) (i := 0) n (fun m h0 h1 => h m (by simpa using h0) (by simpa using h1))
  rw [Nat.zero_add] at this
  rw [this]
  rfl
/-- A day of a minute, whatever the minute. -/
noncomputable def dayW (c d e : List Int) (m : Int) : Bool := decide (0 ≤ m ∧ m ≤ 68374079) && dayF c d e m
theorem onDay_all {a b c d e : List Int} {m : Int} (w : World) (hB : cronB a b c d e = true) (hg : RchIs w) : Calls Tryd.prog 65 #[.agg (rulA (mem5 a b c d e)), .int .i64 m] w fun x w' => x = .returned (.bool (dayW c d e m)) ∧ Below w.heap.size w w' := by
  unfold dayW
  by_cases h : 0 ≤ m ∧ m ≤ 68374079
  · rw [decide_eq_true h, Bool.true_and]
    exact onDay_any w hB hg h.1 h.2
  · rw [decide_eq_false h, Bool.false_and]
    exact onDay_no _ m w h
theorem fires_day {a b c d e : List Int} {bg en m : Int} (h0 : 0 ≤ bg) (he : en ≤ (bg / 1440 + 1) * 1440) (h2 : bg ≤ m) (h3 : m < en) : firesB a b c d e m = (dayW c d e bg && timeQ (mem5 a b c d e) m) := by
  unfold dayW
  by_cases h : 0 ≤ bg ∧ bg ≤ 68374079
  · have h4 : m ≤ 68374079 := by omega
    rw [decide_eq_true h, Bool.true_and, fires_time (by omega) h4, dayF_same (m := m) (n := bg) (by omega) h4 h.1 h.2 (by omega), Bool.and_comm]
  · rw [decide_eq_false h, fires_out (by omega)]
    rfl
theorem firstDay_any {a b c d e : List Int} {bg en : Int} (w : World) (hB : cronB a b c d e = true) (hg : RchIs w) (h0 : 0 ≤ bg) (he : en ≤ (bg / 1440 + 1) * 1440) (h1 : bg ≤ 1152921504606800000) :
    Calls Tryd.prog 61 #[.agg (rulA (mem5 a b c d e)), .int .i64 bg, .int .i64 en] w fun x w' => ∃ o : Option Int, x = .returned (.tuple #[.int .i64 (o.getD 0), .bool o.isSome]) ∧ Least (firesB a b c d e) bg en o ∧ Below w.heap.size w w' := by
  refine (firstOfDay_try (mem5 a b c d e) bg en (dayW c d e bg) w h0 (by omega) (fun W hb => onDay_all W hB (hg.up hb))).mono ?_
  rintro x w' ⟨o, rfl, hF, hb⟩
  refine ⟨o, rfl, ?_, hb⟩
  cases hq : dayW c d e bg with
  | false =>
    have := hF.1 hq
    subst this
    intro m g0 g1
    rw [fires_day h0 he g0 g1, hq]
    rfl
  | true => exact Least.congr (fun m g0 g1 => by rw [fires_day h0 he g0 g1, hq]; rfl) (hF.2 hq)
end Go.Proofs.YtbecdaholpiaeaaDoor
