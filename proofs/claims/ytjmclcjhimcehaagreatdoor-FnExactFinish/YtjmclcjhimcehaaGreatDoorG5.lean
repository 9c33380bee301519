/-
  Years, months, days and minutes: plain facts. When a rule fires: plain facts. Rising lists that are full: plain facts. All is as it was but for one block. Over any program. The cursor that inputs are drawn with: what stays as it was, and the walks of its four functions.
-/
import Derived.WalkKit
import Derived.Test.YtjmclcjhimcehaaGreatDoorG4
import Derived.Below
import Derived.Deep.QuietTactic
import Derived.BigQuiet
import Derived.Test.YtjmclcjhimcehaaGreatDoorRows
import Derived.Test.YtjmclcjhimcehaaGreatDoorAid
import Derived.Test.YtjmclcjhimcehaaGreatDoorInf
import Derived.WalkSpells
import Derived.WalkLawsBesides
import Derived.Handy
import Derived.Laws.BitsAllLaws
import Derived.Deep.RegionWith
import Derived.Deep.RegionHeld
namespace Go.Proofs.YtjmclcjhimcehaaGreatDoor
open Go Go.RowKit

/-- 4 divides it, and 100 does not, or 400 does. -/
def leapB (y : Int) : Bool := (decide (y.tmod 4 = 0) && !decide (y.tmod 100 = 0)) || decide (y.tmod 400 = 0)
/-- The days of a year. -/
def yearL (y : Int) : Int := if leapB y then 366 else 365
/-- The days of a month. -/
def daysB (y m : Int) : Int :=
  if m = 2 then (if leapB y then 29 else 28)
  else if m = 4 ∨ m = 6 ∨ m = 9 ∨ m = 11 then 30
  else if 1 ≤ m ∧ m ≤ 12 then 31 else 0
/-- The days from the begin of 1970 to that of the n-th year behind it. -/
def yearN (n : Int) : Int := 365 * n + (n + 1) / 4
/-- The days of a year (a leap year: b) ahead of a month. -/
def monN (b : Bool) (m : Int) : Int :=
  if m ≤ 1 then 0 else if m = 2 then 31 else (if b then 1 else 0) +
    if m = 3 then 59 else if m = 4 then 90 else if m = 5 then 120 else if m = 6 then 151 else if m = 7 then 181
    else if m = 8 then 212 else if m = 9 then 243 else if m = 10 then 273 else if m = 11 then 304 else if m = 12 then 334 else 365

theorem leap_n {n : Int} (h0 : 0 ≤ n) (h1 : n < 130) : leapB (1970 + n) = decide ((n + 2) % 4 = 0) := by
  unfold leapB
  rw [Int.tmod_eq_emod_of_nonneg (by omega), Int.tmod_eq_emod_of_nonneg (by omega), Int.tmod_eq_emod_of_nonneg (by omega)]
  rw [Bool.eq_iff_iff]
  simp only [Bool.or_eq_true, Bool.and_eq_true, decide_eq_true_eq, Bool.not_eq_true', decide_eq_false_iff_not]
  omega
theorem yearL_bd (y : Int) : 365 ≤ yearL y ∧ yearL y ≤ 366 := by unfold yearL; split <;> omega
theorem yearN_next {n : Int} (h0 : 0 ≤ n) (h1 : n < 130) : yearN (n + 1) = yearN n + yearL (1970 + n) := by
  unfold yearL yearN
  rw [leap_n h0 h1]
  by_cases h : (n + 2) % 4 = 0
  · rw [decide_eq_true h, if_pos rfl]; omega
  · rw [decide_eq_false h, if_neg (by decide)]; omega
theorem yearN_up {n k : Int} (h : n ≤ k) : yearN n ≤ yearN k := by unfold yearN; omega
theorem months {m : Int} (h0 : 1 ≤ m) (h1 : m ≤ 12) : m = 1 ∨ m = 2 ∨ m = 3 ∨ m = 4 ∨ m = 5 ∨ m = 6 ∨ m = 7 ∨ m = 8 ∨ m = 9 ∨ m = 10 ∨ m = 11 ∨ m = 12 := by omega
theorem monN_next {y m : Int} (h0 : 1 ≤ m) (h1 : m ≤ 12) : monN (leapB y) (m + 1) = monN (leapB y) m + daysB y m := by
  unfold daysB
  generalize leapB y = b
  rcases months h0 h1 with h | h | h | h | h | h | h | h | h | h | h | h <;> subst h <;> cases b <;> rfl
theorem monN_bd {b : Bool} {m : Int} (h1 : m ≤ 12) : 0 ≤ monN b m ∧ monN b m ≤ 335 := by
  by_cases h0 : 1 ≤ m
  · rcases months h0 h1 with h | h | h | h | h | h | h | h | h | h | h | h <;> subst h <;> cases b <;> decide
  · unfold monN; rw [if_pos (by omega)]; decide
theorem monN_end (y : Int) : monN (leapB y) 13 = yearL y := by
  unfold yearL
  cases leapB y <;> rfl
theorem monN_one (b : Bool) : monN b 1 = 0 := rfl
theorem daysB_bd {y m : Int} : 0 ≤ daysB y m ∧ daysB y m ≤ 31 := by
  unfold daysB
  split
  · split <;> omega
  · split
    · omega
    · split <;> omega
theorem daysB_right {y m : Int} (h0 : 1 ≤ m) (h1 : m ≤ 12) : 28 ≤ daysB y m := by
  unfold daysB
  split
  · split <;> omega
  · split
    · omega
    · rw [if_pos ⟨h0, h1⟩]; decide
theorem daysB_no {y m : Int} (h : ¬ (1 ≤ m ∧ m ≤ 12)) : daysB y m = 0 := by
  unfold daysB
  rw [if_neg (by omega), if_neg (by omega), if_neg h]
theorem monN_up {y m : Int} (h0 : 1 ≤ m) (k : Nat) (h1 : m + 1 + k ≤ 13) : monN (leapB y) m + daysB y m ≤ monN (leapB y) (m + 1 + k) := by
  induction k with
  | zero => rw [show m + 1 + ((0 : Nat) : Int) = m + 1 by omega, monN_next h0 (by omega)]; exact Int.le_refl _
  | succ k ih =>
    have h2 := ih (by omega)
    have h3 := monN_next (y := y) (m := m + 1 + k) (by omega) (by omega)
    have h4 := (daysB_bd (y := y) (m := m + 1 + k)).1
    rw [show m + 1 + ((k + 1 : Nat) : Int) = m + 1 + (k : Int) + 1 by omega]
    omega

/-- A day and a minute of it. -/
structure Cv where
  y : Int
  mo : Int
  d : Int
  h : Int
  mi : Int
/-- What a right one is. -/
def okC (c : Cv) : Bool := decide (1970 ≤ c.y ∧ c.y ≤ 2099) && (decide (1 ≤ c.mo ∧ c.mo ≤ 12) && (decide (1 ≤ c.d ∧ c.d ≤ daysB c.y c.mo) && (decide (0 ≤ c.h ∧ c.h ≤ 23) && decide (0 ≤ c.mi ∧ c.mi ≤ 59))))
structure Right (c : Cv) : Prop where
  y0 : 1970 ≤ c.y
  y1 : c.y ≤ 2099
  m0 : 1 ≤ c.mo
  m1 : c.mo ≤ 12
  d0 : 1 ≤ c.d
  d1 : c.d ≤ daysB c.y c.mo
  h0 : 0 ≤ c.h
  h1 : c.h ≤ 23
  i0 : 0 ≤ c.mi
  i1 : c.mi ≤ 59
theorem okC_iff (c : Cv) : okC c = true ↔ Right c := by
  unfold okC
  simp only [Bool.and_eq_true, decide_eq_true_eq]
  constructor
  · rintro ⟨⟨h1, h2⟩, ⟨h3, h4⟩, ⟨h5, h6⟩, ⟨h7, h8⟩, h9, h10⟩
    exact ⟨h1, h2, h3, h4, h5, h6, h7, h8, h9, h10⟩
  · rintro ⟨h1, h2, h3, h4, h5, h6, h7, h8, h9, h10⟩
    exact ⟨⟨h1, h2⟩, ⟨h3, h4⟩, ⟨h5, h6⟩, ⟨h7, h8⟩, h9, h10⟩
/-- The day, counted from the begin of 1970. -/
def dayC (c : Cv) : Int := yearN (c.y - 1970) + monN (leapB c.y) c.mo + c.d - 1
/-- Its minute. -/
def minC (c : Cv) : Int := dayC c * 1440 + c.h * 60 + c.mi
theorem Right.day {c : Cv} (h : Right c) : yearN (c.y - 1970) ≤ dayC c ∧ dayC c < yearN (c.y - 1970 + 1) := by
  have h1 := monN_bd (b := leapB c.y) h.m1
  have h2 := monN_up (y := c.y) h.m0 (12 - c.mo).toNat (by have := h.m1; omega)
  rw [show c.mo + 1 + (((12 - c.mo).toNat : Nat) : Int) = 13 by have := h.m1; omega, monN_end] at h2
  have h3 := yearN_next (n := c.y - 1970) (by have := h.y0; omega) (by have := h.y1; omega)
  rw [show 1970 + (c.y - 1970) = c.y by omega] at h3
  have := h.d0
  have := h.d1
  unfold dayC
  omega
theorem Right.day_bd {c : Cv} (h : Right c) : 0 ≤ dayC c ∧ dayC c ≤ 47481 := by
  have h1 := h.day
  have h2 : yearN 0 ≤ yearN (c.y - 1970) := yearN_up (by have := h.y0; omega)
  have h3 : yearN (c.y - 1970 + 1) ≤ yearN 130 := yearN_up (by have := h.y1; omega)
  have h4 : yearN 0 = 0 := rfl
  have h5 : yearN 130 = 47482 := rfl
  omega
theorem Right.min_bd {c : Cv} (h : Right c) : 0 ≤ minC c ∧ minC c ≤ 68374079 := by
  have h1 := h.day_bd
  have := h.h0
  have := h.h1
  have := h.i0
  have := h.i1
  unfold minC
  omega
theorem year_one {n k d : Int} (h1 : yearN n ≤ d) (h2 : d < yearN (n + 1)) (h3 : yearN k ≤ d) (h4 : d < yearN (k + 1)) : n = k := by
  rcases Int.lt_trichotomy n k with h | h | h
  · have := yearN_up (n := n + 1) (k := k) (by omega); omega
  · exact h
  · have := yearN_up (n := k + 1) (k := n) (by omega); omega
theorem month_one {y m k x : Int} (hm0 : 1 ≤ m) (hm1 : m ≤ 12) (hk0 : 1 ≤ k) (hk1 : k ≤ 12) (h1 : monN (leapB y) m ≤ x) (h2 : x < monN (leapB y) m + daysB y m) (h3 : monN (leapB y) k ≤ x) (h4 : x < monN (leapB y) k + daysB y k) : m = k := by
  rcases Int.lt_trichotomy m k with h | h | h
  · have := monN_up (y := y) hm0 (k - m - 1).toNat (by omega)
    rw [show m + 1 + (((k - m - 1).toNat : Nat) : Int) = k by omega] at this
    omega
  · exact h
  · have := monN_up (y := y) hk0 (m - k - 1).toNat (by omega)
    rw [show k + 1 + (((m - k - 1).toNat : Nat) : Int) = m by omega] at this
    omega
/-- A minute is of one right day alone. -/
theorem Right.one {c e : Cv} (hc : Right c) (he : Right e) (h : minC c = minC e) : c = e := by
  have c1 := hc.h0
  have c2 := hc.h1
  have c3 := hc.i0
  have c4 := hc.i1
  have e1 := he.h0
  have e2 := he.h1
  have e3 := he.i0
  have e4 := he.i1
  have hd : dayC c = dayC e ∧ c.h = e.h ∧ c.mi = e.mi := by unfold minC at h; omega
  have hcd := hc.day
  have hed := he.day
  rw [hd.1] at hcd
  have hy : c.y = e.y := by have := year_one hcd.1 hcd.2 hed.1 hed.2; omega
  have hd1 := hd.1
  unfold dayC at hd1
  rw [hy] at hd1
  have hc5 := hc.d1
  rw [hy] at hc5
  have hc6 := hc.d0
  have he5 := he.d1
  have he6 := he.d0
  have hm : c.mo = e.mo := month_one (y := e.y) (x := monN (leapB e.y) e.mo + e.d - 1) hc.m0 hc.m1 he.m0 he.m1 (by omega) (by omega) (by omega) (by omega)
  rw [hm] at hd1
  have hdd : c.d = e.d := by omega
  cases c
  cases e
  simp_all
/-- The weekday of a minute. -/
def weekN (m : Int) : Int := if 0 ≤ m ∧ m ≤ 68374079 then (m / 1440 + 4) % 7 else -1
end Go.Proofs.YtjmclcjhimcehaaGreatDoor

namespace Go.Proofs.YtjmclcjhimcehaaGreatDoor
open Go Go.RowKit

theorem year_ex {D : Int} (h0 : 0 ≤ D) : ∀ k : Nat, D < yearN k → ∃ n : Nat, n < k ∧ yearN n ≤ D ∧ D < yearN (n + 1)
  | 0, h => by have : yearN ((0 : Nat) : Int) = 0 := rfl; omega
  | k + 1, h => by
    by_cases hk : D < yearN k
    · obtain ⟨n, h1, h2, h3⟩ := year_ex h0 k hk
      exact ⟨n, by omega, h2, h3⟩
    · exact ⟨k, by omega, by omega, h⟩
theorem month_ex {y x : Int} (h0 : 0 ≤ x) : ∀ k : Nat, k ≤ 12 → x < monN (leapB y) (k + 1) → ∃ m : Nat, 1 ≤ m ∧ m ≤ k ∧ monN (leapB y) m ≤ x ∧ x < monN (leapB y) m + daysB y m
  | 0, _, h => by rw [show ((0 : Nat) : Int) + 1 = 1 from rfl, monN_one] at h; omega
  | k + 1, hk, h => by
    by_cases hx : x < monN (leapB y) (k + 1)
    · obtain ⟨m, h1, h2, h3⟩ := month_ex h0 k (by omega) hx
      exact ⟨m, h1, by omega, h3⟩
    · have e := monN_next (y := y) (m := (k : Int) + 1) (by omega) (by omega)
      refine ⟨k + 1, by omega, Nat.le_refl _, ?_, ?_⟩
      · rw [show ((k + 1 : Nat) : Int) = (k : Int) + 1 by omega]; omega
      · rw [show ((k + 1 : Nat) : Int) = (k : Int) + 1 by omega] at h ⊢; omega
theorem civ_ex {m : Int} (h0 : 0 ≤ m) (h1 : m ≤ 68374079) : ∃ c, Right c ∧ minC c = m := by
  have e130 : yearN ((130 : Nat) : Int) = 47482 := rfl
  obtain ⟨n, hn, hy0, hy1⟩ := year_ex (D := m / 1440) (by omega) 130 (by omega)
  have e := yearN_next (n := (n : Int)) (by omega) (by omega)
  obtain ⟨k, hk0, hk1, hm0, hm1⟩ := month_ex (y := 1970 + n) (x := m / 1440 - yearN n) (by omega) 12 (Nat.le_refl _) (by rw [show ((12 : Nat) : Int) + 1 = 13 from rfl, monN_end]; omega)
  refine ⟨⟨1970 + n, k, m / 1440 - yearN n - monN (leapB (1970 + n)) k + 1, m % 1440 / 60, m % 1440 % 60⟩, ⟨by show 1970 ≤ 1970 + (n : Int); omega, by show 1970 + (n : Int) ≤ 2099; omega, by show (1 : Int) ≤ k; omega, by show (k : Int) ≤ 12; omega, by show 1 ≤ m / 1440 - yearN n - monN (leapB (1970 + n)) k + 1; omega, by show m / 1440 - yearN n - monN (leapB (1970 + n)) k + 1 ≤ daysB (1970 + n) k; omega, by show 0 ≤ m % 1440 / 60; omega, by show m % 1440 / 60 ≤ 23; omega, by show 0 ≤ m % 1440 % 60; omega, by show m % 1440 % 60 ≤ 59; omega⟩, ?_⟩
  show (yearN (1970 + n - 1970) + monN (leapB (1970 + n)) k + (m / 1440 - yearN n - monN (leapB (1970 + n)) k + 1) - 1) * 1440 + m % 1440 / 60 * 60 + m % 1440 % 60 = m
  rw [show 1970 + (n : Int) - 1970 = n by omega]
  have : yearN n + monN (leapB (1970 + n)) k + (m / 1440 - yearN n - monN (leapB (1970 + n)) k + 1) - 1 = m / 1440 := by omega
  rw [this]
  omega
open Classical in
/-- The day of a minute. -/
noncomputable def civ (m : Int) : Cv := if h : ∃ c, Right c ∧ minC c = m then Classical.choose h else ⟨0, 0, 0, 0, 0⟩
theorem civ_is {c : Cv} {m : Int} (hr : Right c) (hm : minC c = m) : civ m = c := by
  have hx : ∃ c, Right c ∧ minC c = m := ⟨c, hr, hm⟩
  unfold civ
  rw [dif_pos hx]
  have := Classical.choose_spec hx
  exact Right.one this.1 hr (this.2.trans hm.symm)
theorem civ_right {m : Int} (h0 : 0 ≤ m) (h1 : m ≤ 68374079) : Right (civ m) ∧ minC (civ m) = m := by
  obtain ⟨c, hr, hm⟩ := civ_ex h0 h1
  rw [civ_is hr hm]
  exact ⟨hr, hm⟩
/-- The day is the same all the day long. -/
theorem civ_day {m : Int} (h0 : 0 ≤ m) (h1 : m ≤ 68374079) : civ (m / 1440 * 1440) = ⟨(civ m).y, (civ m).mo, (civ m).d, 0, 0⟩ := by
  obtain ⟨hr, hm⟩ := civ_right h0 h1
  refine civ_is ⟨hr.y0, hr.y1, hr.m0, hr.m1, hr.d0, hr.d1, Int.le_refl _, by show (0 : Int) ≤ 23; decide, Int.le_refl _, by show (0 : Int) ≤ 59; decide⟩ ?_
  show dayC (civ m) * 1440 + 0 * 60 + 0 = _
  unfold minC at hm
  have := hr.h0
  have := hr.h1
  have := hr.i0
  have := hr.i1
  omega
theorem week_day {m : Int} (h0 : 0 ≤ m) (h1 : m ≤ 68374079) : weekN (m / 1440 * 1440) = weekN m := by
  unfold weekN
  rw [if_pos ⟨by omega, by omega⟩, if_pos ⟨h0, h1⟩]
  omega
/-- Whether the day of a minute is one of a rule's. -/
noncomputable def dayF (c d e : List Int) (m : Int) : Bool :=
  decide ((civ m).mo ∈ d) && (if c.length = 31 ∨ e.length = 7 then decide ((civ m).d ∈ c) && decide (weekN m ∈ e) else decide ((civ m).d ∈ c) || decide (weekN m ∈ e))
theorem dayF_day {c d e : List Int} {m : Int} (h0 : 0 ≤ m) (h1 : m ≤ 68374079) : dayF c d e (m / 1440 * 1440) = dayF c d e m := by
  unfold dayF
  rw [civ_day h0 h1, week_day h0 h1]
/-- When a right rule fires. -/
noncomputable def firesB (a b c d e : List Int) (m : Int) : Bool := decide (0 ≤ m ∧ m ≤ 68374079) && (decide (m % 60 ∈ a) && (decide (m % 1440 / 60 ∈ b) && dayF c d e m))
theorem fires_iff {a b c d e : List Int} {m : Int} : firesB a b c d e m = true ↔ (0 ≤ m ∧ m ≤ 68374079) ∧ m % 60 ∈ a ∧ m % 1440 / 60 ∈ b ∧ dayF c d e m = true := by
  unfold firesB
  simp only [Bool.and_eq_true, decide_eq_true_eq]

theorem riseB_up {lo hi : Int} : ∀ (l : List Int) (p : Option Int), riseB lo hi p l = true → (∀ x ∈ l, lo ≤ x ∧ x ≤ hi ∧ ∀ y, p = some y → y < x) ∧ l.Pairwise (· < ·)
  | [], _, _ => ⟨fun x hx => (by cases hx), List.Pairwise.nil⟩
  | x :: r, p, h => by
    unfold riseB at h
    simp only [Bool.and_eq_true, decide_eq_true_eq] at h
    obtain ⟨⟨⟨ha, hb⟩, hc⟩, hd⟩ := h
    obtain ⟨h1, h2⟩ := riseB_up r (some x) hd
    have hp : ∀ y, p = some y → y < x := by
      intro y hy
      subst hy
      simpa using hc
    refine ⟨fun z hz => ?_, List.Pairwise.cons (fun z hz => (h1 z hz).2.2 x rfl) h2⟩
    rcases List.mem_cons.1 hz with rfl | hz
    · exact ⟨ha, hb, hp⟩
    · have := h1 z hz
      exact ⟨this.1, this.2.1, fun y hy => Int.lt_trans (hp y hy) (this.2.2 x rfl)⟩
theorem listB_up {lo hi : Int} {l : List Int} (h : listB lo hi l = true) : (∀ x ∈ l, lo ≤ x ∧ x ≤ hi) ∧ l.Pairwise (· < ·) ∧ 0 < l.length := by
  unfold listB at h
  rw [Bool.and_eq_true] at h
  have := riseB_up l none h.2
  refine ⟨fun x hx => ⟨(this.1 x hx).1, (this.1 x hx).2.1⟩, this.2, ?_⟩
  cases l with
  | nil => simp at h
  | cons x r => simp
theorem up_lt {l : List Int} (h : l.Pairwise (· < ·)) {i j : Nat} {x y : Int} (hi : l[i]? = some x) (hj : l[j]? = some y) (hij : i < j) : x < y := by
  obtain ⟨h1, rfl⟩ := List.getElem?_eq_some_iff.1 hi
  obtain ⟨h2, rfl⟩ := List.getElem?_eq_some_iff.1 hj
  exact List.pairwise_iff_getElem.1 h i j h1 h2 hij

/-- The least minute from one on, below an end, when it fires: none, or this one. -/
def Least (f : Int → Bool) (from' upto : Int) : Option Int → Prop
  | none => ∀ m, from' ≤ m → m < upto → f m = false
  | some r => from' ≤ r ∧ r < upto ∧ f r = true ∧ ∀ m, from' ≤ m → m < r → f m = false
theorem Least.one {f : Int → Bool} {a b : Int} : ∀ {o p : Option Int}, Least f a b o → Least f a b p → o = p
  | none, none, _, _ => rfl
  | none, some r, h, k => absurd k.2.2.1 (by rw [h r k.1 k.2.1]; decide)
  | some r, none, h, k => absurd h.2.2.1 (by rw [k r h.1 h.2.1]; decide)
  | some r, some s, h, k => by
    rcases Int.lt_trichotomy r s with e | e | e
    · exact absurd h.2.2.1 (by rw [k.2.2.2 r h.1 e]; decide)
    · rw [e]
    · exact absurd k.2.2.1 (by rw [h.2.2.2 s k.1 e]; decide)

/-- All minutes of a day up to an hour and a minute of the lists are ahead of `from`. -/
def Past (a b : List Int) (D from' : Int) (i k : Nat) : Prop := ∀ (j l : Nat) (x y : Int), b[j]? = some x → a[l]? = some y → (j < i ∨ (j = i ∧ l < k)) → D * 1440 + x * 60 + y < from'
theorem past_start (a b : List Int) (D from' : Int) : Past a b D from' 0 0 := fun j l x y _ _ h => by omega
theorem Past.next {a b : List Int} {D from' x y : Int} {i k : Nat} (h : Past a b D from' i k) (hi : b[i]? = some x) (hk : a[k]? = some y) (hlt : D * 1440 + x * 60 + y < from') : Past a b D from' i (k + 1) := by
  intro j l u v hj hl hc
  by_cases hjl : j = i ∧ l = k
  · obtain ⟨rfl, rfl⟩ := hjl
    rw [hi] at hj
    rw [hk] at hl
    cases hj
    cases hl
    exact hlt
  · exact h j l u v hj hl (by omega)
theorem Past.row {a b : List Int} {D from' : Int} {i : Nat} (h : Past a b D from' i a.length) : Past a b D from' (i + 1) 0 := by
  intro j l u v hj hl hc
  have hl2 := (List.getElem?_eq_some_iff.1 hl).1
  exact h j l u v hj hl (by omega)
theorem fires_at {a b c d e : List Int} {m : Int} (hf : firesB a b c d e m = true) : ∃ (j l : Nat) (x y : Int), b[j]? = some x ∧ a[l]? = some y ∧ m = m / 1440 * 1440 + x * 60 + y := by
  obtain ⟨⟨h0, h1⟩, ha, hb, _⟩ := fires_iff.1 hf
  obtain ⟨l, hl⟩ := List.getElem?_of_mem ha
  obtain ⟨j, hj⟩ := List.getElem?_of_mem hb
  exact ⟨j, l, _, _, hj, hl, by omega⟩
/-- A whole day that is past. -/
theorem Past.day {a b c d e : List Int} {D from' : Int} (h : Past a b D from' b.length 0) (hp : ∀ m, from' ≤ m → m < D * 1440 → firesB a b c d e m = false) : ∀ m, from' ≤ m → m < (D + 1) * 1440 → firesB a b c d e m = false := by
  intro m h0 h1
  by_cases hm : m < D * 1440
  · exact hp m h0 hm
  · cases hf : firesB a b c d e m with
    | false => rfl
    | true =>
      obtain ⟨j, l, x, y, hj, hl, he⟩ := fires_at hf
      have hD : m / 1440 = D := by omega
      rw [hD] at he
      have := h j l x y hj hl (.inl (List.getElem?_eq_some_iff.1 hj).1)
      omega
/-- A day on which the rule does not fire. -/
theorem day_idle {a b c d e : List Int} {D from' : Int} (hd : dayF c d e (D * 1440) = false) (hp : ∀ m, from' ≤ m → m < D * 1440 → firesB a b c d e m = false) : ∀ m, from' ≤ m → m < (D + 1) * 1440 → firesB a b c d e m = false := by
  intro m h2 h3
  by_cases hm : m < D * 1440
  · exact hp m h2 hm
  · cases hf : firesB a b c d e m with
    | false => rfl
    | true =>
      obtain ⟨⟨h4, h5⟩, _, _, h6⟩ := fires_iff.1 hf
      rw [← dayF_day h4 h5, show m / 1440 = D by omega, hd] at h6
      cases h6
/-- The first one of a day that is not past is the least one. -/
theorem Past.least {a b c d e : List Int} {D from' x y : Int} {i k : Nat} (h : Past a b D from' i k) (hA : listB 0 59 a = true) (hB : listB 0 23 b = true) (hD0 : 0 ≤ D) (hD1 : D ≤ 47481) (hd : dayF c d e (D * 1440) = true) (hp : ∀ m, from' ≤ m → m < D * 1440 → firesB a b c d e m = false)
    (hi : b[i]? = some x) (hk : a[k]? = some y) : firesB a b c d e (D * 1440 + x * 60 + y) = true ∧ ∀ m, from' ≤ m → m < D * 1440 + x * 60 + y → firesB a b c d e m = false := by
  obtain ⟨hA1, hA2, _⟩ := listB_up hA
  obtain ⟨hB1, hB2, _⟩ := listB_up hB
  have hx := hB1 x (List.mem_of_getElem? hi)
  have hy := hA1 y (List.mem_of_getElem? hk)
  refine ⟨fires_iff.2 ⟨⟨by omega, by omega⟩, ?_, ?_, ?_⟩, fun m h0 h1 => ?_⟩
  · rw [show (D * 1440 + x * 60 + y) % 60 = y by omega]; exact List.mem_of_getElem? hk
  · rw [show (D * 1440 + x * 60 + y) % 1440 / 60 = x by omega]; exact List.mem_of_getElem? hi
  · rw [← dayF_day (by omega) (by omega), show (D * 1440 + x * 60 + y) / 1440 = D by omega]; exact hd
  · by_cases hm : m < D * 1440
    · exact hp m h0 hm
    · cases hf : firesB a b c d e m with
      | false => rfl
      | true =>
        obtain ⟨j, l, u, v, hj, hl, he⟩ := fires_at hf
        have hmD : m / 1440 = D := by omega
        rw [hmD] at he
        have hu := hB1 u (List.mem_of_getElem? hj)
        have hv := hA1 v (List.mem_of_getElem? hl)
        have hc : j < i ∨ (j = i ∧ l < k) := by
          rcases Nat.lt_trichotomy j i with c | c | c
          · exact .inl c
          · subst c
            rw [hi] at hj
            cases hj
            refine .inr ⟨rfl, ?_⟩
            rcases Nat.lt_trichotomy l k with c | c | c
            · exact c
            · subst c
              rw [hk] at hl
              cases hl
              omega
            · have := up_lt hA2 hk hl c
              omega
          · have := up_lt hB2 hi hj c
            omega
        have := h j l u v hj hl hc
        omega

/-- How many of n minutes from one on fire. -/
def countN (f : Int → Bool) (a : Int) : Nat → Nat
  | 0 => 0
  | n + 1 => countN f a n + if f (a + n) then 1 else 0
theorem countN_le (f : Int → Bool) (a : Int) : ∀ n, countN f a n ≤ n
  | 0 => Nat.le_refl _
  | n + 1 => by have := countN_le f a n; unfold countN; split <;> omega
theorem countN_idle {f : Int → Bool} {a : Int} {i : Nat} : ∀ k : Nat, (∀ m, a + i ≤ m → m < a + i + k → f m = false) → countN f a (i + k) = countN f a i
  | 0, _ => rfl
  | k + 1, h => by
    rw [show i + (k + 1) = i + k + 1 by omega, countN, countN_idle k (fun m h0 h1 => h m h0 (by omega)), h _ (by omega) (by omega)]
    rfl
theorem countN_add (f : Int → Bool) (a : Int) (i : Nat) : ∀ k : Nat, countN f a (i + k) = countN f a i + countN f (a + i) k
  | 0 => rfl
  | k + 1 => by
    rw [show i + (k + 1) = i + k + 1 by omega, countN, countN_add f a i k, countN, show a + (i : Int) + (k : Int) = a + ((i + k : Nat) : Int) by omega]
    omega
/-- One more that fires, and nothing between. -/
theorem countN_one {f : Int → Bool} {a : Int} {i k : Nat} (h : ∀ m, a + i ≤ m → m < a + i + k → f m = false) (hf : f (a + i + k) = true) : countN f a (i + k + 1) = countN f a i + 1 := by
  rw [countN, countN_idle k h, show a + ((i + k : Nat) : Int) = a + i + k by omega, hf]
  rfl
end Go.Proofs.YtjmclcjhimcehaaGreatDoor

namespace Go.Proofs.YtjmclcjhimcehaaGreatDoor
open Go Go.RowKit

/-- Two rising lists with the same numbers are one. -/
theorem rise_ext : ∀ (l m : List Int), l.Pairwise (· < ·) → m.Pairwise (· < ·) → (∀ x, x ∈ l ↔ x ∈ m) → l = m
  | [], [], _, _, _ => rfl
  | [], y :: m, _, _, h => absurd ((h y).2 (List.mem_cons_self ..)) List.not_mem_nil
  | x :: l, [], _, _, h => absurd ((h x).1 (List.mem_cons_self ..)) List.not_mem_nil
  | x :: l, y :: m, hl, hm, h => by
    have hl1 := List.pairwise_cons.1 hl
    have hm1 := List.pairwise_cons.1 hm
    have hxy : x = y := by
      rcases List.mem_cons.1 ((h x).1 (List.mem_cons_self ..)) with e | e
      · exact e
      · rcases List.mem_cons.1 ((h y).2 (List.mem_cons_self ..)) with e2 | e2
        · exact e2.symm
        · have := hl1.1 y e2
          have := hm1.1 x e
          omega
    subst hxy
    congr 1
    refine rise_ext l m hl1.2 hm1.2 fun z => ⟨fun hz => ?_, fun hz => ?_⟩
    · rcases List.mem_cons.1 ((h z).1 (List.mem_cons_of_mem _ hz)) with e | e
      · subst e; exact absurd (hl1.1 z hz) (by omega)
      · exact e
    · rcases List.mem_cons.1 ((h z).2 (List.mem_cons_of_mem _ hz)) with e | e
      · subst e; exact absurd (hm1.1 z hz) (by omega)
      · exact e
theorem low_at {lo : Int} : ∀ (l : List Int) (i : Nat) (x : Int), l.Pairwise (· < ·) → (∀ y ∈ l, lo ≤ y) → l[i]? = some x → lo + i ≤ x
  | [], i, x, _, _, h => by simp at h
  | y :: r, 0, x, _, hl, h => by simp at h; subst h; have := hl y (List.mem_cons_self ..); omega
  | y :: r, i + 1, x, hr, hl, h => by
    have hp := List.pairwise_cons.1 hr
    have := low_at (lo := lo + 1) r i x hp.2 (fun z hz => by have := hp.1 z hz; have := hl y (List.mem_cons_self ..); omega) (by simpa using h)
    omega
theorem high_at {hi : Int} : ∀ (l : List Int) (i : Nat) (x : Int), l.Pairwise (· < ·) → (∀ y ∈ l, y ≤ hi) → l[i]? = some x → x + (l.length - 1 - i : Nat) ≤ hi
  | [], i, x, _, _, h => by simp at h
  | y :: r, 0, x, hr, hl, h => by
    simp at h; subst h
    have hp := List.pairwise_cons.1 hr
    cases r with
    | nil => have := hl y (List.mem_cons_self ..); simp; omega
    | cons z r =>
      have h1 := high_at (z :: r) 0 z hp.2 (fun u hu => hl u (List.mem_cons_of_mem _ hu)) rfl
      have h2 := hp.1 z (List.mem_cons_self ..)
      simp only [List.length_cons] at h1 ⊢
      omega
  | y :: r, i + 1, x, hr, hl, h => by
    have hp := List.pairwise_cons.1 hr
    have := high_at r i x hp.2 (fun u hu => hl u (List.mem_cons_of_mem _ hu)) (by simpa using h)
    simp only [List.length_cons]
    omega
/-- A rising list of as many numbers as the field has, has all. -/
theorem full_list {lo hi : Int} {l : List Int} (hl : ∀ x ∈ l, lo ≤ x ∧ x ≤ hi) (hr : l.Pairwise (· < ·)) (hn : (l.length : Int) = hi - lo + 1) {x : Int} (h0 : lo ≤ x) (h1 : x ≤ hi) : x ∈ l := by
  have hi' : (x - lo).toNat < l.length := by omega
  have hg : l[(x - lo).toNat]? = some l[(x - lo).toNat] := List.getElem?_eq_getElem hi'
  have a := low_at l _ _ hr (fun y hy => (hl y hy).1) hg
  have b := high_at l _ _ hr (fun y hy => (hl y hy).2) hg
  have e : l[(x - lo).toNat] = x := by omega
  rw [← e]
  exact List.getElem_mem hi'
theorem list_len {lo hi : Int} {l : List Int} (hB : listB lo hi l = true) : (l.length : Int) ≤ hi - lo + 1 := by
  obtain ⟨hl, hr, hn⟩ := listB_up hB
  have hg : l[0]? = some l[0] := List.getElem?_eq_getElem hn
  have a := high_at l 0 _ hr (fun y hy => (hl y hy).2) hg
  have b := (hl _ (List.getElem_mem hn)).1
  omega
theorem rise_of {lo hi : Int} : ∀ (l : List Int) (p : Option Int), l.Pairwise (· < ·) → (∀ x ∈ l, lo ≤ x ∧ x ≤ hi) → (∀ y, p = some y → ∀ x ∈ l, y < x) → riseB lo hi p l = true
  | [], _, _, _, _ => rfl
  | x :: r, p, hr, hl, hp => by
    have h1 := List.pairwise_cons.1 hr
    have hx := hl x (List.mem_cons_self ..)
    unfold riseB
    rw [rise_of r (some x) h1.2 (fun y hy => hl y (List.mem_cons_of_mem _ hy)) (fun y hy z hz => by cases hy; exact h1.1 z hz), decide_eq_true hx.1, decide_eq_true hx.2]
    cases p with
    | none => rfl
    | some y => simp [hp y rfl x (List.mem_cons_self ..)]
end Go.Proofs.YtjmclcjhimcehaaGreatDoor

namespace Go.Proofs.YtjmclcjhimcehaaGreatDoor
open Go Go.RowKit

/-- But for block g all that was there is as it was. -/
structure Save (g : Nat) (w w' : World) : Prop where
  os : w'.os = w.os
  tape : w'.tape = w.tape
  output : w'.output = w.output
  size : w.heap.size ≤ w'.heap.size
  block : ∀ k, k < w.heap.size → k ≠ g → w'.heap[k]? = w.heap[k]?
theorem Save.refl (g : Nat) (w : World) : Save g w w := ⟨rfl, rfl, rfl, Nat.le_refl _, fun _ _ _ => rfl⟩
theorem Save.trans {g : Nat} {a b c : World} (h : Save g a b) (k : Save g b c) : Save g a c :=
  ⟨k.os.trans h.os, k.tape.trans h.tape, k.output.trans h.output, Nat.le_trans h.size k.size, fun i hi hg => (k.block i (Nat.lt_of_lt_of_le hi h.size) hg).trans (h.block i hi hg)⟩
theorem Save.drew {g : Nat} {a w : World} (h : Save g a w) : Save g a w.drew := ⟨h.os, h.tape, h.output, h.size, h.block⟩
theorem Save.drewN {g : Nat} {a w : World} (h : Save g a w) (n : Nat) : Save g a (w.drewN n) := ⟨h.os, h.tape, h.output, h.size, h.block⟩
theorem Save.setCell {g : Nat} {a w : World} (h : Save g a w) {p : Addr} (hp : p.block = g) (u : Value) : Save g a (w.setCell p u) :=
  h.trans ⟨rfl, rfl, rfl, by simp [World.setCell], fun k _ hg => Below.heap_setCell _ _ _ _ (by omega)⟩
theorem Save.alloc {g : Nat} {a w : World} (h : Save g a w) (o : Obj) : Save g a (w.alloc o) :=
  h.trans ⟨rfl, rfl, rfl, by simp, fun k hk _ => Below.heap_alloc _ _ _ hk⟩
theorem Save.of_below {g : Nat} {w w' : World} (h : Below w.heap.size w w') : Save g w w' := ⟨h.os, h.tape, h.output, h.size, fun k hk _ => h.block k hk⟩
theorem Save.below {g B : Nat} {w w' : World} (h : Save g w w') (h1 : B ≤ g) (h2 : B ≤ w.heap.size) : Below B w w' :=
  ⟨h.os, h.tape, h.output, h.size, fun k hk => h.block k (by omega) (by omega)⟩
theorem cell_block {w w' : World} {a : Addr} (h : w'.heap[a.block]? = w.heap[a.block]?) : w'.cell? a = w.cell? a := by
  unfold World.cell?
  rw [h]
theorem Save.cell {g : Nat} {w w' : World} {p : Addr} {v : Value} (h : Save g w w') (hp : p.block ≠ g) (hc : w.cell? p = some v) : w'.cell? p = some v :=
  (cell_block (h.block _ (World.block_lt_of_cell? w p hc) hp)).trans hc
theorem Save.frozen {g : Nat} {w w' : World} {p : Addr} {b : Bool} (h : Save g w w') (hp : p.block ≠ g) (hl : p.block < w.heap.size) (hc : w.frozen? p = b) : w'.frozen? p = b := by
  unfold World.frozen? at *
  rw [h.block _ hl hp]
  exact hc
theorem cur_cells {w : World} {g : Nat} {a b c : Value} {t : TypeId} (h : w.heap[g]? = some (.cells #[a, b, c] t)) :
    w.cell? ⟨g, 0, none⟩ = some a ∧ w.cell? ⟨g, 1, none⟩ = some b ∧ w.cell? ⟨g, 2, none⟩ = some c ∧ (∀ o, w.frozen? ⟨g, o, none⟩ = false) := by
  refine ⟨?_, ?_, ?_, ?_⟩
  · simp [World.cell?, h]
  · simp [World.cell?, h]
  · simp [World.cell?, h]
  · intro o; simp [World.frozen?, h]
theorem cur_set0 {w : World} {g : Nat} {a b c : Value} {t : TypeId} (h : w.heap[g]? = some (.cells #[a, b, c] t)) (u : Value) :
    (w.setCell ⟨g, 0, none⟩ u).heap[g]? = some (.cells #[u, b, c] t) := by
  simp [World.setCell, Array.getElem?_modify, h]
theorem cur_set2 {w : World} {g : Nat} {a b c : Value} {t : TypeId} (h : w.heap[g]? = some (.cells #[a, b, c] t)) (u : Value) :
    (w.setCell ⟨g, 2, none⟩ u).heap[g]? = some (.cells #[a, b, u] t) := by
  simp [World.setCell, Array.getElem?_modify, h]
theorem cur_set1 {w : World} {g : Nat} {a b c : Value} {t : TypeId} (h : w.heap[g]? = some (.cells #[a, b, c] t)) (u : Value) :
    (w.setCell ⟨g, 1, none⟩ u).heap[g]? = some (.cells #[a, u, c] t) := by
  simp [World.setCell, Array.getElem?_modify, h]
end Go.Proofs.YtjmclcjhimcehaaGreatDoor

namespace Go.Proofs.YtjmclcjhimcehaaGreatDoor
open Go.RowKit

theorem ownsB.save {g : Nat} {w w' : World} {B : Nat} {e : TypeId} {v : Value} {l : List Int} (h : ownsB w B e v l) (hs : Save g w w') (hB : g < B) : ownsB w' B e v l := by
  obtain ⟨h1, h2⟩ := h
  refine ⟨h1, ?_⟩
  rcases h2 with h | ⟨r, cap, cur, hv, hb, hg, hr⟩
  · exact .inl h
  · exact .inr ⟨r, cap, cur, hv, hb, by rw [hs.block r (by have := (Array.getElem?_eq_some_iff.1 hg).1; exact this) (by omega)]; exact hg, hr⟩

/-- The drawn bytes: n of them, all ahead of block g. -/
def CodeAt (w : World) (g : Nat) (v : Value) (n : Nat) : Prop :=
  ∃ (a : Option Addr) (cap : Nat), v = .slice a n cap ∧ ∀ j, j < n → ∃ (x : Addr) (z : Int), a = some x ∧ x.block < g ∧ 0 ≤ z ∧ z < 256 ∧ w.cell? (x.add j) = some (.int .u8 z)
theorem add_block (x : Addr) (j : Nat) : (x.add j).block = x.block := by
  unfold Addr.add; split <;> rfl
theorem CodeAt.keep {w w' : World} {g : Nat} {v : Value} {n : Nat} (h : CodeAt w g v n) (hs : ∀ k, k < g → w'.heap[k]? = w.heap[k]?) : CodeAt w' g v n := by
  obtain ⟨a, cap, hv, hc⟩ := h
  refine ⟨a, cap, hv, fun j hj => ?_⟩
  obtain ⟨x, z, ha, hb, h0, h1, hz⟩ := hc j hj
  refine ⟨x, z, ha, hb, h0, h1, ?_⟩
  rw [cell_block (w := w)]
  · exact hz
  · rw [add_block]
    exact hs _ hb
theorem Save.ahead {w w' : World} {g : Nat} (hs : Save g w w') (hg : g < w.heap.size) : ∀ k, k < g → w'.heap[k]? = w.heap[k]? := fun k hk => hs.block k (by omega) (by omega)

theorem i64_and255 (n : Int) : bits .and .i64 n 255 = n % 256 := by
  have h255 : (BitVec.ofInt 64 255).toNat = 2 ^ 8 - 1 := by decide
  have key : (BitVec.ofInt 64 n &&& BitVec.ofInt 64 255).toNat = (n % ((2 ^ 64 : Nat) : Int)).toNat % 2 ^ 8 := by
    rw [BitVec.toNat_and, BitVec.toNat_ofInt, h255, Nat.and_two_pow_sub_one_eq_mod]
  show IntKind.i64.wrap ((BitVec.ofInt 64 n &&& BitVec.ofInt 64 255).toNat : Nat) = n % 256
  rw [key, IntKind.wrap_i64]
  omega
theorem i64_and30 (n : Int) : bits .and .i64 n 1073741823 = n % 1073741824 := by
  have h255 : (BitVec.ofInt 64 1073741823).toNat = 2 ^ 30 - 1 := by decide
  have key : (BitVec.ofInt 64 n &&& BitVec.ofInt 64 1073741823).toNat = (n % ((2 ^ 64 : Nat) : Int)).toNat % 2 ^ 30 := by
    rw [BitVec.toNat_and, BitVec.toNat_ofInt, h255, Nat.and_two_pow_sub_one_eq_mod]
  show IntKind.i64.wrap ((BitVec.ofInt 64 n &&& BitVec.ofInt 64 1073741823).toNat : Nat) = n % 1073741824
  rw [key, IntKind.wrap_i64]
  omega
theorem wrap64_range (n : Int) : -9223372036854775808 ≤ wrap64 n ∧ wrap64 n ≤ 9223372036854775807 := by unfold wrap64; omega

/-- The cursor with another number in it. -/
theorem turned2 {w : World} {g n : Nat} {v : Value} {i h : Int} {t : TypeId} (hg : w.heap[g]? = some (.cells #[v, .int .i64 i, .int .i64 h] t)) (hc : CodeAt w g v n) (u : Int) :
    ∃ w2, w.setCell ⟨g, 2, none⟩ (.int .i64 u) = w2 ∧ w2.heap[g]? = some (.cells #[v, .int .i64 i, .int .i64 u] t) ∧ CodeAt w2 g v n ∧ Save g w w2 :=
  ⟨_, rfl, cur_set2 hg _, hc.keep (((Save.refl g w).setCell rfl _).ahead (Array.getElem?_eq_some_iff.1 hg).1), (Save.refl g w).setCell rfl _⟩

theorem turned1 {w : World} {g n : Nat} {v : Value} {i h : Int} {t : TypeId} (hg : w.heap[g]? = some (.cells #[v, .int .i64 i, .int .i64 h] t)) (hc : CodeAt w g v n) (u : Int) :
    (w.setCell ⟨g, 1, none⟩ (.int .i64 u)).heap[g]? = some (.cells #[v, .int .i64 u, .int .i64 h] t) ∧ CodeAt (w.setCell ⟨g, 1, none⟩ (.int .i64 u)) g v n ∧ Save g w (w.setCell ⟨g, 1, none⟩ (.int .i64 u)) :=
  ⟨cur_set1 hg _, hc.keep (((Save.refl g w).setCell rfl _).ahead (Array.getElem?_eq_some_iff.1 hg).1), (Save.refl g w).setCell rfl _⟩

theorem Save.below_on {g B : Nat} {w0 w w' : World} (h : Save g w0 w) (hb : Below B w w') (hB : w0.heap.size ≤ B) : Save g w0 w' :=
  ⟨hb.os.trans h.os, hb.tape.trans h.tape, hb.output.trans h.output, Nat.le_trans h.size hb.size, fun k hk hg => (hb.block k (by omega)).trans (h.block k hk hg)⟩

/-- A row of integers that the call owns. -/
def ownsI (w : World) (B : Nat) (e : TypeId) (v : Value) (l : List Int) : Prop := w.ownsRow B e 1 v l.length (l.map (Value.int .i64))
theorem ownsI_made (w : World) (B cap : Nat) (e : TypeId) (cur : Array Value) (hb : B ≤ w.heap.size) (hm : cap ≤ maxLen) (hs : cur.size = cap) :
    ownsI (w.alloc (.cells cur e)) B e (.slice (some ⟨w.heap.size, 0, none⟩) 0 cap) [] :=
  World.ownsRow_made w cur cap hb hm (by omega)
theorem ownsI.alloc {w : World} {B : Nat} {e : TypeId} {v : Value} {l : List Int} (h : ownsI w B e v l) (o : Obj) : ownsI (w.alloc o) B e v l := World.ownsRow.alloc h o
theorem ownsI.save {g : Nat} {w w' : World} {B : Nat} {e : TypeId} {v : Value} {l : List Int} (h : ownsI w B e v l) (hs : Save g w w') (hB : g < B) : ownsI w' B e v l := by
  obtain ⟨h1, h2⟩ := h
  refine ⟨h1, ?_⟩
  rcases h2 with h | ⟨r, cap, cur, hv, hb, hg, hr⟩
  · exact .inl h
  · exact .inr ⟨r, cap, cur, hv, hb, by rw [hs.block r (by have := (Array.getElem?_eq_some_iff.1 hg).1; exact this) (by omega)]; exact hg, hr⟩
theorem ownsI.cells {w : World} {B : Nat} {e : TypeId} {v : Value} {l : List Int} (h : ownsI w B e v l) (hl : l ≠ []) :
    ∃ r cap, v = .slice (some ⟨r, 0, none⟩) l.length cap ∧ B ≤ r ∧ r < w.heap.size ∧ ∀ j (hj : j < l.length), w.cell? ⟨r, j, none⟩ = some (.int .i64 l[j]) := by
  obtain ⟨h1, h2⟩ := h
  rcases h2 with ⟨rfl, hn⟩ | ⟨r, cap, cur, rfl, hb, hg, hc1, hc2, hc3, hc4⟩
  · exact absurd (by simpa using hn) hl
  · refine ⟨r, cap, rfl, hb, (Array.getElem?_eq_some_iff.1 hg).1, fun j hj => ?_⟩
    have h5 : (cur.toList.take l.length)[j]? = some (.int .i64 l[j]) := by
      have e1 : l.length * 1 = l.length := Nat.mul_one _
      rw [e1] at hc4
      rw [hc4]; simp [hj]
    rw [List.getElem?_take_of_lt hj] at h5
    simp only [World.cell?, hg]
    simpa using h5

theorem ownsI.mono {w : World} {B B' : Nat} {e : TypeId} {v : Value} {l : List Int} (h : ownsI w B e v l) (hB : B' ≤ B) : ownsI w B' e v l := by
  obtain ⟨h1, h2⟩ := h
  refine ⟨h1, ?_⟩
  rcases h2 with h | ⟨r, cap, cur, hv, hb, hr⟩
  · exact .inl h
  · exact .inr ⟨r, cap, cur, hv, Nat.le_trans hB hb, hr⟩

/-- One integer more behind a row of integers that the call owns. -/
theorem wpList_append_int {P : Program} (w w0 : World) {ops : Array Oper} {rest : List Oper} {o : Oper} {a : Act} {Q : Exit → Act → World → Prop} (hgd : o.guard = none) (s x : Operand) (t : TypeId)
    (ho : o.op = .call { callee := .builtin .append, args := #[s, x], argTypes := #[t, t] })
    (B : Nat) (e : TypeId) (ht : P.underlying t = some (.slice e)) (hi : (P.info? e).map (fun i => (i.zero, i.size, i.bytes)) = some (some (.int .i64 0), 1, 8))
    (v : Value) (l : List Int) (hs : a.eval s = v) (hown : ownsI w B e v l) (hbel : Below B w0 w)
    (ad : Addr) (c : Nat) (n : Int) (hx : a.eval x = .slice (some ad) 1 c) (hc : w.cell? ad = some (.int .i64 n))
    (hlen : l.length < 4398046511104) (hB : B ≤ w.heap.size)
    (h : ∀ v' w', ownsI w' B e v' (l ++ [n]) → Below B w0 w' → wpList P ops Q rest (a.put o.dst v') w') : wpList P ops Q (o :: rest) a w := by
  obtain ⟨i0, hi0, hz0, hz1, hz2⟩ := info_parts hi
  refine wpList_append_own w hgd s x t ho B e i0 (.int .i64 0) 1 8 ht hi0 hz0 hz1 hz2 rfl (by decide) v l.length _ hs hown ad 1 c [.int .i64 n] hx rfl ?_ ?_ (by unfold maxLen; omega) (by omega) hB ?_
  · intro j u hj
    match j, hj with
    | 0, hj => simp at hj; subst hj; simpa [Addr.add] using hc
  · intro u hu; simp at hu; subst hu; rfl
  · intro v' w' h1 h2 _
    refine h v' w' (by simpa [ownsI] using h1) (hbel.grown h2 hB fun k hk => (hown.lt k hk).1)

/-- A row of bytes that came in: nil, or cells that hold numbers of the kind. -/
def IsRow (k : IntKind) (w : World) (a : Option Addr) (len cap : Nat) (zs : List Int) : Prop :=
  (a = none ∧ len = 0 ∧ cap = 0 ∧ zs = []) ∨
  ∃ x, a = some x ∧ len ≤ cap ∧ cap ≤ maxLen ∧ zs.length = cap ∧ (∀ i, i < zs.length → w.cell? (x.add i) = some (.int k (zs.getD i 0))) ∧ ∀ n ∈ zs, (Lit.int k n).wf = true
theorem IsRow.code {w : World} {a : Option Addr} {len cap : Nat} {zs : List Int} (h : IsRow .u8 w a len cap zs) : len ≤ 9223372036854775807 ∧ CodeAt w w.heap.size (.slice a len cap) len := by
  rcases h with ⟨rfl, rfl, rfl, rfl⟩ | ⟨x, rfl, h1, h2, h3, h4, h5⟩
  · exact ⟨by decide, none, 0, rfl, fun j hj => by omega⟩
  · refine ⟨by unfold maxLen at h2; omega, some x, cap, rfl, fun j hj => ?_⟩
    have hj2 : j < zs.length := by omega
    have hc := h4 j hj2
    have hw := h5 (zs.getD j 0) (by rw [List.getD_eq_getElem?_getD, List.getElem?_eq_getElem hj2]; exact List.getElem_mem hj2)
    have hr : 0 ≤ zs.getD j 0 ∧ zs.getD j 0 ≤ 255 := by simpa [Lit.wf, IntKind.min, IntKind.max, IntKind.signed, IntKind.bits] using hw
    refine ⟨x, zs.getD j 0, rfl, ?_, hr.1, by omega, hc⟩
    have := World.block_lt_of_cell? w _ hc
    rw [add_block] at this
    exact this

end Go.Proofs.YtjmclcjhimcehaaGreatDoor
