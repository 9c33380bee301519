/-
  Years, months, days and minutes: plain facts.
-/
import Derived.WalkKit
namespace Go.Proofs.YtbecdaholpiaeaaDoor
open Go Go.RowKit

/-- 4 divides it, and 100 does not, or 400 does. -/
def leapB (y : Int) : Bool := (decide (y.tmod 4 = 0) && !decide (y.tmod 100 = 0)) || decide (y.tmod 400 = 0)
/-- The days of a year. -/
def yearL (y : Int) : Int := if leapB y then 366 else 365
/-- The days of a month. -/
def daysB (y m : Int) : Int :=
  if m = 2 then (if leapB y then 29 else 28)
  else if m = 4 ∨ m = 6 ∨ m = 9 ∨ m = 11 then 30
  else if 1 ≤ m ∧ m ≤ 12 then 31 else 0
/-- The days from the begin of 1970 to that of the n-th year behind it. -/
def yearN (n : Int) : Int := 365 * n + (n + 1) / 4
/-- The days of a year (a leap year: b) ahead of a month. -/
def monN (b : Bool) (m : Int) : Int :=
  if m ≤ 1 then 0 else if m = 2 then 31 else (if b then 1 else 0) +
    if m = 3 then 59 else if m = 4 then 90 else if m = 5 then 120 else if m = 6 then 151 else if m = 7 then 181
    else if m = 8 then 212 else if m = 9 then 243 else if m = 10 then 273 else if m = 11 then 304 else if m = 12 then 334 else 365

theorem leap_n {n : Int} (h0 : 0 ≤ n) (h1 : n < 130) : leapB (1970 + n) = decide ((n + 2) % 4 = 0) := by
  unfold leapB
  rw [Int.tmod_eq_emod_of_nonneg (by omega), Int.tmod_eq_emod_of_nonneg (by omega), Int.tmod_eq_emod_of_nonneg (by omega)]
  rw [Bool.eq_iff_iff]
  simp only [Bool.or_eq_true, Bool.and_eq_true, decide_eq_true_eq, Bool.not_eq_true', decide_eq_false_iff_not]
  omega
theorem yearL_bd (y : Int) : 365 ≤ yearL y ∧ yearL y ≤ 366 := by unfold yearL; split <;> omega
theorem yearN_next {n : Int} (h0 : 0 ≤ n) (h1 : n < 130) : yearN (n + 1) = yearN n + yearL (1970 + n) := by
  unfold yearL yearN
  rw [leap_n h0 h1]
  by_cases h : (n + 2) % 4 = 0
  · rw [decide_eq_true h, if_pos rfl]; omega
  · rw [decide_eq_false h, if_neg (by decide)]; omega
theorem yearN_up {n k : Int} (h : n ≤ k) : yearN n ≤ yearN k := by unfold yearN; omega
theorem months {m : Int} (h0 : 1 ≤ m) (h1 : m ≤ 12) : m = 1 ∨ m = 2 ∨ m = 3 ∨ m = 4 ∨ m = 5 ∨ m = 6 ∨ m = 7 ∨ m = 8 ∨ m = 9 ∨ m = 10 ∨ m = 11 ∨ m = 12 := by omega
theorem monN_next {y m : Int} (h0 : 1 ≤ m) (h1 : m ≤ 12) : monN (leapB y) (m + 1) = monN (leapB y) m + daysB y m := by
  unfold daysB
  generalize leapB y = b
  rcases months h0 h1 with h | h | h | h | h | h | h | h | h | h | h | h <;> subst h <;> cases b <;> rfl
theorem monN_bd {b : Bool} {m : Int} (h1 : m ≤ 12) : 0 ≤ monN b m ∧ monN b m ≤ 335 := by
  by_cases h0 : 1 ≤ m
  · rcases months h0 h1 with h | h | h | h | h | h | h | h | h | h | h | h <;> subst h <;> cases b <;> decide
  · unfold monN; rw [if_pos (by omega)]; decide
theorem monN_end (y : Int) : monN (leapB y) 13 = yearL y := by
  unfold yearL
  cases leapB y <;> rfl
theorem monN_one (b : Bool) : monN b 1 = 0 := rfl
theorem daysB_bd {y m : Int} : 0 ≤ daysB y m ∧ daysB y m ≤ 31 := by
  unfold daysB
  split
  · split <;> omega
  · split
    · omega
    · split <;> omega
theorem daysB_right {y m : Int} (h0 : 1 ≤ m) (h1 : m ≤ 12) : 28 ≤ daysB y m := by
  unfold daysB
  split
  · split <;> omega
  · split
    · omega
    · rw [if_pos ⟨h0, h1⟩]; decide
theorem daysB_no {y m : Int} (h : ¬ (1 ≤ m ∧ m ≤ 12)) : daysB y m = 0 := by
  unfold daysB
  rw [if_neg (by omega), if_neg (by omega), if_neg h]
theorem monN_up {y m : Int} (h0 : 1 ≤ m) (k : Nat) (h1 : m + 1 + k ≤ 13) : monN (leapB y) m + daysB y m ≤ monN (leapB y) (m + 1 + k) := by
  induction k with
  | zero => rw [show m + 1 + ((0 : Nat) : Int) = m + 1 by omega, monN_next h0 (by omega)]; exact Int.le_refl _
  | succ k ih =>
    have h2 := ih (by omega)
    have h3 := monN_next (y := y) (m := m + 1 + k) (by omega) (by omega)
    have h4 := (daysB_bd (y := y) (m := m + 1 + k)).1
    rw [show m + 1 + ((k + 1 : Nat) : Int) = m + 1 + (k : Int) + 1 by omega]
    omega

/-- A day and a minute of it. -/
structure Cv where
  y : Int
  mo : Int
  d : Int
  h : Int
  mi : Int
/-- What a right one is. -/
def okC (c : Cv) : Bool := decide (1970 ≤ c.y ∧ c.y ≤ 2099) && (decide (1 ≤ c.mo ∧ c.mo ≤ 12) && (decide (1 ≤ c.d ∧ c.d ≤ daysB c.y c.mo) && (decide (0 ≤ c.h ∧ c.h ≤ 23) && decide (0 ≤ c.mi ∧ c.mi ≤ 59))))
structure Right (c : Cv) : Prop where
  y0 : 1970 ≤ c.y
  y1 : c.y ≤ 2099
  m0 : 1 ≤ c.mo
  m1 : c.mo ≤ 12
  d0 : 1 ≤ c.d
  d1 : c.d ≤ daysB c.y c.mo
  h0 : 0 ≤ c.h
  h1 : c.h ≤ 23
  i0 : 0 ≤ c.mi
  i1 : c.mi ≤ 59
theorem okC_iff (c : Cv) : okC c = true ↔ Right c := by
  unfold okC
  simp only [Bool.and_eq_true, decide_eq_true_eq]
  constructor
  · rintro ⟨⟨h1, h2⟩, ⟨h3, h4⟩, ⟨h5, h6⟩, ⟨h7, h8⟩, h9, h10⟩
    exact ⟨h1, h2, h3, h4, h5, h6, h7, h8, h9, h10⟩
  · rintro ⟨h1, h2, h3, h4, h5, h6, h7, h8, h9, h10⟩
    exact ⟨⟨h1, h2⟩, ⟨h3, h4⟩, ⟨h5, h6⟩, ⟨h7, h8⟩, h9, h10⟩
/-- The day, counted from the begin of 1970. -/
def dayC (c : Cv) : Int := yearN (c.y - 1970) + monN (leapB c.y) c.mo + c.d - 1
/-- Its minute. -/
def minC (c : Cv) : Int := dayC c * 1440 + c.h * 60 + c.mi
theorem Right.day {c : Cv} (h : Right c) : yearN (c.y - 1970) ≤ dayC c ∧ dayC c < yearN (c.y - 1970 + 1) := by
  have h1 := monN_bd (b := leapB c.y) h.m1
  have h2 := monN_up (y := c.y) h.m0 (12 - c.mo).toNat (by have := h.m1; omega)
  rw [show c.mo + 1 + (((12 - c.mo).toNat : Nat) : Int) = 13 by have := h.m1; omega, monN_end] at h2
  have h3 := yearN_next (n := c.y - 1970) (by have := h.y0; omega) (by have := h.y1; omega)
  rw [show 1970 + (c.y - 1970) = c.y by omega] at h3
  have := h.d0
  have := h.d1
  unfold dayC
  omega
theorem Right.day_bd {c : Cv} (h : Right c) : 0 ≤ dayC c ∧ dayC c ≤ 47481 := by
  have h1 := h.day
  have h2 : yearN 0 ≤ yearN (c.y - 1970) := yearN_up (by have := h.y0; omega)
  have h3 : yearN (c.y - 1970 + 1) ≤ yearN 130 := yearN_up (by have := h.y1; omega)
  have h4 : yearN 0 = 0 := rfl
  have h5 : yearN 130 = 47482 := rfl
  omega
theorem Right.min_bd {c : Cv} (h : Right c) : 0 ≤ minC c ∧ minC c ≤ 68374079 := by
  have h1 := h.day_bd
  have := h.h0
  have := h.h1
  have := h.i0
  have := h.i1
  unfold minC
  omega
theorem year_one {n k d : Int} (h1 : yearN n ≤ d) (h2 : d < yearN (n + 1)) (h3 : yearN k ≤ d) (h4 : d < yearN (k + 1)) : n = k := by
  rcases Int.lt_trichotomy n k with h | h | h
  · have := yearN_up (n := n + 1) (k := k) (by omega); omega
  · exact h
  · have := yearN_up (n := k + 1) (k := n) (by omega); omega
theorem month_one {y m k x : Int} (hm0 : 1 ≤ m) (hm1 : m ≤ 12) (hk0 : 1 ≤ k) (hk1 : k ≤ 12) (h1 : monN (leapB y) m ≤ x) (h2 : x < monN (leapB y) m + daysB y m) (h3 : monN (leapB y) k ≤ x) (h4 : x < monN (leapB y) k + daysB y k) : m = k := by
  rcases Int.lt_trichotomy m k with h | h | h
  · have := monN_up (y := y) hm0 (k - m - 1).toNat (by omega)
    rw [show m + 1 + (((k - m - 1).toNat : Nat) : Int) = k by omega] at this
    omega
  · exact h
  · have := monN_up (y := y) hk0 (m - k - 1).toNat (by omega)
    rw [show k + 1 + (((m - k - 1).toNat : Nat) : Int) = m by omega] at this
    omega
/-- A minute is of one right day alone. -/
theorem Right.one {c e : Cv} (hc : Right c) (he : Right e) (h : minC c = minC e) : c = e := by
  have c1 := hc.h0
  have c2 := hc.h1
  have c3 := hc.i0
  have c4 := hc.i1
  have e1 := he.h0
  have e2 := he.h1
  have e3 := he.i0
  have e4 := he.i1
  have hd : dayC c = dayC e ∧ c.h = e.h ∧ c.mi = e.mi := by unfold minC at h; omega
  have hcd := hc.day
  have hed := he.day
  rw [hd.1] at hcd
  have hy : c.y = e.y := by have := year_one hcd.1 hcd.2 hed.1 hed.2; omega
  have hd1 := hd.1
  unfold dayC at hd1
  rw [hy] at hd1
  have hc5 := hc.d1
  rw [hy] at hc5
  have hc6 := hc.d0
  have he5 := he.d1
  have he6 := he.d0
  have hm : c.mo = e.mo := month_one (y := e.y) (x := monN (leapB e.y) e.mo + e.d - 1) hc.m0 hc.m1 he.m0 he.m1 (by omega) (by omega) (by omega) (by omega)
  rw [hm] at hd1
  have hdd : c.d = e.d := by omega
  cases c
  cases e
  simp_all
/-- The weekday of a minute. -/
def weekN (m : Int) : Int := if 0 ≤ m ∧ m ≤ 68374079 then (m / 1440 + 4) % 7 else -1
end Go.Proofs.YtbecdaholpiaeaaDoor
