/-
  The law on drawn days: the walk.
-/
import Derived.Test.YtacfbagieefikaaLm
namespace Go.Proofs.Ytacfbagieefikaa
open Go Go.RowKit

/-- The last day of its month. -/
theorem Right.last {y mo d h mi : Int} (hr : Right ⟨y, mo, d, h, mi⟩) : Right ⟨y, mo, daysB y mo, h, mi⟩ :=
  ⟨hr.y0, hr.y1, hr.m0, hr.m1, Int.le_trans hr.d0 hr.d1, Int.le_refl _, hr.h0, hr.h1, hr.i0, hr.i1⟩
/-- The first day of the next month. -/
theorem Right.next {y mo d h mi : Int} (hr : Right ⟨y, mo, d, h, mi⟩) (hm : mo < 12) : Right ⟨y, mo + 1, 1, h, mi⟩ ∧ minC ⟨y, mo + 1, 1, h, mi⟩ = minC ⟨y, mo, daysB y mo, h, mi⟩ + 1440 := by
  have m0 : 1 ≤ mo := hr.m0
  have hd : 28 ≤ daysB y (mo + 1) := daysB_right (by omega) (by omega)
  refine ⟨⟨hr.y0, hr.y1, by show 1 ≤ mo + 1; omega, by show mo + 1 ≤ 12; omega, Int.le_refl _, by show 1 ≤ daysB y (mo + 1); omega, hr.h0, hr.h1, hr.i0, hr.i1⟩, ?_⟩
  show (yearN (y - 1970) + monN (leapB y) (mo + 1) + 1 - 1) * 1440 + h * 60 + mi = (yearN (y - 1970) + monN (leapB y) mo + daysB y mo - 1) * 1440 + h * 60 + mi + 1440
  rw [monN_next (y := y) m0 (by omega)]
  omega
theorem Right.year {y mo d h mi : Int} (hr : Right ⟨y, mo, d, h, mi⟩) (hm : mo = 12) (hy : y < 2099) : Right ⟨y + 1, 1, 1, h, mi⟩ ∧ minC ⟨y + 1, 1, 1, h, mi⟩ = minC ⟨y, mo, daysB y mo, h, mi⟩ + 1440 := by
  subst hm
  have y0 : 1970 ≤ y := hr.y0
  have hd : 28 ≤ daysB (y + 1) 1 := daysB_right (by decide) (by decide)
  refine ⟨⟨by show 1970 ≤ y + 1; omega, by show y + 1 ≤ 2099; omega, by show (1 : Int) ≤ 1; omega, by show (1 : Int) ≤ 12; omega, Int.le_refl _, by show 1 ≤ daysB (y + 1) 1; omega, hr.h0, hr.h1, hr.i0, hr.i1⟩, ?_⟩
  show (yearN (y + 1 - 1970) + monN (leapB (y + 1)) 1 + 1 - 1) * 1440 + h * 60 + mi = (yearN (y - 1970) + monN (leapB y) 12 + daysB y 12 - 1) * 1440 + h * 60 + mi + 1440
  have e1 := yearN_next (n := y - 1970) (by omega) (by omega)
  have e2 := monN_next (y := y) (m := 12) (by decide) (by decide)
  have e3 := monN_end y
  rw [show (12 : Int) + 1 = 13 from rfl] at e2
  rw [show 1970 + (y - 1970) = y by omega] at e1
  rw [monN_one, show y + 1 - 1970 = y - 1970 + 1 by omega, e1]
  omega
theorem not_2100 {mo d h mi : Int} : ¬ Right ⟨2100, mo, d, h, mi⟩ := fun hr => absurd (show (2100 : Int) ≤ 2099 from hr.y1) (by decide)
theorem days_13 (y : Int) : daysB y 13 = 0 := daysB_no (by decide)

theorem civilOf_back {y mo d h mi : Int} (hr : Right ⟨y, mo, d, h, mi⟩) (w : World) :
    Calls Try.prog 13 #[.int .i64 (minC ⟨y, mo, d, h, mi⟩)] w fun e w' => e = .returned (.tuple #[.agg #[.int .i64 y, .int .i64 mo, .int .i64 d, .int .i64 h, .int .i64 mi], .bool true]) ∧ Below w.heap.size w w' := by
  have hb := hr.min_bd
  refine (civilOf_yes _ w hb.1 hb.2).mono ?_
  rintro e w' ⟨c, rfl, h1, h2, h3⟩
  obtain rfl := Right.one h1 hr h2
  exact ⟨rfl, h3⟩

set_option maxRecDepth 10000 in
set_option maxHeartbeats 8000000 in
theorem law_Days (v : Value) (n : Nat) (w : World) (hn : n ≤ 9223372036854775807) (hc : CodeAt w w.heap.size v n) :
    Calls Try.prog 4 #[v] w fun e w' => e = .returned (.bool true) ∧ Below w.heap.size w w' := by
  have HCO : Hid (CodeAt w w.heap.size v n) := hc
  obtain ⟨a, cap, rfl, -⟩ := hc
  by_cases hbig : 1048576 < n
  · have HB : Hid (∀ w, Calls Try.prog 11 #[.slice a n cap] w fun e w' => e = .returned (.bool true) ∧ w' = w) := by
      intro w; have := big_any a n cap w hn; rwa [decide_eq_true hbig] at this
    go_enter Try.func4, Try.ntmps4
    go_wp2_with (go_at_call 11; refine (HB.out _).mono ?_; rintro e w1 ⟨rfl, hw⟩; have hw2 := hw.symm; subst hw2)
    go_ret
    exact ⟨rfl, Below.refl _ _⟩
  · have HB : Hid (∀ w, Calls Try.prog 11 #[.slice a n cap] w fun e w' => e = .returned (.bool false) ∧ w' = w) := by
      intro w; have := big_any a n cap w hn; rwa [decide_eq_false hbig] at this
    have HNN : Hid (n ≤ 1048576) := by show n ≤ 1048576; omega
    go_enter Try.func4, Try.ntmps4
    go_wp2_with fail
    refine (HB.out _).mono ?_
    rintro e w1 ⟨rfl, hw⟩
    have hw2 := hw.symm
    subst hw2
    go_wp2_with fail
    refine (drawCiv_any _ n _ HNN.out HCO.out).mono ?_
    rintro e w2 ⟨⟨y, mo, d, h, mi⟩, rfl, B2⟩
    clear HCO HB HNN hbig hn
    by_cases hr : Right ⟨y, mo, d, h, mi⟩
    case neg =>
      have HM : Hid (∀ w, Calls Try.prog 15 #[.agg #[.int .i64 y, .int .i64 mo, .int .i64 d, .int .i64 h, .int .i64 mi]] w fun e w' => e = .returned (.tuple #[.int .i64 0, .bool false]) ∧ Below w.heap.size w w') := by intro w; exact minuteOf_no _ _ _ _ _ w hr
      have HS : Hid (∀ w, Calls Try.prog 18 #[.agg #[.int .i64 y, .int .i64 mo, .int .i64 d, .int .i64 h, .int .i64 mi]] w fun e w' => e = .returned (.bool false) ∧ Below w.heap.size w w') := by intro w; rw [← ok_no hr]; exact specCivilOk_try _ _ _ _ _ w
      have HI : Hid (∀ w, Calls Try.prog 16 #[.agg #[.int .i64 y, .int .i64 mo, .int .i64 d, .int .i64 h, .int .i64 mi]] w fun e w' => e = .returned (.bool false) ∧ Below w.heap.size w w') := by intro w; rw [← ok_no hr]; exact civilOk_try _ _ _ _ _ w
      clear hr
      have Z2 : At5 (w2.alloc (.cells #[.int .i64 y, .int .i64 mo, .int .i64 d, .int .i64 h, .int .i64 mi] 26)) w2.heap.size ⟨y, mo, d, h, mi⟩ := At5.made w2 ⟨y, mo, d, h, mi⟩ 26
      have F2 : Fz5 (w2.alloc (.cells #[.int .i64 y, .int .i64 mo, .int .i64 d, .int .i64 h, .int .i64 mi] 26)) w2.heap.size := Fz5.made w2 _ 26
      have G2 : w.heap.size ≤ w2.heap.size := B2.size
      have K2 : Below w.heap.size w (w2.alloc (.cells #[.int .i64 y, .int .i64 mo, .int .i64 d, .int .i64 h, .int .i64 mi] 26)) := ba B2 _
      have S2 : w2.heap.size < (w2.alloc (.cells #[.int .i64 y, .int .i64 mo, .int .i64 d, .int .i64 h, .int .i64 mi] 26)).heap.size := by simp
      clear B2
      go_wp2_with fail
      refine (HM.out _).mono ?_
      rintro e w3 ⟨rfl, hb⟩
      have K3 := belowOn K2 hb
      have Z3 := Z2.up hb S2
      have F3 := F2.up hb S2
      have S3 := Nat.lt_of_lt_of_le S2 hb.size
      clear hb K2 Z2 F2 S2
      have q0 := Z3.c0
      have q1 := Z3.c1
      have q2 := Z3.c2
      have q3 := Z3.c3
      have q4 := Z3.c4
      go_wp2_with fail
      clear q0 q1 q2 q3 q4
      refine (HS.out _).mono ?_
      rintro e w4 ⟨rfl, hb⟩
      have K4 := belowOn K3 hb
      have Z4 := Z3.up hb S3
      have F4 := F3.up hb S3
      have S4 := Nat.lt_of_lt_of_le S3 hb.size
      clear hb K3 Z3 F3 S3
      have q0 := Z4.c0
      have q1 := Z4.c1
      have q2 := Z4.c2
      have q3 := Z4.c3
      have q4 := Z4.c4
      go_wp2_with fail
      clear q0 q1 q2 q3 q4
      refine (HI.out _).mono ?_
      rintro e w5 ⟨rfl, hb⟩
      have K5 := belowOn K4 hb
      have Z5 := Z4.up hb S4
      have F5 := F4.up hb S4
      have S5 := Nat.lt_of_lt_of_le S4 hb.size
      clear hb K4 Z4 F4 S4
      go_wp2
      go_ret
      exact ⟨rfl, K5⟩
    have hlast := hr.last
    by_cases h2 : mo = 2
    case pos =>
      subst h2
      have hnext := hr.next (by decide)
      rw [show (2 : Int) + 1 = 3 from rfl] at hnext
      cases hleap : leapB y with
      | true =>
        have hDD : daysB y 2 = 29 := by unfold daysB; rw [if_pos rfl, hleap]; rfl
        rw [hDD] at hlast hnext
        obtain ⟨A, HA⟩ : ∃ A, Hid (minC ⟨y, 2, d, h, mi⟩ = A) := ⟨_, rfl⟩
        obtain ⟨L, HLL⟩ : ∃ L, Hid (minC ⟨y, 2, 29, h, mi⟩ = L) := ⟨_, rfl⟩
        have hL : 0 ≤ L ∧ L ≤ 68374079 := by rw [← HLL.out]; exact hlast.min_bd
        have HM : Hid (∀ w, Calls Try.prog 15 #[.agg #[.int .i64 y, .int .i64 2, .int .i64 d, .int .i64 h, .int .i64 mi]] w fun e w' => e = .returned (.tuple #[.int .i64 A, .bool true]) ∧ Below w.heap.size w w') := by intro w; rw [← HA.out]; exact minuteOf_yes _ _ _ _ _ w hr
        have HS : Hid (∀ w, Calls Try.prog 18 #[.agg #[.int .i64 y, .int .i64 2, .int .i64 d, .int .i64 h, .int .i64 mi]] w fun e w' => e = .returned (.bool true) ∧ Below w.heap.size w w') := by intro w; rw [← ok_yes hr]; exact specCivilOk_try _ _ _ _ _ w
        have HI : Hid (∀ w, Calls Try.prog 16 #[.agg #[.int .i64 y, .int .i64 2, .int .i64 d, .int .i64 h, .int .i64 mi]] w fun e w' => e = .returned (.bool true) ∧ Below w.heap.size w w') := by intro w; rw [← ok_yes hr]; exact civilOk_try _ _ _ _ _ w
        have HC : Hid (∀ w, Calls Try.prog 13 #[.int .i64 A] w fun e w' => e = .returned (.tuple #[.agg #[.int .i64 y, .int .i64 2, .int .i64 d, .int .i64 h, .int .i64 mi], .bool true]) ∧ Below w.heap.size w w') := by intro w; rw [← HA.out]; exact civilOf_back hr w
        have HN : Hid (∀ w, Calls Try.prog 19 #[.int .i64 y, .int .i64 2] w fun e w' => e = .returned (.int .i64 29) ∧ w' = w) := by intro w; have := days_any (y) (2) w; rw [hDD] at this; exact this
        have HN3 : Hid (∀ w, Calls Try.prog 19 #[.int .i64 y, .int .i64 13] w fun e w' => e = .returned (.int .i64 0) ∧ w' = w) := by intro w; have := days_any (y) 13 w; rw [days_13] at this; exact this
        have HL : Hid (∀ w, Calls Try.prog 15 #[.agg #[.int .i64 y, .int .i64 2, .int .i64 29, .int .i64 h, .int .i64 mi]] w fun e w' => e = .returned (.tuple #[.int .i64 L, .bool true]) ∧ Below w.heap.size w w') := by intro w; rw [← HLL.out]; exact minuteOf_yes _ _ _ _ _ w hlast
        have HE : Hid (∀ w, Calls Try.prog 15 #[.agg #[.int .i64 y, .int .i64 3, .int .i64 1, .int .i64 h, .int .i64 mi]] w fun e w' => e = .returned (.tuple #[.int .i64 (L + 1440), .bool true]) ∧ Below w.heap.size w w') := by intro w; rw [← HLL.out, ← hnext.2]; exact minuteOf_yes _ _ _ _ _ w hnext.1
        have HY : Hid (∀ w, Calls Try.prog 20 #[.int .i64 y] w fun e w' => e = .returned (.bool true) ∧ w' = w) := by intro w; rw [← hleap]; exact leap_any y w
        clear HA HLL hlast hDD hr hnext hleap
        have Z2 : At5 (w2.alloc (.cells #[.int .i64 y, .int .i64 2, .int .i64 d, .int .i64 h, .int .i64 mi] 26)) w2.heap.size ⟨y, 2, d, h, mi⟩ := At5.made w2 ⟨y, 2, d, h, mi⟩ 26
        have F2 : Fz5 (w2.alloc (.cells #[.int .i64 y, .int .i64 2, .int .i64 d, .int .i64 h, .int .i64 mi] 26)) w2.heap.size := Fz5.made w2 _ 26
        have G2 : w.heap.size ≤ w2.heap.size := B2.size
        have K2 : Below w.heap.size w (w2.alloc (.cells #[.int .i64 y, .int .i64 2, .int .i64 d, .int .i64 h, .int .i64 mi] 26)) := ba B2 _
        have S2 : w2.heap.size < (w2.alloc (.cells #[.int .i64 y, .int .i64 2, .int .i64 d, .int .i64 h, .int .i64 mi] 26)).heap.size := by simp
        clear B2
        go_wp2_with fail
        refine (HM.out _).mono ?_
        rintro e w3 ⟨rfl, hb⟩
        have K3 := belowOn K2 hb
        have Z3 := Z2.up hb S2
        have F3 := F2.up hb S2
        have S3 := Nat.lt_of_lt_of_le S2 hb.size
        clear hb K2 Z2 F2 S2
        have q0 := Z3.c0
        have q1 := Z3.c1
        have q2 := Z3.c2
        have q3 := Z3.c3
        have q4 := Z3.c4
        go_wp2_with fail
        clear q0 q1 q2 q3 q4
        refine (HS.out _).mono ?_
        rintro e w4 ⟨rfl, hb⟩
        have K4 := belowOn K3 hb
        have Z4 := Z3.up hb S3
        have F4 := F3.up hb S3
        have S4 := Nat.lt_of_lt_of_le S3 hb.size
        clear hb K3 Z3 F3 S3
        have q0 := Z4.c0
        have q1 := Z4.c1
        have q2 := Z4.c2
        have q3 := Z4.c3
        have q4 := Z4.c4
        go_wp2_with fail
        clear q0 q1 q2 q3 q4
        refine (HI.out _).mono ?_
        rintro e w5 ⟨rfl, hb⟩
        have K5 := belowOn K4 hb
        have Z5 := Z4.up hb S4
        have F5 := F4.up hb S4
        have S5 := Nat.lt_of_lt_of_le S4 hb.size
        clear hb K4 Z4 F4 S4
        have q0 := Z5.c0
        have q1 := Z5.c1
        have q2 := Z5.c2
        have q3 := Z5.c3
        have q4 := Z5.c4
        go_wp2_with fail
        clear q0 q1 q2 q3 q4
        refine (HC.out _).mono ?_
        rintro e w6 ⟨rfl, hb⟩
        have K6 := belowOn K5 hb
        have Z6 := Z5.up hb S5
        have F6 := F5.up hb S5
        have S6 := Nat.lt_of_lt_of_le S5 hb.size
        clear hb K5 Z5 F5 S5
        have q0 := Z6.c0
        have q1 := Z6.c1
        have q2 := Z6.c2
        have q3 := Z6.c3
        have q4 := Z6.c4
        go_wp2_with (first | (go_at_call 19; refine (HN.out _).mono ?_; rintro e w7 ⟨rfl, hw⟩; have hw2 := hw.symm; subst hw2) | (go_at_call 20; refine (HY.out _).mono ?_; rintro e w7 ⟨rfl, hw⟩; have hw2 := hw.symm; subst hw2))
        refine (HE.out _).mono ?_
        rintro e w7 ⟨rfl, hb⟩
        have hA := belowOn (ba (ba (Below.refl _ w6) _) _) hb
        have K7 := belowOn K6 hA
        have Z7 := Z6.up hA S6
        have F7 := F6.up hA S6
        have S7 := Nat.lt_of_lt_of_le S6 hA.size
        clear hb hA K6 Z6 F6 q0 q1 q2 q3 q4
        have q0 := Z7.c0
        have q1 := Z7.c1
        have q2 := Z7.c2
        have q3 := Z7.c3
        have q4 := Z7.c4
        have f0 := F7.c0
        have f1 := F7.c1
        have f2 := F7.c2
        have f3 := F7.c3
        have f4 := F7.c4
        go_wp2_with fail
        refine (HL.out _).mono ?_
        rintro e w8 ⟨rfl, hb8⟩
        have K8 : Below w.heap.size w w8 := (Below.setCell K7 G2 _).trans (hb8.mono (by simp [World.setCell]; omega))
        have c0 : w8.cell? ⟨w2.heap.size, 0, none⟩ = some (.int .i64 y) := (hb8.cell (by simp [World.setCell]; omega)).trans (by simp [go_sem, q0])
        clear hb8 K7 Z7 F7 q0 q1 q2 q3 q4 f0 f1 f2 f3 f4
        go_wp2_with (go_at_call 19; refine (HN3.out _).mono ?_; rintro e w9 ⟨rfl, hw⟩; have hw2 := hw.symm; subst hw2)
        go_ret
        exact ⟨rfl, K8⟩
      | false =>
        have hDD : daysB y 2 = 28 := by unfold daysB; rw [if_pos rfl, hleap]; rfl
        rw [hDD] at hlast hnext
        obtain ⟨A, HA⟩ : ∃ A, Hid (minC ⟨y, 2, d, h, mi⟩ = A) := ⟨_, rfl⟩
        obtain ⟨L, HLL⟩ : ∃ L, Hid (minC ⟨y, 2, 28, h, mi⟩ = L) := ⟨_, rfl⟩
        have hL : 0 ≤ L ∧ L ≤ 68374079 := by rw [← HLL.out]; exact hlast.min_bd
        have HM : Hid (∀ w, Calls Try.prog 15 #[.agg #[.int .i64 y, .int .i64 2, .int .i64 d, .int .i64 h, .int .i64 mi]] w fun e w' => e = .returned (.tuple #[.int .i64 A, .bool true]) ∧ Below w.heap.size w w') := by intro w; rw [← HA.out]; exact minuteOf_yes _ _ _ _ _ w hr
        have HS : Hid (∀ w, Calls Try.prog 18 #[.agg #[.int .i64 y, .int .i64 2, .int .i64 d, .int .i64 h, .int .i64 mi]] w fun e w' => e = .returned (.bool true) ∧ Below w.heap.size w w') := by intro w; rw [← ok_yes hr]; exact specCivilOk_try _ _ _ _ _ w
        have HI : Hid (∀ w, Calls Try.prog 16 #[.agg #[.int .i64 y, .int .i64 2, .int .i64 d, .int .i64 h, .int .i64 mi]] w fun e w' => e = .returned (.bool true) ∧ Below w.heap.size w w') := by intro w; rw [← ok_yes hr]; exact civilOk_try _ _ _ _ _ w
        have HC : Hid (∀ w, Calls Try.prog 13 #[.int .i64 A] w fun e w' => e = .returned (.tuple #[.agg #[.int .i64 y, .int .i64 2, .int .i64 d, .int .i64 h, .int .i64 mi], .bool true]) ∧ Below w.heap.size w w') := by intro w; rw [← HA.out]; exact civilOf_back hr w
        have HN : Hid (∀ w, Calls Try.prog 19 #[.int .i64 y, .int .i64 2] w fun e w' => e = .returned (.int .i64 28) ∧ w' = w) := by intro w; have := days_any (y) (2) w; rw [hDD] at this; exact this
        have HN3 : Hid (∀ w, Calls Try.prog 19 #[.int .i64 y, .int .i64 13] w fun e w' => e = .returned (.int .i64 0) ∧ w' = w) := by intro w; have := days_any (y) 13 w; rw [days_13] at this; exact this
        have HL : Hid (∀ w, Calls Try.prog 15 #[.agg #[.int .i64 y, .int .i64 2, .int .i64 28, .int .i64 h, .int .i64 mi]] w fun e w' => e = .returned (.tuple #[.int .i64 L, .bool true]) ∧ Below w.heap.size w w') := by intro w; rw [← HLL.out]; exact minuteOf_yes _ _ _ _ _ w hlast
        have HE : Hid (∀ w, Calls Try.prog 15 #[.agg #[.int .i64 y, .int .i64 3, .int .i64 1, .int .i64 h, .int .i64 mi]] w fun e w' => e = .returned (.tuple #[.int .i64 (L + 1440), .bool true]) ∧ Below w.heap.size w w') := by intro w; rw [← HLL.out, ← hnext.2]; exact minuteOf_yes _ _ _ _ _ w hnext.1
        have HY : Hid (∀ w, Calls Try.prog 20 #[.int .i64 y] w fun e w' => e = .returned (.bool false) ∧ w' = w) := by intro w; rw [← hleap]; exact leap_any y w
        clear HA HLL hlast hDD hr hnext hleap
        have Z2 : At5 (w2.alloc (.cells #[.int .i64 y, .int .i64 2, .int .i64 d, .int .i64 h, .int .i64 mi] 26)) w2.heap.size ⟨y, 2, d, h, mi⟩ := At5.made w2 ⟨y, 2, d, h, mi⟩ 26
        have F2 : Fz5 (w2.alloc (.cells #[.int .i64 y, .int .i64 2, .int .i64 d, .int .i64 h, .int .i64 mi] 26)) w2.heap.size := Fz5.made w2 _ 26
        have G2 : w.heap.size ≤ w2.heap.size := B2.size
        have K2 : Below w.heap.size w (w2.alloc (.cells #[.int .i64 y, .int .i64 2, .int .i64 d, .int .i64 h, .int .i64 mi] 26)) := ba B2 _
        have S2 : w2.heap.size < (w2.alloc (.cells #[.int .i64 y, .int .i64 2, .int .i64 d, .int .i64 h, .int .i64 mi] 26)).heap.size := by simp
        clear B2
        go_wp2_with fail
        refine (HM.out _).mono ?_
        rintro e w3 ⟨rfl, hb⟩
        have K3 := belowOn K2 hb
        have Z3 := Z2.up hb S2
        have F3 := F2.up hb S2
        have S3 := Nat.lt_of_lt_of_le S2 hb.size
        clear hb K2 Z2 F2 S2
        have q0 := Z3.c0
        have q1 := Z3.c1
        have q2 := Z3.c2
        have q3 := Z3.c3
        have q4 := Z3.c4
        go_wp2_with fail
        clear q0 q1 q2 q3 q4
        refine (HS.out _).mono ?_
        rintro e w4 ⟨rfl, hb⟩
        have K4 := belowOn K3 hb
        have Z4 := Z3.up hb S3
        have F4 := F3.up hb S3
        have S4 := Nat.lt_of_lt_of_le S3 hb.size
        clear hb K3 Z3 F3 S3
        have q0 := Z4.c0
        have q1 := Z4.c1
        have q2 := Z4.c2
        have q3 := Z4.c3
        have q4 := Z4.c4
        go_wp2_with fail
        clear q0 q1 q2 q3 q4
        refine (HI.out _).mono ?_
        rintro e w5 ⟨rfl, hb⟩
        have K5 := belowOn K4 hb
        have Z5 := Z4.up hb S4
        have F5 := F4.up hb S4
        have S5 := Nat.lt_of_lt_of_le S4 hb.size
        clear hb K4 Z4 F4 S4
        have q0 := Z5.c0
        have q1 := Z5.c1
        have q2 := Z5.c2
        have q3 := Z5.c3
        have q4 := Z5.c4
        go_wp2_with fail
        clear q0 q1 q2 q3 q4
        refine (HC.out _).mono ?_
        rintro e w6 ⟨rfl, hb⟩
        have K6 := belowOn K5 hb
        have Z6 := Z5.up hb S5
        have F6 := F5.up hb S5
        have S6 := Nat.lt_of_lt_of_le S5 hb.size
        clear hb K5 Z5 F5 S5
        have q0 := Z6.c0
        have q1 := Z6.c1
        have q2 := Z6.c2
        have q3 := Z6.c3
        have q4 := Z6.c4
        go_wp2_with (first | (go_at_call 19; refine (HN.out _).mono ?_; rintro e w7 ⟨rfl, hw⟩; have hw2 := hw.symm; subst hw2) | (go_at_call 20; refine (HY.out _).mono ?_; rintro e w7 ⟨rfl, hw⟩; have hw2 := hw.symm; subst hw2))
        refine (HE.out _).mono ?_
        rintro e w7 ⟨rfl, hb⟩
        have hA := belowOn (ba (ba (Below.refl _ w6) _) _) hb
        have K7 := belowOn K6 hA
        have Z7 := Z6.up hA S6
        have F7 := F6.up hA S6
        have S7 := Nat.lt_of_lt_of_le S6 hA.size
        clear hb hA K6 Z6 F6 q0 q1 q2 q3 q4
        have q0 := Z7.c0
        have q1 := Z7.c1
        have q2 := Z7.c2
        have q3 := Z7.c3
        have q4 := Z7.c4
        have f0 := F7.c0
        have f1 := F7.c1
        have f2 := F7.c2
        have f3 := F7.c3
        have f4 := F7.c4
        go_wp2_with fail
        refine (HL.out _).mono ?_
        rintro e w8 ⟨rfl, hb8⟩
        have K8 : Below w.heap.size w w8 := (Below.setCell K7 G2 _).trans (hb8.mono (by simp [World.setCell]; omega))
        have c0 : w8.cell? ⟨w2.heap.size, 0, none⟩ = some (.int .i64 y) := (hb8.cell (by simp [World.setCell]; omega)).trans (by simp [go_sem, q0])
        clear hb8 K7 Z7 F7 q0 q1 q2 q3 q4 f0 f1 f2 f3 f4
        go_wp2_with (go_at_call 19; refine (HN3.out _).mono ?_; rintro e w9 ⟨rfl, hw⟩; have hw2 := hw.symm; subst hw2)
        go_ret
        exact ⟨rfl, K8⟩
    by_cases h12 : mo = 12
    case neg =>
      have m0 : 1 ≤ mo := hr.m0
      have m1 : mo ≤ 12 := hr.m1
      have hnext := hr.next (by omega)
      have hq : ¬ mo % 12 + 1 = 1 := by omega
      have hmm : mo % 12 + 1 = mo + 1 := by omega
      rw [← hmm] at hnext
      obtain ⟨D, hDD⟩ : ∃ D, daysB y mo = D := ⟨_, rfl⟩
      have hD0 : 28 ≤ D := by rw [← hDD]; exact daysB_right m0 m1
      have hD1 : D ≤ 31 := by rw [← hDD]; exact daysB_bd.2
      rw [hDD] at hlast hnext
      clear hmm
      obtain ⟨A, HA⟩ : ∃ A, Hid (minC ⟨y, mo, d, h, mi⟩ = A) := ⟨_, rfl⟩
      obtain ⟨L, HLL⟩ : ∃ L, Hid (minC ⟨y, mo, D, h, mi⟩ = L) := ⟨_, rfl⟩
      have hL : 0 ≤ L ∧ L ≤ 68374079 := by rw [← HLL.out]; exact hlast.min_bd
      have HM : Hid (∀ w, Calls Try.prog 15 #[.agg #[.int .i64 y, .int .i64 mo, .int .i64 d, .int .i64 h, .int .i64 mi]] w fun e w' => e = .returned (.tuple #[.int .i64 A, .bool true]) ∧ Below w.heap.size w w') := by intro w; rw [← HA.out]; exact minuteOf_yes _ _ _ _ _ w hr
      have HS : Hid (∀ w, Calls Try.prog 18 #[.agg #[.int .i64 y, .int .i64 mo, .int .i64 d, .int .i64 h, .int .i64 mi]] w fun e w' => e = .returned (.bool true) ∧ Below w.heap.size w w') := by intro w; rw [← ok_yes hr]; exact specCivilOk_try _ _ _ _ _ w
      have HI : Hid (∀ w, Calls Try.prog 16 #[.agg #[.int .i64 y, .int .i64 mo, .int .i64 d, .int .i64 h, .int .i64 mi]] w fun e w' => e = .returned (.bool true) ∧ Below w.heap.size w w') := by intro w; rw [← ok_yes hr]; exact civilOk_try _ _ _ _ _ w
      have HC : Hid (∀ w, Calls Try.prog 13 #[.int .i64 A] w fun e w' => e = .returned (.tuple #[.agg #[.int .i64 y, .int .i64 mo, .int .i64 d, .int .i64 h, .int .i64 mi], .bool true]) ∧ Below w.heap.size w w') := by intro w; rw [← HA.out]; exact civilOf_back hr w
      have HN : Hid (∀ w, Calls Try.prog 19 #[.int .i64 y, .int .i64 mo] w fun e w' => e = .returned (.int .i64 D) ∧ w' = w) := by intro w; have := days_any (y) (mo) w; rw [hDD] at this; exact this
      have HN3 : Hid (∀ w, Calls Try.prog 19 #[.int .i64 y, .int .i64 13] w fun e w' => e = .returned (.int .i64 0) ∧ w' = w) := by intro w; have := days_any (y) 13 w; rw [days_13] at this; exact this
      have HL : Hid (∀ w, Calls Try.prog 15 #[.agg #[.int .i64 y, .int .i64 mo, .int .i64 D, .int .i64 h, .int .i64 mi]] w fun e w' => e = .returned (.tuple #[.int .i64 L, .bool true]) ∧ Below w.heap.size w w') := by intro w; rw [← HLL.out]; exact minuteOf_yes _ _ _ _ _ w hlast
      have HE : Hid (∀ w, Calls Try.prog 15 #[.agg #[.int .i64 y, .int .i64 (mo % 12 + 1), .int .i64 1, .int .i64 h, .int .i64 mi]] w fun e w' => e = .returned (.tuple #[.int .i64 (L + 1440), .bool true]) ∧ Below w.heap.size w w') := by intro w; rw [← HLL.out, ← hnext.2]; exact minuteOf_yes _ _ _ _ _ w hnext.1
      clear HA HLL hlast hDD hr hnext
      have Z2 : At5 (w2.alloc (.cells #[.int .i64 y, .int .i64 mo, .int .i64 d, .int .i64 h, .int .i64 mi] 26)) w2.heap.size ⟨y, mo, d, h, mi⟩ := At5.made w2 ⟨y, mo, d, h, mi⟩ 26
      have F2 : Fz5 (w2.alloc (.cells #[.int .i64 y, .int .i64 mo, .int .i64 d, .int .i64 h, .int .i64 mi] 26)) w2.heap.size := Fz5.made w2 _ 26
      have G2 : w.heap.size ≤ w2.heap.size := B2.size
      have K2 : Below w.heap.size w (w2.alloc (.cells #[.int .i64 y, .int .i64 mo, .int .i64 d, .int .i64 h, .int .i64 mi] 26)) := ba B2 _
      have S2 : w2.heap.size < (w2.alloc (.cells #[.int .i64 y, .int .i64 mo, .int .i64 d, .int .i64 h, .int .i64 mi] 26)).heap.size := by simp
      clear B2
      go_wp2_with fail
      refine (HM.out _).mono ?_
      rintro e w3 ⟨rfl, hb⟩
      have K3 := belowOn K2 hb
      have Z3 := Z2.up hb S2
      have F3 := F2.up hb S2
      have S3 := Nat.lt_of_lt_of_le S2 hb.size
      clear hb K2 Z2 F2 S2
      have q0 := Z3.c0
      have q1 := Z3.c1
      have q2 := Z3.c2
      have q3 := Z3.c3
      have q4 := Z3.c4
      go_wp2_with fail
      clear q0 q1 q2 q3 q4
      refine (HS.out _).mono ?_
      rintro e w4 ⟨rfl, hb⟩
      have K4 := belowOn K3 hb
      have Z4 := Z3.up hb S3
      have F4 := F3.up hb S3
      have S4 := Nat.lt_of_lt_of_le S3 hb.size
      clear hb K3 Z3 F3 S3
      have q0 := Z4.c0
      have q1 := Z4.c1
      have q2 := Z4.c2
      have q3 := Z4.c3
      have q4 := Z4.c4
      go_wp2_with fail
      clear q0 q1 q2 q3 q4
      refine (HI.out _).mono ?_
      rintro e w5 ⟨rfl, hb⟩
      have K5 := belowOn K4 hb
      have Z5 := Z4.up hb S4
      have F5 := F4.up hb S4
      have S5 := Nat.lt_of_lt_of_le S4 hb.size
      clear hb K4 Z4 F4 S4
      have q0 := Z5.c0
      have q1 := Z5.c1
      have q2 := Z5.c2
      have q3 := Z5.c3
      have q4 := Z5.c4
      go_wp2_with fail
      clear q0 q1 q2 q3 q4
      refine (HC.out _).mono ?_
      rintro e w6 ⟨rfl, hb⟩
      have K6 := belowOn K5 hb
      have Z6 := Z5.up hb S5
      have F6 := F5.up hb S5
      have S6 := Nat.lt_of_lt_of_le S5 hb.size
      clear hb K5 Z5 F5 S5
      have q0 := Z6.c0
      have q1 := Z6.c1
      have q2 := Z6.c2
      have q3 := Z6.c3
      have q4 := Z6.c4
      go_wp2_with ((go_at_call 19; refine (HN.out _).mono ?_; rintro e w7 ⟨rfl, hw⟩; have hw2 := hw.symm; subst hw2))
      refine (HE.out _).mono ?_
      rintro e w7 ⟨rfl, hb⟩
      have hA := belowOn (ba (ba (Below.refl _ w6) _) _) hb
      have K7 := belowOn K6 hA
      have Z7 := Z6.up hA S6
      have F7 := F6.up hA S6
      have S7 := Nat.lt_of_lt_of_le S6 hA.size
      clear hb hA K6 Z6 F6 q0 q1 q2 q3 q4
      have q0 := Z7.c0
      have q1 := Z7.c1
      have q2 := Z7.c2
      have q3 := Z7.c3
      have q4 := Z7.c4
      have f0 := F7.c0
      have f1 := F7.c1
      have f2 := F7.c2
      have f3 := F7.c3
      have f4 := F7.c4
      go_wp2_with fail
      refine (HL.out _).mono ?_
      rintro e w8 ⟨rfl, hb8⟩
      have K8 : Below w.heap.size w w8 := (Below.setCell K7 G2 _).trans (hb8.mono (by simp [World.setCell]; omega))
      have c0 : w8.cell? ⟨w2.heap.size, 0, none⟩ = some (.int .i64 y) := (hb8.cell (by simp [World.setCell]; omega)).trans (by simp [go_sem, q0])
      clear hb8 K7 Z7 F7 q0 q1 q2 q3 q4 f0 f1 f2 f3 f4
      go_wp2_with (go_at_call 19; refine (HN3.out _).mono ?_; rintro e w9 ⟨rfl, hw⟩; have hw2 := hw.symm; subst hw2)
      go_ret
      exact ⟨rfl, K8⟩
    subst h12
    clear h2
    have y0 : 1970 ≤ y := hr.y0
    have y1 : y ≤ 2099 := hr.y1
    have hDD : daysB y 12 = 31 := by unfold daysB; simp
    rw [hDD] at hlast
    by_cases hy : y = 2099
    case neg =>
      have hnext := hr.year rfl (by omega)
      rw [hDD] at hnext
      obtain ⟨A, HA⟩ : ∃ A, Hid (minC ⟨y, 12, d, h, mi⟩ = A) := ⟨_, rfl⟩
      obtain ⟨L, HLL⟩ : ∃ L, Hid (minC ⟨y, 12, 31, h, mi⟩ = L) := ⟨_, rfl⟩
      have hL : 0 ≤ L ∧ L ≤ 68374079 := by rw [← HLL.out]; exact hlast.min_bd
      have HM : Hid (∀ w, Calls Try.prog 15 #[.agg #[.int .i64 y, .int .i64 12, .int .i64 d, .int .i64 h, .int .i64 mi]] w fun e w' => e = .returned (.tuple #[.int .i64 A, .bool true]) ∧ Below w.heap.size w w') := by intro w; rw [← HA.out]; exact minuteOf_yes _ _ _ _ _ w hr
      have HS : Hid (∀ w, Calls Try.prog 18 #[.agg #[.int .i64 y, .int .i64 12, .int .i64 d, .int .i64 h, .int .i64 mi]] w fun e w' => e = .returned (.bool true) ∧ Below w.heap.size w w') := by intro w; rw [← ok_yes hr]; exact specCivilOk_try _ _ _ _ _ w
      have HI : Hid (∀ w, Calls Try.prog 16 #[.agg #[.int .i64 y, .int .i64 12, .int .i64 d, .int .i64 h, .int .i64 mi]] w fun e w' => e = .returned (.bool true) ∧ Below w.heap.size w w') := by intro w; rw [← ok_yes hr]; exact civilOk_try _ _ _ _ _ w
      have HC : Hid (∀ w, Calls Try.prog 13 #[.int .i64 A] w fun e w' => e = .returned (.tuple #[.agg #[.int .i64 y, .int .i64 12, .int .i64 d, .int .i64 h, .int .i64 mi], .bool true]) ∧ Below w.heap.size w w') := by intro w; rw [← HA.out]; exact civilOf_back hr w
      have HN : Hid (∀ w, Calls Try.prog 19 #[.int .i64 y, .int .i64 12] w fun e w' => e = .returned (.int .i64 31) ∧ w' = w) := by intro w; have := days_any (y) (12) w; rw [hDD] at this; exact this
      have HN3 : Hid (∀ w, Calls Try.prog 19 #[.int .i64 y, .int .i64 13] w fun e w' => e = .returned (.int .i64 0) ∧ w' = w) := by intro w; have := days_any (y) 13 w; rw [days_13] at this; exact this
      have HL : Hid (∀ w, Calls Try.prog 15 #[.agg #[.int .i64 y, .int .i64 12, .int .i64 31, .int .i64 h, .int .i64 mi]] w fun e w' => e = .returned (.tuple #[.int .i64 L, .bool true]) ∧ Below w.heap.size w w') := by intro w; rw [← HLL.out]; exact minuteOf_yes _ _ _ _ _ w hlast
      have HE : Hid (∀ w, Calls Try.prog 15 #[.agg #[.int .i64 (y + 1), .int .i64 1, .int .i64 1, .int .i64 h, .int .i64 mi]] w fun e w' => e = .returned (.tuple #[.int .i64 (L + 1440), .bool true]) ∧ Below w.heap.size w w') := by intro w; rw [← HLL.out, ← hnext.2]; exact minuteOf_yes _ _ _ _ _ w hnext.1
      clear HA HLL hlast hDD hr hnext
      have Z2 : At5 (w2.alloc (.cells #[.int .i64 y, .int .i64 12, .int .i64 d, .int .i64 h, .int .i64 mi] 26)) w2.heap.size ⟨y, 12, d, h, mi⟩ := At5.made w2 ⟨y, 12, d, h, mi⟩ 26
      have F2 : Fz5 (w2.alloc (.cells #[.int .i64 y, .int .i64 12, .int .i64 d, .int .i64 h, .int .i64 mi] 26)) w2.heap.size := Fz5.made w2 _ 26
      have G2 : w.heap.size ≤ w2.heap.size := B2.size
      have K2 : Below w.heap.size w (w2.alloc (.cells #[.int .i64 y, .int .i64 12, .int .i64 d, .int .i64 h, .int .i64 mi] 26)) := ba B2 _
      have S2 : w2.heap.size < (w2.alloc (.cells #[.int .i64 y, .int .i64 12, .int .i64 d, .int .i64 h, .int .i64 mi] 26)).heap.size := by simp
      clear B2
      go_wp2_with fail
      refine (HM.out _).mono ?_
      rintro e w3 ⟨rfl, hb⟩
      have K3 := belowOn K2 hb
      have Z3 := Z2.up hb S2
      have F3 := F2.up hb S2
      have S3 := Nat.lt_of_lt_of_le S2 hb.size
      clear hb K2 Z2 F2 S2
      have q0 := Z3.c0
      have q1 := Z3.c1
      have q2 := Z3.c2
      have q3 := Z3.c3
      have q4 := Z3.c4
      go_wp2_with fail
      clear q0 q1 q2 q3 q4
      refine (HS.out _).mono ?_
      rintro e w4 ⟨rfl, hb⟩
      have K4 := belowOn K3 hb
      have Z4 := Z3.up hb S3
      have F4 := F3.up hb S3
      have S4 := Nat.lt_of_lt_of_le S3 hb.size
      clear hb K3 Z3 F3 S3
      have q0 := Z4.c0
      have q1 := Z4.c1
      have q2 := Z4.c2
      have q3 := Z4.c3
      have q4 := Z4.c4
      go_wp2_with fail
      clear q0 q1 q2 q3 q4
      refine (HI.out _).mono ?_
      rintro e w5 ⟨rfl, hb⟩
      have K5 := belowOn K4 hb
      have Z5 := Z4.up hb S4
      have F5 := F4.up hb S4
      have S5 := Nat.lt_of_lt_of_le S4 hb.size
      clear hb K4 Z4 F4 S4
      have q0 := Z5.c0
      have q1 := Z5.c1
      have q2 := Z5.c2
      have q3 := Z5.c3
      have q4 := Z5.c4
      go_wp2_with fail
      clear q0 q1 q2 q3 q4
      refine (HC.out _).mono ?_
      rintro e w6 ⟨rfl, hb⟩
      have K6 := belowOn K5 hb
      have Z6 := Z5.up hb S5
      have F6 := F5.up hb S5
      have S6 := Nat.lt_of_lt_of_le S5 hb.size
      clear hb K5 Z5 F5 S5
      have q0 := Z6.c0
      have q1 := Z6.c1
      have q2 := Z6.c2
      have q3 := Z6.c3
      have q4 := Z6.c4
      go_wp2_with ((go_at_call 19; refine (HN.out _).mono ?_; rintro e w7 ⟨rfl, hw⟩; have hw2 := hw.symm; subst hw2))
      refine (HE.out _).mono ?_
      rintro e w7 ⟨rfl, hb⟩
      have hA := belowOn (ba (ba (Below.refl _ w6) _) _) hb
      have K7 := belowOn K6 hA
      have Z7 := Z6.up hA S6
      have F7 := F6.up hA S6
      have S7 := Nat.lt_of_lt_of_le S6 hA.size
      clear hb hA K6 Z6 F6 q0 q1 q2 q3 q4
      have q0 := Z7.c0
      have q1 := Z7.c1
      have q2 := Z7.c2
      have q3 := Z7.c3
      have q4 := Z7.c4
      have f0 := F7.c0
      have f1 := F7.c1
      have f2 := F7.c2
      have f3 := F7.c3
      have f4 := F7.c4
      go_wp2_with fail
      refine (HL.out _).mono ?_
      rintro e w8 ⟨rfl, hb8⟩
      have K8 : Below w.heap.size w w8 := (Below.setCell K7 G2 _).trans (hb8.mono (by simp [World.setCell]; omega))
      have c0 : w8.cell? ⟨w2.heap.size, 0, none⟩ = some (.int .i64 y) := (hb8.cell (by simp [World.setCell]; omega)).trans (by simp [go_sem, q0])
      clear hb8 K7 Z7 F7 q0 q1 q2 q3 q4 f0 f1 f2 f3 f4
      go_wp2_with (go_at_call 19; refine (HN3.out _).mono ?_; rintro e w9 ⟨rfl, hw⟩; have hw2 := hw.symm; subst hw2)
      go_ret
      exact ⟨rfl, K8⟩
    subst hy
    clear y0 y1
    obtain ⟨A, HA⟩ : ∃ A, Hid (minC ⟨2099, 12, d, h, mi⟩ = A) := ⟨_, rfl⟩
    obtain ⟨L, HLL⟩ : ∃ L, Hid (minC ⟨2099, 12, 31, h, mi⟩ = L) := ⟨_, rfl⟩
    have hL : 0 ≤ L ∧ L ≤ 68374079 := by rw [← HLL.out]; exact hlast.min_bd
    have HM : Hid (∀ w, Calls Try.prog 15 #[.agg #[.int .i64 2099, .int .i64 12, .int .i64 d, .int .i64 h, .int .i64 mi]] w fun e w' => e = .returned (.tuple #[.int .i64 A, .bool true]) ∧ Below w.heap.size w w') := by intro w; rw [← HA.out]; exact minuteOf_yes _ _ _ _ _ w hr
    have HS : Hid (∀ w, Calls Try.prog 18 #[.agg #[.int .i64 2099, .int .i64 12, .int .i64 d, .int .i64 h, .int .i64 mi]] w fun e w' => e = .returned (.bool true) ∧ Below w.heap.size w w') := by intro w; rw [← ok_yes hr]; exact specCivilOk_try _ _ _ _ _ w
    have HI : Hid (∀ w, Calls Try.prog 16 #[.agg #[.int .i64 2099, .int .i64 12, .int .i64 d, .int .i64 h, .int .i64 mi]] w fun e w' => e = .returned (.bool true) ∧ Below w.heap.size w w') := by intro w; rw [← ok_yes hr]; exact civilOk_try _ _ _ _ _ w
    have HC : Hid (∀ w, Calls Try.prog 13 #[.int .i64 A] w fun e w' => e = .returned (.tuple #[.agg #[.int .i64 2099, .int .i64 12, .int .i64 d, .int .i64 h, .int .i64 mi], .bool true]) ∧ Below w.heap.size w w') := by intro w; rw [← HA.out]; exact civilOf_back hr w
    have HN : Hid (∀ w, Calls Try.prog 19 #[.int .i64 2099, .int .i64 12] w fun e w' => e = .returned (.int .i64 31) ∧ w' = w) := by intro w; have := days_any (2099) (12) w; rw [hDD] at this; exact this
    have HN3 : Hid (∀ w, Calls Try.prog 19 #[.int .i64 2099, .int .i64 13] w fun e w' => e = .returned (.int .i64 0) ∧ w' = w) := by intro w; have := days_any (2099) 13 w; rw [days_13] at this; exact this
    have HL : Hid (∀ w, Calls Try.prog 15 #[.agg #[.int .i64 2099, .int .i64 12, .int .i64 31, .int .i64 h, .int .i64 mi]] w fun e w' => e = .returned (.tuple #[.int .i64 L, .bool true]) ∧ Below w.heap.size w w') := by intro w; rw [← HLL.out]; exact minuteOf_yes _ _ _ _ _ w hlast
    have HE : Hid (∀ w, Calls Try.prog 15 #[.agg #[.int .i64 2100, .int .i64 1, .int .i64 1, .int .i64 h, .int .i64 mi]] w fun e w' => e = .returned (.tuple #[.int .i64 0, .bool false]) ∧ Below w.heap.size w w') := by intro w; exact minuteOf_no _ _ _ _ _ w not_2100
    clear HA HLL hlast hDD hr
    have Z2 : At5 (w2.alloc (.cells #[.int .i64 2099, .int .i64 12, .int .i64 d, .int .i64 h, .int .i64 mi] 26)) w2.heap.size ⟨2099, 12, d, h, mi⟩ := At5.made w2 ⟨2099, 12, d, h, mi⟩ 26
    have F2 : Fz5 (w2.alloc (.cells #[.int .i64 2099, .int .i64 12, .int .i64 d, .int .i64 h, .int .i64 mi] 26)) w2.heap.size := Fz5.made w2 _ 26
    have G2 : w.heap.size ≤ w2.heap.size := B2.size
    have K2 : Below w.heap.size w (w2.alloc (.cells #[.int .i64 2099, .int .i64 12, .int .i64 d, .int .i64 h, .int .i64 mi] 26)) := ba B2 _
    have S2 : w2.heap.size < (w2.alloc (.cells #[.int .i64 2099, .int .i64 12, .int .i64 d, .int .i64 h, .int .i64 mi] 26)).heap.size := by simp
    clear B2
    go_wp2_with fail
    refine (HM.out _).mono ?_
    rintro e w3 ⟨rfl, hb⟩
    have K3 := belowOn K2 hb
    have Z3 := Z2.up hb S2
    have F3 := F2.up hb S2
    have S3 := Nat.lt_of_lt_of_le S2 hb.size
    clear hb K2 Z2 F2 S2
    have q0 := Z3.c0
    have q1 := Z3.c1
    have q2 := Z3.c2
    have q3 := Z3.c3
    have q4 := Z3.c4
    go_wp2_with fail
    clear q0 q1 q2 q3 q4
    refine (HS.out _).mono ?_
    rintro e w4 ⟨rfl, hb⟩
    have K4 := belowOn K3 hb
    have Z4 := Z3.up hb S3
    have F4 := F3.up hb S3
    have S4 := Nat.lt_of_lt_of_le S3 hb.size
    clear hb K3 Z3 F3 S3
    have q0 := Z4.c0
    have q1 := Z4.c1
    have q2 := Z4.c2
    have q3 := Z4.c3
    have q4 := Z4.c4
    go_wp2_with fail
    clear q0 q1 q2 q3 q4
    refine (HI.out _).mono ?_
    rintro e w5 ⟨rfl, hb⟩
    have K5 := belowOn K4 hb
    have Z5 := Z4.up hb S4
    have F5 := F4.up hb S4
    have S5 := Nat.lt_of_lt_of_le S4 hb.size
    clear hb K4 Z4 F4 S4
    have q0 := Z5.c0
    have q1 := Z5.c1
    have q2 := Z5.c2
    have q3 := Z5.c3
    have q4 := Z5.c4
    go_wp2_with fail
    clear q0 q1 q2 q3 q4
    refine (HC.out _).mono ?_
    rintro e w6 ⟨rfl, hb⟩
    have K6 := belowOn K5 hb
    have Z6 := Z5.up hb S5
    have F6 := F5.up hb S5
    have S6 := Nat.lt_of_lt_of_le S5 hb.size
    clear hb K5 Z5 F5 S5
    have q0 := Z6.c0
    have q1 := Z6.c1
    have q2 := Z6.c2
    have q3 := Z6.c3
    have q4 := Z6.c4
    go_wp2_with ((go_at_call 19; refine (HN.out _).mono ?_; rintro e w7 ⟨rfl, hw⟩; have hw2 := hw.symm; subst hw2))
    refine (HE.out _).mono ?_
    rintro e w7 ⟨rfl, hb⟩
    have hA := belowOn (ba (ba (Below.refl _ w6) _) _) hb
    have K7 := belowOn K6 hA
    have Z7 := Z6.up hA S6
    have F7 := F6.up hA S6
    have S7 := Nat.lt_of_lt_of_le S6 hA.size
    have E7 := (At5.made (w6.alloc (.cells #[.int .i64 2099, .int .i64 12, .int .i64 d, .int .i64 h, .int .i64 mi] 26)) ⟨2100, 1, 1, h, mi⟩ 26).up hb (by simp)
    have e0 : w7.cell? ⟨w6.heap.size + 1, 0, none⟩ = some (.int .i64 2100) := by have := E7.c0; simpa using this
    have he7 := World.block_lt_of_cell? _ _ e0
    simp only at he7
    clear hb hA K6 Z6 F6 q0 q1 q2 q3 q4 E7
    have q0 := Z7.c0
    have q1 := Z7.c1
    have q2 := Z7.c2
    have q3 := Z7.c3
    have q4 := Z7.c4
    have f0 := F7.c0
    have f1 := F7.c1
    have f2 := F7.c2
    have f3 := F7.c3
    have f4 := F7.c4
    go_wp2_with fail
    refine (HL.out _).mono ?_
    rintro e w8 ⟨rfl, hb8⟩
    have K8 : Below w.heap.size w w8 := (Below.setCell K7 G2 _).trans (hb8.mono (by simp [World.setCell]; omega))
    have c0 : w8.cell? ⟨w2.heap.size, 0, none⟩ = some (.int .i64 2099) := (hb8.cell (by simp [World.setCell]; omega)).trans (by simp [go_sem, q0])
    have c1 : w8.cell? ⟨w6.heap.size + 1, 0, none⟩ = some (.int .i64 2100) := (hb8.cell (by simp [World.setCell]; omega)).trans (by rw [World.cell?_setCell_far _ _ _ _ (by show w2.heap.size ≠ w6.heap.size + 1; omega)]; exact e0)
    clear hb8 K7 Z7 F7 q0 q1 q2 q3 q4 f0 f1 f2 f3 f4 e0
    go_wp2_with (go_at_call 19; refine (HN3.out _).mono ?_; rintro e w9 ⟨rfl, hw⟩; have hw2 := hw.symm; subst hw2)
    go_ret
    exact ⟨rfl, K8⟩
end Go.Proofs.Ytacfbagieefikaa
