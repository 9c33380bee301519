/-
  The minute of a day, on both sides: the walks.
-/
import Derived.Test.YtacfbagieefikaaCk
namespace Go.Proofs.Ytacfbagieefikaa
open Go Go.RowKit

set_option maxHeartbeats 2000000 in
theorem ahead_any (y mo : Int) (w : World) (hy0 : 1970 ≤ y) (hy1 : y ≤ 2099) (hm0 : 1 ≤ mo) (hm1 : mo ≤ 12) :
    Calls Try.prog 33 #[.int .i64 y, .int .i64 mo] w fun e w' => e = .returned (.int .i64 (yearN (y - 1970) + monN (leapB y) mo)) ∧ w' = w := by
  have hz : yearN 0 = 0 := rfl
  go_enter Try.func33, Try.ntmps33
  go_wp2
  go_loopw [5, 10] (fun ds i wr => ∃ k : Nat, (k : Int) ≤ y - 1970 ∧ i = .int .i64 k ∧ ds = .int .i64 (yearN k) ∧ wr = w) (fun _ i _ => 200 - (intOf i).toNat)
  case atStart => exact ⟨0, by omega, rfl, rfl, rfl⟩
  case round =>
    obtain ⟨k, hk, rfl, rfl, rfl⟩ := hrel
    have HB : 0 ≤ yearN k ∧ yearN k ≤ 50000 := by unfold yearN; omega
    by_cases hlt : (k : Int) < y - 1970
    · have HN : Hid (yearN (k + 1 : Nat) = yearN k + yearL (1970 + k)) := by
        have := yearN_next (n := (k : Int)) (by omega) (by omega)
        exact this
      have HY := yearL_bd (1970 + k)
      go_wp2_with (go_at_call 39; refine (yearL_any _ _).mono ?_; rintro e w1 ⟨rfl, hw⟩; have hw2 := hw.symm; subst hw2)
      go_roundw
      case rel => exact ⟨k + 1, by omega, by go_num, by rw [HN.out], trivial⟩
      case measure => simp [intOf]; omega
    · have hk2 : (k : Int) = y - 1970 := by omega
      rw [hk2] at HB ⊢
      obtain ⟨Y, HY0⟩ : ∃ Y, Hid (yearN (y - 1970) = Y) := ⟨_, rfl⟩
      rw [HY0.out] at HB ⊢
      clear hlt hk
      go_wp2
      go_loopw [5, 21] (fun ds i wx => ∃ j : Nat, (j : Int) ≤ mo - 1 ∧ i = .int .i64 j ∧ ds = .int .i64 (Y + monN (leapB y) (j + 1)) ∧ wx = wr) (fun _ i _ => 20 - (intOf i).toNat)
      case atStart => exact ⟨0, by omega, rfl, by rw [show ((0 : Nat) : Int) + 1 = 1 from rfl, monN_one, Int.add_zero], rfl⟩
      case round =>
        obtain ⟨j, hj, rfl, rfl, rfl⟩ := hrel
        have HM := monN_bd (b := leapB y) (m := (j : Int) + 1) (by omega)
        by_cases hlt : (j : Int) < mo - 1
        · have HN : Hid (monN (leapB y) ((j + 1 : Nat) + 1) = monN (leapB y) (j + 1) + daysB y (1 + j)) := by
            have := monN_next (y := y) (m := (j : Int) + 1) (by omega) (by omega)
            rw [show (j : Int) + 1 = 1 + j by omega] at this ⊢
            rw [← this]
            congr 1
            omega
          have HY := daysB_bd (y := y) (m := 1 + j)
          go_wp2_with (go_at_call 19; refine (days_any _ _ _).mono ?_; rintro e w1 ⟨rfl, hw⟩; have hw2 := hw.symm; subst hw2)
          go_roundw
          case rel => exact ⟨j + 1, by omega, by go_num, by rw [HN.out]; go_num, trivial⟩
          case measure => simp [intOf]; omega
        · have hj2 : (j : Int) + 1 = mo := by omega
          rw [hj2]
          go_wp2
          go_ret
          exact ⟨by rw [HY0.out]; rfl, rfl⟩

set_option maxHeartbeats 1000000 in
/-- The minute of a right day. -/
theorem minuteOf_yes (y mo d h mi : Int) (w : World) (hr : Right ⟨y, mo, d, h, mi⟩) :
    Calls Try.prog 15 #[.agg #[.int .i64 y, .int .i64 mo, .int .i64 d, .int .i64 h, .int .i64 mi]] w fun e w' => e = .returned (.tuple #[.int .i64 (minC ⟨y, mo, d, h, mi⟩), .bool true]) ∧ Below w.heap.size w w' := by
  have hO : Hid (∀ w, Calls Try.prog 16 #[.agg #[.int .i64 y, .int .i64 mo, .int .i64 d, .int .i64 h, .int .i64 mi]] w fun e w' => e = .returned (.bool true) ∧ Below w.heap.size w w') := by
    intro w; rw [← ok_yes hr]; exact civilOk_try y mo d h mi w
  obtain ⟨A, HA⟩ : ∃ A, Hid (yearN (y - 1970) + monN (leapB y) mo = A) := ⟨_, rfl⟩
  have hE : Hid (∀ w, Calls Try.prog 33 #[.int .i64 y, .int .i64 mo] w fun e w' => e = .returned (.int .i64 A) ∧ w' = w) := by
    intro w; rw [← HA.out]; exact ahead_any y mo w hr.y0 hr.y1 hr.m0 hr.m1
  have HM : Hid (minC ⟨y, mo, d, h, mi⟩ = (A + d - 1) * 1440 + h * 60 + mi) := by
    show ((yearN (y - 1970) + monN (leapB y) mo + d - 1) * 1440 + h * 60 + mi) = _
    rw [HA.out]
  have hd := hr.day_bd
  have hA : 0 ≤ A + d - 1 ∧ A + d - 1 ≤ 47481 := by
    have e : dayC ⟨y, mo, d, h, mi⟩ = A + d - 1 := by show yearN (y - 1970) + monN (leapB y) mo + d - 1 = _; rw [HA.out]
    rw [e] at hd
    exact hd
  clear hd
  have d0 : 1 ≤ d := hr.d0
  have d1 : d ≤ 31 := Int.le_trans hr.d1 daysB_bd.2
  have h0 : 0 ≤ h := hr.h0
  have h1 : h ≤ 23 := hr.h1
  have i0 : 0 ≤ mi := hr.i0
  have i1 : mi ≤ 59 := hr.i1
  clear hr
  go_enter Try.func15, Try.ntmps15
  go_wp2_with (go_at_call 16; refine (hO.out _).mono ?_; rintro e w1 ⟨rfl, hb1⟩)
  have B1 := below_new hb1
  have HC := (At5.made w ⟨y, mo, d, h, mi⟩ 26).up hb1 (by simp)
  have q0 := Wd.cell HC.c0
  have q1 := Wd.cell HC.c1
  have q2 := Wd.cell HC.c2
  refine wp_region_wd (by kernel_rfl) (by kernel_rfl) ?_
  repeat (go_big_quiet_step ((go_at_call 33; refine calls_wd_same (v := .int .i64 A) ?_; with_reducible exact hE.out _)))
  refine wpQuiet_nil ?_
  rintro _ ⟨x, rfl⟩
  have q3 := Wd.cell HC.c3 x
  have q4 := Wd.cell HC.c4 x
  go_wp2
  go_ret2
  exact ⟨by rw [HM.out]; rfl, belowOn B1 x.ok⟩
set_option maxHeartbeats 1000000 in
theorem minuteOf_no (y mo d h mi : Int) (w : World) (hr : ¬ Right ⟨y, mo, d, h, mi⟩) :
    Calls Try.prog 15 #[.agg #[.int .i64 y, .int .i64 mo, .int .i64 d, .int .i64 h, .int .i64 mi]] w fun e w' => e = .returned (.tuple #[.int .i64 0, .bool false]) ∧ Below w.heap.size w w' := by
  have hO : Hid (∀ w, Calls Try.prog 16 #[.agg #[.int .i64 y, .int .i64 mo, .int .i64 d, .int .i64 h, .int .i64 mi]] w fun e w' => e = .returned (.bool false) ∧ Below w.heap.size w w') := by
    intro w; rw [← ok_no hr]; exact civilOk_try y mo d h mi w
  clear hr
  go_enter Try.func15, Try.ntmps15
  go_wp2_with (go_at_call 16; refine (hO.out _).mono ?_; rintro e w1 ⟨rfl, hb1⟩)
  go_ret2
  exact ⟨rfl, below_new hb1⟩
end Go.Proofs.Ytacfbagieefikaa
