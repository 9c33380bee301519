/-
  The day of a minute, on both sides, and the law on it: the walks.
-/
import Derived.Test.YtbecdaholpiaeaaDoorMns
namespace Go.Proofs.YtbecdaholpiaeaaDoor
open Go Go.RowKit

set_option maxRecDepth 10000 in
set_option maxHeartbeats 2000000 in
theorem yearAfter_any (d : Int) (w : World) (h0 : 0 ≤ d) (h1 : d < 47482) :
    Calls Tryd.prog 71 #[.int .i64 d] w fun e w' => (∃ n x : Int, e = .returned (.tuple #[.int .i64 (1970 + n), .int .i64 x]) ∧ Hid (0 ≤ n ∧ n ≤ 129 ∧ d = yearN n + x ∧ 0 ≤ x ∧ x < yearL (1970 + n))) ∧ w' = w := by
  go_enter Tryd.func71, Tryd.ntmps71
  go_wp2
  go_loopw [0, 6] (fun ds i wr => ∃ (k : Nat) (x : Int), k ≤ 129 ∧ i = .int .i64 k ∧ ds = .int .i64 x ∧ 0 ≤ x ∧ x ≤ 47482 ∧ Hid (d = yearN k + x) ∧ wr = w) (fun _ i _ => 200 - (intOf i).toNat)
  case atStart => exact ⟨0, d, by omega, rfl, rfl, h0, by omega, (by show d = yearN 0 + d; rw [show yearN 0 = 0 from rfl, Int.zero_add]), rfl⟩
  case round =>
    obtain ⟨k, x, hk, rfl, rfl, hx0, hx1, HE, rfl⟩ := hrel
    by_cases hlt : k < 129
    · have HN : Hid (yearN (k + 1 : Nat) = yearN k + yearL (1970 + k)) := yearN_next (n := (k : Int)) (by omega) (by omega)
      obtain ⟨L, HL⟩ : ∃ L, Hid (yearL (1970 + k) = L) := ⟨_, rfl⟩
      have HY := yearL_bd (1970 + k)
      rw [HL.out] at HY
      by_cases hx : x < L
      · go_wp2_with (go_at_call 74; refine (yearL_any _ _).mono ?_; rintro e w1 ⟨rfl, hw⟩; have hw2 := hw.symm; subst hw2; rw [HL.out])
        go_ret2
        exact ⟨⟨k, x, rfl, by omega, by omega, HE.out, hx0, by rw [HL.out]; exact hx⟩, rfl⟩
      · go_wp2_with (go_at_call 74; refine (yearL_any _ _).mono ?_; rintro e w1 ⟨rfl, hw⟩; have hw2 := hw.symm; subst hw2; rw [HL.out])
        go_roundw
        case rel => exact ⟨k + 1, x - L, by omega, by go_num, by go_num, by omega, by omega, (by show d = yearN (k + 1 : Nat) + (x - L); rw [HN.out, HL.out, HE.out]; omega), trivial⟩
        case measure => simp [intOf]; omega
    · have hk2 : k = 129 := by omega
      subst hk2
      have hx : x < yearL (1970 + 129) := by
        have e : d = yearN 129 + x := HE.out
        have := yearN_next (n := 129) (by decide) (by decide)
        have e2 : yearN (129 + 1) = 47482 := rfl
        omega
      have HX : Hid (x < yearL (1970 + 129)) := hx
      clear hx
      go_wp2
      go_ret2
      exact ⟨⟨129, x, rfl, by omega, by omega, HE.out, hx0, HX.out⟩, rfl⟩

set_option maxRecDepth 10000 in
set_option maxHeartbeats 2000000 in
theorem monthAfter_any (y d : Int) (w : World) (h0 : 0 ≤ d) (h1 : d < yearL y) :
    Calls Tryd.prog 72 #[.int .i64 y, .int .i64 d] w fun e w' => (∃ m x : Int, e = .returned (.tuple #[.int .i64 m, .int .i64 x]) ∧ Hid (1 ≤ m ∧ m ≤ 12 ∧ d = monN (leapB y) m + x ∧ 0 ≤ x ∧ x < daysB y m)) ∧ w' = w := by
  have H1 : Hid (d < yearL y) := h1
  have hd : d ≤ 366 := by have := (yearL_bd y).2; omega
  clear h1
  go_enter Tryd.func72, Tryd.ntmps72
  go_wp2
  go_loopw [1, 8] (fun ds i wr => ∃ (k : Nat) (x : Int), k ≤ 11 ∧ i = .int .i64 k ∧ ds = .int .i64 x ∧ 0 ≤ x ∧ x ≤ 366 ∧ Hid (d = monN (leapB y) (1 + k) + x) ∧ wr = w) (fun _ i _ => 20 - (intOf i).toNat)
  case atStart => exact ⟨0, d, by omega, rfl, rfl, h0, by omega, (by show d = monN (leapB y) 1 + d; rw [monN_one, Int.zero_add]), rfl⟩
  case round =>
    obtain ⟨k, x, hk, rfl, rfl, hx0, hx1, HE, rfl⟩ := hrel
    by_cases hlt : k < 11
    · have HN : Hid (monN (leapB y) (1 + (k + 1 : Nat)) = monN (leapB y) (1 + k) + daysB y (1 + k)) := by
        have := monN_next (y := y) (m := 1 + (k : Int)) (by omega) (by omega)
        rw [← this]
        show monN _ _ = monN _ _
        congr 1
      obtain ⟨L, HL⟩ : ∃ L, Hid (daysB y (1 + k) = L) := ⟨_, rfl⟩
      have HY := daysB_bd (y := y) (m := 1 + k)
      rw [HL.out] at HY
      by_cases hx : x < L
      · go_wp2_with (go_at_call 75; refine (days_any _ _ _).mono ?_; rintro e w1 ⟨rfl, hw⟩; have hw2 := hw.symm; subst hw2; rw [HL.out])
        go_ret2
        exact ⟨⟨1 + k, x, rfl, by omega, by omega, HE.out, hx0, by rw [HL.out]; exact hx⟩, rfl⟩
      · go_wp2_with (go_at_call 75; refine (days_any _ _ _).mono ?_; rintro e w1 ⟨rfl, hw⟩; have hw2 := hw.symm; subst hw2; rw [HL.out])
        go_roundw
        case rel => exact ⟨k + 1, x - L, by omega, by go_num, by go_num, by omega, by omega, (by show d = monN (leapB y) (1 + (k + 1 : Nat)) + (x - L); rw [HN.out, HL.out, HE.out]; omega), trivial⟩
        case measure => simp [intOf]; omega
    · have hk2 : k = 11 := by omega
      subst hk2
      have HX : Hid (x < daysB y 12) := by
        have e : d = monN (leapB y) 12 + x := HE.out
        have e1 := monN_next (y := y) (m := 12) (by decide) (by decide)
        have e2 := monN_end y
        have e3 := H1.out
        rw [show (12 : Int) + 1 = 13 from rfl] at e1
        show x < daysB y 12
        omega
      go_wp2
      go_ret2
      exact ⟨⟨12, x, rfl, by omega, by omega, HE.out, hx0, HX.out⟩, rfl⟩

/-- The day that this minute is of. -/
theorem right_of {n x m d k : Int} (hn0 : 0 ≤ n) (hn1 : n ≤ 129) (hm0 : 1 ≤ m) (hm1 : m ≤ 12) (he : k / 1440 = yearN n + x) (hx : x = monN (leapB (1970 + n)) m + d) (hd0 : 0 ≤ d) (hd1 : d < daysB (1970 + n) m) :
    Right ⟨1970 + n, m, d + 1, k % 1440 / 60, k % 1440 % 60⟩ ∧ minC ⟨1970 + n, m, d + 1, k % 1440 / 60, k % 1440 % 60⟩ = k := by
  refine ⟨⟨by show 1970 ≤ 1970 + n; omega, by show 1970 + n ≤ 2099; omega, hm0, hm1, by show 1 ≤ d + 1; omega, by show d + 1 ≤ daysB (1970 + n) m; omega, by show 0 ≤ k % 1440 / 60; omega, by show k % 1440 / 60 ≤ 23; omega, by show 0 ≤ k % 1440 % 60; omega, by show k % 1440 % 60 ≤ 59; omega⟩, ?_⟩
  show (yearN (1970 + n - 1970) + monN (leapB (1970 + n)) m + (d + 1) - 1) * 1440 + k % 1440 / 60 * 60 + k % 1440 % 60 = k
  rw [show 1970 + n - 1970 = n by omega]
  have : yearN n + monN (leapB (1970 + n)) m + (d + 1) - 1 = k / 1440 := by omega
  rw [this]
  omega

set_option maxHeartbeats 1000000 in
theorem civilOf_yes (k : Int) (w : World) (h0 : 0 ≤ k) (h1 : k ≤ 68374079) :
    Calls Tryd.prog 68 #[.int .i64 k] w fun e w' => ∃ c : Cv, e = .returned (.tuple #[.agg #[.int .i64 c.y, .int .i64 c.mo, .int .i64 c.d, .int .i64 c.h, .int .i64 c.mi], .bool true]) ∧ Right c ∧ minC c = k ∧ Below w.heap.size w w' := by
  go_enter Tryd.func68, Tryd.ntmps68
  go_wp2_with (first | (go_at_call 59; refine (isMin_yes ⟨h0, h1⟩).mono ?_; rintro e w1 ⟨rfl, hw⟩; have hw2 := hw.symm; subst hw2) | (go_at_call 71; refine (yearAfter_any (k / 1440) _ (by omega) (by omega)).mono ?_; rintro e w2 ⟨⟨n, x, rfl, HN⟩, hw3⟩; have hw4 := hw3.symm; subst hw4; have n0 := HN.out.1; have n1 := HN.out.2.1) | (go_at_call 72; refine (monthAfter_any (1970 + n) x _ HN.out.2.2.2.1 HN.out.2.2.2.2).mono ?_; rintro e w5 ⟨⟨m, d, rfl, HM⟩, hw6⟩; have hw7 := hw6.symm; subst hw7; have hd0 := HM.out.2.2.2.1; have hd1 : d ≤ 31 := (Int.le_trans (Int.le_of_lt HM.out.2.2.2.2) daysB_bd.2)))
  have hR := right_of n0 n1 HM.out.1 HM.out.2.1 HN.out.2.2.1 HM.out.2.2.1 hd0 HM.out.2.2.2.2
  refine bodyPost_ret (ret_civ2 (c := ⟨1970 + n, m, d + 1, k % 1440 / 60, k % 1440 % 60⟩) rfl rfl rfl ⟨by simp [go_sem], by simp [go_sem], by simp [go_sem], by simp [go_sem], by simp [go_sem]⟩) rfl ⟨_, rfl, hR.1, hR.2, ?_⟩
  exact ba (Below.refl _ _) _
set_option maxHeartbeats 1000000 in
theorem civilOf_no (k : Int) (w : World) (h : ¬ (0 ≤ k ∧ k ≤ 68374079)) :
    Calls Tryd.prog 68 #[.int .i64 k] w fun e w' => e = .returned (.tuple #[.agg #[.int .i64 0, .int .i64 0, .int .i64 0, .int .i64 0, .int .i64 0], .bool false]) ∧ Below w.heap.size w w' := by
  have HI : Hid (∀ w, Calls Tryd.prog 59 #[.int .i64 k] w fun e w' => e = .returned (.bool false) ∧ w' = w) := by intro w; exact isMin_no h
  clear h
  go_enter Tryd.func68, Tryd.ntmps68
  go_wp2_with (go_at_call 59; refine (HI.out _).mono ?_; rintro e w1 ⟨rfl, hw⟩; have hw2 := hw.symm; subst hw2)
  refine bodyPost_ret (ret_civ2 (c := ⟨0, 0, 0, 0, 0⟩) rfl rfl rfl ⟨by simp [go_sem], by simp [go_sem], by simp [go_sem], by simp [go_sem], by simp [go_sem]⟩) rfl ⟨rfl, ?_⟩
  exact ba (Below.refl _ _) _
end Go.Proofs.YtbecdaholpiaeaaDoor
