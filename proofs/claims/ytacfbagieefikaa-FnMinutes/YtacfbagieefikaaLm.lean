/-
  The law on drawn minutes: the walk.
-/
import Derived.Test.YtacfbagieefikaaDc
namespace Go.Proofs.Ytacfbagieefikaa
open Go Go.RowKit

theorem week_in {z : Int} (h : 0 ≤ z ∧ z ≤ 68374079) : 0 ≤ weekN z ∧ weekN z ≤ 6 := by unfold weekN; rw [if_pos h]; omega
theorem week_on {z : Int} (h0 : 0 ≤ z) (h1 : z + 1440 ≤ 68374079) : weekN (z + 1440) = (weekN z + 1) % 7 := by
  unfold weekN
  rw [if_pos ⟨by omega, h1⟩, if_pos ⟨h0, by omega⟩]
  omega
theorem week_out {z : Int} (h : ¬ (0 ≤ z ∧ z ≤ 68374079)) : weekN z = -1 := if_neg h

set_option maxHeartbeats 2000000 in
theorem law_Minutes (v : Value) (n : Nat) (w : World) (hn : n ≤ 9223372036854775807) (hc : CodeAt w w.heap.size v n) :
    Calls Try.prog 3 #[v] w fun e w' => e = .returned (.bool true) ∧ Below w.heap.size w w' := by
  have HC : Hid (CodeAt w w.heap.size v n) := hc
  obtain ⟨a, cap, rfl, -⟩ := hc
  by_cases hbig : 1048576 < n
  · have HB : Hid (∀ w, Calls Try.prog 11 #[.slice a n cap] w fun e w' => e = .returned (.bool true) ∧ w' = w) := by
      intro w; have := big_any a n cap w hn; rwa [decide_eq_true hbig] at this
    go_enter Try.func3, Try.ntmps3
    go_wp2_with (go_at_call 11; refine (HB.out _).mono ?_; rintro e w1 ⟨rfl, hw⟩; have hw2 := hw.symm; subst hw2)
    go_ret
    exact ⟨rfl, Below.refl _ _⟩
  · have HB : Hid (∀ w, Calls Try.prog 11 #[.slice a n cap] w fun e w' => e = .returned (.bool false) ∧ w' = w) := by
      intro w; have := big_any a n cap w hn; rwa [decide_eq_false hbig] at this
    have HN : Hid (n ≤ 1048576) := by show n ≤ 1048576; omega
    go_enter Try.func3, Try.ntmps3
    go_wp2_with fail
    refine (HB.out _).mono ?_
    rintro e w1 ⟨rfl, hw⟩
    have hw2 := hw.symm
    subst hw2
    go_wp2_with fail
    refine (drawMin_any _ n _ HN.out HC.out).mono ?_
    rintro e w2 ⟨z, rfl, hz0, hz1, B2⟩
    clear HC HB HN
    by_cases hz : 0 ≤ z ∧ z ≤ 68374079
    · have z0 : 0 ≤ z := hz.1
      have z1 : z ≤ 68374079 := hz.2
      obtain ⟨W, HW⟩ : ∃ W, Hid (weekN z = W) := ⟨_, rfl⟩
      have hW := week_in hz
      rw [HW.out] at hW
      have H14 : Hid (∀ w, Calls Try.prog 14 #[.int .i64 z] w fun e w' => e = .returned (.int .i64 W) ∧ w' = w) := by intro w; rw [← HW.out]; exact week_any z w
      have H140 : Hid (∀ w, Calls Try.prog 14 #[.int .i64 0] w fun e w' => e = .returned (.int .i64 4) ∧ w' = w) := by intro w; exact week_any 0 w
      clear hz
      go_wp2_with fail
      refine (civilOf_yes z _ z0 z1).mono ?_
      rintro e w3 ⟨⟨y, mo, d, h, mi⟩, rfl, hR, hM, hb3⟩
      have B3 := belowOn B2 hb3
      have HR : Hid (Right ⟨y, mo, d, h, mi⟩) := hR
      have HM : Hid (minC ⟨y, mo, d, h, mi⟩ = z) := hM
      have HC5 : Hid (At5 (w3.alloc (.cells #[.int .i64 y, .int .i64 mo, .int .i64 d, .int .i64 h, .int .i64 mi] 26)) w3.heap.size ⟨y, mo, d, h, mi⟩) := At5.made w3 ⟨y, mo, d, h, mi⟩ 26
      clear hR hM hb3 B2
      go_wp2_with fail
      refine (minuteOf_yes y mo d h mi _ HR.out).mono ?_
      rintro e w4 ⟨rfl, hb4⟩
      have B4 := belowOn (ba B3 _) hb4
      have C4 := HC5.out.up hb4 (by simp)
      have q0 := C4.c0
      have q1 := C4.c1
      have q2 := C4.c2
      have q3 := C4.c3
      have q4 := C4.c4
      rw [HM.out]
      clear hb4 B3 HC5 C4
      have HO : Hid (∀ w, Calls Try.prog 16 #[.agg #[.int .i64 y, .int .i64 mo, .int .i64 d, .int .i64 h, .int .i64 mi]] w fun e w' => e = .returned (.bool true) ∧ Below w.heap.size w w') := by intro w; rw [← ok_yes HR.out]; exact civilOk_try y mo d h mi w
      go_wp2_with fail
      refine (HO.out _).mono ?_
      rintro e w5 ⟨rfl, hb5⟩
      have B5 := belowOn B4 hb5
      clear hb5 B4 q0 q1 q2 q3 q4
      by_cases hl : z + 1440 ≤ 68374079
      · have H141 : Hid (∀ w, Calls Try.prog 14 #[.int .i64 (z + 1440)] w fun e w' => e = .returned (.int .i64 ((W + 1) % 7)) ∧ w' = w) := by
          intro w; rw [← HW.out, ← week_on z0 hl]; exact week_any (z + 1440) w
        go_wp2_with (first | (go_at_call 14; with_reducible refine (H141.out _).mono ?_; rintro e w6 ⟨rfl, hw⟩; have hw2 := hw.symm; subst hw2) | (go_at_call 14; with_reducible refine (H140.out _).mono ?_; rintro e w6 ⟨rfl, hw⟩; have hw2 := hw.symm; subst hw2) | (go_at_call 14; with_reducible refine (H14.out _).mono ?_; rintro e w6 ⟨rfl, hw⟩; have hw2 := hw.symm; subst hw2))
        go_ret
        exact ⟨rfl, B5⟩
      · go_wp2_with (first | (go_at_call 14; with_reducible refine (H140.out _).mono ?_; rintro e w6 ⟨rfl, hw⟩; have hw2 := hw.symm; subst hw2) | (go_at_call 14; with_reducible refine (H14.out _).mono ?_; rintro e w6 ⟨rfl, hw⟩; have hw2 := hw.symm; subst hw2))
        go_ret
        exact ⟨rfl, B5⟩
    · have HZ : Hid (¬ (0 ≤ z ∧ z ≤ 68374079)) := hz
      have H14 : Hid (∀ w, Calls Try.prog 14 #[.int .i64 z] w fun e w' => e = .returned (.int .i64 (-1)) ∧ w' = w) := by intro w; rw [← week_out hz]; exact week_any z w
      by_cases hlo : 0 ≤ z
      · have hhi : ¬ z ≤ 68374079 := fun h => hz ⟨hlo, h⟩
        clear hz
        go_wp2_with fail
        refine (civilOf_no z _ HZ.out).mono ?_
        rintro e w3 ⟨rfl, hb3⟩
        have B3 := belowOn B2 hb3
        clear hb3 B2
        go_wp2_with (go_at_call 14; refine (H14.out _).mono ?_; rintro e w6 ⟨rfl, hw⟩; have hw2 := hw.symm; subst hw2)
        go_ret
        exact ⟨rfl, ba B3 _⟩
      · clear hz
        go_wp2_with fail
        refine (civilOf_no z _ HZ.out).mono ?_
        rintro e w3 ⟨rfl, hb3⟩
        have B3 := belowOn B2 hb3
        clear hb3 B2
        go_wp2_with (go_at_call 14; refine (H14.out _).mono ?_; rintro e w6 ⟨rfl, hw⟩; have hw2 := hw.symm; subst hw2)
        go_ret
        exact ⟨rfl, ba B3 _⟩
end Go.Proofs.Ytacfbagieefikaa
