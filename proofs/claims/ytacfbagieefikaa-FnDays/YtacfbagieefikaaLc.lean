/-
  The law on the day of a minute: the walk.
-/
import Derived.Test.YtacfbagieefikaaCs
namespace Go.Proofs.Ytacfbagieefikaa
open Go Go.RowKit

set_option maxHeartbeats 1000000 in
theorem specCivilOf_no (k : Int) (w : World) (h : ¬ (0 ≤ k ∧ k ≤ 68374079)) :
    Calls Try.prog 25 #[.int .i64 k] w fun e w' => e = .returned (.tuple #[.agg #[.int .i64 0, .int .i64 0, .int .i64 0, .int .i64 0, .int .i64 0], .bool false]) ∧ Below w.heap.size w w' := by
  have HI : Hid (∀ w, Calls Try.prog 35 #[.int .i64 k, .int .i64 0, .int .i64 68374079] w fun e w' => e = .returned (.bool false) ∧ w' = w) := by intro w; exact in_no h
  clear h
  go_enter Try.func25, Try.ntmps25
  go_wp2_with (go_at_call 35; refine (HI.out _).mono ?_; rintro e w1 ⟨rfl, hw⟩; have hw2 := hw.symm; subst hw2)
  refine bodyPost_ret (ret_civ2 (c := ⟨0, 0, 0, 0, 0⟩) rfl rfl rfl ⟨by simp [go_sem], by simp [go_sem], by simp [go_sem], by simp [go_sem], by simp [go_sem]⟩) rfl ⟨rfl, ?_⟩
  exact ba (Below.refl _ _) _
set_option maxHeartbeats 1000000 in
theorem law_CivilOf_of (k y mo d h mi : Int) (q : Bool) (w : World)
    (HS : Hid (∀ w, Calls Try.prog 25 #[.int .i64 k] w fun e w' => e = .returned (.tuple #[.agg #[.int .i64 y, .int .i64 mo, .int .i64 d, .int .i64 h, .int .i64 mi], .bool q]) ∧ Below w.heap.size w w'))
    (HI : Hid (∀ w, Calls Try.prog 13 #[.int .i64 k] w fun e w' => e = .returned (.tuple #[.agg #[.int .i64 y, .int .i64 mo, .int .i64 d, .int .i64 h, .int .i64 mi], .bool q]) ∧ Below w.heap.size w w')) :
    Calls Try.prog 9 #[.int .i64 k] w fun e w' => e = .returned (.bool true) ∧ Below w.heap.size w w' := by
  have HE : Hid (∀ w, Calls Try.prog 26 #[.agg #[.int .i64 y, .int .i64 mo, .int .i64 d, .int .i64 h, .int .i64 mi], .agg #[.int .i64 y, .int .i64 mo, .int .i64 d, .int .i64 h, .int .i64 mi]] w fun e w' => e = .returned (.bool true) ∧ Below w.heap.size w w') := by intro w; exact eqCivil_same y mo d h mi w
  cases q <;>
  · go_enter Try.func9, Try.ntmps9
    go_wp2_with fail
    refine (HS.out _).mono ?_
    rintro e w1 ⟨rfl, B1⟩
    go_wp2_with fail
    refine (HI.out _).mono ?_
    rintro e w2 ⟨rfl, hb2⟩
    have B2 := belowOn (ba B1 _) hb2
    have HC := (At5.made w1 ⟨y, mo, d, h, mi⟩ 26).up hb2 (by simp)
    have c0 := HC.c0
    have c1 := HC.c1
    have c2 := HC.c2
    have c3 := HC.c3
    have c4 := HC.c4
    have hg := World.block_lt_of_cell? _ _ c0
    simp only at hg
    clear hb2 B1 HC
    go_wp2_with fail
    refine (HE.out _).mono ?_
    rintro e w3 ⟨rfl, hb3⟩
    have B3 := belowOn (ba B2 _) hb3
    clear hb3 B2 c0 c1 c2 c3 c4
    go_wp2
    go_ret
    exact ⟨rfl, B3⟩
theorem law_CivilOf (k : Int) (w : World) :
    Calls Try.prog 9 #[.int .i64 k] w fun e w' => e = .returned (.bool true) ∧ Below w.heap.size w w' := by
  by_cases hk : 0 ≤ k ∧ k ≤ 68374079
  · by_cases hc : ∃ c : Cv, Right c ∧ minC c = k
    · obtain ⟨⟨y, mo, d, h, mi⟩, hr, hm⟩ := hc
      refine law_CivilOf_of k y mo d h mi true w (fun w => ?_) (fun w => ?_)
      · refine (specCivilOf_yes k w hk.1 hk.2).mono ?_
        rintro e w' ⟨c, rfl, h1, h2, h3⟩
        obtain rfl := Right.one h1 hr (by rw [h2, hm])
        exact ⟨rfl, h3⟩
      · refine (civilOf_yes k w hk.1 hk.2).mono ?_
        rintro e w' ⟨c, rfl, h1, h2, h3⟩
        obtain rfl := Right.one h1 hr (by rw [h2, hm])
        exact ⟨rfl, h3⟩
    · refine law_CivilOf_of k 0 0 0 0 0 true w (fun w => ?_) (fun w => ?_)
      · refine (specCivilOf_yes k w hk.1 hk.2).mono ?_
        rintro e w' ⟨c, _, h1, h2, _⟩
        exact absurd ⟨c, h1, h2⟩ hc
      · refine (civilOf_yes k w hk.1 hk.2).mono ?_
        rintro e w' ⟨c, _, h1, h2, _⟩
        exact absurd ⟨c, h1, h2⟩ hc
  · exact law_CivilOf_of k 0 0 0 0 0 false w (fun w => specCivilOf_no k w hk) (fun w => civilOf_no k w hk)
end Go.Proofs.Ytacfbagieefikaa
