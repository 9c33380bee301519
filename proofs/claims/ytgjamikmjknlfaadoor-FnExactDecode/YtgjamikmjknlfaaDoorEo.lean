/-
  Whether an entry is right, on both sides, and the law on it: the walks.
-/
import Derived.Test.YtgjamikmjknlfaaDoorEn
import Derived.Test.YtgjamikmjknlfaaDoorOpen
namespace Go.Proofs.YtgjamikmjknlfaaDoor
open Go Go.RowKit

theorem okE_low {t k : Int} {d : ByteArray} (h : ¬ 0 ≤ t) : okE t k d = false := by simp [okE, h]
theorem okE_high {t k : Int} {d : ByteArray} (h : ¬ t ≤ 100000) : okE t k d = false := by simp [okE, h]
theorem okE_in {t k : Int} {d : ByteArray} (h : 0 ≤ t) (h2 : t ≤ 100000) : okE t k d = kindOk k d := by simp [okE, h, h2]

set_option maxHeartbeats 1000000 in
theorem entryOk_any (t k : Int) (d : ByteArray) (w : World) (hd : d.size ≤ maxLen) :
    Calls Tryd.prog 76 #[.agg #[.int .i64 t, .int .i64 k, .string d]] w fun e w' => e = .returned (.bool (okE t k d)) ∧ Below w.heap.size w w' := by
  have HD : Hid (d.size ≤ maxLen) := hd
  clear hd
  by_cases h0 : 0 ≤ t
  · by_cases h1 : t ≤ 100000
    · rw [okE_in h0 h1]
      obtain ⟨q, HQ⟩ : ∃ q, Hid (kindOk k d = q) := ⟨_, rfl⟩
      obtain ⟨v, HV⟩ : ∃ v, Hid (contV k d = v) := ⟨_, rfl⟩
      have H1 : Hid (∀ w, Calls Tryd.prog 77 #[.agg #[.int .i64 t, .int .i64 k, .string d]] w fun e w' => e = .returned v ∧ Below w.heap.size w w') := by
        intro w; rw [← HV.out]; exact contentOf_any t k d w
      have H2 : Hid (∀ w, Calls Tryd.prog 89 #[v] w fun e w' => e = .returned (.bool q) ∧ Below w.heap.size w w') := by
        intro w; rw [← HV.out, ← HQ.out]; exact isRight_any k d w HD.out
      rw [HQ.out]
      go_enter Tryd.func76, Tryd.ntmps76
      go_wp2_with (first | (go_at_call 77; refine (H1.out _).mono ?_; rintro e w1 ⟨rfl, hb1⟩) | (go_at_call 89; refine (H2.out _).mono ?_; rintro e w2 ⟨rfl, hb2⟩))
      go_ret
      exact ⟨rfl, Below.on (below_new hb1) hb2⟩
    · rw [okE_high h1]
      go_enter Tryd.func76, Tryd.ntmps76
      go_wp2
      go_ret
      exact ⟨rfl, ba (Below.refl _ _) _⟩
  · rw [okE_low h0]
    go_enter Tryd.func76, Tryd.ntmps76
    go_wp2
    go_ret
    exact ⟨rfl, ba (Below.refl _ _) _⟩

theorem okE_out {t k : Int} {d : ByteArray} (h : (decide (0 ≤ t) && decide (t ≤ 100000)) = false) : okE t k d = false := by simp [okE, h]
theorem okE_in' {t k : Int} {d : ByteArray} (h : (decide (0 ≤ t) && decide (t ≤ 100000)) = true) : okE t k d = kindOk k d := by simp [okE, h]

set_option maxHeartbeats 1000000 in
theorem specEntryOk_any (t k : Int) (d : ByteArray) (w : World) (hd : d.size ≤ maxLen) :
    Calls Tryd.prog 47 #[.agg #[.int .i64 t, .int .i64 k, .string d]] w fun e w' => e = .returned (.bool (okE t k d)) ∧ Below w.heap.size w w' := by
  have HD : Hid (d.size ≤ maxLen) := hd
  unfold maxLen at hd
  cases hv : (decide (0 ≤ t) && decide (t ≤ 100000)) with
  | false =>
    rw [okE_out hv]
    go_enter Tryd.func47, Tryd.ntmps47
    go_wp2_with (go_at_call 46; refine (in_any _ _ _ _).mono ?_; rintro e w' ⟨rfl, hw⟩; have hw2 := hw.symm; subst hw2; rw [hv])
    go_ret
    exact ⟨rfl, ba (Below.refl _ _) _⟩
  | true =>
    rw [okE_in' hv]
    by_cases h1 : k = 1
    · subst h1
      show Calls Tryd.prog 47 _ w fun e w' => e = .returned (.bool d.toList.isEmpty) ∧ Below w.heap.size w w'
      go_enter Tryd.func47, Tryd.ntmps47
      go_wp2_with (go_at_call 46; refine (in_any _ _ _ _).mono ?_; rintro e w' ⟨rfl, hw⟩; have hw2 := hw.symm; subst hw2; rw [hv])
      go_ret
      exact ⟨rfl, ba (Below.refl _ _) _⟩
    · by_cases h2 : k = 2
      · subst h2
        show Calls Tryd.prog 47 _ w fun e w' => e = .returned (.bool (okT d)) ∧ Below w.heap.size w w'
        go_enter Tryd.func47, Tryd.ntmps47
        go_wp2_with (first | (go_at_call 46; refine (in_any _ _ _ _).mono ?_; rintro e w' ⟨rfl, hw⟩; have hw2 := hw.symm; subst hw2; rw [hv]) | (go_at_call 38; refine (specReadConf_any _ _ HD.out).mono ?_; rintro e w1 ⟨v1, rfl, ho, hb⟩; clear ho))
        go_ret
        exact ⟨rfl, below_new hb⟩
      · by_cases h3 : k = 3
        · subst h3
          show Calls Tryd.prog 47 _ w fun e w' => e = .returned (.bool (decide ((d.size : Int) ≤ 640))) ∧ Below w.heap.size w w'
          go_enter Tryd.func47, Tryd.ntmps47
          go_wp2_with (go_at_call 46; refine (in_any _ _ _ _).mono ?_; rintro e w' ⟨rfl, hw⟩; have hw2 := hw.symm; subst hw2; rw [hv])
          go_ret
          exact ⟨rfl, ba (Below.refl _ _) _⟩
        · have HK : Hid (kindOk k d = false) := by show kindOk k d = _; simp [kindOk, h1, h2, h3]
          rw [HK.out]
          go_enter Tryd.func47, Tryd.ntmps47
          go_wp2_with (go_at_call 46; refine (in_any _ _ _ _).mono ?_; rintro e w' ⟨rfl, hw⟩; have hw2 := hw.symm; subst hw2; rw [hv])
          go_ret
          exact ⟨rfl, ba (Below.refl _ _) _⟩

end Go.Proofs.YtgjamikmjknlfaaDoor
