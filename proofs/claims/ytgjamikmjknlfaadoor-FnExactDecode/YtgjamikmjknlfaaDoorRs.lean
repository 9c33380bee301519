/-
  Short texts: the walks of what reads them.
-/
import Derived.Test.YtgjamikmjknlfaaDoorRvs
import Derived.Test.YtgjamikmjknlfaaDoorCln
namespace Go.Proofs.YtgjamikmjknlfaaDoor
open Go.RowKit

theorem rvGo_true (s : ByteArray) : ∀ (f i k n : Nat) (x y : Int), rvGo s f i k n = (x, y, true) → 0 ≤ x ∧ x ≤ 1000000000 ∧ 0 ≤ y ∧ y ≤ s.size
  | 0, i, k, n, x, y, h => by simp [rvGo] at h
  | f + 1, i, k, n, x, y, h => by
    by_cases h1 : i < s.size
    · by_cases h2 : s[i].toNat < 128
      · by_cases h3 : 1000000000 < n + s[i].toNat % 128 * 128 ^ k ∨ (s[i].toNat = 0 ∧ 0 < k)
        · rw [rvGo_bad h1 h2 h3] at h
          simp at h
        · rw [rvGo_ok h1 h2 h3] at h
          generalize n + s[i].toNat % 128 * 128 ^ k = v at h h3
          simp only [Prod.mk.injEq, and_true] at h
          omega
      · rw [rvGo_more h1 h2] at h
        exact rvGo_true s f _ _ _ x y h
    · rw [rvGo_end h1] at h
      simp at h
theorem rv_true {s : ByteArray} {at' x y : Int} (h : rv s at' = (x, y, true)) : 0 ≤ x ∧ x ≤ 1000000000 ∧ 0 ≤ y ∧ y ≤ s.size := by
  unfold rv at h
  by_cases hc : 0 ≤ at' ∧ at' ≤ s.size
  · rw [if_pos hc] at h
    exact rvGo_true s _ _ _ _ x y h
  · rw [if_neg hc] at h
    simp at h


set_option maxHeartbeats 400000 in
theorem readShort_bad (s : ByteArray) (at' : Int) (w : World) (hs : s.size ≤ 1048576) (x y : Int) (z : Bool) (HR : Hid (rv s at' = (x, y, z)))
    (hbad : z = false ∨ 20000 < x ∨ (s.size : Int) - y < x) :
    Calls Tryd.prog 85 #[.string s, .int .i64 at'] w fun e w' => e = .returned (.tuple #[.string ByteArray.empty, .int .i64 0, .bool false]) ∧ Below w.heap.size w w' := by
  cases z with
  | false =>
    clear hbad
    go_enter Tryd.func85, Tryd.ntmps85
    go_wp2_with (go_at_call 81; refine (readVar_any s at' _ hs x y false HR.out).mono ?_; rintro e w1 ⟨rfl, hb1⟩)
    go_ret3
    exact ⟨rfl, by subst hb1; exact Below.refl _ _⟩
  | true =>
    obtain ⟨hx0, hx1, hy0, hy1⟩ := rv_true HR.out
    by_cases h1 : 20000 < x
    · clear hbad
      go_enter Tryd.func85, Tryd.ntmps85
      go_wp2_with (go_at_call 81; refine (readVar_any s at' _ hs x y true HR.out).mono ?_; rintro e w1 ⟨rfl, hb1⟩)
      go_ret3
      exact ⟨rfl, by subst hb1; exact Below.refl _ _⟩
    · have h2 : (s.size : Int) - y < x := by simp at hbad; omega
      clear hbad
      go_enter Tryd.func85, Tryd.ntmps85
      go_wp2_with (go_at_call 81; refine (readVar_any s at' _ hs x y true HR.out).mono ?_; rintro e w1 ⟨rfl, hb1⟩)
      go_ret3
      exact ⟨rfl, by subst hb1; exact Below.refl _ _⟩

set_option maxHeartbeats 400000 in
theorem readShort_ok (s : ByteArray) (at' : Int) (w : World) (hs : s.size ≤ 1048576) (x y : Int) (HR : Hid (rv s at' = (x, y, true)))
    (h1 : x ≤ 20000) (h2 : x ≤ (s.size : Int) - y) :
    Calls Tryd.prog 85 #[.string s, .int .i64 at'] w fun e w' => e = .returned (.tuple #[.string (s.extract y.toNat (y + x).toNat), .int .i64 (y + x), .bool true]) ∧ Below w.heap.size w w' := by
  obtain ⟨hx0, hx1, hy0, hy1⟩ := rv_true HR.out
  go_enter Tryd.func85, Tryd.ntmps85
  go_wp2_with (first | (go_at_call 81; refine (readVar_any s at' _ hs x y true HR.out).mono ?_; rintro e w1 ⟨rfl, hb1⟩) | (go_at_call 90; refine (clone_any _ _ (by simp only [ByteArray.size_extract]; omega)).mono ?_; rintro e w2 ⟨rfl, hb2⟩))
  go_ret3
  exact ⟨rfl, by subst hb1; exact hb2⟩

end Go.Proofs.YtgjamikmjknlfaaDoor
