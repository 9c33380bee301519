/-
  The text of an entry that is none, as the specification tells it: the walks.
-/
import Derived.Test.YtgjamikmjknlfaaDoorEt
namespace Go.Proofs.YtgjamikmjknlfaaDoor
open Go Go.RowKit

set_option maxHeartbeats 1000000 in
theorem specEntryText_bad (i t k : Int) (d : ByteArray) (w : World) (hd : d.size ≤ maxLen) (hx : okX i t k d = false) :
    Calls Tryd.prog 19 #[.int .i64 i, .agg #[.int .i64 t, .int .i64 k, .string d]] w fun e w' => e = .returned (.tuple #[.string ByteArray.empty, .bool false]) ∧ Below w.heap.size w w' := by
  have H0 := fun w => specEntryOk_any t k d w hd
  cases he : okE t k d with
  | false =>
    rw [he] at H0
    have H0 : Hid (∀ w, Calls Tryd.prog 47 #[.agg #[.int .i64 t, .int .i64 k, .string d]] w fun e w' => e = .returned (.bool false) ∧ Below w.heap.size w w') := H0
    clear he hx
    go_enter Tryd.func19, Tryd.ntmps19
    go_wp2_with (go_at_call 47; refine (H0.out _).mono ?_; rintro e w1 ⟨rfl, hb1⟩)
    go_ret2
    exact ⟨rfl, below_new hb1⟩
  | true =>
    rw [he] at H0
    have H0 : Hid (∀ w, Calls Tryd.prog 47 #[.agg #[.int .i64 t, .int .i64 k, .string d]] w fun e w' => e = .returned (.bool true) ∧ Below w.heap.size w w') := H0
    have hv : (decide ((1 : Int) ≤ i) && decide (i ≤ 1000000)) = false := by
      unfold okX at hx
      rw [he] at hx
      simpa using hx
    clear he hx
    go_enter Tryd.func19, Tryd.ntmps19
    go_wp2_with (first | (go_at_call 47; refine (H0.out _).mono ?_; rintro e w1 ⟨rfl, hb1⟩) | (go_at_call 46; refine (in_any _ _ _ _).mono ?_; rintro e w2 ⟨rfl, hw⟩; have hw2 := hw.symm; subst hw2; rw [hv]))
    go_ret2
    exact ⟨rfl, below_new hb1⟩
end Go.Proofs.YtgjamikmjknlfaaDoor
