/-
  Short texts: the walks of what writes them.
-/
import Derived.Test.YtkfhmeiiicidaaaDoorRvs
import Derived.Test.YtkfhmeiiicidaaaDoorSeal
namespace Go.Proofs.YtkfhmeiiicidaaaDoor
open Go.RowKit

theorem varI_length : ∀ (f n : Nat), n ≤ f → (varI n).length ≤ n + 1
  | 0, n, h => by rw [varI_last (by omega)]; simp
  | f + 1, n, h => by
    by_cases hn : 127 < n
    · rw [varI_more hn]
      have := varI_length f (n / 128) (by omega)
      simp; omega
    · rw [varI_last hn]; simp


set_option maxHeartbeats 400000 in
theorem short_bad (s : ByteArray) (w : World) (hs0 : s.size ≤ 9223372036854775807) (hs : 20000 < s.size) :
    Calls Tryd.prog 37 #[.string s] w fun e w' => e = .returned (.tuple #[.string ByteArray.empty, .bool false]) ∧ Below w.heap.size w w' := by
  go_enter Tryd.func37, Tryd.ntmps37
  go_wp2
  go_ret2
  exact ⟨rfl, Below.refl _ _⟩

set_option maxHeartbeats 400000 in
theorem short_ok (s : ByteArray) (w : World) (hs : s.size ≤ 20000) :
    Calls Tryd.prog 37 #[.string s] w fun e w' => e = .returned (.tuple #[.string (bstr (varI s.size) ++ s), .bool true]) ∧ Below w.heap.size w w' := by
  have hadd : ∀ wx, (Op.stringOp .add (bstr (varI s.size)) s).run Tryd.prog wx = .ok (.string (bstr (varI s.size) ++ s)) wx := fun wx => run_string_add_sum wx _ s (by
    have hl := varI_length _ _ (Nat.le_refl s.size)
    have hb := bstr_size (varI s.size)
    omega)
  go_enter Tryd.func37, Tryd.ntmps37
  go_wp2_with (go_at_call 35; refine (varText_ok _ _ (by omega)).mono ?_; rintro e w1 ⟨rfl, hb1⟩)
  go_ret2
  exact ⟨rfl, hb1⟩

end Go.Proofs.YtkfhmeiiicidaaaDoor
