/-
  Short texts: the walks of what writes them.
-/
import Derived.Test.YtlkdknincjlncaaRvs
namespace Go.Proofs.Ytlkdknincjlncaa
open Go.RowKit

theorem varI_length : ∀ (f n : Nat), n ≤ f → (varI n).length ≤ n + 1
  | 0, n, h => by rw [varI_last (by omega)]; simp
  | f + 1, n, h => by
    by_cases hn : 127 < n
    · rw [varI_more hn]
      have := varI_length f (n / 128) (by omega)
      simp; omega
    · rw [varI_last hn]; simp

theorem bstr_size (l : List Int) : (bstr l).size = l.length := by simp [bstr, ByteArray.size]

set_option maxHeartbeats 400000 in
theorem specShort_bad (s : ByteArray) (w : World) (hs0 : s.size ≤ 9223372036854775807) (hs : 20000 < s.size) :
    Calls Try.prog 14 #[.string s] w fun e w' => e = .returned (.tuple #[.string ByteArray.empty, .bool false]) ∧ Below w.heap.size w w' := by
  go_enter Try.func14, Try.ntmps14
  go_wp2
  go_ret2
  exact ⟨rfl, Below.refl _ _⟩

set_option maxHeartbeats 400000 in
theorem short_bad (s : ByteArray) (w : World) (hs0 : s.size ≤ 9223372036854775807) (hs : 20000 < s.size) :
    Calls Try.prog 15 #[.string s] w fun e w' => e = .returned (.tuple #[.string ByteArray.empty, .bool false]) ∧ Below w.heap.size w w' := by
  go_enter Try.func15, Try.ntmps15
  go_wp2
  go_ret2
  exact ⟨rfl, Below.refl _ _⟩

set_option maxHeartbeats 400000 in
theorem specShort_ok (s : ByteArray) (w : World) (hs : s.size ≤ 20000) :
    Calls Try.prog 14 #[.string s] w fun e w' => e = .returned (.tuple #[.string (bstr (varI s.size) ++ s), .bool true]) ∧ Below w.heap.size w w' := by
  have hadd : ∀ wx, (Op.stringOp .add (bstr (varI s.size)) s).run Try.prog wx = .ok (.string (bstr (varI s.size) ++ s)) wx := fun wx => run_string_add_sum wx _ s (by
    have hl := varI_length _ _ (Nat.le_refl s.size)
    have hb := bstr_size (varI s.size)
    omega)
  go_enter Try.func14, Try.ntmps14
  go_wp2_with (go_at_call 25; refine (l01Var_any _ _ (by omega)).mono ?_; rintro e w1 ⟨rfl, hb1⟩)
  go_ret2
  exact ⟨rfl, hb1⟩

set_option maxHeartbeats 400000 in
theorem short_ok (s : ByteArray) (w : World) (hs : s.size ≤ 20000) :
    Calls Try.prog 15 #[.string s] w fun e w' => e = .returned (.tuple #[.string (bstr (varI s.size) ++ s), .bool true]) ∧ Below w.heap.size w w' := by
  have hadd : ∀ wx, (Op.stringOp .add (bstr (varI s.size)) s).run Try.prog wx = .ok (.string (bstr (varI s.size) ++ s)) wx := fun wx => run_string_add_sum wx _ s (by
    have hl := varI_length _ _ (Nat.le_refl s.size)
    have hb := bstr_size (varI s.size)
    omega)
  go_enter Try.func15, Try.ntmps15
  go_wp2_with (go_at_call 11; refine (varText_ok _ _ (by omega)).mono ?_; rintro e w1 ⟨rfl, hb1⟩)
  go_ret2
  exact ⟨rfl, hb1⟩

set_option maxHeartbeats 400000 in
theorem law_ShortText (s : ByteArray) (w : World) (hs0 : s.size ≤ maxLen) :
    Calls Try.prog 5 #[.string s] w fun e w' => e = .returned (.bool true) ∧ Below w.heap.size w w' := by
  unfold maxLen at hs0
  by_cases hs : (1048576 : Int) < (s.size : Int)
  · go_enter Try.func5, Try.ntmps5
    go_wp2
    go_ret
    exact ⟨rfl, Below.refl _ _⟩
  · by_cases h2 : 20000 < s.size
    · go_enter Try.func5, Try.ntmps5
      go_wp2_with (first | (go_at_call 14; refine (specShort_bad s _ hs0 h2).mono ?_; rintro e w1 ⟨rfl, hb1⟩) | (go_at_call 15; refine (short_bad s _ hs0 h2).mono ?_; rintro e w2 ⟨rfl, hb2⟩))
      go_ret
      exact ⟨rfl, hb1.trans (hb2.mono hb1.size)⟩
    · have h3 : s.size ≤ 20000 := by omega
      go_enter Try.func5, Try.ntmps5
      go_wp2_with (first | (go_at_call 14; refine (specShort_ok s _ h3).mono ?_; rintro e w1 ⟨rfl, hb1⟩) | (go_at_call 15; refine (short_ok s _ h3).mono ?_; rintro e w2 ⟨rfl, hb2⟩))
      go_ret
      exact ⟨rfl, hb1.trans (hb2.mono hb1.size)⟩

end Go.Proofs.Ytlkdknincjlncaa
