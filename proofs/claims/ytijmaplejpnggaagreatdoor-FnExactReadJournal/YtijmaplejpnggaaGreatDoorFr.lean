/-
  Frames: a text behind its length and its sum: the walks.
-/
import Derived.Test.YtijmaplejpnggaaGreatDoorSeal
import Derived.Test.YtijmaplejpnggaaGreatDoorRvs
namespace Go.Proofs.YtijmaplejpnggaaGreatDoor
open Go.RowKit

theorem varI_len5 {n : Nat} (hn : n ≤ 20000) : 1 ≤ (varI n).length ∧ (varI n).length ≤ 3 := by
  by_cases h1 : 127 < n
  · rw [varI_more h1]
    by_cases h2 : 127 < n / 128
    · rw [varI_more h2]
      rw [varI_last (show ¬ 127 < n / 128 / 128 by omega)]
      simp
    · rw [varI_last h2]; simp
  · rw [varI_last h1]; simp

/-- The frame of a text. -/
def frameT (t : ByteArray) : ByteArray := bstr (varI t.size) ++ tail4 t ++ t
theorem headF_size {t : ByteArray} (h : t.size ≤ 20000) : 5 ≤ (bstr (varI t.size) ++ tail4 t).size ∧ (bstr (varI t.size) ++ tail4 t).size ≤ 7 := by
  have := varI_len5 h
  rw [ByteArray.size_append, bstr_size, tail4_size]; omega
theorem run_frame1 (t : ByteArray) (h : t.size ≤ 9000) (wx : World) : (Op.stringOp .add (bstr (varI t.size)) (bstr (four (sumT 4294967295 t)))).run Tryz.prog wx = .ok (.string (bstr (varI t.size) ++ tail4 t)) wx := by
  have := varI_len5 (show t.size ≤ 20000 by omega)
  rw [run_string_add_sum wx _ _ (by rw [show (bstr (four (sumT 4294967295 t))).size = 4 from tail4_size t, bstr_size]; omega)]
  rfl
theorem run_frame2 (t : ByteArray) (h : t.size ≤ 9000) (wx : World) : (Op.stringOp .add (bstr (varI t.size) ++ tail4 t) t).run Tryz.prog wx = .ok (.string (frameT t)) wx := by
  have := headF_size (show t.size ≤ 20000 by omega)
  rw [run_string_add_sum wx _ _ (by omega)]
  rfl

set_option maxHeartbeats 400000 in
theorem frame_bad (t : ByteArray) (w : World) (hs0 : t.size ≤ 9223372036854775807) (hs : t.size < 1 ∨ 9000 < t.size) :
    Calls Tryz.prog 128 #[.string t] w fun e w' => e = .returned (.tuple #[.string ByteArray.empty, .bool false]) ∧ Below w.heap.size w w' := by
  rcases hs with hs | hs
  · go_enter Tryz.func128, Tryz.ntmps128
    go_wp2
    go_ret2
    exact ⟨rfl, Below.refl _ _⟩
  · have h1 : ¬ (t.size : Int) < 1 := by omega
    go_enter Tryz.func128, Tryz.ntmps128
    go_wp2
    go_ret2
    exact ⟨rfl, Below.refl _ _⟩
set_option maxHeartbeats 400000 in
theorem frame_ok (t : ByteArray) (w : World) (h1 : 1 ≤ t.size) (h2 : t.size ≤ 9000) (ht : TableIs w) :
    Calls Tryz.prog 128 #[.string t] w fun e w' => e = .returned (.tuple #[.string (frameT t), .bool true]) ∧ Below w.heap.size w w' := by
  have ha1 := run_frame1 t h2
  have ha2 := run_frame2 t h2
  have hl := sumT_lt t (show 4294967295 < 4294967296 by decide)
  have k1 : ¬ (t.size : Int) < 1 := by omega
  have k2 : ¬ 9000 < (t.size : Int) := by omega
  go_enter Tryz.func128, Tryz.ntmps128
  go_wp2_with (first | (go_at_call 148; refine (varText_ok _ _ (by omega)).mono ?_; rintro e w1 ⟨rfl, hb1⟩) | (go_at_call 149; refine (sumOf_any t _ (by unfold maxLen; omega) (ht.below hb1)).mono ?_; rintro e w' ⟨rfl, hw⟩; have hw2 := hw.symm; subst hw2) | (go_at_call 150; refine (text_any _ _ hl).mono ?_; rintro e w2 ⟨rfl, hb2⟩))
  go_ret2
  exact ⟨rfl, hb1.trans (hb2.mono hb1.size)⟩
set_option maxHeartbeats 400000 in
theorem specFrame_bad (t : ByteArray) (w : World) (hs0 : t.size ≤ 9223372036854775807) (hs : t.size < 1 ∨ 9000 < t.size) :
    Calls Tryz.prog 29 #[.string t] w fun e w' => e = .returned (.tuple #[.string ByteArray.empty, .bool false]) ∧ Below w.heap.size w w' := by
  have HN : Hid ((t.size : Int) < 1 ∨ 9000 < (t.size : Int)) := by show (t.size : Int) < 1 ∨ 9000 < (t.size : Int); omega
  clear hs
  go_enter Tryz.func29, Tryz.ntmps29
  go_wp2_with (go_at_call 25; refine (l01In_no _ _ _ _ HN.out).mono ?_; rintro e w' ⟨rfl, rfl⟩)
  go_ret2
  exact ⟨rfl, Below.refl _ _⟩
set_option maxHeartbeats 400000 in
theorem specFrame_ok (t : ByteArray) (w : World) (h1 : 1 ≤ t.size) (h2 : t.size ≤ 9000) :
    Calls Tryz.prog 29 #[.string t] w fun e w' => e = .returned (.tuple #[.string (frameT t), .bool true]) ∧ Below w.heap.size w w' := by
  have ha1 := run_frame1 t h2
  have ha2 := run_frame2 t h2
  have hl := sumT_lt t (show 4294967295 < 4294967296 by decide)
  go_enter Tryz.func29, Tryz.ntmps29
  go_wp2_with (first | (go_at_call 25; refine (l01In_yes _ _ _ _ (by omega) (by omega)).mono ?_; rintro e w' ⟨rfl, rfl⟩) | (go_at_call 59; refine (l01Var_any _ _ (by omega)).mono ?_; rintro e w1 ⟨rfl, hb1⟩) | (go_at_call 64; refine (specSumOf_any t _ (by unfold maxLen; omega)).mono ?_; rintro e w' ⟨rfl, hw⟩; have hw2 := hw.symm; subst hw2) | (go_at_call 63; refine (four_any _ _ hl).mono ?_; rintro e w2 ⟨rfl, hb2⟩))
  go_ret2
  exact ⟨rfl, hb1.trans (hb2.mono hb1.size)⟩

end Go.Proofs.YtijmaplejpnggaaGreatDoor
