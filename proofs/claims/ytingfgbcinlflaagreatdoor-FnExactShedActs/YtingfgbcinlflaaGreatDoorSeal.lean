/-
  Sealed texts: the walks.
-/
import Derived.Test.YtingfgbcinlflaaGreatDoorSum
import Derived.Test.YtingfgbcinlflaaGreatDoorShelf
import Derived.Deep.RegionHeld
namespace Go.Proofs.YtingfgbcinlflaaGreatDoor
open Go.RowKit

/-- The four bytes of a sum, the highest first. -/
def four (x : Nat) : List Int := [(x : Int) / 16777216, (x : Int) / 65536 % 256, (x : Int) / 256 % 256, (x : Int) % 256]
theorem bstr_size (l : List Int) : (bstr l).size = l.length := by simp [bstr, ByteArray.size]

/-- string([]byte(a, b, c, d)) of a block just made. -/
theorem run_four_string (wr : World) (a b c d : Int) :
    (convert 63 9 (.slice (some ⟨wr.heap.size, 0, none⟩) 4 4)).run Tryz.prog (wr.alloc (.cells #[.int .u8 a, .int .u8 b, .int .u8 c, .int .u8 d] 5)) = .ok (.string (bstr [a, b, c, d])) (wr.alloc (.cells #[.int .u8 a, .int .u8 b, .int .u8 c, .int .u8 d] 5)) :=
  run_own_string (P := Tryz.prog) (B := 0) 63 9 (show ownsB (wr.alloc (.cells #[.int .u8 a, .int .u8 b, .int .u8 c, .int .u8 d] 5)) 0 5 (.slice (some ⟨wr.heap.size, 0, none⟩) 4 4) [a, b, c, d] from
    World.ownsRow_lit wr #[.int .u8 a, .int .u8 b, .int .u8 c, .int .u8 d] 4 (Nat.zero_le _) (by decide) rfl) Tryz.underlying63 Tryz.underlying5 Tryz.underlying9

set_option maxHeartbeats 400000 in
theorem four_any (x : Nat) (w : World) (hx : x < 4294967296) :
    Calls Tryz.prog 55 #[.int .u32 x] w fun e w' => e = .returned (.string (bstr (four x))) ∧ Below w.heap.size w w' := by
  have hcv := run_four_string w ((x : Int) / 16777216) ((x : Int) / 65536 % 256) ((x : Int) / 256 % 256) ((x : Int) % 256)
  go_enter Tryz.func55, Tryz.ntmps55
  go_wp2
  go_ret
  exact ⟨rfl, (Below.refl _ _).alloc (Nat.le_refl _) _⟩
set_option maxHeartbeats 400000 in
theorem text_any (x : Nat) (w : World) (hx : x < 4294967296) :
    Calls Tryz.prog 79 #[.int .u32 x] w fun e w' => e = .returned (.string (bstr (four x))) ∧ Below w.heap.size w w' := by
  have hcv := run_four_string w ((x : Int) / 16777216) ((x : Int) / 65536 % 256) ((x : Int) / 256 % 256) ((x : Int) % 256)
  go_enter Tryz.func79, Tryz.ntmps79
  go_wp2
  go_ret
  exact ⟨rfl, (Below.refl _ _).alloc (Nat.le_refl _) _⟩

/-- The four bytes that stand behind a text. -/
def tail4 (t : ByteArray) : ByteArray := bstr (four (sumT 4294967295 t))
def sealT (t : ByteArray) : ByteArray := t ++ tail4 t
theorem tail4_size (t : ByteArray) : (tail4 t).size = 4 := by unfold tail4; rw [bstr_size]; rfl
theorem run_seal (t : ByteArray) (h : t.size ≤ 20000) (wx : World) : (Op.stringOp .add t (bstr (four (sumT 4294967295 t)))).run Tryz.prog wx = .ok (.string (sealT t)) wx := by
  rw [run_string_add_sum wx _ _ (by rw [show (bstr (four (sumT 4294967295 t))).size = 4 from tail4_size t]; omega)]
  rfl

set_option maxHeartbeats 400000 in
theorem sealed_ok (t : ByteArray) (w : World) (hs : t.size ≤ 20000) (ht : TableIs w) :
    Calls Tryz.prog 66 #[.string t] w fun e w' => e = .returned (.tuple #[.string (sealT t), .bool true]) ∧ Below w.heap.size w w' := by
  have hadd := run_seal t hs
  have hl := sumT_lt t (show 4294967295 < 4294967296 by decide)
  go_enter Tryz.func66, Tryz.ntmps66
  go_wp2_with (first | (go_at_call 78; refine (sumOf_any t _ (by unfold maxLen; omega) ht).mono ?_; rintro e w' ⟨rfl, hw⟩; have hw2 := hw.symm; subst hw2) | (go_at_call 79; refine (text_any _ _ hl).mono ?_; rintro e w1 ⟨rfl, hb1⟩))
  go_ret2
  exact ⟨rfl, hb1⟩
set_option maxHeartbeats 400000 in
theorem sealed_bad (t : ByteArray) (w : World) (hs0 : t.size ≤ 9223372036854775807) (hs : 20000 < t.size) :
    Calls Tryz.prog 66 #[.string t] w fun e w' => e = .returned (.tuple #[.string ByteArray.empty, .bool false]) ∧ Below w.heap.size w w' := by
  go_enter Tryz.func66, Tryz.ntmps66
  go_wp2
  go_ret2
  exact ⟨rfl, Below.refl _ _⟩
set_option maxHeartbeats 400000 in
theorem specSealed_ok (t : ByteArray) (w : World) (hs : t.size ≤ 20000) :
    Calls Tryz.prog 63 #[.string t] w fun e w' => e = .returned (.tuple #[.string (sealT t), .bool true]) ∧ Below w.heap.size w w' := by
  have hadd := run_seal t hs
  have hl := sumT_lt t (show 4294967295 < 4294967296 by decide)
  go_enter Tryz.func63, Tryz.ntmps63
  go_wp2_with (first | (go_at_call 56; refine (specSumOf_any t _ (by unfold maxLen; omega)).mono ?_; rintro e w' ⟨rfl, hw⟩; have hw2 := hw.symm; subst hw2) | (go_at_call 55; refine (four_any _ _ hl).mono ?_; rintro e w1 ⟨rfl, hb1⟩))
  go_ret2
  exact ⟨rfl, hb1⟩
set_option maxHeartbeats 400000 in
theorem specSealed_bad (t : ByteArray) (w : World) (hs0 : t.size ≤ 9223372036854775807) (hs : 20000 < t.size) :
    Calls Tryz.prog 63 #[.string t] w fun e w' => e = .returned (.tuple #[.string ByteArray.empty, .bool false]) ∧ Below w.heap.size w w' := by
  go_enter Tryz.func63, Tryz.ntmps63
  go_wp2
  go_ret2
  exact ⟨rfl, Below.refl _ _⟩

end Go.Proofs.YtingfgbcinlflaaGreatDoor
