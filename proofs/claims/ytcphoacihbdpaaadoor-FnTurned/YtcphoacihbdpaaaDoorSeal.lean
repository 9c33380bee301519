/-
  Sealed texts: the walks.
-/
import Derived.Test.YtcphoacihbdpaaaDoorSum
import Derived.Test.YtcphoacihbdpaaaDoorShelf
import Derived.Deep.RegionHeld
namespace Go.Proofs.YtcphoacihbdpaaaDoor
open Go.RowKit

/-- The four bytes of a sum, the highest first. -/
def four (x : Nat) : List Int := [(x : Int) / 16777216, (x : Int) / 65536 % 256, (x : Int) / 256 % 256, (x : Int) % 256]
theorem bstr_size (l : List Int) : (bstr l).size = l.length := by simp [bstr, ByteArray.size]

/-- string([]byte(a, b, c, d)) of a block just made. -/
theorem run_four_string (wr : World) (a b c d : Int) :
    (convert 22 9 (.slice (some ⟨wr.heap.size, 0, none⟩) 4 4)).run Tryd.prog (wr.alloc (.cells #[.int .u8 a, .int .u8 b, .int .u8 c, .int .u8 d] 5)) = .ok (.string (bstr [a, b, c, d])) (wr.alloc (.cells #[.int .u8 a, .int .u8 b, .int .u8 c, .int .u8 d] 5)) :=
  run_own_string (P := Tryd.prog) (B := 0) 22 9 (show ownsB (wr.alloc (.cells #[.int .u8 a, .int .u8 b, .int .u8 c, .int .u8 d] 5)) 0 5 (.slice (some ⟨wr.heap.size, 0, none⟩) 4 4) [a, b, c, d] from
    World.ownsRow_lit wr #[.int .u8 a, .int .u8 b, .int .u8 c, .int .u8 d] 4 (Nat.zero_le _) (by decide) rfl) Tryd.underlying22 Tryd.underlying5 Tryd.underlying9

set_option maxHeartbeats 400000 in
theorem four_any (x : Nat) (w : World) (hx : x < 4294967296) :
    Calls Tryd.prog 26 #[.int .u32 x] w fun e w' => e = .returned (.string (bstr (four x))) ∧ Below w.heap.size w w' := by
  have hcv := run_four_string w ((x : Int) / 16777216) ((x : Int) / 65536 % 256) ((x : Int) / 256 % 256) ((x : Int) % 256)
  go_enter Tryd.func26, Tryd.ntmps26
  go_wp2
  go_ret
  exact ⟨rfl, (Below.refl _ _).alloc (Nat.le_refl _) _⟩
set_option maxHeartbeats 400000 in
theorem text_any (x : Nat) (w : World) (hx : x < 4294967296) :
    Calls Tryd.prog 23 #[.int .u32 x] w fun e w' => e = .returned (.string (bstr (four x))) ∧ Below w.heap.size w w' := by
  have hcv := run_four_string w ((x : Int) / 16777216) ((x : Int) / 65536 % 256) ((x : Int) / 256 % 256) ((x : Int) % 256)
  go_enter Tryd.func23, Tryd.ntmps23
  go_wp2
  go_ret
  exact ⟨rfl, (Below.refl _ _).alloc (Nat.le_refl _) _⟩

/-- The four bytes that stand behind a text. -/
def tail4 (t : ByteArray) : ByteArray := bstr (four (sumT 4294967295 t))
def sealT (t : ByteArray) : ByteArray := t ++ tail4 t
theorem tail4_size (t : ByteArray) : (tail4 t).size = 4 := by unfold tail4; rw [bstr_size]; rfl
theorem run_seal (t : ByteArray) (h : t.size ≤ 20000) (wx : World) : (Op.stringOp .add t (bstr (four (sumT 4294967295 t)))).run Tryd.prog wx = .ok (.string (sealT t)) wx := by
  rw [run_string_add_sum wx _ _ (by rw [show (bstr (four (sumT 4294967295 t))).size = 4 from tail4_size t]; omega)]
  rfl

set_option maxHeartbeats 400000 in
theorem sealed_ok (t : ByteArray) (w : World) (hs : t.size ≤ 20000) (ht : TableIs w) :
    Calls Tryd.prog 11 #[.string t] w fun e w' => e = .returned (.tuple #[.string (sealT t), .bool true]) ∧ Below w.heap.size w w' := by
  have hadd := run_seal t hs
  have hl := sumT_lt t (show 4294967295 < 4294967296 by decide)
  go_enter Tryd.func11, Tryd.ntmps11
  go_wp2_with (first | (go_at_call 14; refine (sumOf_any t _ (by unfold maxLen; omega) ht).mono ?_; rintro e w' ⟨rfl, hw⟩; have hw2 := hw.symm; subst hw2) | (go_at_call 23; refine (text_any _ _ hl).mono ?_; rintro e w1 ⟨rfl, hb1⟩))
  go_ret2
  exact ⟨rfl, hb1⟩
set_option maxHeartbeats 400000 in
theorem sealed_bad (t : ByteArray) (w : World) (hs0 : t.size ≤ 9223372036854775807) (hs : 20000 < t.size) :
    Calls Tryd.prog 11 #[.string t] w fun e w' => e = .returned (.tuple #[.string ByteArray.empty, .bool false]) ∧ Below w.heap.size w w' := by
  go_enter Tryd.func11, Tryd.ntmps11
  go_wp2
  go_ret2
  exact ⟨rfl, Below.refl _ _⟩
set_option maxHeartbeats 400000 in
theorem specSealed_ok (t : ByteArray) (w : World) (hs : t.size ≤ 20000) :
    Calls Tryd.prog 17 #[.string t] w fun e w' => e = .returned (.tuple #[.string (sealT t), .bool true]) ∧ Below w.heap.size w w' := by
  have hadd := run_seal t hs
  have hl := sumT_lt t (show 4294967295 < 4294967296 by decide)
  go_enter Tryd.func17, Tryd.ntmps17
  go_wp2_with (first | (go_at_call 16; refine (specSumOf_any t _ (by unfold maxLen; omega)).mono ?_; rintro e w' ⟨rfl, hw⟩; have hw2 := hw.symm; subst hw2) | (go_at_call 26; refine (four_any _ _ hl).mono ?_; rintro e w1 ⟨rfl, hb1⟩))
  go_ret2
  exact ⟨rfl, hb1⟩
set_option maxHeartbeats 400000 in
theorem specSealed_bad (t : ByteArray) (w : World) (hs0 : t.size ≤ 9223372036854775807) (hs : 20000 < t.size) :
    Calls Tryd.prog 17 #[.string t] w fun e w' => e = .returned (.tuple #[.string ByteArray.empty, .bool false]) ∧ Below w.heap.size w w' := by
  go_enter Tryd.func17, Tryd.ntmps17
  go_wp2
  go_ret2
  exact ⟨rfl, Below.refl _ _⟩

set_option maxHeartbeats 400000 in
theorem law_Sealed (t : ByteArray) (w : World) (hs0 : t.size ≤ maxLen) (ht : TableIs w) :
    Calls Tryd.prog 6 #[.string t] w fun e w' => e = .returned (.bool true) ∧ Below w.heap.size w w' := by
  unfold maxLen at hs0
  by_cases hs : (1048576 : Int) < (t.size : Int)
  · go_enter Tryd.func6, Tryd.ntmps6
    go_wp2
    go_ret
    exact ⟨rfl, Below.refl _ _⟩
  · by_cases h2 : 20000 < t.size
    · go_enter Tryd.func6, Tryd.ntmps6
      go_wp2_with (first | (go_at_call 17; refine (specSealed_bad t _ hs0 h2).mono ?_; rintro e w1 ⟨rfl, hb1⟩) | (go_at_call 11; refine (sealed_bad t _ hs0 h2).mono ?_; rintro e w2 ⟨rfl, hb2⟩))
      go_ret
      exact ⟨rfl, hb1.trans (hb2.mono hb1.size)⟩
    · have h3 : t.size ≤ 20000 := by omega
      go_enter Tryd.func6, Tryd.ntmps6
      go_wp2_with (first | (go_at_call 17; refine (specSealed_ok t _ h3).mono ?_; rintro e w1 ⟨rfl, hb1⟩) | (go_at_call 11; refine (sealed_ok t _ h3 (ht.below hb1)).mono ?_; rintro e w2 ⟨rfl, hb2⟩))
      go_ret
      exact ⟨rfl, hb1.trans (hb2.mono hb1.size)⟩

end Go.Proofs.YtcphoacihbdpaaaDoor
