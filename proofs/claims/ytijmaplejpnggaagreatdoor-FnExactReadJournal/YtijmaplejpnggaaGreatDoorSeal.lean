/-
  Sealed texts: the walks.
-/
import Derived.Test.YtijmaplejpnggaaGreatDoorSum
import Derived.Test.YtijmaplejpnggaaGreatDoorShelf
import Derived.Deep.RegionHeld
namespace Go.Proofs.YtijmaplejpnggaaGreatDoor
open Go.RowKit

/-- The four bytes of a sum, the highest first. -/
def four (x : Nat) : List Int := [(x : Int) / 16777216, (x : Int) / 65536 % 256, (x : Int) / 256 % 256, (x : Int) % 256]
theorem bstr_size (l : List Int) : (bstr l).size = l.length := by simp [bstr, ByteArray.size]

/-- string([]byte(a, b, c, d)) of a block just made. -/
theorem run_four_string (wr : World) (a b c d : Int) :
    (convert 133 9 (.slice (some ⟨wr.heap.size, 0, none⟩) 4 4)).run Tryz.prog (wr.alloc (.cells #[.int .u8 a, .int .u8 b, .int .u8 c, .int .u8 d] 5)) = .ok (.string (bstr [a, b, c, d])) (wr.alloc (.cells #[.int .u8 a, .int .u8 b, .int .u8 c, .int .u8 d] 5)) :=
  run_own_string (P := Tryz.prog) (B := 0) 133 9 (show ownsB (wr.alloc (.cells #[.int .u8 a, .int .u8 b, .int .u8 c, .int .u8 d] 5)) 0 5 (.slice (some ⟨wr.heap.size, 0, none⟩) 4 4) [a, b, c, d] from
    World.ownsRow_lit wr #[.int .u8 a, .int .u8 b, .int .u8 c, .int .u8 d] 4 (Nat.zero_le _) (by decide) rfl) Tryz.underlying133 Tryz.underlying5 Tryz.underlying9

set_option maxHeartbeats 400000 in
theorem four_any (x : Nat) (w : World) (hx : x < 4294967296) :
    Calls Tryz.prog 63 #[.int .u32 x] w fun e w' => e = .returned (.string (bstr (four x))) ∧ Below w.heap.size w w' := by
  have hcv := run_four_string w ((x : Int) / 16777216) ((x : Int) / 65536 % 256) ((x : Int) / 256 % 256) ((x : Int) % 256)
  go_enter Tryz.func63, Tryz.ntmps63
  go_wp2
  go_ret
  exact ⟨rfl, (Below.refl _ _).alloc (Nat.le_refl _) _⟩
set_option maxHeartbeats 400000 in
theorem text_any (x : Nat) (w : World) (hx : x < 4294967296) :
    Calls Tryz.prog 150 #[.int .u32 x] w fun e w' => e = .returned (.string (bstr (four x))) ∧ Below w.heap.size w w' := by
  have hcv := run_four_string w ((x : Int) / 16777216) ((x : Int) / 65536 % 256) ((x : Int) / 256 % 256) ((x : Int) % 256)
  go_enter Tryz.func150, Tryz.ntmps150
  go_wp2
  go_ret
  exact ⟨rfl, (Below.refl _ _).alloc (Nat.le_refl _) _⟩

/-- The four bytes that stand behind a text. -/
def tail4 (t : ByteArray) : ByteArray := bstr (four (sumT 4294967295 t))
def sealT (t : ByteArray) : ByteArray := t ++ tail4 t
theorem tail4_size (t : ByteArray) : (tail4 t).size = 4 := by unfold tail4; rw [bstr_size]; rfl
theorem run_seal (t : ByteArray) (h : t.size ≤ 20000) (wx : World) : (Op.stringOp .add t (bstr (four (sumT 4294967295 t)))).run Tryz.prog wx = .ok (.string (sealT t)) wx := by
  rw [run_string_add_sum wx _ _ (by rw [show (bstr (four (sumT 4294967295 t))).size = 4 from tail4_size t]; omega)]
  rfl

end Go.Proofs.YtijmaplejpnggaaGreatDoor
