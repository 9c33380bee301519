/-
  Sealed texts: the walks.
-/
import Derived.Test.YtkfhmeiiicidaaaDoorSum
import Derived.Test.YtkfhmeiiicidaaaDoorShelf
import Derived.Deep.RegionHeld
namespace Go.Proofs.YtkfhmeiiicidaaaDoor
open Go.RowKit

/-- The four bytes of a sum, the highest first. -/
def four (x : Nat) : List Int := [(x : Int) / 16777216, (x : Int) / 65536 % 256, (x : Int) / 256 % 256, (x : Int) % 256]
theorem bstr_size (l : List Int) : (bstr l).size = l.length := by simp [bstr, ByteArray.size]

/-- string([]byte(a, b, c, d)) of a block just made. -/
theorem run_four_string (wr : World) (a b c d : Int) :
    (convert 38 9 (.slice (some ⟨wr.heap.size, 0, none⟩) 4 4)).run Tryd.prog (wr.alloc (.cells #[.int .u8 a, .int .u8 b, .int .u8 c, .int .u8 d] 5)) = .ok (.string (bstr [a, b, c, d])) (wr.alloc (.cells #[.int .u8 a, .int .u8 b, .int .u8 c, .int .u8 d] 5)) :=
  run_own_string (P := Tryd.prog) (B := 0) 38 9 (show ownsB (wr.alloc (.cells #[.int .u8 a, .int .u8 b, .int .u8 c, .int .u8 d] 5)) 0 5 (.slice (some ⟨wr.heap.size, 0, none⟩) 4 4) [a, b, c, d] from
    World.ownsRow_lit wr #[.int .u8 a, .int .u8 b, .int .u8 c, .int .u8 d] 4 (Nat.zero_le _) (by decide) rfl) Tryd.underlying38 Tryd.underlying5 Tryd.underlying9

/-- The four bytes that stand behind a text. -/
def tail4 (t : ByteArray) : ByteArray := bstr (four (sumT 4294967295 t))
def sealT (t : ByteArray) : ByteArray := t ++ tail4 t
theorem tail4_size (t : ByteArray) : (tail4 t).size = 4 := by unfold tail4; rw [bstr_size]; rfl
theorem run_seal (t : ByteArray) (h : t.size ≤ 20000) (wx : World) : (Op.stringOp .add t (bstr (four (sumT 4294967295 t)))).run Tryd.prog wx = .ok (.string (sealT t)) wx := by
  rw [run_string_add_sum wx _ _ (by rw [show (bstr (four (sumT 4294967295 t))).size = 4 from tail4_size t]; omega)]
  rfl

end Go.Proofs.YtkfhmeiiicidaaaDoor
