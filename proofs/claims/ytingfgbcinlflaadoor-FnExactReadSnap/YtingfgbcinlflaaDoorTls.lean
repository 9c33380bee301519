/-
  A text behind its first byte; numbers read from any text.
-/
import Derived.Test.YtingfgbcinlflaaDoorRd
import Derived.Test.YtingfgbcinlflaaDoorRea
namespace Go.Proofs.YtingfgbcinlflaaDoor
open Go Go.RowKit

/-- A text behind its first byte. -/
def tlS (s : ByteArray) : ByteArray := s.extract 1 s.size
theorem tlS_size (s : ByteArray) : (tlS s).size = s.size - 1 := by unfold tlS; rw [ByteArray.size_extract]; omega
theorem readDec_all (s : ByteArray) (w : World) (hs : s.size ≤ 9223372036854775807) :
    Calls Tryd.prog 58 #[.string s] w fun e w' => e = .returned (.tuple #[.int .i64 (rd s).1, .bool (rd s).2]) ∧ Below w.heap.size w w' := by
  by_cases h : s.size ≤ 10
  · exact readDec_any s w h _ _ rfl
  · have e := rd_out (s := s) (.inr (by omega))
    rw [e]
    exact readDec_out s w hs (.inr (by omega))
theorem specReadDec_all (s : ByteArray) (w : World) (hs : s.size ≤ 9223372036854775807) :
    Calls Tryd.prog 54 #[.string s] w fun e w' => e = .returned (.tuple #[.int .i64 (rd s).1, .bool (rd s).2]) ∧ Below w.heap.size w w' := by
  by_cases h : s.size ≤ 10
  · exact specReadDec_any s w h _ _ rfl
  · have e := rd_out (s := s) (.inr (by omega))
    rw [e]
    exact specReadDec_long s w hs (by omega)
end Go.Proofs.YtingfgbcinlflaaDoor
