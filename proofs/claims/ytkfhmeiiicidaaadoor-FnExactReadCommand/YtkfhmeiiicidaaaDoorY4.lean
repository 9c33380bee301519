/-
  The law of commands read from bytes: the walk.
-/
import Derived.Test.YtkfhmeiiicidaaaDoorY3
namespace Go.Proofs.YtkfhmeiiicidaaaDoor
open Go Go.RowKit
set_option linter.unusedVariables false

set_option maxRecDepth 10000 in
set_option maxHeartbeats 1000000 in
theorem eqCommand_any (op tok seq : Int) (text task : ByteArray) (num up : Int) (yes : Bool) (w : World) :
    Calls Tryd.prog 11 #[.agg #[.int .i64 op, .int .i64 tok, .int .i64 seq, .string text, .string task, .int .i64 num, .int .i64 up, .bool yes], .agg #[.int .i64 op, .int .i64 tok, .int .i64 seq, .string text, .string task, .int .i64 num, .int .i64 up, .bool yes]] w fun e w' => e = .returned (.bool true) ∧ Below w.heap.size w w' := by
  go_enter Tryd.func11, Tryd.ntmps11
  go_wp2
  go_ret
  exact ⟨rfl, ba (ba (Below.refl _ _) _) _⟩
theorem rwV_forms (R : Option Cm) : ∃ (op tok seq : Int) (text task : ByteArray) (num up : Int) (yes z : Bool), rwV R = .tuple #[.agg #[.int .i64 op, .int .i64 tok, .int .i64 seq, .string text, .string task, .int .i64 num, .int .i64 up, .bool yes], .bool z] := by
  cases R with
  | none => exact ⟨0, 0, 0, ByteArray.empty, ByteArray.empty, 0, 0, false, false, rfl⟩
  | some x => exact ⟨x.op, x.tok, x.seq, x.text, x.task, x.num, x.up, x.yes, true, rfl⟩
set_option maxRecDepth 10000 in
set_option maxHeartbeats 2000000 in
theorem law_ReadCommand (s : ByteArray) (w : World) (hs : s.size ≤ 9223372036854775807) :
    Calls Tryd.prog 4 #[.string s] w fun e w' => e = .returned (.bool true) ∧ Below w.heap.size w w' := by
  by_cases hbig : (1048576 : Int) < s.size
  · go_enter Tryd.func4, Tryd.ntmps4
    go_wp2
    go_ret
    exact ⟨rfl, Below.refl _ _⟩
  have hsm : s.size ≤ 1048576 := by omega
  obtain ⟨op, tok, seq, text, task, num, up, yes, z, hv⟩ := rwV_forms (rcP s)
  have HS : Hid (∀ W, Calls Tryd.prog 9 #[.string s] W fun e w' => e = .returned (.tuple #[.agg #[.int .i64 op, .int .i64 tok, .int .i64 seq, .string text, .string task, .int .i64 num, .int .i64 up, .bool yes], .bool z]) ∧ Below W.heap.size W w') := fun W => by
    have := specReadCommand_any s W hsm
    rw [specRP_eq, hv] at this
    exact this
  have HI : Hid (∀ W, Calls Tryd.prog 10 #[.string s] W fun e w' => e = .returned (.tuple #[.agg #[.int .i64 op, .int .i64 tok, .int .i64 seq, .string text, .string task, .int .i64 num, .int .i64 up, .bool yes], .bool z]) ∧ Below W.heap.size W w') := fun W => by
    have := readCommand_any s W hsm
    rw [hv] at this
    exact this
  clear hv hs hsm
  go_enter Tryd.func4, Tryd.ntmps4
  go_wp2_with fail
  refine (HS.out _).mono ?_
  rintro e w1 ⟨rfl, hb⟩
  have B1 := hb
  clear hb
  obtain ⟨W1, HW1⟩ : ∃ V, Hid (w1.alloc (.cells #[.int .i64 op, .int .i64 tok, .int .i64 seq, .string text, .string task, .int .i64 num, .int .i64 up, .bool yes] 27) = V) := ⟨_, rfl⟩
  have K1 : Kc8 27 W1 w1.heap.size (.int .i64 op) (.int .i64 tok) (.int .i64 seq) (.string text) (.string task) (.int .i64 num) (.int .i64 up) (.bool yes) := by rw [← HW1.out]; exact Kc8.new _ _ _ _ _ _ _ _ _ _
  have C1 : Below w.heap.size w W1 := by rw [← HW1.out]; exact ba B1 _
  clear B1
  go_wp2_with fail
  rw [HW1.out]
  refine (HI.out _).mono ?_
  rintro e w2 ⟨rfl, hb⟩
  have K2 := K1.up hb
  have B2 := Below.on C1 hb
  clear K1 C1 hb HW1
  obtain ⟨W2, HW2⟩ : ∃ V, Hid (w2.alloc (.cells #[.int .i64 op, .int .i64 tok, .int .i64 seq, .string text, .string task, .int .i64 num, .int .i64 up, .bool yes] 27) = V) := ⟨_, rfl⟩
  have L2 : Kc8 27 W2 w1.heap.size (.int .i64 op) (.int .i64 tok) (.int .i64 seq) (.string text) (.string task) (.int .i64 num) (.int .i64 up) (.bool yes) := by rw [← HW2.out]; exact K2.alloc _
  have C2 : Below w.heap.size w W2 := by rw [← HW2.out]; exact ba B2 _
  have hl := K2.lt
  have c0 := K2.c0
  have c1 := K2.c1
  have c2 := K2.c2
  have c3 := K2.c3
  have c4 := K2.c4
  have c5 := K2.c5
  have c6 := K2.c6
  have c7 := K2.c7
  go_wp2_with fail
  rw [HW2.out]
  refine (eqCommand_any op tok seq text task num up yes _).mono ?_
  rintro e w3 ⟨rfl, hb⟩
  have B3 := Below.on C2 hb
  clear K2 B2 L2 C2 hb HW2 c0 c1 c2 c3 c4 c5 c6 c7
  go_wp2
  go_ret
  exact ⟨rfl, B3⟩
end Go.Proofs.YtkfhmeiiicidaaaDoor
