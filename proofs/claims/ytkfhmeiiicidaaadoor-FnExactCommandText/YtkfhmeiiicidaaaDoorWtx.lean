/-
  The law of commands in bytes: the walk.
-/
import Derived.Test.YtkfhmeiiicidaaaDoorWck
import Derived.Test.YtkfhmeiiicidaaaDoorCmx
import Derived.Test.YtkfhmeiiicidaaaDoorCti
namespace Go.Proofs.YtkfhmeiiicidaaaDoor
open Go Go.RowKit
set_option linter.unusedVariables false

set_option maxRecDepth 10000 in
set_option maxHeartbeats 2000000 in
theorem law_CommandText (op tok seq : Int) (text task : ByteArray) (num up : Int) (yes : Bool) (w : World) (ht : text.size ≤ 9223372036854775807) (hk : task.size ≤ 9223372036854775807) :
    Calls Tryd.prog 3 #[.agg #[.int .i64 op, .int .i64 tok, .int .i64 seq, .string text, .string task, .int .i64 num, .int .i64 up, .bool yes]] w fun e w' => e = .returned (.bool true) ∧ Below w.heap.size w w' := by
  have H0 : Hid (∀ W, Calls Tryd.prog 5 #[.agg #[.int .i64 op, .int .i64 tok, .int .i64 seq, .string text, .string task, .int .i64 num, .int .i64 up, .bool yes], .int .i64 1048576] W fun e w' => (∃ n : Int, e = .returned (.int .i64 n)) ∧ Below W.heap.size W w') := fun W => szCommand_any op tok seq text task num up yes W
  have H1 : Hid (∀ W, Calls Tryd.prog 7 #[.agg #[.int .i64 op, .int .i64 tok, .int .i64 seq, .string text, .string task, .int .i64 num, .int .i64 up, .bool yes]] W fun e w' => e = .returned (.agg #[.int .i64 op, .int .i64 tok, .int .i64 seq, .string text, .string task, .int .i64 num, .int .i64 up, .bool yes]) ∧ Below W.heap.size W w') := fun W => toCommand_any op tok seq text task num up yes W
  obtain ⟨T, HT⟩ : ∃ T : ByteArray, Hid (cmtX op tok seq text task num up yes = T) := ⟨_, rfl⟩
  obtain ⟨q, HQ⟩ : ∃ q : Bool, Hid (cmdB op tok seq text task num up yes = q) := ⟨_, rfl⟩
  have H2 : Hid (∀ W, Calls Tryd.prog 6 #[.agg #[.int .i64 op, .int .i64 tok, .int .i64 seq, .string text, .string task, .int .i64 num, .int .i64 up, .bool yes]] W fun e w' => e = .returned (.tuple #[.string T, .bool q]) ∧ Below W.heap.size W w') := fun W => by rw [← HT.out, ← HQ.out]; exact commandText_any op tok seq text task num up yes W ht hk
  have H3 : Hid (∀ W, Calls Tryd.prog 8 #[.agg #[.int .i64 op, .int .i64 tok, .int .i64 seq, .string text, .string task, .int .i64 num, .int .i64 up, .bool yes]] W fun e w' => e = .returned (.tuple #[.string T, .bool q]) ∧ Below W.heap.size W w') := fun W => by rw [← HT.out, ← HQ.out]; exact implText_any op tok seq text task num up yes W ht hk
  clear ht hk HT HQ
  obtain ⟨W0, HW0⟩ : ∃ W, Hid (w.alloc (.cells #[.int .i64 op, .int .i64 tok, .int .i64 seq, .string text, .string task, .int .i64 num, .int .i64 up, .bool yes] 23) = W) := ⟨_, rfl⟩
  have K0 : Kc8 23 W0 w.heap.size (.int .i64 op) (.int .i64 tok) (.int .i64 seq) (.string text) (.string task) (.int .i64 num) (.int .i64 up) (.bool yes) := by rw [← HW0.out]; exact Kc8.new _ _ _ _ _ _ _ _ _ _
  have B0 : Below w.heap.size w W0 := by rw [← HW0.out]; exact ba (Below.refl _ _) _
  go_enter Tryd.func3, Tryd.ntmps3
  go_wp2_with fail
  rw [HW0.out]
  refine (H0.out _).mono ?_
  rintro e w1 ⟨⟨n, rfl⟩, hb⟩
  have K1 := K0.up hb
  have B1 := Below.on B0 hb
  clear K0 B0 hb HW0 H0
  by_cases hneg : n < 0
  · go_wp2
    go_ret
    exact ⟨rfl, B1⟩
  have c0 := K1.c0
  have c1 := K1.c1
  have c2 := K1.c2
  have c3 := K1.c3
  have c4 := K1.c4
  have c5 := K1.c5
  have c6 := K1.c6
  have c7 := K1.c7
  go_wp2_with fail
  refine (H1.out _).mono ?_
  rintro e w2 ⟨rfl, hb⟩
  have K2 := K1.up hb
  have B2 := Below.on B1 hb
  clear K1 B1 hb
  clear c0 c1 c2 c3 c4 c5 c6 c7
  go_wp2_with fail
  refine (H2.out _).mono ?_
  rintro e w3 ⟨rfl, hb⟩
  have K3 := K2.up hb
  have B3 := Below.on B2 hb
  clear K2 B2 hb
  have c0 := K3.c0
  have c1 := K3.c1
  have c2 := K3.c2
  have c3 := K3.c3
  have c4 := K3.c4
  have c5 := K3.c5
  have c6 := K3.c6
  have c7 := K3.c7
  go_wp2_with fail
  refine (H1.out _).mono ?_
  rintro e w4 ⟨rfl, hb⟩
  have K4 := K3.up hb
  have B4 := Below.on B3 hb
  clear K3 B3 hb
  clear c0 c1 c2 c3 c4 c5 c6 c7
  go_wp2_with fail
  refine (H3.out _).mono ?_
  rintro e w5 ⟨rfl, hb⟩
  have K5 := K4.up hb
  have B5 := Below.on B4 hb
  clear K4 B4 hb
  go_wp2
  go_ret
  exact ⟨rfl, B5⟩
end Go.Proofs.YtkfhmeiiicidaaaDoor
