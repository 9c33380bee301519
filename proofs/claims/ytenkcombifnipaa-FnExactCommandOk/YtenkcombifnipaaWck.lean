/-
  The law of right commands: the walk.
-/
import Derived.Test.YtenkcombifnipaaCoka
namespace Go.Proofs.Ytenkcombifnipaa
open Go Go.RowKit
set_option linter.unusedVariables false

theorem ret_cc {W : World} {b : Nat} {x0 x1 x2 x3 x4 x5 x6 x7 : Value} {fn : Func} {p : Tmp} {tmps : Array Value} (h : fn.results = #[.cell p 26]) (hp : tmps.getD p undef = .pointer (some ⟨b, 0, none⟩)) (hb : Kc8 26 W b x0 x1 x2 x3 x4 x5 x6 x7) :
    (results fn tmps).run Try.prog W = .ok (.agg #[x0, x1, x2, x3, x4, x5, x6, x7]) W := by
  have hp' : tmps[p]?.getD undef = .pointer (some ⟨b, 0, none⟩) := by simpa using hp
  simp [results, h, hp', hb.c0, hb.c1, hb.c2, hb.c3, hb.c4, hb.c5, hb.c6, hb.c7, asAddr, go_sem]
theorem mid8 (t : TypeId) (w : World) (o o' : Obj) (x0 x1 x2 x3 x4 x5 x6 x7 : Value) : Kc8 t (((w.alloc o).alloc (.cells #[x0, x1, x2, x3, x4, x5, x6, x7] t)).alloc o') (w.heap.size + 1) x0 x1 x2 x3 x4 x5 x6 x7 := by
  have := (Kc8.new t (w.alloc o) x0 x1 x2 x3 x4 x5 x6 x7).alloc o'
  rwa [show (w.alloc o).heap.size = w.heap.size + 1 by simp] at this
set_option maxRecDepth 10000 in
set_option maxHeartbeats 1000000 in
theorem szCommand_any (op tok seq : Int) (text task : ByteArray) (num up : Int) (yes : Bool) (w : World) :
    Calls Try.prog 5 #[.agg #[.int .i64 op, .int .i64 tok, .int .i64 seq, .string text, .string task, .int .i64 num, .int .i64 up, .bool yes], .int .i64 1048576] w fun e w' => (∃ n : Int, e = .returned (.int .i64 n)) ∧ Below w.heap.size w w' := by
  go_enter Try.func5, Try.ntmps5
  go_wp2
  all_goals (go_ret; exact ⟨⟨_, rfl⟩, ba (Below.refl _ _) _⟩)
set_option maxRecDepth 10000 in
set_option maxHeartbeats 1000000 in
theorem toCommand_any (op tok seq : Int) (text task : ByteArray) (num up : Int) (yes : Bool) (w : World) :
    Calls Try.prog 7 #[.agg #[.int .i64 op, .int .i64 tok, .int .i64 seq, .string text, .string task, .int .i64 num, .int .i64 up, .bool yes]] w fun e w' => e = .returned (.agg #[.int .i64 op, .int .i64 tok, .int .i64 seq, .string text, .string task, .int .i64 num, .int .i64 up, .bool yes]) ∧ Below w.heap.size w w' := by
  go_enter Try.func7, Try.ntmps7
  go_wp2
  refine bodyPost_ret (ret_cc rfl rfl (mid8 _ _ _ _ _ _ _ _ _ _ _ _)) rfl ⟨rfl, ?_⟩
  exact ba (ba (ba (Below.refl _ _) _) _) _
set_option maxRecDepth 10000 in
set_option maxHeartbeats 2000000 in
theorem law_CommandOk (op tok seq : Int) (text task : ByteArray) (num up : Int) (yes : Bool) (w : World) (ht : text.size ≤ 9223372036854775807) (hk : task.size ≤ 9223372036854775807) :
    Calls Try.prog 3 #[.agg #[.int .i64 op, .int .i64 tok, .int .i64 seq, .string text, .string task, .int .i64 num, .int .i64 up, .bool yes]] w fun e w' => e = .returned (.bool true) ∧ Below w.heap.size w w' := by
  have H0 : Hid (∀ W, Calls Try.prog 5 #[.agg #[.int .i64 op, .int .i64 tok, .int .i64 seq, .string text, .string task, .int .i64 num, .int .i64 up, .bool yes], .int .i64 1048576] W fun e w' => (∃ n : Int, e = .returned (.int .i64 n)) ∧ Below W.heap.size W w') := fun W => szCommand_any op tok seq text task num up yes W
  have H1 : Hid (∀ W, Calls Try.prog 7 #[.agg #[.int .i64 op, .int .i64 tok, .int .i64 seq, .string text, .string task, .int .i64 num, .int .i64 up, .bool yes]] W fun e w' => e = .returned (.agg #[.int .i64 op, .int .i64 tok, .int .i64 seq, .string text, .string task, .int .i64 num, .int .i64 up, .bool yes]) ∧ Below W.heap.size W w') := fun W => toCommand_any op tok seq text task num up yes W
  have H2 : Hid (∀ W, Calls Try.prog 6 #[.agg #[.int .i64 op, .int .i64 tok, .int .i64 seq, .string text, .string task, .int .i64 num, .int .i64 up, .bool yes]] W fun e w' => e = .returned (.bool (cmdB op tok seq text task num up yes)) ∧ Below W.heap.size W w') := fun W => commandOk_any op tok seq text task num up yes W ht hk
  have H3 : Hid (∀ W, Calls Try.prog 8 #[.agg #[.int .i64 op, .int .i64 tok, .int .i64 seq, .string text, .string task, .int .i64 num, .int .i64 up, .bool yes]] W fun e w' => e = .returned (.bool (cmdB op tok seq text task num up yes)) ∧ Below W.heap.size W w') := fun W => implCommand_any op tok seq text task num up yes W ht hk
  generalize cmdB op tok seq text task num up yes = b at H2 H3
  clear ht hk
  cases b <;>
  · go_enter Try.func3, Try.ntmps3
    go_wp2_with (first | (go_at_call 5; with_reducible refine (H0.out _).mono ?_; rintro e w1 ⟨⟨n, rfl⟩, hb1⟩; have k1 := (Kc8.new 23 w (.int .i64 op) (.int .i64 tok) (.int .i64 seq) (.string text) (.string task) (.int .i64 num) (.int .i64 up) (.bool yes)).up hb1; have hv1 := below_new hb1; have c0 := k1.c0; have c1 := k1.c1; have c2 := k1.c2; have c3 := k1.c3; have c4 := k1.c4; have c5 := k1.c5; have c6 := k1.c6; have c7 := k1.c7) | (go_at_call 7; with_reducible refine (H1.out _).mono ?_; rintro e w2 ⟨rfl, hb2⟩; have hv2 := hv1.trans (hb2.mono hv1.size); have k2 := k1.up hb2; have hv1 := hv2; have k1 := k2; have c0 := k1.c0; have c1 := k1.c1; have c2 := k1.c2; have c3 := k1.c3; have c4 := k1.c4; have c5 := k1.c5; have c6 := k1.c6; have c7 := k1.c7) | (go_at_call 6; with_reducible refine (H2.out _).mono ?_; rintro e w3 ⟨rfl, hb3⟩; have hv3 := hv1.trans (hb3.mono hv1.size); have k3 := k1.up hb3; have hv1 := hv3; have k1 := k3; have c0 := k1.c0; have c1 := k1.c1; have c2 := k1.c2; have c3 := k1.c3; have c4 := k1.c4; have c5 := k1.c5; have c6 := k1.c6; have c7 := k1.c7) | (go_at_call 8; with_reducible refine (H3.out _).mono ?_; rintro e w5 ⟨rfl, hb5⟩; have hv5 := hv1.trans (hb5.mono hv1.size); have hv1 := hv5))
    all_goals (go_ret; exact ⟨rfl, hv1⟩)
end Go.Proofs.Ytenkcombifnipaa
