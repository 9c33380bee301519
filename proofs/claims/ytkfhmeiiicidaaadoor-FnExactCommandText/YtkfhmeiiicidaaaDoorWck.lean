/-
  The law of right commands: the walk.
-/
import Derived.Test.YtkfhmeiiicidaaaDoorCoka
namespace Go.Proofs.YtkfhmeiiicidaaaDoor
open Go Go.RowKit
set_option linter.unusedVariables false

theorem ret_cc {W : World} {b : Nat} {x0 x1 x2 x3 x4 x5 x6 x7 : Value} {fn : Func} {p : Tmp} {tmps : Array Value} (h : fn.results = #[.cell p 27]) (hp : tmps.getD p undef = .pointer (some ⟨b, 0, none⟩)) (hb : Kc8 27 W b x0 x1 x2 x3 x4 x5 x6 x7) :
    (results fn tmps).run Tryd.prog W = .ok (.agg #[x0, x1, x2, x3, x4, x5, x6, x7]) W := by
  have hp' : tmps[p]?.getD undef = .pointer (some ⟨b, 0, none⟩) := by simpa using hp
  simp [results, h, hp', hb.c0, hb.c1, hb.c2, hb.c3, hb.c4, hb.c5, hb.c6, hb.c7, asAddr, go_sem]
theorem mid8 (t : TypeId) (w : World) (o o' : Obj) (x0 x1 x2 x3 x4 x5 x6 x7 : Value) : Kc8 t (((w.alloc o).alloc (.cells #[x0, x1, x2, x3, x4, x5, x6, x7] t)).alloc o') (w.heap.size + 1) x0 x1 x2 x3 x4 x5 x6 x7 := by
  have := (Kc8.new t (w.alloc o) x0 x1 x2 x3 x4 x5 x6 x7).alloc o'
  rwa [show (w.alloc o).heap.size = w.heap.size + 1 by simp] at this
set_option maxRecDepth 10000 in
set_option maxHeartbeats 1000000 in
theorem szCommand_any (op tok seq : Int) (text task : ByteArray) (num up : Int) (yes : Bool) (w : World) :
    Calls Tryd.prog 5 #[.agg #[.int .i64 op, .int .i64 tok, .int .i64 seq, .string text, .string task, .int .i64 num, .int .i64 up, .bool yes], .int .i64 1048576] w fun e w' => (∃ n : Int, e = .returned (.int .i64 n)) ∧ Below w.heap.size w w' := by
  go_enter Tryd.func5, Tryd.ntmps5
  go_wp2
  all_goals (go_ret; exact ⟨⟨_, rfl⟩, ba (Below.refl _ _) _⟩)
set_option maxRecDepth 10000 in
set_option maxHeartbeats 1000000 in
theorem toCommand_any (op tok seq : Int) (text task : ByteArray) (num up : Int) (yes : Bool) (w : World) :
    Calls Tryd.prog 7 #[.agg #[.int .i64 op, .int .i64 tok, .int .i64 seq, .string text, .string task, .int .i64 num, .int .i64 up, .bool yes]] w fun e w' => e = .returned (.agg #[.int .i64 op, .int .i64 tok, .int .i64 seq, .string text, .string task, .int .i64 num, .int .i64 up, .bool yes]) ∧ Below w.heap.size w w' := by
  go_enter Tryd.func7, Tryd.ntmps7
  go_wp2
  refine bodyPost_ret (ret_cc rfl rfl (mid8 _ _ _ _ _ _ _ _ _ _ _ _)) rfl ⟨rfl, ?_⟩
  exact ba (ba (ba (Below.refl _ _) _) _) _
end Go.Proofs.YtkfhmeiiicidaaaDoor
