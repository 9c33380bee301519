/-
  The law on BoardNew: the walks, and the law's marks on boards without rows.
-/
import Derived.Test.YtjmclcjhimcehaaBdh
namespace Go.Proofs.Ytjmclcjhimcehaa
open Go Go.RowKit
set_option linter.unusedVariables false

abbrev bd0 : Value := bdV (.slice none 0 0) (.slice none 0 0) (.slice none 0 0) 0 1
set_option maxRecDepth 10000 in
set_option maxHeartbeats 1000000 in
theorem specBoardNew_any (w : World) : Calls Try.prog 8 #[] w fun e w' => e = .returned bd0 ∧ Below w.heap.size w w' := by
  go_enter Try.func8, Try.ntmps8
  go_wp2
  refine bodyPost_ret (ret_board (p := 0) (by kernel_rfl) (by kernel_rfl) (B5.new 26 w (.slice none 0 0) (.slice none 0 0) (.slice none 0 0) (.int .i64 0) (.int .i64 1))) rfl ?_
  exact ⟨rfl, ba (Below.refl _ _) _⟩
set_option maxRecDepth 10000 in
set_option maxHeartbeats 1000000 in
theorem implBoardNew_any (w : World) : Calls Try.prog 9 #[] w fun e w' => e = .returned bd0 ∧ Below w.heap.size w w' := by
  go_enter Try.func9, Try.ntmps9
  go_wp2
  refine bodyPost_ret (ret_board (p := 0) (by kernel_rfl) (by kernel_rfl) (B5.new 26 w (.slice none 0 0) (.slice none 0 0) (.slice none 0 0) (.int .i64 0) (.int .i64 1))) rfl ?_
  exact ⟨rfl, ba (Below.refl _ _) _⟩
set_option maxRecDepth 10000 in
set_option maxHeartbeats 1000000 in
theorem heldSessionS_no (ao : Option Addr) (c : Nat) (x : Int) (w : World) :
    Calls Try.prog 29 #[.slice ao 0 c, .int .i64 x] w fun e w' => e = .returned (.int .i64 x) ∧ Below w.heap.size w w' := by
  go_enter Try.func29, Try.ntmps29
  go_wp2
  refine wp_loop_rounds 1 ?_
  rw [rounds_succ]
  go_wp2
  go_ret
  exact ⟨rfl, Below.refl _ _⟩
set_option maxRecDepth 10000 in
set_option maxHeartbeats 1000000 in
theorem markPlanS_no (ao : Option Addr) (c : Nat) (x : Int) (w : World) :
    Calls Try.prog 27 #[.slice ao 0 c, .int .i64 x] w fun e w' => e = .returned (.int .i64 x) ∧ Below w.heap.size w w' := by
  go_enter Try.func27, Try.ntmps27
  go_wp2
  refine wp_loop_rounds 1 ?_
  rw [rounds_succ]
  go_wp2
  go_ret
  exact ⟨rfl, Below.refl _ _⟩
set_option maxRecDepth 10000 in
set_option maxHeartbeats 1000000 in
theorem heldPlanS_no (ao : Option Addr) (c : Nat) (x : Int) (w : World) :
    Calls Try.prog 30 #[.slice ao 0 c, .int .i64 x] w fun e w' => e = .returned (.int .i64 x) ∧ Below w.heap.size w w' := by
  go_enter Try.func30, Try.ntmps30
  go_wp2
  refine wp_loop_rounds 1 ?_
  rw [rounds_succ]
  go_wp2
  go_ret
  exact ⟨rfl, Below.refl _ _⟩
set_option maxRecDepth 10000 in
set_option maxHeartbeats 1000000 in
theorem markRunS_no (ao : Option Addr) (c : Nat) (x : Int) (w : World) :
    Calls Try.prog 28 #[.slice ao 0 c, .int .i64 x] w fun e w' => e = .returned (.int .i64 x) ∧ Below w.heap.size w w' := by
  go_enter Try.func28, Try.ntmps28
  go_wp2
  refine wp_loop_rounds 1 ?_
  rw [rounds_succ]
  go_wp2
  go_ret
  exact ⟨rfl, Below.refl _ _⟩
set_option maxRecDepth 10000 in
set_option maxHeartbeats 1000000 in
theorem heldRunS_no (ao : Option Addr) (c : Nat) (x : Int) (w : World) :
    Calls Try.prog 31 #[.slice ao 0 c, .int .i64 x] w fun e w' => e = .returned (.int .i64 x) ∧ Below w.heap.size w w' := by
  go_enter Try.func31, Try.ntmps31
  go_wp2
  refine wp_loop_rounds 1 ?_
  rw [rounds_succ]
  go_wp2
  go_ret
  exact ⟨rfl, Below.refl _ _⟩
set_option maxRecDepth 10000 in
set_option maxHeartbeats 2000000 in
theorem markBoard_no (x : Int) (hx : decide (x < 0) = false) (w : World) :
    Calls Try.prog 11 #[bd0, .int .i64 x] w fun e w' => e = .returned (.int .i64 x) ∧ Below w.heap.size w w' := by
  obtain ⟨W0, hV0⟩ : ∃ V, w.alloc (.cells #[.slice none 0 0, .slice none 0 0, .slice none 0 0, .int .i64 0, .int .i64 1] 26) = V := ⟨_, rfl⟩
  have K0 : B5 26 W0 w.heap.size (.slice none 0 0) (.slice none 0 0) (.slice none 0 0) (.int .i64 0) (.int .i64 1) := by rw [← hV0]; exact B5.new _ _ _ _ _ _ _
  have B0 : Below w.heap.size w W0 := by rw [← hV0]; exact ba (Below.refl _ _) _
  have c0 := K0.c0
  go_enter Try.func11, Try.ntmps11
  go_wp2_with fail
  refine (markSessionS_none none 0 x W0).mono ?_
  rintro e W1 ⟨rfl, hb⟩
  have K1 := K0.up hb
  have B1 := Below.on B0 hb
  clear K0 B0 hb hV0 c0
  have c1 := K1.c1
  go_wp2_with fail
  refine (markPlanS_no none 0 x W1).mono ?_
  rintro e W2 ⟨rfl, hb⟩
  have K2 := K1.up hb
  have B2 := Below.on B1 hb
  clear K1 B1 hb c1
  have c2 := K2.c2
  go_wp2_with fail
  refine (markRunS_no none 0 x W2).mono ?_
  rintro e W3 ⟨rfl, hb⟩
  have B3 := Below.on B2 hb
  clear K2 B2 hb c2
  go_wp2
  go_ret
  exact ⟨rfl, B3⟩
set_option maxRecDepth 10000 in
set_option maxHeartbeats 2000000 in
theorem heldBoard_no (x : Int) (hx : decide (x < 0) = false) (w : World) :
    Calls Try.prog 12 #[bd0, .int .i64 x] w fun e w' => e = .returned (.int .i64 x) ∧ Below w.heap.size w w' := by
  obtain ⟨W0, hV0⟩ : ∃ V, w.alloc (.cells #[.slice none 0 0, .slice none 0 0, .slice none 0 0, .int .i64 0, .int .i64 1] 26) = V := ⟨_, rfl⟩
  have K0 : B5 26 W0 w.heap.size (.slice none 0 0) (.slice none 0 0) (.slice none 0 0) (.int .i64 0) (.int .i64 1) := by rw [← hV0]; exact B5.new _ _ _ _ _ _ _
  have B0 : Below w.heap.size w W0 := by rw [← hV0]; exact ba (Below.refl _ _) _
  have c0 := K0.c0
  go_enter Try.func12, Try.ntmps12
  go_wp2_with fail
  refine (heldSessionS_no none 0 x W0).mono ?_
  rintro e W1 ⟨rfl, hb⟩
  have K1 := K0.up hb
  have B1 := Below.on B0 hb
  clear K0 B0 hb hV0 c0
  have c1 := K1.c1
  go_wp2_with fail
  refine (heldPlanS_no none 0 x W1).mono ?_
  rintro e W2 ⟨rfl, hb⟩
  have K2 := K1.up hb
  have B2 := Below.on B1 hb
  clear K1 B1 hb c1
  have c2 := K2.c2
  go_wp2_with fail
  refine (heldRunS_no none 0 x W2).mono ?_
  rintro e W3 ⟨rfl, hb⟩
  have B3 := Below.on B2 hb
  clear K2 B2 hb c2
  go_wp2
  go_ret
  exact ⟨rfl, B3⟩
theorem bdA_none (w : World) : BdA w (.slice none 0 0) (.slice none 0 0) (.slice none 0 0) ⟨[], [], []⟩ := ⟨reads_none _ _ _, drow_none _ _ _, drow_none _ _ _⟩
theorem siz_none : SizB ⟨[], [], []⟩ := ⟨by simp, by simp, by simp, by simp, by simp⟩
set_option maxRecDepth 10000 in
set_option maxHeartbeats 4000000 in
theorem law_BoardNew (w : World) : Calls Try.prog 3 #[] w fun x w' => x = .returned (.bool true) ∧ Below w.heap.size w w' := by
  have HE : Hid (∀ W, Calls Try.prog 10 #[bd0, bd0] W fun e w' => e = .returned (.bool true) ∧ Below W.heap.size W w') := fun W => eqBoard_any none none none none none none 0 0 0 0 0 0 0 0 0 0 1 ⟨[], [], []⟩ W (bdA_none W) (bdA_none W) siz_none
  go_enter Try.func3, Try.ntmps3
  go_wp2_with fail
  refine (specBoardNew_any w).mono ?_
  rintro e W1 ⟨rfl, hb⟩
  have B1 := hb
  clear hb
  obtain ⟨W2, hW2⟩ : ∃ V, W1.alloc (.cells #[.slice none 0 0, .slice none 0 0, .slice none 0 0, .int .i64 0, .int .i64 1] 26) = V := ⟨_, rfl⟩
  have K2 : B5 26 W2 W1.heap.size (.slice none 0 0) (.slice none 0 0) (.slice none 0 0) (.int .i64 0) (.int .i64 1) := by rw [← hW2]; exact B5.new _ _ _ _ _ _ _
  have B2 : Below w.heap.size w W2 := by rw [← hW2]; exact ba B1 _
  go_wp2_with fail
  refine (implBoardNew_any W2).mono ?_
  rintro e W3 ⟨rfl, hb⟩
  have K3 := K2.up hb
  have B3 := Below.on B2 hb
  clear K2 B1 B2 hb hW2
  obtain ⟨W4, hW4⟩ : ∃ V, W3.alloc (.cells #[.slice none 0 0, .slice none 0 0, .slice none 0 0, .int .i64 0, .int .i64 1] 26) = V := ⟨_, rfl⟩
  have J4 : B5 26 W4 W3.heap.size (.slice none 0 0) (.slice none 0 0) (.slice none 0 0) (.int .i64 0) (.int .i64 1) := by rw [← hW4]; exact B5.new _ _ _ _ _ _ _
  have K4 := K3.up (show Below W3.heap.size W3 W4 by rw [← hW4]; exact ba (Below.refl _ _) _)
  have B4 : Below w.heap.size w W4 := by rw [← hW4]; exact ba B3 _
  have Jc0 := J4.c0
  have Jc1 := J4.c1
  have Jc2 := J4.c2
  have Jc3 := J4.c3
  have Jc4 := J4.c4
  have Kc0 := K4.c0
  have Kc1 := K4.c1
  have Kc2 := K4.c2
  have Kc3 := K4.c3
  have Kc4 := K4.c4
  go_wp2_with fail
  refine (HE.out W4).mono ?_
  rintro e W5 ⟨rfl, hb⟩
  have J5 := J4.up hb
  have K5 := K4.up hb
  have B5 := Below.on B4 hb
  clear Jc0 Jc1 Jc2 Jc3 Jc4 Kc0 Kc1 Kc2 Kc3 Kc4 J4 K4 B4 hb
  clear hW4
  have Jc0 := J5.c0
  have Jc1 := J5.c1
  have Jc2 := J5.c2
  have Jc3 := J5.c3
  have Jc4 := J5.c4
  go_wp2_with fail
  refine (markBoard_no 1 (by decide) W5).mono ?_
  rintro e W6 ⟨rfl, hb⟩
  have J6 := J5.up hb
  have K6 := K5.up hb
  have B6 := Below.on B5 hb
  clear Jc0 Jc1 Jc2 Jc3 Jc4 J5 K5 B5 hb
  have Jc0 := J6.c0
  have Jc1 := J6.c1
  have Jc2 := J6.c2
  have Jc3 := J6.c3
  have Jc4 := J6.c4
  go_wp2_with fail
  refine (heldBoard_no 1 (by decide) W6).mono ?_
  rintro e W7 ⟨rfl, hb⟩
  have J7 := J6.up hb
  have K7 := K6.up hb
  have B7 := Below.on B6 hb
  clear Jc0 Jc1 Jc2 Jc3 Jc4 J6 K6 B6 hb
  go_wp2_with fail
  refine (implBoardNew_any W7).mono ?_
  rintro e W8 ⟨rfl, hb⟩
  have J8 := J7.up hb
  have K8 := K7.up hb
  have B8 := Below.on B7 hb
  clear J7 K7 B7 hb
  obtain ⟨W9, hW9⟩ : ∃ V, W8.alloc (.cells #[.slice none 0 0, .slice none 0 0, .slice none 0 0, .int .i64 0, .int .i64 1] 26) = V := ⟨_, rfl⟩
  have M9 : B5 26 W9 W8.heap.size (.slice none 0 0) (.slice none 0 0) (.slice none 0 0) (.int .i64 0) (.int .i64 1) := by rw [← hW9]; exact B5.new _ _ _ _ _ _ _
  have hb : Below W8.heap.size W8 W9 := by rw [← hW9]; exact ba (Below.refl _ _) _
  have J9 := J8.up hb
  have K9 := K8.up hb
  have B9 := Below.on B8 hb
  clear J8 K8 B8 hb
  have Mc0 := M9.c0
  have Mc1 := M9.c1
  have Mc2 := M9.c2
  have Mc3 := M9.c3
  have Mc4 := M9.c4
  have Kc0 := K9.c0
  have Kc1 := K9.c1
  have Kc2 := K9.c2
  have Kc3 := K9.c3
  have Kc4 := K9.c4
  go_wp2_with fail
  refine (HE.out W9).mono ?_
  rintro e W10 ⟨rfl, hb⟩
  have J10 := J9.up hb
  have B10 := Below.on B9 hb
  clear Mc0 Mc1 Mc2 Mc3 Mc4 Kc0 Kc1 Kc2 Kc3 Kc4 J9 B9 hb
  clear hW9
  have Jc0 := J10.c0
  have Jc1 := J10.c1
  have Jc2 := J10.c2
  have Jc3 := J10.c3
  have Jc4 := J10.c4
  go_wp2_with fail
  refine (heldBoard_no 1 (by decide) W10).mono ?_
  rintro e W11 ⟨rfl, hb⟩
  have B11 := Below.on B10 hb
  clear Jc0 Jc1 Jc2 Jc3 Jc4  B10 hb
  go_wp2
  go_ret
  exact ⟨rfl, B11⟩
end Go.Proofs.Ytjmclcjhimcehaa
