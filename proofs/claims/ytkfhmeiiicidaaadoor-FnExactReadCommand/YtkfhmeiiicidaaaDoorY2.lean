/-
  Whether a command of Op 9 is right, as the program tells it: the walks. Whether a command is right, as the program tells it: all of it. A command in bytes, as the program writes it: the walk. What is read of a text, held against what would be written of it, by the program: the walks.
-/
import Derived.Test.YtkfhmeiiicidaaaDoorCok
import Derived.Test.YtkfhmeiiicidaaaDoorCok1
import Derived.Test.YtkfhmeiiicidaaaDoorCok2
import Derived.Test.YtkfhmeiiicidaaaDoorCok3
import Derived.Test.YtkfhmeiiicidaaaDoorCok4
import Derived.Test.YtkfhmeiiicidaaaDoorY1
import Derived.Test.YtkfhmeiiicidaaaDoorBwr
import Derived.Test.YtkfhmeiiicidaaaDoorCmx
import Derived.Test.YtkfhmeiiicidaaaDoorRdv
namespace Go.Proofs.YtkfhmeiiicidaaaDoor
open Go Go.RowKit

set_option maxRecDepth 10000 in
set_option maxHeartbeats 4000000 in
theorem icmd_9a (tok seq : Int) (text task : ByteArray) (num up : Int) (yes : Bool) (w : World) (_ht : text.size ≤ 9223372036854775807) (_hk : task.size ≤ 9223372036854775807) (h0 : decide (0 ≤ tok ∧ tok ≤ 1000000) = false)  :
    Calls Tryd.prog 17 #[.agg #[.int .i64 9, .int .i64 tok, .int .i64 seq, .string text, .string task, .int .i64 num, .int .i64 up, .bool yes]] w fun e w' => e = .returned (.bool (false)) ∧ Below w.heap.size w w' := by
  have H0 : Hid (∀ W, Calls Tryd.prog 31 #[.int .i64 tok, .int .i64 1000000] W fun e w' => e = .returned (.bool false) ∧ w' = W) := by intro W; have := upTo_any tok 1000000 W; rwa [h0] at this
  clear h0
  go_enter Tryd.func17, Tryd.ntmps17
  go_wp2_with (first | (go_at_call 31; with_reducible refine (H0.out _).mono ?_; rintro e w1 ⟨rfl, hw⟩; have hw2 := hw.symm; subst hw2))
  all_goals (go_ret; refine ⟨?_, ?_⟩)
  all_goals first | exact ba (ba (Below.refl _ _) _) _ | exact ((ba (ba (Below.refl _ _) _) _).set (by simp)) | exact ((Below.refl _ _).alloc (Nat.le_refl _) _).set (by simp) | rfl | (rw [restL]; simp [*]) | simp [*]

set_option maxRecDepth 10000 in
set_option maxHeartbeats 4000000 in
theorem icmd_9b (tok seq : Int) (text task : ByteArray) (num up : Int) (yes : Bool) (w : World) (_ht : text.size ≤ 9223372036854775807) (_hk : task.size ≤ 9223372036854775807) (h0 : decide (0 ≤ tok ∧ tok ≤ 1000000) = true) (h1 : decide (0 ≤ seq ∧ seq ≤ 1000000) = false)  :
    Calls Tryd.prog 17 #[.agg #[.int .i64 9, .int .i64 tok, .int .i64 seq, .string text, .string task, .int .i64 num, .int .i64 up, .bool yes]] w fun e w' => e = .returned (.bool (false)) ∧ Below w.heap.size w w' := by
  have H0 : Hid (∀ W, Calls Tryd.prog 31 #[.int .i64 tok, .int .i64 1000000] W fun e w' => e = .returned (.bool true) ∧ w' = W) := by intro W; have := upTo_any tok 1000000 W; rwa [h0] at this
  have H1 : Hid (∀ W, Calls Tryd.prog 31 #[.int .i64 seq, .int .i64 1000000] W fun e w' => e = .returned (.bool false) ∧ w' = W) := by intro W; have := upTo_any seq 1000000 W; rwa [h1] at this
  clear h0 h1
  go_enter Tryd.func17, Tryd.ntmps17
  go_wp2_with (first | (go_at_call 31; with_reducible refine (H0.out _).mono ?_; rintro e w1 ⟨rfl, hw⟩; have hw2 := hw.symm; subst hw2) | (go_at_call 31; with_reducible refine (H1.out _).mono ?_; rintro e w1 ⟨rfl, hw⟩; have hw2 := hw.symm; subst hw2))
  all_goals (go_ret; refine ⟨?_, ?_⟩)
  all_goals first | exact ba (ba (Below.refl _ _) _) _ | exact ((ba (ba (Below.refl _ _) _) _).set (by simp)) | exact ((Below.refl _ _).alloc (Nat.le_refl _) _).set (by simp) | rfl | (rw [restL]; simp [*]) | simp [*]

set_option maxRecDepth 10000 in
set_option maxHeartbeats 4000000 in
theorem icmd_9_0 (tok seq : Int) (text task : ByteArray) (num up : Int) (yes : Bool) (w : World) (_ht : text.size ≤ 9223372036854775807) (_hk : task.size ≤ 9223372036854775807) (h0 : decide (0 ≤ tok ∧ tok ≤ 1000000) = true) (h1 : decide (0 ≤ seq ∧ seq ≤ 1000000) = true) (h2 : nameB task = false)  :
    Calls Tryd.prog 17 #[.agg #[.int .i64 9, .int .i64 tok, .int .i64 seq, .string text, .string task, .int .i64 num, .int .i64 up, .bool yes]] w fun e w' => e = .returned (.bool (false)) ∧ Below w.heap.size w w' := by
  have H0 : Hid (∀ W, Calls Tryd.prog 31 #[.int .i64 tok, .int .i64 1000000] W fun e w' => e = .returned (.bool true) ∧ w' = W) := by intro W; have := upTo_any tok 1000000 W; rwa [h0] at this
  have H1 : Hid (∀ W, Calls Tryd.prog 31 #[.int .i64 seq, .int .i64 1000000] W fun e w' => e = .returned (.bool true) ∧ w' = W) := by intro W; have := upTo_any seq 1000000 W; rwa [h1] at this
  have H2 : Hid (∀ W, Calls Tryd.prog 32 #[.string task] W fun e w' => e = .returned (.bool false) ∧ Below W.heap.size W w') := by intro W; have := implName_any task W _hk; rwa [h2] at this
  clear h0 h1 h2
  go_enter Tryd.func17, Tryd.ntmps17
  go_wp2_with (first | (go_at_call 31; with_reducible refine (H0.out _).mono ?_; rintro e w1 ⟨rfl, hw⟩; have hw2 := hw.symm; subst hw2) | (go_at_call 31; with_reducible refine (H1.out _).mono ?_; rintro e w1 ⟨rfl, hw⟩; have hw2 := hw.symm; subst hw2) | (go_at_call 32; with_reducible refine (H2.out _).mono ?_; rintro e v2 ⟨rfl, hb2⟩; have kk2 := two8 hb2; have kx2 := kk2.1; have kr2 := kk2.2; have hv2 := below_new (below_new hb2); have r02 := (kr2).c0; have r12 := (kr2).c1; have r22 := (kr2).c2; have r32 := (kr2).c3; have r42 := (kr2).c4; have r52 := (kr2).c5; have r62 := (kr2).c6; have r72 := (kr2).c7; have g02 := (kx2).c0; have g12 := (kx2).c1; have g22 := (kx2).c2; have g32 := (kx2).c3; have g42 := (kx2).c4; have g52 := (kx2).c5; have g62 := (kx2).c6; have g72 := (kx2).c7; have f02 := (kr2).fz 0; have f12 := (kr2).fz 1; have f22 := (kr2).fz 2; have f32 := (kr2).fz 3; have f42 := (kr2).fz 4; have f52 := (kr2).fz 5; have f62 := (kr2).fz 6; have f72 := (kr2).fz 7; have hl2 := (kr2).lt; clear kk2))
  all_goals (go_ret; refine ⟨?_, ?_⟩)
  all_goals first | exact hv2 | ((repeat (first | exact hv2 | refine Below.setCell ?_ (by simp) _)); done) | exact ba (ba (Below.refl _ _) _) _ | exact ((ba (ba (Below.refl _ _) _) _).set (by simp)) | exact ((Below.refl _ _).alloc (Nat.le_refl _) _).set (by simp) | rfl | (rw [restL]; simp [*]) | simp [*]

set_option maxRecDepth 10000 in
set_option maxHeartbeats 4000000 in
theorem icmd_9_1 (tok seq : Int) (text task : ByteArray) (num up : Int) (yes : Bool) (w : World) (_ht : text.size ≤ 9223372036854775807) (_hk : task.size ≤ 9223372036854775807) (h0 : decide (0 ≤ tok ∧ tok ≤ 1000000) = true) (h1 : decide (0 ≤ seq ∧ seq ≤ 1000000) = true) (h2 : nameB task = true) (hu : ¬ up = 0) :
    Calls Tryd.prog 17 #[.agg #[.int .i64 9, .int .i64 tok, .int .i64 seq, .string text, .string task, .int .i64 num, .int .i64 up, .bool yes]] w fun e w' => e = .returned (.bool (false)) ∧ Below w.heap.size w w' := by
  have H0 : Hid (∀ W, Calls Tryd.prog 31 #[.int .i64 tok, .int .i64 1000000] W fun e w' => e = .returned (.bool true) ∧ w' = W) := by intro W; have := upTo_any tok 1000000 W; rwa [h0] at this
  have H1 : Hid (∀ W, Calls Tryd.prog 31 #[.int .i64 seq, .int .i64 1000000] W fun e w' => e = .returned (.bool true) ∧ w' = W) := by intro W; have := upTo_any seq 1000000 W; rwa [h1] at this
  have H2 : Hid (∀ W, Calls Tryd.prog 32 #[.string task] W fun e w' => e = .returned (.bool true) ∧ Below W.heap.size W w') := by intro W; have := implName_any task W _hk; rwa [h2] at this
  clear h0 h1 h2
  go_enter Tryd.func17, Tryd.ntmps17
  go_wp2_with (first | (go_at_call 31; with_reducible refine (H0.out _).mono ?_; rintro e w1 ⟨rfl, hw⟩; have hw2 := hw.symm; subst hw2) | (go_at_call 31; with_reducible refine (H1.out _).mono ?_; rintro e w1 ⟨rfl, hw⟩; have hw2 := hw.symm; subst hw2) | (go_at_call 32; with_reducible refine (H2.out _).mono ?_; rintro e v2 ⟨rfl, hb2⟩; have kk2 := two8 hb2; have kx2 := kk2.1; have kr2 := kk2.2; have hv2 := below_new (below_new hb2); have r02 := (kr2).c0; have r12 := (kr2).c1; have r22 := (kr2).c2; have r32 := (kr2).c3; have r42 := (kr2).c4; have r52 := (kr2).c5; have r62 := (kr2).c6; have r72 := (kr2).c7; have g02 := (kx2).c0; have g12 := (kx2).c1; have g22 := (kx2).c2; have g32 := (kx2).c3; have g42 := (kx2).c4; have g52 := (kx2).c5; have g62 := (kx2).c6; have g72 := (kx2).c7; have f02 := (kr2).fz 0; have f12 := (kr2).fz 1; have f22 := (kr2).fz 2; have f32 := (kr2).fz 3; have f42 := (kr2).fz 4; have f52 := (kr2).fz 5; have f62 := (kr2).fz 6; have f72 := (kr2).fz 7; have hl2 := (kr2).lt; clear kk2))
  all_goals (go_ret; refine ⟨?_, ?_⟩)
  all_goals first | exact hv2 | ((repeat (first | exact hv2 | refine Below.setCell ?_ (by simp) _)); done) | exact ba (ba (Below.refl _ _) _) _ | exact ((ba (ba (Below.refl _ _) _) _).set (by simp)) | exact ((Below.refl _ _).alloc (Nat.le_refl _) _).set (by simp) | rfl | (rw [restL]; simp [*]) | simp [*]

set_option maxRecDepth 10000 in
set_option maxHeartbeats 4000000 in
theorem icmd_9_2 (tok seq : Int) (text task : ByteArray) (num up : Int) (yes : Bool) (w : World) (_ht : text.size ≤ 9223372036854775807) (_hk : task.size ≤ 9223372036854775807) (h0 : decide (0 ≤ tok ∧ tok ≤ 1000000) = true) (h1 : decide (0 ≤ seq ∧ seq ≤ 1000000) = true) (h2 : nameB task = true) (h3 : nameB text = false) (hu : up = 0) :
    Calls Tryd.prog 17 #[.agg #[.int .i64 9, .int .i64 tok, .int .i64 seq, .string text, .string task, .int .i64 num, .int .i64 up, .bool yes]] w fun e w' => e = .returned (.bool (false)) ∧ Below w.heap.size w w' := by
  have H0 : Hid (∀ W, Calls Tryd.prog 31 #[.int .i64 tok, .int .i64 1000000] W fun e w' => e = .returned (.bool true) ∧ w' = W) := by intro W; have := upTo_any tok 1000000 W; rwa [h0] at this
  have H1 : Hid (∀ W, Calls Tryd.prog 31 #[.int .i64 seq, .int .i64 1000000] W fun e w' => e = .returned (.bool true) ∧ w' = W) := by intro W; have := upTo_any seq 1000000 W; rwa [h1] at this
  have H2 : Hid (∀ W, Calls Tryd.prog 32 #[.string task] W fun e w' => e = .returned (.bool true) ∧ Below W.heap.size W w') := by intro W; have := implName_any task W _hk; rwa [h2] at this
  have H3 : Hid (∀ W, Calls Tryd.prog 32 #[.string text] W fun e w' => e = .returned (.bool false) ∧ Below W.heap.size W w') := by intro W; have := implName_any text W _ht; rwa [h3] at this
  clear h0 h1 h2 h3
  subst hu
  go_enter Tryd.func17, Tryd.ntmps17
  go_wp2_with (first | (go_at_call 31; with_reducible refine (H0.out _).mono ?_; rintro e w1 ⟨rfl, hw⟩; have hw2 := hw.symm; subst hw2) | (go_at_call 31; with_reducible refine (H1.out _).mono ?_; rintro e w1 ⟨rfl, hw⟩; have hw2 := hw.symm; subst hw2) | (go_at_call 32; with_reducible refine (H2.out _).mono ?_; rintro e v2 ⟨rfl, hb2⟩; have kk2 := two8 hb2; have kx2 := kk2.1; have kr2 := kk2.2; have hv2 := below_new (below_new hb2); have r02 := (kr2).c0; have r12 := (kr2).c1; have r22 := (kr2).c2; have r32 := (kr2).c3; have r42 := (kr2).c4; have r52 := (kr2).c5; have r62 := (kr2).c6; have r72 := (kr2).c7; have g02 := (kx2).c0; have g12 := (kx2).c1; have g22 := (kx2).c2; have g32 := (kx2).c3; have g42 := (kx2).c4; have g52 := (kx2).c5; have g62 := (kx2).c6; have g72 := (kx2).c7; have f02 := (kr2).fz 0; have f12 := (kr2).fz 1; have f22 := (kr2).fz 2; have f32 := (kr2).fz 3; have f42 := (kr2).fz 4; have f52 := (kr2).fz 5; have f62 := (kr2).fz 6; have f72 := (kr2).fz 7; have hl2 := (kr2).lt; clear kk2) | (go_at_call 32; with_reducible refine (H3.out _).mono ?_; rintro e v3 ⟨rfl, hb3⟩; have kk3 := step8 kx2 kr2 hb3; have kx3 := kk3.1; have kr3 := kk3.2; have hv3 := set_below (n := 0) hv2 (by simp) hb3 rfl; have r03 := (kr3).c0; have r13 := (kr3).c1; have r23 := (kr3).c2; have r33 := (kr3).c3; have r43 := (kr3).c4; have r53 := (kr3).c5; have r63 := (kr3).c6; have r73 := (kr3).c7; have g03 := (kx3).c0; have g13 := (kx3).c1; have g23 := (kx3).c2; have g33 := (kx3).c3; have g43 := (kx3).c4; have g53 := (kx3).c5; have g63 := (kx3).c6; have g73 := (kx3).c7; have f03 := (kr3).fz 0; have f13 := (kr3).fz 1; have f23 := (kr3).fz 2; have f33 := (kr3).fz 3; have f43 := (kr3).fz 4; have f53 := (kr3).fz 5; have f63 := (kr3).fz 6; have f73 := (kr3).fz 7; have hl3 := (kr3).lt; clear kk3))
  all_goals (go_ret; refine ⟨?_, ?_⟩)
  all_goals first | exact hv2 | exact hv3 | ((repeat (first | exact hv2 | refine Below.setCell ?_ (by simp) _)); done) | ((repeat (first | exact hv3 | refine Below.setCell ?_ (by simp) _)); done) | exact ba (ba (Below.refl _ _) _) _ | exact ((ba (ba (Below.refl _ _) _) _).set (by simp)) | exact ((Below.refl _ _).alloc (Nat.le_refl _) _).set (by simp) | rfl | (rw [restL]; simp [*]) | simp [*]

set_option maxRecDepth 10000 in
set_option maxHeartbeats 4000000 in
theorem icmd_9_3 (tok seq : Int) (text task : ByteArray) (num up : Int) (yes : Bool) (w : World) (_ht : text.size ≤ 9223372036854775807) (_hk : task.size ≤ 9223372036854775807) (h0 : decide (0 ≤ tok ∧ tok ≤ 1000000) = true) (h1 : decide (0 ≤ seq ∧ seq ≤ 1000000) = true) (h2 : nameB task = true) (h3 : nameB text = true) (h5 : decide (0 ≤ num ∧ num ≤ 68374079) = false) (hu : up = 0) :
    Calls Tryd.prog 17 #[.agg #[.int .i64 9, .int .i64 tok, .int .i64 seq, .string text, .string task, .int .i64 num, .int .i64 up, .bool yes]] w fun e w' => e = .returned (.bool (false)) ∧ Below w.heap.size w w' := by
  have H0 : Hid (∀ W, Calls Tryd.prog 31 #[.int .i64 tok, .int .i64 1000000] W fun e w' => e = .returned (.bool true) ∧ w' = W) := by intro W; have := upTo_any tok 1000000 W; rwa [h0] at this
  have H1 : Hid (∀ W, Calls Tryd.prog 31 #[.int .i64 seq, .int .i64 1000000] W fun e w' => e = .returned (.bool true) ∧ w' = W) := by intro W; have := upTo_any seq 1000000 W; rwa [h1] at this
  have H2 : Hid (∀ W, Calls Tryd.prog 32 #[.string task] W fun e w' => e = .returned (.bool true) ∧ Below W.heap.size W w') := by intro W; have := implName_any task W _hk; rwa [h2] at this
  have H3 : Hid (∀ W, Calls Tryd.prog 32 #[.string text] W fun e w' => e = .returned (.bool true) ∧ Below W.heap.size W w') := by intro W; have := implName_any text W _ht; rwa [h3] at this
  have H4 : Hid (∀ W, Calls Tryd.prog 33 #[.int .i64 0] W fun e w' => e = .returned (.bool true) ∧ w' = W) := by intro W; have := isMinC_any 0 W; rwa [show decide ((0:Int) ≤ 0 ∧ (0:Int) ≤ 68374079) = true by decide] at this
  have H5 : Hid (∀ W, Calls Tryd.prog 33 #[.int .i64 num] W fun e w' => e = .returned (.bool false) ∧ w' = W) := by intro W; have := isMinC_any num W; rwa [h5] at this
  clear h0 h1 h2 h3 h5
  subst hu
  go_enter Tryd.func17, Tryd.ntmps17
  go_wp2_with (first | (go_at_call 31; with_reducible refine (H0.out _).mono ?_; rintro e w1 ⟨rfl, hw⟩; have hw2 := hw.symm; subst hw2) | (go_at_call 31; with_reducible refine (H1.out _).mono ?_; rintro e w1 ⟨rfl, hw⟩; have hw2 := hw.symm; subst hw2) | (go_at_call 32; with_reducible refine (H2.out _).mono ?_; rintro e v2 ⟨rfl, hb2⟩; have kk2 := two8 hb2; have kx2 := kk2.1; have kr2 := kk2.2; have hv2 := below_new (below_new hb2); have r02 := (kr2).c0; have r12 := (kr2).c1; have r22 := (kr2).c2; have r32 := (kr2).c3; have r42 := (kr2).c4; have r52 := (kr2).c5; have r62 := (kr2).c6; have r72 := (kr2).c7; have g02 := (kx2).c0; have g12 := (kx2).c1; have g22 := (kx2).c2; have g32 := (kx2).c3; have g42 := (kx2).c4; have g52 := (kx2).c5; have g62 := (kx2).c6; have g72 := (kx2).c7; have f02 := (kr2).fz 0; have f12 := (kr2).fz 1; have f22 := (kr2).fz 2; have f32 := (kr2).fz 3; have f42 := (kr2).fz 4; have f52 := (kr2).fz 5; have f62 := (kr2).fz 6; have f72 := (kr2).fz 7; have hl2 := (kr2).lt; clear kk2) | (go_at_call 32; with_reducible refine (H3.out _).mono ?_; rintro e v3 ⟨rfl, hb3⟩; have kk3 := step8 kx2 kr2 hb3; have kx3 := kk3.1; have kr3 := kk3.2; have hv3 := set_below (n := 0) hv2 (by simp) hb3 rfl; have r03 := (kr3).c0; have r13 := (kr3).c1; have r23 := (kr3).c2; have r33 := (kr3).c3; have r43 := (kr3).c4; have r53 := (kr3).c5; have r63 := (kr3).c6; have r73 := (kr3).c7; have g03 := (kx3).c0; have g13 := (kx3).c1; have g23 := (kx3).c2; have g33 := (kx3).c3; have g43 := (kx3).c4; have g53 := (kx3).c5; have g63 := (kx3).c6; have g73 := (kx3).c7; have f03 := (kr3).fz 0; have f13 := (kr3).fz 1; have f23 := (kr3).fz 2; have f33 := (kr3).fz 3; have f43 := (kr3).fz 4; have f53 := (kr3).fz 5; have f63 := (kr3).fz 6; have f73 := (kr3).fz 7; have hl3 := (kr3).lt; clear kk3) | (go_at_call 33; with_reducible refine (H4.out _).mono ?_; rintro e w1 ⟨rfl, hw⟩; have hw2 := hw.symm; subst hw2) | (go_at_call 33; with_reducible refine (H5.out _).mono ?_; rintro e w1 ⟨rfl, hw⟩; have hw2 := hw.symm; subst hw2))
  all_goals (go_ret; refine ⟨?_, ?_⟩)
  all_goals first | exact hv2 | exact hv3 | ((repeat (first | exact hv2 | refine Below.setCell ?_ (by simp) _)); done) | ((repeat (first | exact hv3 | refine Below.setCell ?_ (by simp) _)); done) | exact ba (ba (Below.refl _ _) _) _ | exact ((ba (ba (Below.refl _ _) _) _).set (by simp)) | exact ((Below.refl _ _).alloc (Nat.le_refl _) _).set (by simp) | rfl | (rw [restL]; simp [*]) | simp [*]

set_option maxRecDepth 10000 in
set_option maxHeartbeats 4000000 in
theorem icmd_9 (tok seq : Int) (text task : ByteArray) (num up : Int) (yes : Bool) (w : World) (_ht : text.size ≤ 9223372036854775807) (_hk : task.size ≤ 9223372036854775807) (h0 : decide (0 ≤ tok ∧ tok ≤ 1000000) = true) (h1 : decide (0 ≤ seq ∧ seq ≤ 1000000) = true) (h2 : nameB task = true) (h3 : nameB text = true) (h5 : decide (0 ≤ num ∧ num ≤ 68374079) = true) (hu : up = 0) :
    Calls Tryd.prog 17 #[.agg #[.int .i64 9, .int .i64 tok, .int .i64 seq, .string text, .string task, .int .i64 num, .int .i64 up, .bool yes]] w fun e w' => e = .returned (.bool (restB true true true false false text task num up yes)) ∧ Below w.heap.size w w' := by
  have H0 : Hid (∀ W, Calls Tryd.prog 31 #[.int .i64 tok, .int .i64 1000000] W fun e w' => e = .returned (.bool true) ∧ w' = W) := by intro W; have := upTo_any tok 1000000 W; rwa [h0] at this
  have H1 : Hid (∀ W, Calls Tryd.prog 31 #[.int .i64 seq, .int .i64 1000000] W fun e w' => e = .returned (.bool true) ∧ w' = W) := by intro W; have := upTo_any seq 1000000 W; rwa [h1] at this
  have H2 : Hid (∀ W, Calls Tryd.prog 32 #[.string task] W fun e w' => e = .returned (.bool true) ∧ Below W.heap.size W w') := by intro W; have := implName_any task W _hk; rwa [h2] at this
  have H3 : Hid (∀ W, Calls Tryd.prog 32 #[.string text] W fun e w' => e = .returned (.bool true) ∧ Below W.heap.size W w') := by intro W; have := implName_any text W _ht; rwa [h3] at this
  have H4 : Hid (∀ W, Calls Tryd.prog 33 #[.int .i64 0] W fun e w' => e = .returned (.bool true) ∧ w' = W) := by intro W; have := isMinC_any 0 W; rwa [show decide ((0:Int) ≤ 0 ∧ (0:Int) ≤ 68374079) = true by decide] at this
  have H5 : Hid (∀ W, Calls Tryd.prog 33 #[.int .i64 num] W fun e w' => e = .returned (.bool true) ∧ w' = W) := by intro W; have := isMinC_any num W; rwa [h5] at this
  clear h0 h1 h2 h3 h5
  subst hu
  go_enter Tryd.func17, Tryd.ntmps17
  go_wp2_with (first | (go_at_call 31; with_reducible refine (H0.out _).mono ?_; rintro e w1 ⟨rfl, hw⟩; have hw2 := hw.symm; subst hw2) | (go_at_call 31; with_reducible refine (H1.out _).mono ?_; rintro e w1 ⟨rfl, hw⟩; have hw2 := hw.symm; subst hw2) | (go_at_call 32; with_reducible refine (H2.out _).mono ?_; rintro e v2 ⟨rfl, hb2⟩; have kk2 := two8 hb2; have kx2 := kk2.1; have kr2 := kk2.2; have hv2 := below_new (below_new hb2); have r02 := (kr2).c0; have r12 := (kr2).c1; have r22 := (kr2).c2; have r32 := (kr2).c3; have r42 := (kr2).c4; have r52 := (kr2).c5; have r62 := (kr2).c6; have r72 := (kr2).c7; have g02 := (kx2).c0; have g12 := (kx2).c1; have g22 := (kx2).c2; have g32 := (kx2).c3; have g42 := (kx2).c4; have g52 := (kx2).c5; have g62 := (kx2).c6; have g72 := (kx2).c7; have f02 := (kr2).fz 0; have f12 := (kr2).fz 1; have f22 := (kr2).fz 2; have f32 := (kr2).fz 3; have f42 := (kr2).fz 4; have f52 := (kr2).fz 5; have f62 := (kr2).fz 6; have f72 := (kr2).fz 7; have hl2 := (kr2).lt; clear kk2) | (go_at_call 32; with_reducible refine (H3.out _).mono ?_; rintro e v3 ⟨rfl, hb3⟩; have kk3 := step8 kx2 kr2 hb3; have kx3 := kk3.1; have kr3 := kk3.2; have hv3 := set_below (n := 0) hv2 (by simp) hb3 rfl; have r03 := (kr3).c0; have r13 := (kr3).c1; have r23 := (kr3).c2; have r33 := (kr3).c3; have r43 := (kr3).c4; have r53 := (kr3).c5; have r63 := (kr3).c6; have r73 := (kr3).c7; have g03 := (kx3).c0; have g13 := (kx3).c1; have g23 := (kx3).c2; have g33 := (kx3).c3; have g43 := (kx3).c4; have g53 := (kx3).c5; have g63 := (kx3).c6; have g73 := (kx3).c7; have f03 := (kr3).fz 0; have f13 := (kr3).fz 1; have f23 := (kr3).fz 2; have f33 := (kr3).fz 3; have f43 := (kr3).fz 4; have f53 := (kr3).fz 5; have f63 := (kr3).fz 6; have f73 := (kr3).fz 7; have hl3 := (kr3).lt; clear kk3) | (go_at_call 33; with_reducible refine (H4.out _).mono ?_; rintro e w1 ⟨rfl, hw⟩; have hw2 := hw.symm; subst hw2) | (go_at_call 33; with_reducible refine (H5.out _).mono ?_; rintro e w1 ⟨rfl, hw⟩; have hw2 := hw.symm; subst hw2))
  all_goals (go_ret; refine ⟨?_, ?_⟩)
  all_goals first | exact hv2 | exact hv3 | ((repeat (first | exact hv2 | refine Below.setCell ?_ (by simp) _)); done) | ((repeat (first | exact hv3 | refine Below.setCell ?_ (by simp) _)); done) | exact ba (ba (Below.refl _ _) _) _ | exact ((ba (ba (Below.refl _ _) _) _).set (by simp)) | exact ((Below.refl _ _).alloc (Nat.le_refl _) _).set (by simp) | rfl | (rw [restL]; simp [*]) | simp [*]
end Go.Proofs.YtkfhmeiiicidaaaDoor

namespace Go.Proofs.YtkfhmeiiicidaaaDoor
open Go Go.RowKit

set_option maxRecDepth 10000 in
set_option maxHeartbeats 4000000 in
theorem icmd_none (op tok seq : Int) (text task : ByteArray) (num up : Int) (yes : Bool) (w : World) (e1 : ¬ op = 1) (e2 : ¬ op = 2) (e3 : ¬ op = 3) (e4 : ¬ op = 4) (e5 : ¬ op = 5) (e6 : ¬ op = 6) (e7 : ¬ op = 7) (e8 : ¬ op = 8) (e9 : ¬ op = 9) :
    Calls Tryd.prog 17 #[.agg #[.int .i64 op, .int .i64 tok, .int .i64 seq, .string text, .string task, .int .i64 num, .int .i64 up, .bool yes]] w fun e w' => e = .returned (.bool false) ∧ Below w.heap.size w w' := by
  have d1 : (op == 1) = false := beq_eq_false_iff_ne.2 e1
  have d2 : (op == 2) = false := beq_eq_false_iff_ne.2 e2
  have d3 : (op == 3) = false := beq_eq_false_iff_ne.2 e3
  have d4 : (op == 4) = false := beq_eq_false_iff_ne.2 e4
  have d5 : (op == 5) = false := beq_eq_false_iff_ne.2 e5
  have d6 : (op == 6) = false := beq_eq_false_iff_ne.2 e6
  have d7 : (op == 7) = false := beq_eq_false_iff_ne.2 e7
  have d8 : (op == 8) = false := beq_eq_false_iff_ne.2 e8
  have d9 : (op == 9) = false := beq_eq_false_iff_ne.2 e9
  have H0 : Hid (∀ W, Calls Tryd.prog 31 #[.int .i64 tok, .int .i64 1000000] W fun e w' => e = .returned (.bool (decide (0 ≤ tok ∧ tok ≤ 1000000))) ∧ w' = W) := fun W => upTo_any tok 1000000 W
  have H1 : Hid (∀ W, Calls Tryd.prog 31 #[.int .i64 seq, .int .i64 1000000] W fun e w' => e = .returned (.bool (decide (0 ≤ seq ∧ seq ≤ 1000000))) ∧ w' = W) := fun W => upTo_any seq 1000000 W
  generalize decide (0 ≤ tok ∧ tok ≤ 1000000) = b0 at H0
  generalize decide (0 ≤ seq ∧ seq ≤ 1000000) = b1 at H1
  clear e1 e2 e3 e4 e5 e6 e7 e8 e9
  cases b0 <;>
  · go_enter Tryd.func17, Tryd.ntmps17
    go_wp2_with (first | (go_at_call 31; with_reducible refine (H0.out _).mono ?_; rintro e w1 ⟨rfl, hw⟩; have hw2 := hw.symm; subst hw2) | (go_at_call 31; with_reducible refine (H1.out _).mono ?_; rintro e w1 ⟨rfl, hw⟩; have hw2 := hw.symm; subst hw2))
    go_ret
    exact ⟨rfl, ba (ba (Below.refl _ _) _) _⟩

theorem implCommand_any (op tok seq : Int) (text task : ByteArray) (num up : Int) (yes : Bool) (w : World) (ht : text.size ≤ 9223372036854775807) (hk : task.size ≤ 9223372036854775807) :
    Calls Tryd.prog 17 #[.agg #[.int .i64 op, .int .i64 tok, .int .i64 seq, .string text, .string task, .int .i64 num, .int .i64 up, .bool yes]] w fun e w' => e = .returned (.bool (cmdB op tok seq text task num up yes)) ∧ Below w.heap.size w w' := by
  unfold cmdB opB
  by_cases e1 : op = 1
  · subst e1
    cases h0 : decide (0 ≤ tok ∧ tok ≤ 1000000)
    · rw [Bool.false_and]; exact icmd_1a tok seq text task num up yes w ht hk h0 (by rintro rfl; simp at h0)
    rw [Bool.true_and]
    cases h1 : decide (0 ≤ seq ∧ seq ≤ 1000000)
    · rw [Bool.false_and]; exact icmd_1b tok seq text task num up yes w ht hk h0 h1 (by rintro rfl; simp at h1)
    rw [Bool.true_and]
    rw [if_pos rfl]
    exact icmd_1 tok seq text task num up yes w ht hk h0 h1
  by_cases e2 : op = 2
  · subst e2
    cases h0 : decide (0 ≤ tok ∧ tok ≤ 1000000)
    · rw [Bool.false_and]; exact icmd_2a tok seq text task num up yes w ht hk h0
    rw [Bool.true_and]
    cases h1 : decide (0 ≤ seq ∧ seq ≤ 1000000)
    · rw [Bool.false_and]; exact icmd_2b tok seq text task num up yes w ht hk h0 h1
    rw [Bool.true_and]
    rw [if_neg (by decide)]
    rw [if_pos rfl]
    by_cases hz : text.size ≤ 600
    · rw [decide_eq_true hz, Bool.true_and]; exact icmd_2 tok seq text task num up yes w ht hk h0 h1 hz
    · rw [decide_eq_false hz, Bool.false_and]; exact icmd_2_0 tok seq text task num up yes w ht hk h0 h1 hz
  by_cases e3 : op = 3
  · subst e3
    cases h0 : decide (0 ≤ tok ∧ tok ≤ 1000000)
    · rw [Bool.false_and]; exact icmd_3a tok seq text task num up yes w ht hk h0
    rw [Bool.true_and]
    cases h1 : decide (0 ≤ seq ∧ seq ≤ 1000000)
    · rw [Bool.false_and]; exact icmd_3b tok seq text task num up yes w ht hk h0 h1
    rw [Bool.true_and]
    rw [if_neg (by decide)]
    rw [if_neg (by decide)]
    rw [if_pos rfl]
    cases h2 : nameB text
    · rw [Bool.false_and]; exact icmd_3_0 tok seq text task num up yes w ht hk h0 h1 h2
    rw [Bool.true_and]
    exact icmd_3 tok seq text task num up yes w ht hk h0 h1 h2
  by_cases e4 : op = 4
  · subst e4
    cases h0 : decide (0 ≤ tok ∧ tok ≤ 1000000)
    · rw [Bool.false_and]; exact icmd_4a tok seq text task num up yes w ht hk h0
    rw [Bool.true_and]
    cases h1 : decide (0 ≤ seq ∧ seq ≤ 1000000)
    · rw [Bool.false_and]; exact icmd_4b tok seq text task num up yes w ht hk h0 h1
    rw [Bool.true_and]
    rw [if_neg (by decide)]
    rw [if_neg (by decide)]
    rw [if_neg (by decide)]
    rw [if_pos rfl]
    cases h2 : decide (0 ≤ num ∧ num ≤ 68374079)
    · rw [Bool.false_and]; exact icmd_4_0 tok seq text task num up yes w ht hk h0 h1 h2
    rw [Bool.true_and]
    exact icmd_4 tok seq text task num up yes w ht hk h0 h1 h2
  by_cases e5 : op = 5
  · subst e5
    cases h0 : decide (0 ≤ tok ∧ tok ≤ 1000000)
    · rw [Bool.false_and]; exact icmd_5a tok seq text task num up yes w ht hk h0
    rw [Bool.true_and]
    cases h1 : decide (0 ≤ seq ∧ seq ≤ 1000000)
    · rw [Bool.false_and]; exact icmd_5b tok seq text task num up yes w ht hk h0 h1
    rw [Bool.true_and]
    rw [if_neg (by decide)]
    rw [if_neg (by decide)]
    rw [if_neg (by decide)]
    rw [if_neg (by decide)]
    rw [if_pos rfl]
    exact icmd_5 tok seq text task num up yes w ht hk h0 h1
  by_cases e6 : op = 6
  · subst e6
    cases h0 : decide (0 ≤ tok ∧ tok ≤ 1000000)
    · rw [Bool.false_and]; exact icmd_6a tok seq text task num up yes w ht hk h0
    rw [Bool.true_and]
    cases h1 : decide (0 ≤ seq ∧ seq ≤ 1000000)
    · rw [Bool.false_and]; exact icmd_6b tok seq text task num up yes w ht hk h0 h1
    rw [Bool.true_and]
    rw [if_neg (by decide)]
    rw [if_neg (by decide)]
    rw [if_neg (by decide)]
    rw [if_neg (by decide)]
    rw [if_neg (by decide)]
    rw [if_pos rfl]
    cases h2 : decide (0 ≤ num ∧ num ≤ 1000000000)
    · rw [Bool.false_and]; exact icmd_6_0 tok seq text task num up yes w ht hk h0 h1 h2
    rw [Bool.true_and]
    exact icmd_6 tok seq text task num up yes w ht hk h0 h1 h2
  by_cases e7 : op = 7
  · subst e7
    cases h0 : decide (0 ≤ tok ∧ tok ≤ 1000000)
    · rw [Bool.false_and]; exact icmd_7a tok seq text task num up yes w ht hk h0
    rw [Bool.true_and]
    cases h1 : decide (0 ≤ seq ∧ seq ≤ 1000000)
    · rw [Bool.false_and]; exact icmd_7b tok seq text task num up yes w ht hk h0 h1
    rw [Bool.true_and]
    rw [if_neg (by decide)]
    rw [if_neg (by decide)]
    rw [if_neg (by decide)]
    rw [if_neg (by decide)]
    rw [if_neg (by decide)]
    rw [if_neg (by decide)]
    rw [if_pos rfl]
    cases h2 : decide (0 ≤ num ∧ num ≤ 1000000000)
    · rw [Bool.false_and]; exact icmd_7_0 tok seq text task num up yes w ht hk h0 h1 h2
    rw [Bool.true_and]
    exact icmd_7 tok seq text task num up yes w ht hk h0 h1 h2
  by_cases e8 : op = 8
  · subst e8
    cases h0 : decide (0 ≤ tok ∧ tok ≤ 1000000)
    · rw [Bool.false_and]; exact icmd_8a tok seq text task num up yes w ht hk h0
    rw [Bool.true_and]
    cases h1 : decide (0 ≤ seq ∧ seq ≤ 1000000)
    · rw [Bool.false_and]; exact icmd_8b tok seq text task num up yes w ht hk h0 h1
    rw [Bool.true_and]
    rw [if_neg (by decide)]
    rw [if_neg (by decide)]
    rw [if_neg (by decide)]
    rw [if_neg (by decide)]
    rw [if_neg (by decide)]
    rw [if_neg (by decide)]
    rw [if_neg (by decide)]
    rw [if_pos rfl]
    cases h2 : nameB text
    · rw [Bool.false_and]; exact icmd_8_0 tok seq text task num up yes w ht hk h0 h1 h2
    rw [Bool.true_and]
    cases h3 : decide (0 ≤ up ∧ up ≤ 68374079)
    · rw [Bool.false_and, Bool.and_false]; exact icmd_8_1 tok seq text task num up yes w ht hk h0 h1 h2 h3
    rw [Bool.true_and]
    cases h4 : decide (0 ≤ num ∧ num ≤ 68374079)
    · rw [Bool.false_and]; exact icmd_8_2 tok seq text task num up yes w ht hk h0 h1 h2 h3 h4
    rw [Bool.true_and]
    exact icmd_8 tok seq text task num up yes w ht hk h0 h1 h2 h3 h4
  by_cases e9 : op = 9
  · subst e9
    cases h0 : decide (0 ≤ tok ∧ tok ≤ 1000000)
    · rw [Bool.false_and]; exact icmd_9a tok seq text task num up yes w ht hk h0
    rw [Bool.true_and]
    cases h1 : decide (0 ≤ seq ∧ seq ≤ 1000000)
    · rw [Bool.false_and]; exact icmd_9b tok seq text task num up yes w ht hk h0 h1
    rw [Bool.true_and]
    rw [if_neg (by decide)]
    rw [if_neg (by decide)]
    rw [if_neg (by decide)]
    rw [if_neg (by decide)]
    rw [if_neg (by decide)]
    rw [if_neg (by decide)]
    rw [if_neg (by decide)]
    rw [if_neg (by decide)]
    rw [if_pos rfl]
    cases h3 : nameB text
    · rw [Bool.false_and]
      cases h2 : nameB task
      · exact icmd_9_0 tok seq text task num up yes w ht hk h0 h1 h2
      by_cases hu : up = 0
      · exact icmd_9_2 tok seq text task num up yes w ht hk h0 h1 h2 h3 hu
      · exact icmd_9_1 tok seq text task num up yes w ht hk h0 h1 h2 hu
    rw [Bool.true_and]
    cases h2 : nameB task
    · rw [Bool.false_and]; exact icmd_9_0 tok seq text task num up yes w ht hk h0 h1 h2
    rw [Bool.true_and]
    by_cases hu : up = 0
    · cases h5 : decide (0 ≤ num ∧ num ≤ 68374079)
      · rw [Bool.false_and]; exact icmd_9_3 tok seq text task num up yes w ht hk h0 h1 h2 h3 h5 hu
      · rw [Bool.true_and]; exact icmd_9 tok seq text task num up yes w ht hk h0 h1 h2 h3 h5 hu
    · have e : restB true true true false false text task num up yes = false := by unfold restB; rw [decide_eq_false hu]; simp
      rw [e, Bool.and_false]; exact icmd_9_1 tok seq text task num up yes w ht hk h0 h1 h2 hu
  rw [if_neg e1]
  rw [if_neg e2]
  rw [if_neg e3]
  rw [if_neg e4]
  rw [if_neg e5]
  rw [if_neg e6]
  rw [if_neg e7]
  rw [if_neg e8]
  rw [if_neg e9]
  rw [Bool.and_false, Bool.and_false]
  exact icmd_none op tok seq text task num up yes w e1 e2 e3 e4 e5 e6 e7 e8 e9
end Go.Proofs.YtkfhmeiiicidaaaDoor

namespace Go.Proofs.YtkfhmeiiicidaaaDoor
open Go Go.RowKit
set_option linter.unusedVariables false

theorem writerString_any (b : Nat) (s : ByteArray) (w : World) (h : Wb b s w) : Calls Tryd.prog 22 #[.pointer (some ⟨b, 0, none⟩)] w fun e w' => e = .returned (.string s) ∧ Wk b w w' := by
  refine (Tryd.Buffer_String_at 44 (fun _ => none) b b 0 s.data.toList w h).mono ?_
  rintro e w' ⟨rfl, n, rfl⟩
  refine ⟨by simp, ⟨rfl, rfl, rfl, Nat.le_refl _, fun _ _ => rfl⟩, fun _ _ h _ _ => h⟩
/-- A command in a block. -/
def Cb (W : World) (p : Nat) (op tok seq : Int) (text task : ByteArray) (num up : Int) (yes : Bool) : Prop := W.heap[p]? = some (.cells #[.int .i64 op, .int .i64 tok, .int .i64 seq, .string text, .string task, .int .i64 num, .int .i64 up, .bool yes] 27)
section
variable {W W' : World} {p b : Nat} {op tok seq : Int} {text task : ByteArray} {num up : Int} {yes : Bool}
theorem Cb.lt (h : Cb W p op tok seq text task num up yes) : p < W.heap.size := (Array.getElem?_eq_some_iff.1 h).1
theorem Cb.on (h : Cb W p op tok seq text task num up yes) (hb : Below b W W') (hp : p < b) : Cb W' p op tok seq text task num up yes := (hb.block p hp).trans h
theorem Cb.c0 (h : Cb W p op tok seq text task num up yes) : W.cell? ⟨p, 0, none⟩ = some (.int .i64 op) := by simp [World.cell?, show W.heap[p]? = _ from h]
theorem Cb.c1 (h : Cb W p op tok seq text task num up yes) : W.cell? ⟨p, 1, none⟩ = some (.int .i64 tok) := by simp [World.cell?, show W.heap[p]? = _ from h]
theorem Cb.c2 (h : Cb W p op tok seq text task num up yes) : W.cell? ⟨p, 2, none⟩ = some (.int .i64 seq) := by simp [World.cell?, show W.heap[p]? = _ from h]
theorem Cb.c3 (h : Cb W p op tok seq text task num up yes) : W.cell? ⟨p, 3, none⟩ = some (.string text) := by simp [World.cell?, show W.heap[p]? = _ from h]
theorem Cb.c4 (h : Cb W p op tok seq text task num up yes) : W.cell? ⟨p, 4, none⟩ = some (.string task) := by simp [World.cell?, show W.heap[p]? = _ from h]
theorem Cb.c5 (h : Cb W p op tok seq text task num up yes) : W.cell? ⟨p, 5, none⟩ = some (.int .i64 num) := by simp [World.cell?, show W.heap[p]? = _ from h]
theorem Cb.c6 (h : Cb W p op tok seq text task num up yes) : W.cell? ⟨p, 6, none⟩ = some (.int .i64 up) := by simp [World.cell?, show W.heap[p]? = _ from h]
theorem Cb.c7 (h : Cb W p op tok seq text task num up yes) : W.cell? ⟨p, 7, none⟩ = some (.bool yes) := by simp [World.cell?, show W.heap[p]? = _ from h]
end
theorem heap_push (W : World) (o : Obj) : (W.alloc o).heap[W.heap.size]? = some o := by show (W.heap.push _)[W.heap.size]? = _; rw [Array.getElem?_push, if_pos rfl]
theorem below_low {B b : Nat} {v w W : World} (h : Below B v w) (k : Below b w W) (hb : B ≤ b) : Below B v W := ⟨k.os.trans h.os, k.tape.trans h.tape, k.output.trans h.output, Nat.le_trans h.size k.size, fun q hq => (k.block q (by omega)).trans (h.block q hq)⟩
set_option maxRecDepth 10000 in
set_option maxHeartbeats 4000000 in
theorem implText_any (op tok seq : Int) (text task : ByteArray) (num up : Int) (yes : Bool) (w : World) (ht : text.size ≤ 9223372036854775807) (hk : task.size ≤ 9223372036854775807) :
    Calls Tryd.prog 8 #[.agg #[.int .i64 op, .int .i64 tok, .int .i64 seq, .string text, .string task, .int .i64 num, .int .i64 up, .bool yes]] w fun e w' => e = .returned (.tuple #[.string (cmtX op tok seq text task num up yes), .bool (cmdB op tok seq text task num up yes)]) ∧ Below w.heap.size w w' := by
  have HC : Hid (∀ w, Calls Tryd.prog 17 #[.agg #[.int .i64 op, .int .i64 tok, .int .i64 seq, .string text, .string task, .int .i64 num, .int .i64 up, .bool yes]] w fun e w' => e = .returned (.bool (cmdB op tok seq text task num up yes)) ∧ Below w.heap.size w w') := fun w => implCommand_any op tok seq text task num up yes w ht hk
  clear ht hk
  obtain ⟨W0, HW0⟩ : ∃ W, Hid (w.alloc (.cells #[.int .i64 op, .int .i64 tok, .int .i64 seq, .string text, .string task, .int .i64 num, .int .i64 up, .bool yes] 27) = W) := ⟨_, rfl⟩
  have X0 : Hid (Cb W0 w.heap.size op tok seq text task num up yes) := by rw [← HW0.out]; exact heap_push _ _
  have B0 : Below w.heap.size w W0 := by rw [← HW0.out]; exact ba (Below.refl _ _) _
  cases hq : cmdB op tok seq text task num up yes with
  | false =>
    have HX : Hid (cmtX op tok seq text task num up yes = ⟨#[]⟩) := by show cmtX op tok seq text task num up yes = _; unfold cmtX; rw [hq]; rfl
    rw [hq] at HC
    rw [HX.out]
    clear hq HX
    go_enter Tryd.func8, Tryd.ntmps8
    go_wp2_with fail
    rw [HW0.out]
    refine (HC.out _).mono ?_
    rintro x w1 ⟨rfl, hb1⟩
    go_wp2
    go_ret2
    exact ⟨rfl, Below.on B0 hb1⟩
  | true =>
    have HX : Hid (cmtX op tok seq text task num up yes = cmtS op tok seq text task num up yes) := by show cmtX op tok seq text task num up yes = _; unfold cmtX; rw [hq]; rfl
    have HFI := cmd_fine hq
    rw [hq] at HC
    rw [HX.out]
    have HF : Hid (1 ≤ op ∧ op ≤ 9 ∧ 0 ≤ tok ∧ tok ≤ 1000000 ∧ 0 ≤ seq ∧ seq ≤ 1000000 ∧ text.size ≤ 600 ∧ task.size ≤ 8 ∧ 0 ≤ num ∧ num ≤ 1000000000 ∧ 0 ≤ up ∧ up ≤ 1000000000) := by
      obtain ⟨o0, o1, t0, t1, s0, s1, x0, k0, n0, n1, u0, u1⟩ := HFI
      exact ⟨o0, o1, t0, t1, s0, s1, x0, k0, n0, by omega, u0, by omega⟩
    have HSZ : Hid (ByteArray.empty.size = 0 ∧ (bstr [op]).size = 1 ∧ (numS [tok, seq]).size ≤ 2 * 1000000001 ∧ (shoS [text, task]).size ≤ 2 * 40001 ∧ (numS [num, up]).size ≤ 2 * 1000000001) := by
      have h := HF.out
      refine ⟨rfl, by rw [bstr_size']; rfl, numS_size [tok, seq] ?_, shoS_size [text, task] ?_, numS_size [num, up] ?_⟩
      all_goals
        intro n hn
        simp only [List.mem_cons, List.not_mem_nil, or_false] at hn
        rcases hn with rfl | rfl <;> omega
    clear hq HX HFI
    go_enter Tryd.func8, Tryd.ntmps8
    go_wp2_with fail
    rw [HW0.out]
    refine (HC.out _).mono ?_
    rintro x w1 ⟨rfl, hb1⟩
    have B1 := Below.on B0 hb1
    have X1 : Hid (Cb w1 w.heap.size op tok seq text task num up yes) := X0.out.on hb1 X0.out.lt
    have hl1 : w.heap.size < w1.heap.size := X1.out.lt
    clear B0 hb1 X0 HC HW0
    obtain ⟨w2, HV2⟩ : ∃ W, Hid (w1.alloc (.cells #[.slice none 0 0, .int .i64 0, .int .i8 0] 44) = W) := ⟨_, rfl⟩
    have Y2 : Hid (Wb w1.heap.size ByteArray.empty w2) := by rw [← HV2.out]; exact Wb.new _
    have X2 : Hid (Cb w2 w.heap.size op tok seq text task num up yes) := by rw [← HV2.out]; exact X1.out.on (ba (Below.refl _ _) _) X1.out.lt
    have B2 : Below w.heap.size w w2 := by rw [← HV2.out]; exact ba B1 _
    clear B1 X1
    obtain ⟨b, hbq⟩ : ∃ b, w1.heap.size = b := ⟨_, rfl⟩
    rw [hbq] at Y2 hl1
    have q0 : (w1.alloc (.cells #[.slice none 0 0, .int .i64 0, .int .i8 0] 44)).cell? ⟨w.heap.size, 0, none⟩ = some (.int .i64 op) := by rw [HV2.out]; exact X2.out.c0
    go_wp2_with fail
    rw [HV2.out]
    refine (oneByte_any b _ op _ Y2.out (by have := HF.out; omega) (by have := HF.out; omega) (by decide)).mono ?_
    rintro x w3 ⟨rfl, y, k⟩
    clear q0 HV2
    have B3 : Below w.heap.size w w3 := below_low B2 k.below (Nat.le_of_lt hl1)
    have X3 : Hid (Cb w3 w.heap.size op tok seq text task num up yes) := X2.out.on k.below hl1
    have Y3 : Hid (Wb b (ByteArray.empty ++ bstr [op]) w3) := y
    clear k y B2 X2 Y2
    have q0 := X3.out.c1
    have q1 := X3.out.c2
    have hlw3 := Y3.out.lt
    obtain ⟨v3, HV3⟩ : ∃ W, Hid (w3.alloc (.cells #[.int .i64 tok, .int .i64 seq] 3) = W) := ⟨_, rfl⟩
    have G3 : Hid (v3.heap[w3.heap.size]? = some (.cells #[.int .i64 tok, .int .i64 seq] 3)) := by rw [← HV3.out]; exact heap_push _ _
    have Z3 : Hid (Wb b (ByteArray.empty ++ bstr [op]) v3) := by rw [← HV3.out]; exact Y3.out.up (ba (Below.refl _ _) _)
    have K3 : Hid (Wk b w3 v3) := by rw [← HV3.out]; exact Wk.of_below (ba (Below.refl _ _) _) (Nat.le_of_lt hlw3)
    go_wp2_with fail
    rw [HV3.out]
    refine (numbers_any b w3.heap.size 2 [tok, seq] (0, 0) _ _ Z3.out G3.out (by omega) (by have := HF.out; intro n hn; simp only [List.mem_cons, List.not_mem_nil, or_false] at hn; rcases hn with rfl | rfl <;> omega) rfl (by decide) (by have := HF.out; have h9 := HSZ.out; simp only [ByteArray.size_append]; omega)).mono ?_
    rintro x w4 ⟨rfl, y, k2⟩
    have k := K3.out.trans k2
    clear q0 q1 G3 Z3 K3 HV3 k2
    have B4 : Below w.heap.size w w4 := below_low B3 k.below (Nat.le_of_lt hl1)
    have X4 : Hid (Cb w4 w.heap.size op tok seq text task num up yes) := X3.out.on k.below hl1
    have Y4 : Hid (Wb b (ByteArray.empty ++ bstr [op] ++ numS [tok, seq]) w4) := y
    clear k y B3 X3 Y3
    have q0 := X4.out.c3
    have q1 := X4.out.c4
    have hlw4 := Y4.out.lt
    obtain ⟨v4, HV4⟩ : ∃ W, Hid (w4.alloc (.cells #[.string text, .string task] 9) = W) := ⟨_, rfl⟩
    have G4 : Hid (v4.heap[w4.heap.size]? = some (.cells #[.string text, .string task] 9)) := by rw [← HV4.out]; exact heap_push _ _
    have Z4 : Hid (Wb b (ByteArray.empty ++ bstr [op] ++ numS [tok, seq]) v4) := by rw [← HV4.out]; exact Y4.out.up (ba (Below.refl _ _) _)
    have K4 : Hid (Wk b w4 v4) := by rw [← HV4.out]; exact Wk.of_below (ba (Below.refl _ _) _) (Nat.le_of_lt hlw4)
    go_wp2_with fail
    rw [HV4.out]
    refine (shorts_any b w4.heap.size 2 [text, task] (0, 0) _ _ Z4.out G4.out (by omega) (by have := HF.out; intro n hn; simp only [List.mem_cons, List.not_mem_nil, or_false] at hn; rcases hn with rfl | rfl <;> omega) rfl (by decide) (by have := HF.out; have h9 := HSZ.out; simp only [ByteArray.size_append]; omega)).mono ?_
    rintro x w5 ⟨rfl, y, k2⟩
    have k := K4.out.trans k2
    clear q0 q1 G4 Z4 K4 HV4 k2
    have B5 : Below w.heap.size w w5 := below_low B4 k.below (Nat.le_of_lt hl1)
    have X5 : Hid (Cb w5 w.heap.size op tok seq text task num up yes) := X4.out.on k.below hl1
    have Y5 : Hid (Wb b (ByteArray.empty ++ bstr [op] ++ numS [tok, seq] ++ shoS [text, task]) w5) := y
    clear k y B4 X4 Y4
    have q0 := X5.out.c5
    have q1 := X5.out.c6
    have hlw5 := Y5.out.lt
    obtain ⟨v5, HV5⟩ : ∃ W, Hid (w5.alloc (.cells #[.int .i64 num, .int .i64 up] 3) = W) := ⟨_, rfl⟩
    have G5 : Hid (v5.heap[w5.heap.size]? = some (.cells #[.int .i64 num, .int .i64 up] 3)) := by rw [← HV5.out]; exact heap_push _ _
    have Z5 : Hid (Wb b (ByteArray.empty ++ bstr [op] ++ numS [tok, seq] ++ shoS [text, task]) v5) := by rw [← HV5.out]; exact Y5.out.up (ba (Below.refl _ _) _)
    have K5 : Hid (Wk b w5 v5) := by rw [← HV5.out]; exact Wk.of_below (ba (Below.refl _ _) _) (Nat.le_of_lt hlw5)
    go_wp2_with fail
    rw [HV5.out]
    refine (numbers_any b w5.heap.size 2 [num, up] (0, 0) _ _ Z5.out G5.out (by omega) (by have := HF.out; intro n hn; simp only [List.mem_cons, List.not_mem_nil, or_false] at hn; rcases hn with rfl | rfl <;> omega) rfl (by decide) (by have := HF.out; have h9 := HSZ.out; simp only [ByteArray.size_append]; omega)).mono ?_
    rintro x w6 ⟨rfl, y, k2⟩
    have k := K5.out.trans k2
    clear q0 q1 G5 Z5 K5 HV5 k2
    have B6 : Below w.heap.size w w6 := below_low B5 k.below (Nat.le_of_lt hl1)
    have X6 : Hid (Cb w6 w.heap.size op tok seq text task num up yes) := X5.out.on k.below hl1
    have Y6 : Hid (Wb b (ByteArray.empty ++ bstr [op] ++ numS [tok, seq] ++ shoS [text, task] ++ numS [num, up]) w6) := y
    clear k y B5 X5 Y5
    have q0 := X6.out.c7
    go_wp2_with fail
    refine (flagW_any b _ yes _ Y6.out (by have h9 := HSZ.out; simp only [ByteArray.size_append]; omega)).mono ?_
    rintro x w7 ⟨rfl, y, k⟩
    clear q0
    have B7 : Below w.heap.size w w7 := below_low B6 k.below (Nat.le_of_lt hl1)
    have X7 : Hid (Cb w7 w.heap.size op tok seq text task num up yes) := X6.out.on k.below hl1
    have Y7 : Hid (Wb b (ByteArray.empty ++ bstr [op] ++ numS [tok, seq] ++ shoS [text, task] ++ numS [num, up] ++ flagS yes) w7) := y
    clear k y B6 X6 Y6
    go_wp2_with fail
    refine (writerString_any b _ _ Y7.out).mono ?_
    rintro x w8 ⟨rfl, k⟩
    have B8 : Below w.heap.size w w8 := below_low B7 k.below (Nat.le_of_lt hl1)
    have HS : Hid (ByteArray.empty ++ bstr [op] ++ numS [tok, seq] ++ shoS [text, task] ++ numS [num, up] ++ flagS yes = cmtS op tok seq text task num up yes) := by
      show _ = _
      simp [cmtS, numS, shoS, ByteArray.append_assoc]
    rw [HS.out]
    clear k Y7 X7 B7
    go_wp2
    go_ret2
    exact ⟨rfl, B8⟩
end Go.Proofs.YtkfhmeiiicidaaaDoor

namespace Go.Proofs.YtkfhmeiiicidaaaDoor
open Go Go.RowKit
set_option linter.unusedVariables false

def okC (x : Cm) : Bool := cmdB (x.op : Int) (x.tok : Int) (x.seq : Int) x.text x.task (x.num : Int) (x.up : Int) x.yes
def teC (x : Cm) : ByteArray := cmtX (x.op : Int) (x.tok : Int) (x.seq : Int) x.text x.task (x.num : Int) (x.up : Int) x.yes
/-- The command that a text tells, and that would be written so. -/
def rcP (s : ByteArray) : Option Cm := match rwP s with
  | some x => if okC x = true ∧ teC x = s then some x else none
  | none => none
theorem cmdP_text {s : ByteArray} {a b : Nat} {x : Cm} (h : cmdP s a = some (x, b)) : x.text.size ≤ 20000 ∧ x.task.size ≤ 20000 := by
  unfold cmdP at h
  simp only [Option.bind_eq_some_iff] at h
  obtain ⟨r0, h0, r1, h1, r2, h2, r3, h3, r4, h4, r5, h5, r6, h6, r7, h7, h8⟩ := h
  simp only [Option.some.injEq, Prod.mk.injEq] at h8
  obtain ⟨rfl, rfl⟩ := h8
  have e3 : ∀ (t : ByteArray) (a b : Nat), shoP s a = some (t, b) → t.size ≤ 20000 := fun t a b h => by
    obtain ⟨X, Y, _, h1, h2, rfl, _, _⟩ := shoP_some h
    rw [ByteArray.size_extract]
    omega
  exact ⟨e3 _ _ _ h3, e3 _ _ _ h4⟩
theorem rwP_text {s : ByteArray} {x : Cm} (h : rwP s = some x) : x.text.size ≤ 20000 ∧ x.task.size ≤ 20000 := by
  unfold rwP at h
  split at h
  · rename_i y b he
    split at h
    · injection h with h
      subst h
      exact cmdP_text he
    · cases h
  · cases h
theorem ret_c8T {W : World} {b : Nat} {x0 x1 x2 x3 x4 x5 x6 x7 y : Value} {fn : Func} {p q : Tmp} {tmps : Array Value} (h : fn.results = #[.cell p 27, .tmp q]) (hp : tmps.getD p undef = .pointer (some ⟨b, 0, none⟩)) (hq : tmps.getD q undef = y) (hb : Kc8 27 W b x0 x1 x2 x3 x4 x5 x6 x7) :
    (results fn tmps).run Tryd.prog W = .ok (.tuple #[.agg #[x0, x1, x2, x3, x4, x5, x6, x7], y]) W := by
  have hp' : tmps[p]?.getD undef = .pointer (some ⟨b, 0, none⟩) := by simpa using hp
  have hq' : tmps[q]?.getD undef = y := by simpa using hq
  simp [results, h, hp', hq', hb.c0, hb.c1, hb.c2, hb.c3, hb.c4, hb.c5, hb.c6, hb.c7, asAddr, go_sem]
/-- What is answered where nothing is read. -/
theorem zeroV : cmV cm0 = .agg #[.int .i64 0, .int .i64 0, .int .i64 0, .string { data := #[] }, .string { data := #[] }, .int .i64 0, .int .i64 0, .bool false] := rfl
theorem mid_zero (w : World) (W : World) (o : Obj) (h : Below (w.alloc o).heap.size (w.alloc o) W) {k : Nat} (hk : w.heap.size = k) : W.heap[k]? = some o := by subst hk; exact blk_upR (heap_last _ _) h
set_option maxRecDepth 10000 in
set_option maxHeartbeats 4000000 in
theorem readBack_any (s : ByteArray) (w : World) (hs : s.size ≤ 1048576) :
    Calls Tryd.prog 26 #[.string s, .func (.func 27) #[] #[], .func (.func 8) #[] #[]] w fun e w' => e = .returned (rwV (rcP s)) ∧ Below w.heap.size w w' := by
  have HS : Hid (s.size ≤ 1048576) := hs
  clear hs
  obtain ⟨W0, HW0⟩ : ∃ V, Hid (w.alloc (.cells #[.int .i64 0, .int .i64 0, .int .i64 0, .string { data := #[] }, .string { data := #[] }, .int .i64 0, .int .i64 0, .bool false] 27) = V) := ⟨_, rfl⟩
  have K0 : Hid (Kc8 27 W0 w.heap.size (.int .i64 0) (.int .i64 0) (.int .i64 0) (.string { data := #[] }) (.string { data := #[] }) (.int .i64 0) (.int .i64 0) (.bool false)) := by rw [← HW0.out]; exact Kc8.new _ _ _ _ _ _ _ _ _ _
  have B0 : Hid (Below w.heap.size w W0) := by rw [← HW0.out]; exact ba (Below.refl _ _) _
  obtain ⟨R, HR⟩ : ∃ R, Hid (rcP s = R) := ⟨_, rfl⟩
  rw [HR.out]
  cases hq : rwP s with
  | none =>
    obtain rfl : R = none := by rw [← HR.out]; unfold rcP; rw [hq]
    have HQ : Hid (rwP s = none) := hq
    obtain ⟨T, HT⟩ : ∃ T : ByteArray, Hid (teC cm0 = T) := ⟨_, rfl⟩
    obtain ⟨q, HB⟩ : ∃ q : Bool, Hid (okC cm0 = q) := ⟨_, rfl⟩
    have HC : Hid (∀ W, Calls Tryd.prog 8 #[.agg #[.int .i64 0, .int .i64 0, .int .i64 0, .string { data := #[] }, .string { data := #[] }, .int .i64 0, .int .i64 0, .bool false]] W fun e w' => e = .returned (.tuple #[.string T, .bool q]) ∧ Below W.heap.size W w') := fun W => by
      rw [← HT.out, ← HB.out]
      exact implText_any 0 0 0 ByteArray.empty ByteArray.empty 0 0 false W (by decide) (by decide)
    clear hq
    go_enter Tryd.func26, Tryd.ntmps26
    go_wp2_with fail
    rw [HW0.out]
    refine (readWhole_any s _ HS.out).mono ?_
    rw [HQ.out]
    rintro e w1 ⟨rfl, hb⟩
    have K1 := K0.out.up hb
    have B1 := Below.on B0.out hb
    clear hb
    rw [show rwV none = .tuple #[.agg #[.int .i64 0, .int .i64 0, .int .i64 0, .string { data := #[] }, .string { data := #[] }, .int .i64 0, .int .i64 0, .bool false], .bool false] from rfl]
    obtain ⟨W2, HW2⟩ : ∃ V, Hid (w1.alloc (.cells #[.int .i64 0, .int .i64 0, .int .i64 0, .string { data := #[] }, .string { data := #[] }, .int .i64 0, .int .i64 0, .bool false] 27) = V) := ⟨_, rfl⟩
    have K2 : Kc8 27 W2 w.heap.size (.int .i64 0) (.int .i64 0) (.int .i64 0) (.string { data := #[] }) (.string { data := #[] }) (.int .i64 0) (.int .i64 0) (.bool false) := by rw [← HW2.out]; exact K1.alloc _
    have L2 : Kc8 27 W2 w1.heap.size (.int .i64 0) (.int .i64 0) (.int .i64 0) (.string { data := #[] }) (.string { data := #[] }) (.int .i64 0) (.int .i64 0) (.bool false) := by rw [← HW2.out]; exact Kc8.new _ _ _ _ _ _ _ _ _ _
    have B2 : Below w.heap.size w W2 := by rw [← HW2.out]; exact ba B1 _
    clear K1 B1
    go_wp2_with fail
    rw [HW2.out]
    refine (HC.out _).mono ?_
    rintro e w3 ⟨rfl, hb⟩
    have K3 := K2.up hb
    have B3 := Below.on B2 hb
    clear K2 L2 B2 hb HW2
    obtain ⟨W4, HW4⟩ : ∃ V, w3.alloc (.cells #[.int .i64 0, .int .i64 0, .int .i64 0, .string { data := #[] }, .string { data := #[] }, .int .i64 0, .int .i64 0, .bool false] 27) = V := ⟨_, rfl⟩
    have K4 : Kc8 27 W4 w.heap.size (.int .i64 0) (.int .i64 0) (.int .i64 0) (.string { data := #[] }) (.string { data := #[] }) (.int .i64 0) (.int .i64 0) (.bool false) := by rw [← HW4]; exact K3.alloc _
    have L4 : Kc8 27 W4 w3.heap.size (.int .i64 0) (.int .i64 0) (.int .i64 0) (.string { data := #[] }) (.string { data := #[] }) (.int .i64 0) (.int .i64 0) (.bool false) := by rw [← HW4]; exact Kc8.new _ _ _ _ _ _ _ _ _ _
    have B4 : Below w.heap.size w W4 := by rw [← HW4]; exact ba B3 _
    have hl3 := K3.lt
    have n0 := L4.c0
    have n1 := L4.c1
    have n2 := L4.c2
    have n3 := L4.c3
    have n4 := L4.c4
    have n5 := L4.c5
    have n6 := L4.c6
    have n7 := L4.c7
    have c0 := K4.c0
    have c1 := K4.c1
    have c2 := K4.c2
    have c3 := K4.c3
    have c4 := K4.c4
    have c5 := K4.c5
    have c6 := K4.c6
    have c7 := K4.c7
    have f0 := K4.fz 0
    have f1 := K4.fz 1
    have f2 := K4.fz 2
    have f3 := K4.fz 3
    have f4 := K4.fz 4
    have f5 := K4.fz 5
    have f6 := K4.fz 6
    have f7 := K4.fz 7
    clear K3 B3
    go_wp2
    have KE := K4.set (.int .i64 0) (.int .i64 0) (.int .i64 0) (.string { data := #[] }) (.string { data := #[] }) (.int .i64 0) (.int .i64 0) (.bool false)
    refine bodyPost_ret (ret_c8T rfl rfl rfl KE) rfl ?_
    exact ⟨rfl, below_set8 B4 (Nat.le_refl _) _ _ _ _ _ _ _ _⟩
  | some x =>
    have HQ : Hid (rwP s = some x) := hq
    obtain ⟨T, HT⟩ : ∃ T : ByteArray, Hid (teC x = T) := ⟨_, rfl⟩
    obtain ⟨q, HB⟩ : ∃ q : Bool, Hid (okC x = q) := ⟨_, rfl⟩
    have HC : Hid (∀ W, Calls Tryd.prog 8 #[.agg #[.int .i64 (x.op : Int), .int .i64 (x.tok : Int), .int .i64 (x.seq : Int), .string x.text, .string x.task, .int .i64 (x.num : Int), .int .i64 (x.up : Int), .bool x.yes]] W fun e w' => e = .returned (.tuple #[.string T, .bool q]) ∧ Below W.heap.size W w') := fun W => by
      rw [← HT.out, ← HB.out]
      have hz := rwP_text HQ.out
      exact implText_any x.op x.tok x.seq x.text x.task x.num x.up x.yes W (by omega) (by omega)
    clear hq
    go_enter Tryd.func26, Tryd.ntmps26
    go_wp2_with fail
    rw [HW0.out]
    refine (readWhole_any s _ HS.out).mono ?_
    rw [HQ.out]
    rintro e w1 ⟨rfl, hb⟩
    have K1 := K0.out.up hb
    have B1 := Below.on B0.out hb
    clear hb
    rw [show rwV (some x) = .tuple #[.agg #[.int .i64 (x.op : Int), .int .i64 (x.tok : Int), .int .i64 (x.seq : Int), .string x.text, .string x.task, .int .i64 (x.num : Int), .int .i64 (x.up : Int), .bool x.yes], .bool true] from rfl]
    obtain ⟨W2, HW2⟩ : ∃ V, Hid (w1.alloc (.cells #[.int .i64 (x.op : Int), .int .i64 (x.tok : Int), .int .i64 (x.seq : Int), .string x.text, .string x.task, .int .i64 (x.num : Int), .int .i64 (x.up : Int), .bool x.yes] 27) = V) := ⟨_, rfl⟩
    have K2 : Kc8 27 W2 w.heap.size (.int .i64 0) (.int .i64 0) (.int .i64 0) (.string { data := #[] }) (.string { data := #[] }) (.int .i64 0) (.int .i64 0) (.bool false) := by rw [← HW2.out]; exact K1.alloc _
    have L2 : Kc8 27 W2 w1.heap.size (.int .i64 (x.op : Int)) (.int .i64 (x.tok : Int)) (.int .i64 (x.seq : Int)) (.string x.text) (.string x.task) (.int .i64 (x.num : Int)) (.int .i64 (x.up : Int)) (.bool x.yes) := by rw [← HW2.out]; exact Kc8.new _ _ _ _ _ _ _ _ _ _
    have B2 : Below w.heap.size w W2 := by rw [← HW2.out]; exact ba B1 _
    clear K1 B1
    go_wp2_with fail
    rw [HW2.out]
    refine (HC.out _).mono ?_
    rintro e w3 ⟨rfl, hb⟩
    have K3 := K2.up hb
    have L3 := L2.up hb
    have B3 := Below.on B2 hb
    clear K2 L2 B2 hb HW2
    by_cases hok : q = true ∧ T = s
    · obtain ⟨rfl, rfl⟩ := hok
      obtain rfl : R = some x := by rw [← HR.out]; unfold rcP; rw [HQ.out]; simp [HB.out, HT.out]
      have hl3 := K3.lt
      have c0 := K3.c0
      have c1 := K3.c1
      have c2 := K3.c2
      have c3 := K3.c3
      have c4 := K3.c4
      have c5 := K3.c5
      have c6 := K3.c6
      have c7 := K3.c7
      have f0 := K3.fz 0
      have f1 := K3.fz 1
      have f2 := K3.fz 2
      have f3 := K3.fz 3
      have f4 := K3.fz 4
      have f5 := K3.fz 5
      have f6 := K3.fz 6
      have f7 := K3.fz 7
      have n0 := L3.c0
      have n1 := L3.c1
      have n2 := L3.c2
      have n3 := L3.c3
      have n4 := L3.c4
      have n5 := L3.c5
      have n6 := L3.c6
      have n7 := L3.c7
      go_wp2
      have KE := K3.set (.int .i64 (x.op : Int)) (.int .i64 (x.tok : Int)) (.int .i64 (x.seq : Int)) (.string x.text) (.string x.task) (.int .i64 (x.num : Int)) (.int .i64 (x.up : Int)) (.bool x.yes)
      refine bodyPost_ret (ret_c8T rfl rfl rfl KE) rfl ?_
      exact ⟨rfl, below_set8 B3 (Nat.le_refl _) _ _ _ _ _ _ _ _⟩
    · obtain rfl : R = none := by rw [← HR.out]; unfold rcP; rw [HQ.out]; simp only [HB.out, HT.out]; rw [if_neg hok]
      have HN : Hid (¬ (q = true ∧ T = s)) := hok
      clear hok
      obtain ⟨W4, HW4⟩ : ∃ V, w3.alloc (.cells #[.int .i64 0, .int .i64 0, .int .i64 0, .string { data := #[] }, .string { data := #[] }, .int .i64 0, .int .i64 0, .bool false] 27) = V := ⟨_, rfl⟩
      have K4 : Kc8 27 W4 w.heap.size (.int .i64 0) (.int .i64 0) (.int .i64 0) (.string { data := #[] }) (.string { data := #[] }) (.int .i64 0) (.int .i64 0) (.bool false) := by rw [← HW4]; exact K3.alloc _
      have L4 : Kc8 27 W4 w3.heap.size (.int .i64 0) (.int .i64 0) (.int .i64 0) (.string { data := #[] }) (.string { data := #[] }) (.int .i64 0) (.int .i64 0) (.bool false) := by rw [← HW4]; exact Kc8.new _ _ _ _ _ _ _ _ _ _
      have B4 : Below w.heap.size w W4 := by rw [← HW4]; exact ba B3 _
      have hl3 := K3.lt
      have n0 := L4.c0
      have n1 := L4.c1
      have n2 := L4.c2
      have n3 := L4.c3
      have n4 := L4.c4
      have n5 := L4.c5
      have n6 := L4.c6
      have n7 := L4.c7
      have c0 := K4.c0
      have c1 := K4.c1
      have c2 := K4.c2
      have c3 := K4.c3
      have c4 := K4.c4
      have c5 := K4.c5
      have c6 := K4.c6
      have c7 := K4.c7
      have f0 := K4.fz 0
      have f1 := K4.fz 1
      have f2 := K4.fz 2
      have f3 := K4.fz 3
      have f4 := K4.fz 4
      have f5 := K4.fz 5
      have f6 := K4.fz 6
      have f7 := K4.fz 7
      clear K3 L3 B3
      have KE := K4.set (.int .i64 0) (.int .i64 0) (.int .i64 0) (.string { data := #[] }) (.string { data := #[] }) (.int .i64 0) (.int .i64 0) (.bool false)
      have HKE : Hid (Kc8 27 (set8 W4 w.heap.size (.int .i64 0) (.int .i64 0) (.int .i64 0) (.string { data := #[] }) (.string { data := #[] }) (.int .i64 0) (.int .i64 0) (.bool false)) w.heap.size (.int .i64 0) (.int .i64 0) (.int .i64 0) (.string { data := #[] }) (.string { data := #[] }) (.int .i64 0) (.int .i64 0) (.bool false)) := KE
      have HBE : Hid (Below w.heap.size w (set8 W4 w.heap.size (.int .i64 0) (.int .i64 0) (.int .i64 0) (.string { data := #[] }) (.string { data := #[] }) (.int .i64 0) (.int .i64 0) (.bool false))) := below_set8 B4 (Nat.le_refl _) _ _ _ _ _ _ _ _
      clear KE K4 L4 B4
      cases q with
      | false =>
        go_wp2
        refine bodyPost_ret (ret_c8T rfl rfl rfl HKE.out) rfl ?_
        exact ⟨rfl, HBE.out⟩
      | true =>
        have hne := ne_list (show T ≠ s from fun e => HN.out ⟨rfl, e⟩)
        go_wp2
        refine bodyPost_ret (ret_c8T rfl rfl rfl HKE.out) rfl ?_
        exact ⟨rfl, HBE.out⟩
set_option maxRecDepth 10000 in
set_option maxHeartbeats 1000000 in
theorem readCommand_any (s : ByteArray) (w : World) (hs : s.size ≤ 1048576) :
    Calls Tryd.prog 10 #[.string s] w fun e w' => e = .returned (rwV (rcP s)) ∧ Below w.heap.size w w' := by
  obtain ⟨W0, HW0⟩ : ∃ V, Hid (w.alloc (.cells #[.int .i64 0, .int .i64 0, .int .i64 0, .string { data := #[] }, .string { data := #[] }, .int .i64 0, .int .i64 0, .bool false] 27) = V) := ⟨_, rfl⟩
  have K0 : Hid (Kc8 27 W0 w.heap.size (.int .i64 0) (.int .i64 0) (.int .i64 0) (.string { data := #[] }) (.string { data := #[] }) (.int .i64 0) (.int .i64 0) (.bool false)) := by rw [← HW0.out]; exact Kc8.new _ _ _ _ _ _ _ _ _ _
  have B0 : Hid (Below w.heap.size w W0) := by rw [← HW0.out]; exact ba (Below.refl _ _) _
  obtain ⟨R, HR⟩ : ∃ R, Hid (rcP s = R) := ⟨_, rfl⟩
  have HC : Hid (∀ W, Calls Tryd.prog 26 #[.string s, .func (.func 27) #[] #[], .func (.func 8) #[] #[]] W fun e w' => e = .returned (rwV R) ∧ Below W.heap.size W w') := fun W => by
    rw [← HR.out]
    exact readBack_any s W hs
  rw [HR.out]
  clear hs HR
  go_enter Tryd.func10, Tryd.ntmps10
  go_wp2_with fail
  rw [HW0.out]
  refine (HC.out _).mono ?_
  rintro e w1 ⟨rfl, hb⟩
  have K1 := K0.out.up hb
  have B1 := Below.on B0.out hb
  clear hb HC
  have hl := K1.lt
  have c0 := K1.c0
  have c1 := K1.c1
  have c2 := K1.c2
  have c3 := K1.c3
  have c4 := K1.c4
  have c5 := K1.c5
  have c6 := K1.c6
  have c7 := K1.c7
  have f0 := K1.fz 0
  have f1 := K1.fz 1
  have f2 := K1.fz 2
  have f3 := K1.fz 3
  have f4 := K1.fz 4
  have f5 := K1.fz 5
  have f6 := K1.fz 6
  have f7 := K1.fz 7
  cases R with
  | none =>
    rw [show rwV none = .tuple #[.agg #[.int .i64 0, .int .i64 0, .int .i64 0, .string { data := #[] }, .string { data := #[] }, .int .i64 0, .int .i64 0, .bool false], .bool false] from rfl]
    go_wp2
    refine bodyPost_ret (ret_c8T rfl rfl rfl (K1.set (.int .i64 0) (.int .i64 0) (.int .i64 0) (.string { data := #[] }) (.string { data := #[] }) (.int .i64 0) (.int .i64 0) (.bool false))) rfl ?_
    exact ⟨rfl, below_set8 B1 (Nat.le_refl _) _ _ _ _ _ _ _ _⟩
  | some x =>
    rw [show rwV (some x) = .tuple #[.agg #[.int .i64 (x.op : Int), .int .i64 (x.tok : Int), .int .i64 (x.seq : Int), .string x.text, .string x.task, .int .i64 (x.num : Int), .int .i64 (x.up : Int), .bool x.yes], .bool true] from rfl]
    go_wp2
    refine bodyPost_ret (ret_c8T rfl rfl rfl (K1.set (.int .i64 (x.op : Int)) (.int .i64 (x.tok : Int)) (.int .i64 (x.seq : Int)) (.string x.text) (.string x.task) (.int .i64 (x.num : Int)) (.int .i64 (x.up : Int)) (.bool x.yes))) rfl ?_
    exact ⟨rfl, below_set8 B1 (Nat.le_refl _) _ _ _ _ _ _ _ _⟩
end Go.Proofs.YtkfhmeiiicidaaaDoor
