/-
  Whether a command of Op 3 is right, as the program tells it: the walks.
-/
import Derived.Test.YtkfhmeiiicidaaaDoorCok
namespace Go.Proofs.YtkfhmeiiicidaaaDoor
open Go Go.RowKit

set_option maxRecDepth 10000 in
set_option maxHeartbeats 4000000 in
theorem icmd_3a (tok seq : Int) (text task : ByteArray) (num up : Int) (yes : Bool) (w : World) (_ht : text.size ≤ 9223372036854775807) (_hk : task.size ≤ 9223372036854775807) (h0 : decide (0 ≤ tok ∧ tok ≤ 1000000) = false)  :
    Calls Tryd.prog 17 #[.agg #[.int .i64 3, .int .i64 tok, .int .i64 seq, .string text, .string task, .int .i64 num, .int .i64 up, .bool yes]] w fun e w' => e = .returned (.bool (false)) ∧ Below w.heap.size w w' := by
  have H0 : Hid (∀ W, Calls Tryd.prog 31 #[.int .i64 tok, .int .i64 1000000] W fun e w' => e = .returned (.bool false) ∧ w' = W) := by intro W; have := upTo_any tok 1000000 W; rwa [h0] at this
  clear h0
  go_enter Tryd.func17, Tryd.ntmps17
  go_wp2_with (first | (go_at_call 31; with_reducible refine (H0.out _).mono ?_; rintro e w1 ⟨rfl, hw⟩; have hw2 := hw.symm; subst hw2))
  all_goals (go_ret; refine ⟨?_, ?_⟩)
  all_goals first | exact ba (ba (Below.refl _ _) _) _ | exact ((ba (ba (Below.refl _ _) _) _).set (by simp)) | exact ((Below.refl _ _).alloc (Nat.le_refl _) _).set (by simp) | rfl | (rw [restL]; simp [*]) | simp [*]

set_option maxRecDepth 10000 in
set_option maxHeartbeats 4000000 in
theorem icmd_3b (tok seq : Int) (text task : ByteArray) (num up : Int) (yes : Bool) (w : World) (_ht : text.size ≤ 9223372036854775807) (_hk : task.size ≤ 9223372036854775807) (h0 : decide (0 ≤ tok ∧ tok ≤ 1000000) = true) (h1 : decide (0 ≤ seq ∧ seq ≤ 1000000) = false)  :
    Calls Tryd.prog 17 #[.agg #[.int .i64 3, .int .i64 tok, .int .i64 seq, .string text, .string task, .int .i64 num, .int .i64 up, .bool yes]] w fun e w' => e = .returned (.bool (false)) ∧ Below w.heap.size w w' := by
  have H0 : Hid (∀ W, Calls Tryd.prog 31 #[.int .i64 tok, .int .i64 1000000] W fun e w' => e = .returned (.bool true) ∧ w' = W) := by intro W; have := upTo_any tok 1000000 W; rwa [h0] at this
  have H1 : Hid (∀ W, Calls Tryd.prog 31 #[.int .i64 seq, .int .i64 1000000] W fun e w' => e = .returned (.bool false) ∧ w' = W) := by intro W; have := upTo_any seq 1000000 W; rwa [h1] at this
  clear h0 h1
  go_enter Tryd.func17, Tryd.ntmps17
  go_wp2_with (first | (go_at_call 31; with_reducible refine (H0.out _).mono ?_; rintro e w1 ⟨rfl, hw⟩; have hw2 := hw.symm; subst hw2) | (go_at_call 31; with_reducible refine (H1.out _).mono ?_; rintro e w1 ⟨rfl, hw⟩; have hw2 := hw.symm; subst hw2))
  all_goals (go_ret; refine ⟨?_, ?_⟩)
  all_goals first | exact ba (ba (Below.refl _ _) _) _ | exact ((ba (ba (Below.refl _ _) _) _).set (by simp)) | exact ((Below.refl _ _).alloc (Nat.le_refl _) _).set (by simp) | rfl | (rw [restL]; simp [*]) | simp [*]

set_option maxRecDepth 10000 in
set_option maxHeartbeats 4000000 in
theorem icmd_3_0 (tok seq : Int) (text task : ByteArray) (num up : Int) (yes : Bool) (w : World) (_ht : text.size ≤ 9223372036854775807) (_hk : task.size ≤ 9223372036854775807) (h0 : decide (0 ≤ tok ∧ tok ≤ 1000000) = true) (h1 : decide (0 ≤ seq ∧ seq ≤ 1000000) = true) (h2 : nameB text = false)  :
    Calls Tryd.prog 17 #[.agg #[.int .i64 3, .int .i64 tok, .int .i64 seq, .string text, .string task, .int .i64 num, .int .i64 up, .bool yes]] w fun e w' => e = .returned (.bool (false)) ∧ Below w.heap.size w w' := by
  have H0 : Hid (∀ W, Calls Tryd.prog 31 #[.int .i64 tok, .int .i64 1000000] W fun e w' => e = .returned (.bool true) ∧ w' = W) := by intro W; have := upTo_any tok 1000000 W; rwa [h0] at this
  have H1 : Hid (∀ W, Calls Tryd.prog 31 #[.int .i64 seq, .int .i64 1000000] W fun e w' => e = .returned (.bool true) ∧ w' = W) := by intro W; have := upTo_any seq 1000000 W; rwa [h1] at this
  have H2 : Hid (∀ W, Calls Tryd.prog 32 #[.string text] W fun e w' => e = .returned (.bool false) ∧ Below W.heap.size W w') := by intro W; have := implName_any text W _ht; rwa [h2] at this
  clear h0 h1 h2
  go_enter Tryd.func17, Tryd.ntmps17
  go_wp2_with (first | (go_at_call 31; with_reducible refine (H0.out _).mono ?_; rintro e w1 ⟨rfl, hw⟩; have hw2 := hw.symm; subst hw2) | (go_at_call 31; with_reducible refine (H1.out _).mono ?_; rintro e w1 ⟨rfl, hw⟩; have hw2 := hw.symm; subst hw2) | (go_at_call 32; with_reducible refine (H2.out _).mono ?_; rintro e v2 ⟨rfl, hb2⟩; have kk2 := two8 hb2; have kx2 := kk2.1; have kr2 := kk2.2; have hv2 := below_new (below_new hb2); have r02 := (kr2).c0; have r12 := (kr2).c1; have r22 := (kr2).c2; have r32 := (kr2).c3; have r42 := (kr2).c4; have r52 := (kr2).c5; have r62 := (kr2).c6; have r72 := (kr2).c7; have g02 := (kx2).c0; have g12 := (kx2).c1; have g22 := (kx2).c2; have g32 := (kx2).c3; have g42 := (kx2).c4; have g52 := (kx2).c5; have g62 := (kx2).c6; have g72 := (kx2).c7; have f02 := (kr2).fz 0; have f12 := (kr2).fz 1; have f22 := (kr2).fz 2; have f32 := (kr2).fz 3; have f42 := (kr2).fz 4; have f52 := (kr2).fz 5; have f62 := (kr2).fz 6; have f72 := (kr2).fz 7; have hl2 := (kr2).lt; clear kk2))
  all_goals (go_ret; refine ⟨?_, ?_⟩)
  all_goals first | exact hv2 | ((repeat (first | exact hv2 | refine Below.setCell ?_ (by simp) _)); done) | exact ba (ba (Below.refl _ _) _) _ | exact ((ba (ba (Below.refl _ _) _) _).set (by simp)) | exact ((Below.refl _ _).alloc (Nat.le_refl _) _).set (by simp) | rfl | (rw [restL]; simp [*]) | simp [*]

set_option maxRecDepth 10000 in
set_option maxHeartbeats 4000000 in
theorem icmd_3 (tok seq : Int) (text task : ByteArray) (num up : Int) (yes : Bool) (w : World) (_ht : text.size ≤ 9223372036854775807) (_hk : task.size ≤ 9223372036854775807) (h0 : decide (0 ≤ tok ∧ tok ≤ 1000000) = true) (h1 : decide (0 ≤ seq ∧ seq ≤ 1000000) = true) (h2 : nameB text = true)  :
    Calls Tryd.prog 17 #[.agg #[.int .i64 3, .int .i64 tok, .int .i64 seq, .string text, .string task, .int .i64 num, .int .i64 up, .bool yes]] w fun e w' => e = .returned (.bool (restB true false false false true text task num up yes)) ∧ Below w.heap.size w w' := by
  have H0 : Hid (∀ W, Calls Tryd.prog 31 #[.int .i64 tok, .int .i64 1000000] W fun e w' => e = .returned (.bool true) ∧ w' = W) := by intro W; have := upTo_any tok 1000000 W; rwa [h0] at this
  have H1 : Hid (∀ W, Calls Tryd.prog 31 #[.int .i64 seq, .int .i64 1000000] W fun e w' => e = .returned (.bool true) ∧ w' = W) := by intro W; have := upTo_any seq 1000000 W; rwa [h1] at this
  have H2 : Hid (∀ W, Calls Tryd.prog 32 #[.string text] W fun e w' => e = .returned (.bool true) ∧ Below W.heap.size W w') := by intro W; have := implName_any text W _ht; rwa [h2] at this
  clear h0 h1 h2
  go_enter Tryd.func17, Tryd.ntmps17
  go_wp2_with (first | (go_at_call 31; with_reducible refine (H0.out _).mono ?_; rintro e w1 ⟨rfl, hw⟩; have hw2 := hw.symm; subst hw2) | (go_at_call 31; with_reducible refine (H1.out _).mono ?_; rintro e w1 ⟨rfl, hw⟩; have hw2 := hw.symm; subst hw2) | (go_at_call 32; with_reducible refine (H2.out _).mono ?_; rintro e v2 ⟨rfl, hb2⟩; have kk2 := two8 hb2; have kx2 := kk2.1; have kr2 := kk2.2; have hv2 := below_new (below_new hb2); have r02 := (kr2).c0; have r12 := (kr2).c1; have r22 := (kr2).c2; have r32 := (kr2).c3; have r42 := (kr2).c4; have r52 := (kr2).c5; have r62 := (kr2).c6; have r72 := (kr2).c7; have g02 := (kx2).c0; have g12 := (kx2).c1; have g22 := (kx2).c2; have g32 := (kx2).c3; have g42 := (kx2).c4; have g52 := (kx2).c5; have g62 := (kx2).c6; have g72 := (kx2).c7; have f02 := (kr2).fz 0; have f12 := (kr2).fz 1; have f22 := (kr2).fz 2; have f32 := (kr2).fz 3; have f42 := (kr2).fz 4; have f52 := (kr2).fz 5; have f62 := (kr2).fz 6; have f72 := (kr2).fz 7; have hl2 := (kr2).lt; clear kk2))
  all_goals (go_ret; refine ⟨?_, ?_⟩)
  all_goals first | exact hv2 | ((repeat (first | exact hv2 | refine Below.setCell ?_ (by simp) _)); done) | exact ba (ba (Below.refl _ _) _) _ | exact ((ba (ba (Below.refl _ _) _) _).set (by simp)) | exact ((Below.refl _ _).alloc (Nat.le_refl _) _).set (by simp) | rfl | (rw [restL]; simp [*]) | simp [*]
end Go.Proofs.YtkfhmeiiicidaaaDoor
