/- Cmo -/
import Derived.Test.YtpjpheicldegkaaGreatDoorGM3
namespace Go.Proofs.YtpjpheicldegkaaGreatDoor
open Go Go.RowKit

def opB (op tok seq : Int) (text task : ByteArray) (num up : Int) (yes : Bool) : Bool := if op = 1 then (decide (tok = 0) && (decide (seq = 0) && restB false false false false false text task num up yes)) else if op = 2 then (decide (text.size ≤ 600) && restB true false false false false text task num up yes) else if op = 3 then (nameB text && restB true false false false true text task num up yes) else if op = 4 then (decide (0 ≤ num ∧ num ≤ 68374079) && restB false false true false false text task num up yes) else if op = 5 then restB false false false false false text task num up yes else if op = 6 then (decide (0 ≤ num ∧ num ≤ 1000000000) && restB false false true false false text task num up yes) else if op = 7 then (decide (0 ≤ num ∧ num ≤ 1000000000) && restB false false true false true text task num up yes) else if op = 8 then (nameB text && (decide (0 ≤ num ∧ num ≤ 68374079) && (decide (0 ≤ up ∧ up ≤ 68374079) && restB true false true true false text task num up yes))) else if op = 9 then (nameB text && (nameB task && (decide (0 ≤ num ∧ num ≤ 68374079) && restB true true true false false text task num up yes))) else false
def cmdB (op tok seq : Int) (text task : ByteArray) (num up : Int) (yes : Bool) : Bool := decide (0 ≤ tok ∧ tok ≤ 1000000) && (decide (0 ≤ seq ∧ seq ≤ 1000000) && opB op tok seq text task num up yes)
theorem qbb (x hi : Int) (w : World) : Calls Tryz.prog 24 #[.int .i64 x, .int .i64 0, .int .i64 hi] w fun e w' => e = .returned (.bool (decide (0 ≤ x ∧ x ≤ hi))) ∧ w' = w := by
  rw [Bool.decide_and]; exact qub x 0 hi w

set_option maxRecDepth 10000 in
set_option maxHeartbeats 2000000 in
theorem cmd_1 (tok seq : Int) (text task : ByteArray) (num up : Int) (yes : Bool) (w : World) (_ht : text.size ≤ 9223372036854775807) (_hk : task.size ≤ 9223372036854775807) (h1 : 0 ≤ tok ∧ tok ≤ 1000000) (h2 : 0 ≤ seq ∧ seq ≤ 1000000) :
    Calls Tryz.prog 92 #[.agg #[.int .i64 1, .int .i64 tok, .int .i64 seq, .string text, .string task, .int .i64 num, .int .i64 up, .bool yes]] w fun e w' => e = .returned (.bool ((decide (tok = 0) && (decide (seq = 0) && restB false false false false false text task num up yes)))) ∧ Below w.heap.size w w' := by
  have HT : Hid (∀ w, Calls Tryz.prog 24 #[.int .i64 tok, .int .i64 0, .int .i64 1000000] w fun e w' => e = .returned (.bool true) ∧ w' = w) := by intro w; have := qbb tok 1000000 w; rwa [decide_eq_true h1] at this
  have HS : Hid (∀ w, Calls Tryz.prog 24 #[.int .i64 seq, .int .i64 0, .int .i64 1000000] w fun e w' => e = .returned (.bool true) ∧ w' = w) := by intro w; have := qbb seq 1000000 w; rwa [decide_eq_true h2] at this
  have HRS : Hid (∀ w, Calls Tryz.prog 101 #[.agg #[.int .i64 1, .int .i64 tok, .int .i64 seq, .string text, .string task, .int .i64 num, .int .i64 up, .bool yes], .bool false, .bool false, .bool false, .bool false, .bool false] w fun e w' => e = .returned (.bool (restB false false false false false text task num up yes)) ∧ Below w.heap.size w w') := fun w => rest_00000 1 tok seq text task num up yes w
  obtain ⟨r, HR⟩ : ∃ r, Hid (restB false false false false false text task num up yes = r) := ⟨_, rfl⟩
  rw [HR.out] at HRS ⊢
  clear HR h1 h2
  by_cases e0 : tok = 0
  case neg =>
    have b0 : (tok == 0) = false := beq_eq_false_iff_ne.2 e0
    rw [decide_eq_false e0]
    clear e0
    go_enter Tryz.func92, Tryz.ntmps92
    go_wp2_with (first | (go_at_call 24; with_reducible refine (HT.out _).mono ?_; rintro e w1 ⟨rfl, hw⟩; have hw2 := hw.symm; subst hw2) | (go_at_call 24; with_reducible refine (HS.out _).mono ?_; rintro e w1 ⟨rfl, hw⟩; have hw2 := hw.symm; subst hw2))
    go_ret
    exact ⟨rfl, ba (Below.refl _ _) _⟩
  subst e0
  by_cases e1 : seq = 0
  case neg =>
    have b1 : (seq == 0) = false := beq_eq_false_iff_ne.2 e1
    rw [decide_eq_false e1]
    clear e1
    go_enter Tryz.func92, Tryz.ntmps92
    go_wp2_with (first | (go_at_call 24; with_reducible refine (HT.out _).mono ?_; rintro e w1 ⟨rfl, hw⟩; have hw2 := hw.symm; subst hw2) | (go_at_call 24; with_reducible refine (HS.out _).mono ?_; rintro e w1 ⟨rfl, hw⟩; have hw2 := hw.symm; subst hw2))
    go_ret
    exact ⟨rfl, ba (Below.refl _ _) _⟩
  subst e1
  go_enter Tryz.func92, Tryz.ntmps92
  go_wp2_with (first | (go_at_call 24; with_reducible refine (HT.out _).mono ?_; rintro e w1 ⟨rfl, hw⟩; have hw2 := hw.symm; subst hw2) | (go_at_call 24; with_reducible refine (HS.out _).mono ?_; rintro e w1 ⟨rfl, hw⟩; have hw2 := hw.symm; subst hw2) | (go_at_call 101; refine (HRS.out _).mono ?_; rintro e w2 ⟨rfl, hb2⟩))
  go_ret
  exact ⟨by simp, qma hb2⟩

set_option maxRecDepth 10000 in
set_option maxHeartbeats 2000000 in
theorem cmd_2 (tok seq : Int) (text task : ByteArray) (num up : Int) (yes : Bool) (w : World) (ht : text.size ≤ 9223372036854775807) (_hk : task.size ≤ 9223372036854775807) (h1 : 0 ≤ tok ∧ tok ≤ 1000000) (h2 : 0 ≤ seq ∧ seq ≤ 1000000) :
    Calls Tryz.prog 92 #[.agg #[.int .i64 2, .int .i64 tok, .int .i64 seq, .string text, .string task, .int .i64 num, .int .i64 up, .bool yes]] w fun e w' => e = .returned (.bool ((decide (text.size ≤ 600) && restB true false false false false text task num up yes))) ∧ Below w.heap.size w w' := by
  have HT : Hid (∀ w, Calls Tryz.prog 24 #[.int .i64 tok, .int .i64 0, .int .i64 1000000] w fun e w' => e = .returned (.bool true) ∧ w' = w) := by intro w; have := qbb tok 1000000 w; rwa [decide_eq_true h1] at this
  have HS : Hid (∀ w, Calls Tryz.prog 24 #[.int .i64 seq, .int .i64 0, .int .i64 1000000] w fun e w' => e = .returned (.bool true) ∧ w' = w) := by intro w; have := qbb seq 1000000 w; rwa [decide_eq_true h2] at this
  have HRS : Hid (∀ w, Calls Tryz.prog 101 #[.agg #[.int .i64 2, .int .i64 tok, .int .i64 seq, .string text, .string task, .int .i64 num, .int .i64 up, .bool yes], .bool true, .bool false, .bool false, .bool false, .bool false] w fun e w' => e = .returned (.bool (restB true false false false false text task num up yes)) ∧ Below w.heap.size w w') := fun w => rest_10000 2 tok seq text task num up yes w
  obtain ⟨r, HR⟩ : ∃ r, Hid (restB true false false false false text task num up yes = r) := ⟨_, rfl⟩
  rw [HR.out] at HRS ⊢
  clear HR h1 h2
  by_cases e0 : text.size ≤ 600
  case neg =>
    rw [decide_eq_false e0]
    go_enter Tryz.func92, Tryz.ntmps92
    go_wp2_with (first | (go_at_call 24; with_reducible refine (HT.out _).mono ?_; rintro e w1 ⟨rfl, hw⟩; have hw2 := hw.symm; subst hw2) | (go_at_call 24; with_reducible refine (HS.out _).mono ?_; rintro e w1 ⟨rfl, hw⟩; have hw2 := hw.symm; subst hw2))
    go_ret
    exact ⟨rfl, ba (Below.refl _ _) _⟩
  rw [decide_eq_true e0]
  go_enter Tryz.func92, Tryz.ntmps92
  go_wp2_with (first | (go_at_call 24; with_reducible refine (HT.out _).mono ?_; rintro e w1 ⟨rfl, hw⟩; have hw2 := hw.symm; subst hw2) | (go_at_call 24; with_reducible refine (HS.out _).mono ?_; rintro e w1 ⟨rfl, hw⟩; have hw2 := hw.symm; subst hw2) | (go_at_call 101; refine (HRS.out _).mono ?_; rintro e w2 ⟨rfl, hb2⟩))
  go_ret
  exact ⟨by simp, qma hb2⟩

set_option maxRecDepth 10000 in
set_option maxHeartbeats 2000000 in
theorem cmd_3 (tok seq : Int) (text task : ByteArray) (num up : Int) (yes : Bool) (w : World) (ht : text.size ≤ 9223372036854775807) (_hk : task.size ≤ 9223372036854775807) (h1 : 0 ≤ tok ∧ tok ≤ 1000000) (h2 : 0 ≤ seq ∧ seq ≤ 1000000) :
    Calls Tryz.prog 92 #[.agg #[.int .i64 3, .int .i64 tok, .int .i64 seq, .string text, .string task, .int .i64 num, .int .i64 up, .bool yes]] w fun e w' => e = .returned (.bool ((nameB text && restB true false false false true text task num up yes))) ∧ Below w.heap.size w w' := by
  have HT : Hid (∀ w, Calls Tryz.prog 24 #[.int .i64 tok, .int .i64 0, .int .i64 1000000] w fun e w' => e = .returned (.bool true) ∧ w' = w) := by intro w; have := qbb tok 1000000 w; rwa [decide_eq_true h1] at this
  have HS : Hid (∀ w, Calls Tryz.prog 24 #[.int .i64 seq, .int .i64 0, .int .i64 1000000] w fun e w' => e = .returned (.bool true) ∧ w' = w) := by intro w; have := qbb seq 1000000 w; rwa [decide_eq_true h2] at this
  have HRS : Hid (∀ w, Calls Tryz.prog 101 #[.agg #[.int .i64 3, .int .i64 tok, .int .i64 seq, .string text, .string task, .int .i64 num, .int .i64 up, .bool yes], .bool true, .bool false, .bool false, .bool false, .bool true] w fun e w' => e = .returned (.bool (restB true false false false true text task num up yes)) ∧ Below w.heap.size w w') := fun w => rest_10001 3 tok seq text task num up yes w
  obtain ⟨r, HR⟩ : ∃ r, Hid (restB true false false false true text task num up yes = r) := ⟨_, rfl⟩
  rw [HR.out] at HRS ⊢
  clear HR h1 h2
  obtain ⟨q0, HQ0⟩ : ∃ q, Hid (nameB text = q) := ⟨_, rfl⟩
  have G0 : Hid (∀ w, Calls Tryz.prog 102 #[.string text] w fun e w' => e = .returned (.bool q0) ∧ w' = w) := by intro w; rw [← HQ0.out]; exact qib text w ht
  rw [HQ0.out]
  clear HQ0
  cases q0
  case false =>
    go_enter Tryz.func92, Tryz.ntmps92
    go_wp2_with (first | (go_at_call 24; with_reducible refine (HT.out _).mono ?_; rintro e w1 ⟨rfl, hw⟩; have hw2 := hw.symm; subst hw2) | (go_at_call 24; with_reducible refine (HS.out _).mono ?_; rintro e w1 ⟨rfl, hw⟩; have hw2 := hw.symm; subst hw2) | (go_at_call 102; with_reducible refine (G0.out _).mono ?_; rintro e w1 ⟨rfl, hw⟩; have hw2 := hw.symm; subst hw2))
    go_ret
    exact ⟨rfl, ba (Below.refl _ _) _⟩
  go_enter Tryz.func92, Tryz.ntmps92
  go_wp2_with (first | (go_at_call 24; with_reducible refine (HT.out _).mono ?_; rintro e w1 ⟨rfl, hw⟩; have hw2 := hw.symm; subst hw2) | (go_at_call 24; with_reducible refine (HS.out _).mono ?_; rintro e w1 ⟨rfl, hw⟩; have hw2 := hw.symm; subst hw2) | (go_at_call 102; with_reducible refine (G0.out _).mono ?_; rintro e w1 ⟨rfl, hw⟩; have hw2 := hw.symm; subst hw2) | (go_at_call 101; refine (HRS.out _).mono ?_; rintro e w2 ⟨rfl, hb2⟩))
  go_ret
  exact ⟨by simp, qma hb2⟩

set_option maxRecDepth 10000 in
set_option maxHeartbeats 2000000 in
theorem cmd_4 (tok seq : Int) (text task : ByteArray) (num up : Int) (yes : Bool) (w : World) (_ht : text.size ≤ 9223372036854775807) (_hk : task.size ≤ 9223372036854775807) (h1 : 0 ≤ tok ∧ tok ≤ 1000000) (h2 : 0 ≤ seq ∧ seq ≤ 1000000) :
    Calls Tryz.prog 92 #[.agg #[.int .i64 4, .int .i64 tok, .int .i64 seq, .string text, .string task, .int .i64 num, .int .i64 up, .bool yes]] w fun e w' => e = .returned (.bool ((decide (0 ≤ num ∧ num ≤ 68374079) && restB false false true false false text task num up yes))) ∧ Below w.heap.size w w' := by
  have HT : Hid (∀ w, Calls Tryz.prog 24 #[.int .i64 tok, .int .i64 0, .int .i64 1000000] w fun e w' => e = .returned (.bool true) ∧ w' = w) := by intro w; have := qbb tok 1000000 w; rwa [decide_eq_true h1] at this
  have HS : Hid (∀ w, Calls Tryz.prog 24 #[.int .i64 seq, .int .i64 0, .int .i64 1000000] w fun e w' => e = .returned (.bool true) ∧ w' = w) := by intro w; have := qbb seq 1000000 w; rwa [decide_eq_true h2] at this
  have HRS : Hid (∀ w, Calls Tryz.prog 101 #[.agg #[.int .i64 4, .int .i64 tok, .int .i64 seq, .string text, .string task, .int .i64 num, .int .i64 up, .bool yes], .bool false, .bool false, .bool true, .bool false, .bool false] w fun e w' => e = .returned (.bool (restB false false true false false text task num up yes)) ∧ Below w.heap.size w w') := fun w => rest_00100 4 tok seq text task num up yes w
  obtain ⟨r, HR⟩ : ∃ r, Hid (restB false false true false false text task num up yes = r) := ⟨_, rfl⟩
  rw [HR.out] at HRS ⊢
  clear HR h1 h2
  obtain ⟨q0, HQ0⟩ : ∃ q, Hid (decide (0 ≤ num ∧ num ≤ 68374079) = q) := ⟨_, rfl⟩
  have G0 : Hid (∀ w, Calls Tryz.prog 24 #[.int .i64 num, .int .i64 0, .int .i64 68374079] w fun e w' => e = .returned (.bool q0) ∧ w' = w) := by intro w; rw [← HQ0.out]; exact qbb num 68374079 w
  rw [HQ0.out]
  clear HQ0
  cases q0
  case false =>
    go_enter Tryz.func92, Tryz.ntmps92
    go_wp2_with (first | (go_at_call 24; with_reducible refine (HT.out _).mono ?_; rintro e w1 ⟨rfl, hw⟩; have hw2 := hw.symm; subst hw2) | (go_at_call 24; with_reducible refine (HS.out _).mono ?_; rintro e w1 ⟨rfl, hw⟩; have hw2 := hw.symm; subst hw2) | (go_at_call 24; with_reducible refine (G0.out _).mono ?_; rintro e w1 ⟨rfl, hw⟩; have hw2 := hw.symm; subst hw2))
    go_ret
    exact ⟨rfl, ba (Below.refl _ _) _⟩
  go_enter Tryz.func92, Tryz.ntmps92
  go_wp2_with (first | (go_at_call 24; with_reducible refine (HT.out _).mono ?_; rintro e w1 ⟨rfl, hw⟩; have hw2 := hw.symm; subst hw2) | (go_at_call 24; with_reducible refine (HS.out _).mono ?_; rintro e w1 ⟨rfl, hw⟩; have hw2 := hw.symm; subst hw2) | (go_at_call 24; with_reducible refine (G0.out _).mono ?_; rintro e w1 ⟨rfl, hw⟩; have hw2 := hw.symm; subst hw2) | (go_at_call 101; refine (HRS.out _).mono ?_; rintro e w2 ⟨rfl, hb2⟩))
  go_ret
  exact ⟨by simp, qma hb2⟩

set_option maxRecDepth 10000 in
set_option maxHeartbeats 2000000 in
theorem cmd_5 (tok seq : Int) (text task : ByteArray) (num up : Int) (yes : Bool) (w : World) (_ht : text.size ≤ 9223372036854775807) (_hk : task.size ≤ 9223372036854775807) (h1 : 0 ≤ tok ∧ tok ≤ 1000000) (h2 : 0 ≤ seq ∧ seq ≤ 1000000) :
    Calls Tryz.prog 92 #[.agg #[.int .i64 5, .int .i64 tok, .int .i64 seq, .string text, .string task, .int .i64 num, .int .i64 up, .bool yes]] w fun e w' => e = .returned (.bool (restB false false false false false text task num up yes)) ∧ Below w.heap.size w w' := by
  have HT : Hid (∀ w, Calls Tryz.prog 24 #[.int .i64 tok, .int .i64 0, .int .i64 1000000] w fun e w' => e = .returned (.bool true) ∧ w' = w) := by intro w; have := qbb tok 1000000 w; rwa [decide_eq_true h1] at this
  have HS : Hid (∀ w, Calls Tryz.prog 24 #[.int .i64 seq, .int .i64 0, .int .i64 1000000] w fun e w' => e = .returned (.bool true) ∧ w' = w) := by intro w; have := qbb seq 1000000 w; rwa [decide_eq_true h2] at this
  have HRS : Hid (∀ w, Calls Tryz.prog 101 #[.agg #[.int .i64 5, .int .i64 tok, .int .i64 seq, .string text, .string task, .int .i64 num, .int .i64 up, .bool yes], .bool false, .bool false, .bool false, .bool false, .bool false] w fun e w' => e = .returned (.bool (restB false false false false false text task num up yes)) ∧ Below w.heap.size w w') := fun w => rest_00000 5 tok seq text task num up yes w
  obtain ⟨r, HR⟩ : ∃ r, Hid (restB false false false false false text task num up yes = r) := ⟨_, rfl⟩
  rw [HR.out] at HRS ⊢
  clear HR h1 h2
  go_enter Tryz.func92, Tryz.ntmps92
  go_wp2_with (first | (go_at_call 24; with_reducible refine (HT.out _).mono ?_; rintro e w1 ⟨rfl, hw⟩; have hw2 := hw.symm; subst hw2) | (go_at_call 24; with_reducible refine (HS.out _).mono ?_; rintro e w1 ⟨rfl, hw⟩; have hw2 := hw.symm; subst hw2) | (go_at_call 101; refine (HRS.out _).mono ?_; rintro e w2 ⟨rfl, hb2⟩))
  go_ret
  exact ⟨by simp, qma hb2⟩

set_option maxRecDepth 10000 in
set_option maxHeartbeats 2000000 in
theorem cmd_6 (tok seq : Int) (text task : ByteArray) (num up : Int) (yes : Bool) (w : World) (_ht : text.size ≤ 9223372036854775807) (_hk : task.size ≤ 9223372036854775807) (h1 : 0 ≤ tok ∧ tok ≤ 1000000) (h2 : 0 ≤ seq ∧ seq ≤ 1000000) :
    Calls Tryz.prog 92 #[.agg #[.int .i64 6, .int .i64 tok, .int .i64 seq, .string text, .string task, .int .i64 num, .int .i64 up, .bool yes]] w fun e w' => e = .returned (.bool ((decide (0 ≤ num ∧ num ≤ 1000000000) && restB false false true false false text task num up yes))) ∧ Below w.heap.size w w' := by
  have HT : Hid (∀ w, Calls Tryz.prog 24 #[.int .i64 tok, .int .i64 0, .int .i64 1000000] w fun e w' => e = .returned (.bool true) ∧ w' = w) := by intro w; have := qbb tok 1000000 w; rwa [decide_eq_true h1] at this
  have HS : Hid (∀ w, Calls Tryz.prog 24 #[.int .i64 seq, .int .i64 0, .int .i64 1000000] w fun e w' => e = .returned (.bool true) ∧ w' = w) := by intro w; have := qbb seq 1000000 w; rwa [decide_eq_true h2] at this
  have HRS : Hid (∀ w, Calls Tryz.prog 101 #[.agg #[.int .i64 6, .int .i64 tok, .int .i64 seq, .string text, .string task, .int .i64 num, .int .i64 up, .bool yes], .bool false, .bool false, .bool true, .bool false, .bool false] w fun e w' => e = .returned (.bool (restB false false true false false text task num up yes)) ∧ Below w.heap.size w w') := fun w => rest_00100 6 tok seq text task num up yes w
  obtain ⟨r, HR⟩ : ∃ r, Hid (restB false false true false false text task num up yes = r) := ⟨_, rfl⟩
  rw [HR.out] at HRS ⊢
  clear HR h1 h2
  obtain ⟨q0, HQ0⟩ : ∃ q, Hid (decide (0 ≤ num ∧ num ≤ 1000000000) = q) := ⟨_, rfl⟩
  have G0 : Hid (∀ w, Calls Tryz.prog 24 #[.int .i64 num, .int .i64 0, .int .i64 1000000000] w fun e w' => e = .returned (.bool q0) ∧ w' = w) := by intro w; rw [← HQ0.out]; exact qbb num 1000000000 w
  rw [HQ0.out]
  clear HQ0
  cases q0
  case false =>
    go_enter Tryz.func92, Tryz.ntmps92
    go_wp2_with (first | (go_at_call 24; with_reducible refine (HT.out _).mono ?_; rintro e w1 ⟨rfl, hw⟩; have hw2 := hw.symm; subst hw2) | (go_at_call 24; with_reducible refine (HS.out _).mono ?_; rintro e w1 ⟨rfl, hw⟩; have hw2 := hw.symm; subst hw2) | (go_at_call 24; with_reducible refine (G0.out _).mono ?_; rintro e w1 ⟨rfl, hw⟩; have hw2 := hw.symm; subst hw2))
    go_ret
    exact ⟨rfl, ba (Below.refl _ _) _⟩
  go_enter Tryz.func92, Tryz.ntmps92
  go_wp2_with (first | (go_at_call 24; with_reducible refine (HT.out _).mono ?_; rintro e w1 ⟨rfl, hw⟩; have hw2 := hw.symm; subst hw2) | (go_at_call 24; with_reducible refine (HS.out _).mono ?_; rintro e w1 ⟨rfl, hw⟩; have hw2 := hw.symm; subst hw2) | (go_at_call 24; with_reducible refine (G0.out _).mono ?_; rintro e w1 ⟨rfl, hw⟩; have hw2 := hw.symm; subst hw2) | (go_at_call 101; refine (HRS.out _).mono ?_; rintro e w2 ⟨rfl, hb2⟩))
  go_ret
  exact ⟨by simp, qma hb2⟩

set_option maxRecDepth 10000 in
set_option maxHeartbeats 2000000 in
theorem cmd_7 (tok seq : Int) (text task : ByteArray) (num up : Int) (yes : Bool) (w : World) (_ht : text.size ≤ 9223372036854775807) (_hk : task.size ≤ 9223372036854775807) (h1 : 0 ≤ tok ∧ tok ≤ 1000000) (h2 : 0 ≤ seq ∧ seq ≤ 1000000) :
    Calls Tryz.prog 92 #[.agg #[.int .i64 7, .int .i64 tok, .int .i64 seq, .string text, .string task, .int .i64 num, .int .i64 up, .bool yes]] w fun e w' => e = .returned (.bool ((decide (0 ≤ num ∧ num ≤ 1000000000) && restB false false true false true text task num up yes))) ∧ Below w.heap.size w w' := by
  have HT : Hid (∀ w, Calls Tryz.prog 24 #[.int .i64 tok, .int .i64 0, .int .i64 1000000] w fun e w' => e = .returned (.bool true) ∧ w' = w) := by intro w; have := qbb tok 1000000 w; rwa [decide_eq_true h1] at this
  have HS : Hid (∀ w, Calls Tryz.prog 24 #[.int .i64 seq, .int .i64 0, .int .i64 1000000] w fun e w' => e = .returned (.bool true) ∧ w' = w) := by intro w; have := qbb seq 1000000 w; rwa [decide_eq_true h2] at this
  have HRS : Hid (∀ w, Calls Tryz.prog 101 #[.agg #[.int .i64 7, .int .i64 tok, .int .i64 seq, .string text, .string task, .int .i64 num, .int .i64 up, .bool yes], .bool false, .bool false, .bool true, .bool false, .bool true] w fun e w' => e = .returned (.bool (restB false false true false true text task num up yes)) ∧ Below w.heap.size w w') := fun w => rest_00101 7 tok seq text task num up yes w
  obtain ⟨r, HR⟩ : ∃ r, Hid (restB false false true false true text task num up yes = r) := ⟨_, rfl⟩
  rw [HR.out] at HRS ⊢
  clear HR h1 h2
  obtain ⟨q0, HQ0⟩ : ∃ q, Hid (decide (0 ≤ num ∧ num ≤ 1000000000) = q) := ⟨_, rfl⟩
  have G0 : Hid (∀ w, Calls Tryz.prog 24 #[.int .i64 num, .int .i64 0, .int .i64 1000000000] w fun e w' => e = .returned (.bool q0) ∧ w' = w) := by intro w; rw [← HQ0.out]; exact qbb num 1000000000 w
  rw [HQ0.out]
  clear HQ0
  cases q0
  case false =>
    go_enter Tryz.func92, Tryz.ntmps92
    go_wp2_with (first | (go_at_call 24; with_reducible refine (HT.out _).mono ?_; rintro e w1 ⟨rfl, hw⟩; have hw2 := hw.symm; subst hw2) | (go_at_call 24; with_reducible refine (HS.out _).mono ?_; rintro e w1 ⟨rfl, hw⟩; have hw2 := hw.symm; subst hw2) | (go_at_call 24; with_reducible refine (G0.out _).mono ?_; rintro e w1 ⟨rfl, hw⟩; have hw2 := hw.symm; subst hw2))
    go_ret
    exact ⟨rfl, ba (Below.refl _ _) _⟩
  go_enter Tryz.func92, Tryz.ntmps92
  go_wp2_with (first | (go_at_call 24; with_reducible refine (HT.out _).mono ?_; rintro e w1 ⟨rfl, hw⟩; have hw2 := hw.symm; subst hw2) | (go_at_call 24; with_reducible refine (HS.out _).mono ?_; rintro e w1 ⟨rfl, hw⟩; have hw2 := hw.symm; subst hw2) | (go_at_call 24; with_reducible refine (G0.out _).mono ?_; rintro e w1 ⟨rfl, hw⟩; have hw2 := hw.symm; subst hw2) | (go_at_call 101; refine (HRS.out _).mono ?_; rintro e w2 ⟨rfl, hb2⟩))
  go_ret
  exact ⟨by simp, qma hb2⟩

set_option maxRecDepth 10000 in
set_option maxHeartbeats 2000000 in
theorem cmd_8 (tok seq : Int) (text task : ByteArray) (num up : Int) (yes : Bool) (w : World) (ht : text.size ≤ 9223372036854775807) (_hk : task.size ≤ 9223372036854775807) (h1 : 0 ≤ tok ∧ tok ≤ 1000000) (h2 : 0 ≤ seq ∧ seq ≤ 1000000) :
    Calls Tryz.prog 92 #[.agg #[.int .i64 8, .int .i64 tok, .int .i64 seq, .string text, .string task, .int .i64 num, .int .i64 up, .bool yes]] w fun e w' => e = .returned (.bool ((nameB text && (decide (0 ≤ num ∧ num ≤ 68374079) && (decide (0 ≤ up ∧ up ≤ 68374079) && restB true false true true false text task num up yes))))) ∧ Below w.heap.size w w' := by
  have HT : Hid (∀ w, Calls Tryz.prog 24 #[.int .i64 tok, .int .i64 0, .int .i64 1000000] w fun e w' => e = .returned (.bool true) ∧ w' = w) := by intro w; have := qbb tok 1000000 w; rwa [decide_eq_true h1] at this
  have HS : Hid (∀ w, Calls Tryz.prog 24 #[.int .i64 seq, .int .i64 0, .int .i64 1000000] w fun e w' => e = .returned (.bool true) ∧ w' = w) := by intro w; have := qbb seq 1000000 w; rwa [decide_eq_true h2] at this
  have HRS : Hid (∀ w, Calls Tryz.prog 101 #[.agg #[.int .i64 8, .int .i64 tok, .int .i64 seq, .string text, .string task, .int .i64 num, .int .i64 up, .bool yes], .bool true, .bool false, .bool true, .bool true, .bool false] w fun e w' => e = .returned (.bool (restB true false true true false text task num up yes)) ∧ Below w.heap.size w w') := fun w => rest_10110 8 tok seq text task num up yes w
  obtain ⟨r, HR⟩ : ∃ r, Hid (restB true false true true false text task num up yes = r) := ⟨_, rfl⟩
  rw [HR.out] at HRS ⊢
  clear HR h1 h2
  obtain ⟨q0, HQ0⟩ : ∃ q, Hid (nameB text = q) := ⟨_, rfl⟩
  have G0 : Hid (∀ w, Calls Tryz.prog 102 #[.string text] w fun e w' => e = .returned (.bool q0) ∧ w' = w) := by intro w; rw [← HQ0.out]; exact qib text w ht
  obtain ⟨q1, HQ1⟩ : ∃ q, Hid (decide (0 ≤ num ∧ num ≤ 68374079) = q) := ⟨_, rfl⟩
  have G1 : Hid (∀ w, Calls Tryz.prog 24 #[.int .i64 num, .int .i64 0, .int .i64 68374079] w fun e w' => e = .returned (.bool q1) ∧ w' = w) := by intro w; rw [← HQ1.out]; exact qbb num 68374079 w
  obtain ⟨q2, HQ2⟩ : ∃ q, Hid (decide (0 ≤ up ∧ up ≤ 68374079) = q) := ⟨_, rfl⟩
  have G2 : Hid (∀ w, Calls Tryz.prog 24 #[.int .i64 up, .int .i64 0, .int .i64 68374079] w fun e w' => e = .returned (.bool q2) ∧ w' = w) := by intro w; rw [← HQ2.out]; exact qbb up 68374079 w
  rw [HQ0.out, HQ1.out, HQ2.out]
  clear HQ0 HQ1 HQ2
  cases q0
  case false =>
    go_enter Tryz.func92, Tryz.ntmps92
    go_wp2_with (first | (go_at_call 24; with_reducible refine (HT.out _).mono ?_; rintro e w1 ⟨rfl, hw⟩; have hw2 := hw.symm; subst hw2) | (go_at_call 24; with_reducible refine (HS.out _).mono ?_; rintro e w1 ⟨rfl, hw⟩; have hw2 := hw.symm; subst hw2) | (go_at_call 102; with_reducible refine (G0.out _).mono ?_; rintro e w1 ⟨rfl, hw⟩; have hw2 := hw.symm; subst hw2) | (go_at_call 24; with_reducible refine (G1.out _).mono ?_; rintro e w1 ⟨rfl, hw⟩; have hw2 := hw.symm; subst hw2) | (go_at_call 24; with_reducible refine (G2.out _).mono ?_; rintro e w1 ⟨rfl, hw⟩; have hw2 := hw.symm; subst hw2))
    go_ret
    exact ⟨rfl, ba (Below.refl _ _) _⟩
  cases q1
  case false =>
    go_enter Tryz.func92, Tryz.ntmps92
    go_wp2_with (first | (go_at_call 24; with_reducible refine (HT.out _).mono ?_; rintro e w1 ⟨rfl, hw⟩; have hw2 := hw.symm; subst hw2) | (go_at_call 24; with_reducible refine (HS.out _).mono ?_; rintro e w1 ⟨rfl, hw⟩; have hw2 := hw.symm; subst hw2) | (go_at_call 102; with_reducible refine (G0.out _).mono ?_; rintro e w1 ⟨rfl, hw⟩; have hw2 := hw.symm; subst hw2) | (go_at_call 24; with_reducible refine (G1.out _).mono ?_; rintro e w1 ⟨rfl, hw⟩; have hw2 := hw.symm; subst hw2) | (go_at_call 24; with_reducible refine (G2.out _).mono ?_; rintro e w1 ⟨rfl, hw⟩; have hw2 := hw.symm; subst hw2))
    go_ret
    exact ⟨rfl, ba (Below.refl _ _) _⟩
  cases q2
  case false =>
    go_enter Tryz.func92, Tryz.ntmps92
    go_wp2_with (first | (go_at_call 24; with_reducible refine (HT.out _).mono ?_; rintro e w1 ⟨rfl, hw⟩; have hw2 := hw.symm; subst hw2) | (go_at_call 24; with_reducible refine (HS.out _).mono ?_; rintro e w1 ⟨rfl, hw⟩; have hw2 := hw.symm; subst hw2) | (go_at_call 102; with_reducible refine (G0.out _).mono ?_; rintro e w1 ⟨rfl, hw⟩; have hw2 := hw.symm; subst hw2) | (go_at_call 24; with_reducible refine (G1.out _).mono ?_; rintro e w1 ⟨rfl, hw⟩; have hw2 := hw.symm; subst hw2) | (go_at_call 24; with_reducible refine (G2.out _).mono ?_; rintro e w1 ⟨rfl, hw⟩; have hw2 := hw.symm; subst hw2))
    go_ret
    exact ⟨rfl, ba (Below.refl _ _) _⟩
  go_enter Tryz.func92, Tryz.ntmps92
  go_wp2_with (first | (go_at_call 24; with_reducible refine (HT.out _).mono ?_; rintro e w1 ⟨rfl, hw⟩; have hw2 := hw.symm; subst hw2) | (go_at_call 24; with_reducible refine (HS.out _).mono ?_; rintro e w1 ⟨rfl, hw⟩; have hw2 := hw.symm; subst hw2) | (go_at_call 102; with_reducible refine (G0.out _).mono ?_; rintro e w1 ⟨rfl, hw⟩; have hw2 := hw.symm; subst hw2) | (go_at_call 24; with_reducible refine (G1.out _).mono ?_; rintro e w1 ⟨rfl, hw⟩; have hw2 := hw.symm; subst hw2) | (go_at_call 24; with_reducible refine (G2.out _).mono ?_; rintro e w1 ⟨rfl, hw⟩; have hw2 := hw.symm; subst hw2) | (go_at_call 101; refine (HRS.out _).mono ?_; rintro e w2 ⟨rfl, hb2⟩))
  go_ret
  exact ⟨by simp, qma hb2⟩

set_option maxRecDepth 10000 in
set_option maxHeartbeats 2000000 in
theorem cmd_9 (tok seq : Int) (text task : ByteArray) (num up : Int) (yes : Bool) (w : World) (ht : text.size ≤ 9223372036854775807) (hk : task.size ≤ 9223372036854775807) (h1 : 0 ≤ tok ∧ tok ≤ 1000000) (h2 : 0 ≤ seq ∧ seq ≤ 1000000) :
    Calls Tryz.prog 92 #[.agg #[.int .i64 9, .int .i64 tok, .int .i64 seq, .string text, .string task, .int .i64 num, .int .i64 up, .bool yes]] w fun e w' => e = .returned (.bool ((nameB text && (nameB task && (decide (0 ≤ num ∧ num ≤ 68374079) && restB true true true false false text task num up yes))))) ∧ Below w.heap.size w w' := by
  have HT : Hid (∀ w, Calls Tryz.prog 24 #[.int .i64 tok, .int .i64 0, .int .i64 1000000] w fun e w' => e = .returned (.bool true) ∧ w' = w) := by intro w; have := qbb tok 1000000 w; rwa [decide_eq_true h1] at this
  have HS : Hid (∀ w, Calls Tryz.prog 24 #[.int .i64 seq, .int .i64 0, .int .i64 1000000] w fun e w' => e = .returned (.bool true) ∧ w' = w) := by intro w; have := qbb seq 1000000 w; rwa [decide_eq_true h2] at this
  have HRS : Hid (∀ w, Calls Tryz.prog 101 #[.agg #[.int .i64 9, .int .i64 tok, .int .i64 seq, .string text, .string task, .int .i64 num, .int .i64 up, .bool yes], .bool true, .bool true, .bool true, .bool false, .bool false] w fun e w' => e = .returned (.bool (restB true true true false false text task num up yes)) ∧ Below w.heap.size w w') := fun w => rest_11100 9 tok seq text task num up yes w
  obtain ⟨r, HR⟩ : ∃ r, Hid (restB true true true false false text task num up yes = r) := ⟨_, rfl⟩
  rw [HR.out] at HRS ⊢
  clear HR h1 h2
  obtain ⟨q0, HQ0⟩ : ∃ q, Hid (nameB text = q) := ⟨_, rfl⟩
  have G0 : Hid (∀ w, Calls Tryz.prog 102 #[.string text] w fun e w' => e = .returned (.bool q0) ∧ w' = w) := by intro w; rw [← HQ0.out]; exact qib text w ht
  obtain ⟨q1, HQ1⟩ : ∃ q, Hid (nameB task = q) := ⟨_, rfl⟩
  have G1 : Hid (∀ w, Calls Tryz.prog 102 #[.string task] w fun e w' => e = .returned (.bool q1) ∧ w' = w) := by intro w; rw [← HQ1.out]; exact qib task w hk
  obtain ⟨q2, HQ2⟩ : ∃ q, Hid (decide (0 ≤ num ∧ num ≤ 68374079) = q) := ⟨_, rfl⟩
  have G2 : Hid (∀ w, Calls Tryz.prog 24 #[.int .i64 num, .int .i64 0, .int .i64 68374079] w fun e w' => e = .returned (.bool q2) ∧ w' = w) := by intro w; rw [← HQ2.out]; exact qbb num 68374079 w
  rw [HQ0.out, HQ1.out, HQ2.out]
  clear HQ0 HQ1 HQ2
  cases q0
  case false =>
    go_enter Tryz.func92, Tryz.ntmps92
    go_wp2_with (first | (go_at_call 24; with_reducible refine (HT.out _).mono ?_; rintro e w1 ⟨rfl, hw⟩; have hw2 := hw.symm; subst hw2) | (go_at_call 24; with_reducible refine (HS.out _).mono ?_; rintro e w1 ⟨rfl, hw⟩; have hw2 := hw.symm; subst hw2) | (go_at_call 102; with_reducible refine (G0.out _).mono ?_; rintro e w1 ⟨rfl, hw⟩; have hw2 := hw.symm; subst hw2) | (go_at_call 102; with_reducible refine (G1.out _).mono ?_; rintro e w1 ⟨rfl, hw⟩; have hw2 := hw.symm; subst hw2) | (go_at_call 24; with_reducible refine (G2.out _).mono ?_; rintro e w1 ⟨rfl, hw⟩; have hw2 := hw.symm; subst hw2))
    go_ret
    exact ⟨rfl, ba (Below.refl _ _) _⟩
  cases q1
  case false =>
    go_enter Tryz.func92, Tryz.ntmps92
    go_wp2_with (first | (go_at_call 24; with_reducible refine (HT.out _).mono ?_; rintro e w1 ⟨rfl, hw⟩; have hw2 := hw.symm; subst hw2) | (go_at_call 24; with_reducible refine (HS.out _).mono ?_; rintro e w1 ⟨rfl, hw⟩; have hw2 := hw.symm; subst hw2) | (go_at_call 102; with_reducible refine (G0.out _).mono ?_; rintro e w1 ⟨rfl, hw⟩; have hw2 := hw.symm; subst hw2) | (go_at_call 102; with_reducible refine (G1.out _).mono ?_; rintro e w1 ⟨rfl, hw⟩; have hw2 := hw.symm; subst hw2) | (go_at_call 24; with_reducible refine (G2.out _).mono ?_; rintro e w1 ⟨rfl, hw⟩; have hw2 := hw.symm; subst hw2))
    go_ret
    exact ⟨rfl, ba (Below.refl _ _) _⟩
  cases q2
  case false =>
    go_enter Tryz.func92, Tryz.ntmps92
    go_wp2_with (first | (go_at_call 24; with_reducible refine (HT.out _).mono ?_; rintro e w1 ⟨rfl, hw⟩; have hw2 := hw.symm; subst hw2) | (go_at_call 24; with_reducible refine (HS.out _).mono ?_; rintro e w1 ⟨rfl, hw⟩; have hw2 := hw.symm; subst hw2) | (go_at_call 102; with_reducible refine (G0.out _).mono ?_; rintro e w1 ⟨rfl, hw⟩; have hw2 := hw.symm; subst hw2) | (go_at_call 102; with_reducible refine (G1.out _).mono ?_; rintro e w1 ⟨rfl, hw⟩; have hw2 := hw.symm; subst hw2) | (go_at_call 24; with_reducible refine (G2.out _).mono ?_; rintro e w1 ⟨rfl, hw⟩; have hw2 := hw.symm; subst hw2))
    go_ret
    exact ⟨rfl, ba (Below.refl _ _) _⟩
  go_enter Tryz.func92, Tryz.ntmps92
  go_wp2_with (first | (go_at_call 24; with_reducible refine (HT.out _).mono ?_; rintro e w1 ⟨rfl, hw⟩; have hw2 := hw.symm; subst hw2) | (go_at_call 24; with_reducible refine (HS.out _).mono ?_; rintro e w1 ⟨rfl, hw⟩; have hw2 := hw.symm; subst hw2) | (go_at_call 102; with_reducible refine (G0.out _).mono ?_; rintro e w1 ⟨rfl, hw⟩; have hw2 := hw.symm; subst hw2) | (go_at_call 102; with_reducible refine (G1.out _).mono ?_; rintro e w1 ⟨rfl, hw⟩; have hw2 := hw.symm; subst hw2) | (go_at_call 24; with_reducible refine (G2.out _).mono ?_; rintro e w1 ⟨rfl, hw⟩; have hw2 := hw.symm; subst hw2) | (go_at_call 101; refine (HRS.out _).mono ?_; rintro e w2 ⟨rfl, hb2⟩))
  go_ret
  exact ⟨by simp, qma hb2⟩

set_option maxRecDepth 10000 in
set_option maxHeartbeats 2000000 in
theorem cmd_none (op tok seq : Int) (text task : ByteArray) (num up : Int) (yes : Bool) (w : World) (h1 : 0 ≤ tok ∧ tok ≤ 1000000) (h2 : 0 ≤ seq ∧ seq ≤ 1000000) (e1 : ¬ op = 1) (e2 : ¬ op = 2) (e3 : ¬ op = 3) (e4 : ¬ op = 4) (e5 : ¬ op = 5) (e6 : ¬ op = 6) (e7 : ¬ op = 7) (e8 : ¬ op = 8) (e9 : ¬ op = 9) :
    Calls Tryz.prog 92 #[.agg #[.int .i64 op, .int .i64 tok, .int .i64 seq, .string text, .string task, .int .i64 num, .int .i64 up, .bool yes]] w fun e w' => e = .returned (.bool false) ∧ Below w.heap.size w w' := by
  have HT : Hid (∀ w, Calls Tryz.prog 24 #[.int .i64 tok, .int .i64 0, .int .i64 1000000] w fun e w' => e = .returned (.bool true) ∧ w' = w) := by intro w; have := qbb tok 1000000 w; rwa [decide_eq_true h1] at this
  have HS : Hid (∀ w, Calls Tryz.prog 24 #[.int .i64 seq, .int .i64 0, .int .i64 1000000] w fun e w' => e = .returned (.bool true) ∧ w' = w) := by intro w; have := qbb seq 1000000 w; rwa [decide_eq_true h2] at this
  clear h1 h2
  go_enter Tryz.func92, Tryz.ntmps92
  go_wp2_with (first | (go_at_call 24; with_reducible refine (HT.out _).mono ?_; rintro e w1 ⟨rfl, hw⟩; have hw2 := hw.symm; subst hw2) | (go_at_call 24; with_reducible refine (HS.out _).mono ?_; rintro e w1 ⟨rfl, hw⟩; have hw2 := hw.symm; subst hw2))
  go_ret
  exact ⟨rfl, ba (Below.refl _ _) _⟩
set_option maxRecDepth 10000 in
set_option maxHeartbeats 2000000 in
theorem cmd_bad (op tok seq : Int) (text task : ByteArray) (num up : Int) (yes : Bool) (w : World) (h : ¬ ((0 ≤ tok ∧ tok ≤ 1000000) ∧ (0 ≤ seq ∧ seq ≤ 1000000))) :
    Calls Tryz.prog 92 #[.agg #[.int .i64 op, .int .i64 tok, .int .i64 seq, .string text, .string task, .int .i64 num, .int .i64 up, .bool yes]] w fun e w' => e = .returned (.bool false) ∧ Below w.heap.size w w' := by
  by_cases h1 : 0 ≤ tok ∧ tok ≤ 1000000
  · have h2 : ¬ (0 ≤ seq ∧ seq ≤ 1000000) := fun k => h ⟨h1, k⟩
    have HT : Hid (∀ w, Calls Tryz.prog 24 #[.int .i64 tok, .int .i64 0, .int .i64 1000000] w fun e w' => e = .returned (.bool true) ∧ w' = w) := by intro w; have := qbb tok 1000000 w; rwa [decide_eq_true h1] at this
    have HS : Hid (∀ w, Calls Tryz.prog 24 #[.int .i64 seq, .int .i64 0, .int .i64 1000000] w fun e w' => e = .returned (.bool false) ∧ w' = w) := by intro w; have := qbb seq 1000000 w; rwa [decide_eq_false h2] at this
    by_cases hts : tok = seq
    · subst hts; exact absurd h1 h2
    · clear h h1 h2
      go_enter Tryz.func92, Tryz.ntmps92
      go_wp2_with (first | (go_at_call 24; with_reducible refine (HT.out _).mono ?_; rintro e w1 ⟨rfl, hw⟩; have hw2 := hw.symm; subst hw2) | (go_at_call 24; with_reducible refine (HS.out _).mono ?_; rintro e w1 ⟨rfl, hw⟩; have hw2 := hw.symm; subst hw2))
      go_ret
      exact ⟨rfl, ba (Below.refl _ _) _⟩
  · have HT : Hid (∀ w, Calls Tryz.prog 24 #[.int .i64 tok, .int .i64 0, .int .i64 1000000] w fun e w' => e = .returned (.bool false) ∧ w' = w) := by intro w; have := qbb tok 1000000 w; rwa [decide_eq_false h1] at this
    clear h h1
    go_enter Tryz.func92, Tryz.ntmps92
    go_wp2_with (go_at_call 24; with_reducible refine (HT.out _).mono ?_; rintro e w1 ⟨rfl, hw⟩; have hw2 := hw.symm; subst hw2)
    go_ret
    exact ⟨rfl, ba (Below.refl _ _) _⟩
theorem commandOk_any (op tok seq : Int) (text task : ByteArray) (num up : Int) (yes : Bool) (w : World) (ht : text.size ≤ 9223372036854775807) (hk : task.size ≤ 9223372036854775807) :
    Calls Tryz.prog 92 #[.agg #[.int .i64 op, .int .i64 tok, .int .i64 seq, .string text, .string task, .int .i64 num, .int .i64 up, .bool yes]] w fun e w' => e = .returned (.bool (cmdB op tok seq text task num up yes)) ∧ Below w.heap.size w w' := by
  unfold cmdB
  by_cases h : (0 ≤ tok ∧ tok ≤ 1000000) ∧ (0 ≤ seq ∧ seq ≤ 1000000)
  · obtain ⟨h1, h2⟩ := h
    rw [decide_eq_true h1, decide_eq_true h2, Bool.true_and, Bool.true_and]
    unfold opB
    by_cases e1 : op = 1
    · rw [if_pos e1]; subst e1; exact cmd_1 tok seq text task num up yes w ht hk h1 h2
    rw [if_neg e1]
    by_cases e2 : op = 2
    · rw [if_pos e2]; subst e2; exact cmd_2 tok seq text task num up yes w ht hk h1 h2
    rw [if_neg e2]
    by_cases e3 : op = 3
    · rw [if_pos e3]; subst e3; exact cmd_3 tok seq text task num up yes w ht hk h1 h2
    rw [if_neg e3]
    by_cases e4 : op = 4
    · rw [if_pos e4]; subst e4; exact cmd_4 tok seq text task num up yes w ht hk h1 h2
    rw [if_neg e4]
    by_cases e5 : op = 5
    · rw [if_pos e5]; subst e5; exact cmd_5 tok seq text task num up yes w ht hk h1 h2
    rw [if_neg e5]
    by_cases e6 : op = 6
    · rw [if_pos e6]; subst e6; exact cmd_6 tok seq text task num up yes w ht hk h1 h2
    rw [if_neg e6]
    by_cases e7 : op = 7
    · rw [if_pos e7]; subst e7; exact cmd_7 tok seq text task num up yes w ht hk h1 h2
    rw [if_neg e7]
    by_cases e8 : op = 8
    · rw [if_pos e8]; subst e8; exact cmd_8 tok seq text task num up yes w ht hk h1 h2
    rw [if_neg e8]
    by_cases e9 : op = 9
    · rw [if_pos e9]; subst e9; exact cmd_9 tok seq text task num up yes w ht hk h1 h2
    rw [if_neg e9]
    exact cmd_none op tok seq text task num up yes w h1 h2 e1 e2 e3 e4 e5 e6 e7 e8 e9
  · have e : (decide (0 ≤ tok ∧ tok ≤ 1000000) && (decide (0 ≤ seq ∧ seq ≤ 1000000) && opB op tok seq text task num up yes)) = false := by
      by_cases h1 : 0 ≤ tok ∧ tok ≤ 1000000
      · rw [decide_eq_false fun k => h ⟨h1, k⟩, Bool.false_and, Bool.and_false]
      · rw [decide_eq_false h1, Bool.false_and]
    rw [e]
    exact cmd_bad op tok seq text task num up yes w h
end Go.Proofs.YtpjpheicldegkaaGreatDoor
