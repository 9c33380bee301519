/-
  Whether a command is right, as the specification tells it: the walk. A right command that is drawn, as the specification draws it: the walk of l17Right.
-/
import Derived.Test.YtehkebdncfljmaaME13
namespace Go.Proofs.Ytehkebdncfljmaa
open Go Go.RowKit

def opB (op tok seq : Int) (text task : ByteArray) (num up : Int) (yes : Bool) : Bool := if op = 1 then (decide (tok = 0) && (decide (seq = 0) && restB false false false false false text task num up yes)) else if op = 2 then (decide (text.size ≤ 600) && restB true false false false false text task num up yes) else if op = 3 then (nameB text && restB true false false false true text task num up yes) else if op = 4 then (decide (0 ≤ num ∧ num ≤ 68374079) && restB false false true false false text task num up yes) else if op = 5 then restB false false false false false text task num up yes else if op = 6 then (decide (0 ≤ num ∧ num ≤ 1000000000) && restB false false true false false text task num up yes) else if op = 7 then (decide (0 ≤ num ∧ num ≤ 1000000000) && restB false false true false true text task num up yes) else if op = 8 then (nameB text && (decide (0 ≤ num ∧ num ≤ 68374079) && (decide (0 ≤ up ∧ up ≤ 68374079) && restB true false true true false text task num up yes))) else if op = 9 then (nameB text && (nameB task && (decide (0 ≤ num ∧ num ≤ 68374079) && restB true true true false false text task num up yes))) else false
/-- A right command. -/
def cmdB (op tok seq : Int) (text task : ByteArray) (num up : Int) (yes : Bool) : Bool := decide (0 ≤ tok ∧ tok ≤ 1000000) && (decide (0 ≤ seq ∧ seq ≤ 1000000) && opB op tok seq text task num up yes)
theorem rng_any (x hi : Int) (w : World) : Calls Try.prog 38 #[.int .i64 x, .int .i64 0, .int .i64 hi] w fun e w' => e = .returned (.bool (decide (0 ≤ x ∧ x ≤ hi))) ∧ w' = w := by
  rw [Bool.decide_and]; exact in_any x 0 hi w

set_option maxRecDepth 10000 in
set_option maxHeartbeats 2000000 in
theorem cmd_1 (tok seq : Int) (text task : ByteArray) (num up : Int) (yes : Bool) (w : World) (_ht : text.size ≤ 9223372036854775807) (_hk : task.size ≤ 9223372036854775807) (h1 : 0 ≤ tok ∧ tok ≤ 1000000) (h2 : 0 ≤ seq ∧ seq ≤ 1000000) :
    Calls Try.prog 71 #[.agg #[.int .i64 1, .int .i64 tok, .int .i64 seq, .string text, .string task, .int .i64 num, .int .i64 up, .bool yes]] w fun e w' => e = .returned (.bool ((decide (tok = 0) && (decide (seq = 0) && restB false false false false false text task num up yes)))) ∧ Below w.heap.size w w' := by
  have HT : Hid (∀ w, Calls Try.prog 38 #[.int .i64 tok, .int .i64 0, .int .i64 1000000] w fun e w' => e = .returned (.bool true) ∧ w' = w) := by intro w; have := rng_any tok 1000000 w; rwa [decide_eq_true h1] at this
  have HS : Hid (∀ w, Calls Try.prog 38 #[.int .i64 seq, .int .i64 0, .int .i64 1000000] w fun e w' => e = .returned (.bool true) ∧ w' = w) := by intro w; have := rng_any seq 1000000 w; rwa [decide_eq_true h2] at this
  have HRS : Hid (∀ w, Calls Try.prog 78 #[.agg #[.int .i64 1, .int .i64 tok, .int .i64 seq, .string text, .string task, .int .i64 num, .int .i64 up, .bool yes], .bool false, .bool false, .bool false, .bool false, .bool false] w fun e w' => e = .returned (.bool (restB false false false false false text task num up yes)) ∧ Below w.heap.size w w') := fun w => rest_00000 1 tok seq text task num up yes w
  obtain ⟨r, HR⟩ : ∃ r, Hid (restB false false false false false text task num up yes = r) := ⟨_, rfl⟩
  rw [HR.out] at HRS ⊢
  clear HR h1 h2
  by_cases e0 : tok = 0
  case neg =>
    have b0 : (tok == 0) = false := beq_eq_false_iff_ne.2 e0
    rw [decide_eq_false e0]
    clear e0
    go_enter Try.func71, Try.ntmps71
    go_wp2_with (first | (go_at_call 38; with_reducible refine (HT.out _).mono ?_; rintro e w1 ⟨rfl, hw⟩; have hw2 := hw.symm; subst hw2) | (go_at_call 38; with_reducible refine (HS.out _).mono ?_; rintro e w1 ⟨rfl, hw⟩; have hw2 := hw.symm; subst hw2))
    go_ret
    exact ⟨rfl, ba (Below.refl _ _) _⟩
  subst e0
  by_cases e1 : seq = 0
  case neg =>
    have b1 : (seq == 0) = false := beq_eq_false_iff_ne.2 e1
    rw [decide_eq_false e1]
    clear e1
    go_enter Try.func71, Try.ntmps71
    go_wp2_with (first | (go_at_call 38; with_reducible refine (HT.out _).mono ?_; rintro e w1 ⟨rfl, hw⟩; have hw2 := hw.symm; subst hw2) | (go_at_call 38; with_reducible refine (HS.out _).mono ?_; rintro e w1 ⟨rfl, hw⟩; have hw2 := hw.symm; subst hw2))
    go_ret
    exact ⟨rfl, ba (Below.refl _ _) _⟩
  subst e1
  go_enter Try.func71, Try.ntmps71
  go_wp2_with (first | (go_at_call 38; with_reducible refine (HT.out _).mono ?_; rintro e w1 ⟨rfl, hw⟩; have hw2 := hw.symm; subst hw2) | (go_at_call 38; with_reducible refine (HS.out _).mono ?_; rintro e w1 ⟨rfl, hw⟩; have hw2 := hw.symm; subst hw2) | (go_at_call 78; refine (HRS.out _).mono ?_; rintro e w2 ⟨rfl, hb2⟩))
  go_ret
  exact ⟨by simp, below_new hb2⟩

set_option maxRecDepth 10000 in
set_option maxHeartbeats 2000000 in
theorem cmd_2 (tok seq : Int) (text task : ByteArray) (num up : Int) (yes : Bool) (w : World) (ht : text.size ≤ 9223372036854775807) (_hk : task.size ≤ 9223372036854775807) (h1 : 0 ≤ tok ∧ tok ≤ 1000000) (h2 : 0 ≤ seq ∧ seq ≤ 1000000) :
    Calls Try.prog 71 #[.agg #[.int .i64 2, .int .i64 tok, .int .i64 seq, .string text, .string task, .int .i64 num, .int .i64 up, .bool yes]] w fun e w' => e = .returned (.bool ((decide (text.size ≤ 600) && restB true false false false false text task num up yes))) ∧ Below w.heap.size w w' := by
  have HT : Hid (∀ w, Calls Try.prog 38 #[.int .i64 tok, .int .i64 0, .int .i64 1000000] w fun e w' => e = .returned (.bool true) ∧ w' = w) := by intro w; have := rng_any tok 1000000 w; rwa [decide_eq_true h1] at this
  have HS : Hid (∀ w, Calls Try.prog 38 #[.int .i64 seq, .int .i64 0, .int .i64 1000000] w fun e w' => e = .returned (.bool true) ∧ w' = w) := by intro w; have := rng_any seq 1000000 w; rwa [decide_eq_true h2] at this
  have HRS : Hid (∀ w, Calls Try.prog 78 #[.agg #[.int .i64 2, .int .i64 tok, .int .i64 seq, .string text, .string task, .int .i64 num, .int .i64 up, .bool yes], .bool true, .bool false, .bool false, .bool false, .bool false] w fun e w' => e = .returned (.bool (restB true false false false false text task num up yes)) ∧ Below w.heap.size w w') := fun w => rest_10000 2 tok seq text task num up yes w
  obtain ⟨r, HR⟩ : ∃ r, Hid (restB true false false false false text task num up yes = r) := ⟨_, rfl⟩
  rw [HR.out] at HRS ⊢
  clear HR h1 h2
  by_cases e0 : text.size ≤ 600
  case neg =>
    rw [decide_eq_false e0]
    go_enter Try.func71, Try.ntmps71
    go_wp2_with (first | (go_at_call 38; with_reducible refine (HT.out _).mono ?_; rintro e w1 ⟨rfl, hw⟩; have hw2 := hw.symm; subst hw2) | (go_at_call 38; with_reducible refine (HS.out _).mono ?_; rintro e w1 ⟨rfl, hw⟩; have hw2 := hw.symm; subst hw2))
    go_ret
    exact ⟨rfl, ba (Below.refl _ _) _⟩
  rw [decide_eq_true e0]
  go_enter Try.func71, Try.ntmps71
  go_wp2_with (first | (go_at_call 38; with_reducible refine (HT.out _).mono ?_; rintro e w1 ⟨rfl, hw⟩; have hw2 := hw.symm; subst hw2) | (go_at_call 38; with_reducible refine (HS.out _).mono ?_; rintro e w1 ⟨rfl, hw⟩; have hw2 := hw.symm; subst hw2) | (go_at_call 78; refine (HRS.out _).mono ?_; rintro e w2 ⟨rfl, hb2⟩))
  go_ret
  exact ⟨by simp, below_new hb2⟩

set_option maxRecDepth 10000 in
set_option maxHeartbeats 2000000 in
theorem cmd_3 (tok seq : Int) (text task : ByteArray) (num up : Int) (yes : Bool) (w : World) (ht : text.size ≤ 9223372036854775807) (_hk : task.size ≤ 9223372036854775807) (h1 : 0 ≤ tok ∧ tok ≤ 1000000) (h2 : 0 ≤ seq ∧ seq ≤ 1000000) :
    Calls Try.prog 71 #[.agg #[.int .i64 3, .int .i64 tok, .int .i64 seq, .string text, .string task, .int .i64 num, .int .i64 up, .bool yes]] w fun e w' => e = .returned (.bool ((nameB text && restB true false false false true text task num up yes))) ∧ Below w.heap.size w w' := by
  have HT : Hid (∀ w, Calls Try.prog 38 #[.int .i64 tok, .int .i64 0, .int .i64 1000000] w fun e w' => e = .returned (.bool true) ∧ w' = w) := by intro w; have := rng_any tok 1000000 w; rwa [decide_eq_true h1] at this
  have HS : Hid (∀ w, Calls Try.prog 38 #[.int .i64 seq, .int .i64 0, .int .i64 1000000] w fun e w' => e = .returned (.bool true) ∧ w' = w) := by intro w; have := rng_any seq 1000000 w; rwa [decide_eq_true h2] at this
  have HRS : Hid (∀ w, Calls Try.prog 78 #[.agg #[.int .i64 3, .int .i64 tok, .int .i64 seq, .string text, .string task, .int .i64 num, .int .i64 up, .bool yes], .bool true, .bool false, .bool false, .bool false, .bool true] w fun e w' => e = .returned (.bool (restB true false false false true text task num up yes)) ∧ Below w.heap.size w w') := fun w => rest_10001 3 tok seq text task num up yes w
  obtain ⟨r, HR⟩ : ∃ r, Hid (restB true false false false true text task num up yes = r) := ⟨_, rfl⟩
  rw [HR.out] at HRS ⊢
  clear HR h1 h2
  obtain ⟨q0, HQ0⟩ : ∃ q, Hid (nameB text = q) := ⟨_, rfl⟩
  have G0 : Hid (∀ w, Calls Try.prog 79 #[.string text] w fun e w' => e = .returned (.bool q0) ∧ w' = w) := by intro w; rw [← HQ0.out]; exact nameOk_any text w ht
  rw [HQ0.out]
  clear HQ0
  cases q0
  case false =>
    go_enter Try.func71, Try.ntmps71
    go_wp2_with (first | (go_at_call 38; with_reducible refine (HT.out _).mono ?_; rintro e w1 ⟨rfl, hw⟩; have hw2 := hw.symm; subst hw2) | (go_at_call 38; with_reducible refine (HS.out _).mono ?_; rintro e w1 ⟨rfl, hw⟩; have hw2 := hw.symm; subst hw2) | (go_at_call 79; with_reducible refine (G0.out _).mono ?_; rintro e w1 ⟨rfl, hw⟩; have hw2 := hw.symm; subst hw2))
    go_ret
    exact ⟨rfl, ba (Below.refl _ _) _⟩
  go_enter Try.func71, Try.ntmps71
  go_wp2_with (first | (go_at_call 38; with_reducible refine (HT.out _).mono ?_; rintro e w1 ⟨rfl, hw⟩; have hw2 := hw.symm; subst hw2) | (go_at_call 38; with_reducible refine (HS.out _).mono ?_; rintro e w1 ⟨rfl, hw⟩; have hw2 := hw.symm; subst hw2) | (go_at_call 79; with_reducible refine (G0.out _).mono ?_; rintro e w1 ⟨rfl, hw⟩; have hw2 := hw.symm; subst hw2) | (go_at_call 78; refine (HRS.out _).mono ?_; rintro e w2 ⟨rfl, hb2⟩))
  go_ret
  exact ⟨by simp, below_new hb2⟩

set_option maxRecDepth 10000 in
set_option maxHeartbeats 2000000 in
theorem cmd_4 (tok seq : Int) (text task : ByteArray) (num up : Int) (yes : Bool) (w : World) (_ht : text.size ≤ 9223372036854775807) (_hk : task.size ≤ 9223372036854775807) (h1 : 0 ≤ tok ∧ tok ≤ 1000000) (h2 : 0 ≤ seq ∧ seq ≤ 1000000) :
    Calls Try.prog 71 #[.agg #[.int .i64 4, .int .i64 tok, .int .i64 seq, .string text, .string task, .int .i64 num, .int .i64 up, .bool yes]] w fun e w' => e = .returned (.bool ((decide (0 ≤ num ∧ num ≤ 68374079) && restB false false true false false text task num up yes))) ∧ Below w.heap.size w w' := by
  have HT : Hid (∀ w, Calls Try.prog 38 #[.int .i64 tok, .int .i64 0, .int .i64 1000000] w fun e w' => e = .returned (.bool true) ∧ w' = w) := by intro w; have := rng_any tok 1000000 w; rwa [decide_eq_true h1] at this
  have HS : Hid (∀ w, Calls Try.prog 38 #[.int .i64 seq, .int .i64 0, .int .i64 1000000] w fun e w' => e = .returned (.bool true) ∧ w' = w) := by intro w; have := rng_any seq 1000000 w; rwa [decide_eq_true h2] at this
  have HRS : Hid (∀ w, Calls Try.prog 78 #[.agg #[.int .i64 4, .int .i64 tok, .int .i64 seq, .string text, .string task, .int .i64 num, .int .i64 up, .bool yes], .bool false, .bool false, .bool true, .bool false, .bool false] w fun e w' => e = .returned (.bool (restB false false true false false text task num up yes)) ∧ Below w.heap.size w w') := fun w => rest_00100 4 tok seq text task num up yes w
  obtain ⟨r, HR⟩ : ∃ r, Hid (restB false false true false false text task num up yes = r) := ⟨_, rfl⟩
  rw [HR.out] at HRS ⊢
  clear HR h1 h2
  obtain ⟨q0, HQ0⟩ : ∃ q, Hid (decide (0 ≤ num ∧ num ≤ 68374079) = q) := ⟨_, rfl⟩
  have G0 : Hid (∀ w, Calls Try.prog 38 #[.int .i64 num, .int .i64 0, .int .i64 68374079] w fun e w' => e = .returned (.bool q0) ∧ w' = w) := by intro w; rw [← HQ0.out]; exact rng_any num 68374079 w
  rw [HQ0.out]
  clear HQ0
  cases q0
  case false =>
    go_enter Try.func71, Try.ntmps71
    go_wp2_with (first | (go_at_call 38; with_reducible refine (HT.out _).mono ?_; rintro e w1 ⟨rfl, hw⟩; have hw2 := hw.symm; subst hw2) | (go_at_call 38; with_reducible refine (HS.out _).mono ?_; rintro e w1 ⟨rfl, hw⟩; have hw2 := hw.symm; subst hw2) | (go_at_call 38; with_reducible refine (G0.out _).mono ?_; rintro e w1 ⟨rfl, hw⟩; have hw2 := hw.symm; subst hw2))
    go_ret
    exact ⟨rfl, ba (Below.refl _ _) _⟩
  go_enter Try.func71, Try.ntmps71
  go_wp2_with (first | (go_at_call 38; with_reducible refine (HT.out _).mono ?_; rintro e w1 ⟨rfl, hw⟩; have hw2 := hw.symm; subst hw2) | (go_at_call 38; with_reducible refine (HS.out _).mono ?_; rintro e w1 ⟨rfl, hw⟩; have hw2 := hw.symm; subst hw2) | (go_at_call 38; with_reducible refine (G0.out _).mono ?_; rintro e w1 ⟨rfl, hw⟩; have hw2 := hw.symm; subst hw2) | (go_at_call 78; refine (HRS.out _).mono ?_; rintro e w2 ⟨rfl, hb2⟩))
  go_ret
  exact ⟨by simp, below_new hb2⟩

set_option maxRecDepth 10000 in
set_option maxHeartbeats 2000000 in
theorem cmd_5 (tok seq : Int) (text task : ByteArray) (num up : Int) (yes : Bool) (w : World) (_ht : text.size ≤ 9223372036854775807) (_hk : task.size ≤ 9223372036854775807) (h1 : 0 ≤ tok ∧ tok ≤ 1000000) (h2 : 0 ≤ seq ∧ seq ≤ 1000000) :
    Calls Try.prog 71 #[.agg #[.int .i64 5, .int .i64 tok, .int .i64 seq, .string text, .string task, .int .i64 num, .int .i64 up, .bool yes]] w fun e w' => e = .returned (.bool (restB false false false false false text task num up yes)) ∧ Below w.heap.size w w' := by
  have HT : Hid (∀ w, Calls Try.prog 38 #[.int .i64 tok, .int .i64 0, .int .i64 1000000] w fun e w' => e = .returned (.bool true) ∧ w' = w) := by intro w; have := rng_any tok 1000000 w; rwa [decide_eq_true h1] at this
  have HS : Hid (∀ w, Calls Try.prog 38 #[.int .i64 seq, .int .i64 0, .int .i64 1000000] w fun e w' => e = .returned (.bool true) ∧ w' = w) := by intro w; have := rng_any seq 1000000 w; rwa [decide_eq_true h2] at this
  have HRS : Hid (∀ w, Calls Try.prog 78 #[.agg #[.int .i64 5, .int .i64 tok, .int .i64 seq, .string text, .string task, .int .i64 num, .int .i64 up, .bool yes], .bool false, .bool false, .bool false, .bool false, .bool false] w fun e w' => e = .returned (.bool (restB false false false false false text task num up yes)) ∧ Below w.heap.size w w') := fun w => rest_00000 5 tok seq text task num up yes w
  obtain ⟨r, HR⟩ : ∃ r, Hid (restB false false false false false text task num up yes = r) := ⟨_, rfl⟩
  rw [HR.out] at HRS ⊢
  clear HR h1 h2
  go_enter Try.func71, Try.ntmps71
  go_wp2_with (first | (go_at_call 38; with_reducible refine (HT.out _).mono ?_; rintro e w1 ⟨rfl, hw⟩; have hw2 := hw.symm; subst hw2) | (go_at_call 38; with_reducible refine (HS.out _).mono ?_; rintro e w1 ⟨rfl, hw⟩; have hw2 := hw.symm; subst hw2) | (go_at_call 78; refine (HRS.out _).mono ?_; rintro e w2 ⟨rfl, hb2⟩))
  go_ret
  exact ⟨by simp, below_new hb2⟩

set_option maxRecDepth 10000 in
set_option maxHeartbeats 2000000 in
theorem cmd_6 (tok seq : Int) (text task : ByteArray) (num up : Int) (yes : Bool) (w : World) (_ht : text.size ≤ 9223372036854775807) (_hk : task.size ≤ 9223372036854775807) (h1 : 0 ≤ tok ∧ tok ≤ 1000000) (h2 : 0 ≤ seq ∧ seq ≤ 1000000) :
    Calls Try.prog 71 #[.agg #[.int .i64 6, .int .i64 tok, .int .i64 seq, .string text, .string task, .int .i64 num, .int .i64 up, .bool yes]] w fun e w' => e = .returned (.bool ((decide (0 ≤ num ∧ num ≤ 1000000000) && restB false false true false false text task num up yes))) ∧ Below w.heap.size w w' := by
  have HT : Hid (∀ w, Calls Try.prog 38 #[.int .i64 tok, .int .i64 0, .int .i64 1000000] w fun e w' => e = .returned (.bool true) ∧ w' = w) := by intro w; have := rng_any tok 1000000 w; rwa [decide_eq_true h1] at this
  have HS : Hid (∀ w, Calls Try.prog 38 #[.int .i64 seq, .int .i64 0, .int .i64 1000000] w fun e w' => e = .returned (.bool true) ∧ w' = w) := by intro w; have := rng_any seq 1000000 w; rwa [decide_eq_true h2] at this
  have HRS : Hid (∀ w, Calls Try.prog 78 #[.agg #[.int .i64 6, .int .i64 tok, .int .i64 seq, .string text, .string task, .int .i64 num, .int .i64 up, .bool yes], .bool false, .bool false, .bool true, .bool false, .bool false] w fun e w' => e = .returned (.bool (restB false false true false false text task num up yes)) ∧ Below w.heap.size w w') := fun w => rest_00100 6 tok seq text task num up yes w
  obtain ⟨r, HR⟩ : ∃ r, Hid (restB false false true false false text task num up yes = r) := ⟨_, rfl⟩
  rw [HR.out] at HRS ⊢
  clear HR h1 h2
  obtain ⟨q0, HQ0⟩ : ∃ q, Hid (decide (0 ≤ num ∧ num ≤ 1000000000) = q) := ⟨_, rfl⟩
  have G0 : Hid (∀ w, Calls Try.prog 38 #[.int .i64 num, .int .i64 0, .int .i64 1000000000] w fun e w' => e = .returned (.bool q0) ∧ w' = w) := by intro w; rw [← HQ0.out]; exact rng_any num 1000000000 w
  rw [HQ0.out]
  clear HQ0
  cases q0
  case false =>
    go_enter Try.func71, Try.ntmps71
    go_wp2_with (first | (go_at_call 38; with_reducible refine (HT.out _).mono ?_; rintro e w1 ⟨rfl, hw⟩; have hw2 := hw.symm; subst hw2) | (go_at_call 38; with_reducible refine (HS.out _).mono ?_; rintro e w1 ⟨rfl, hw⟩; have hw2 := hw.symm; subst hw2) | (go_at_call 38; with_reducible refine (G0.out _).mono ?_; rintro e w1 ⟨rfl, hw⟩; have hw2 := hw.symm; subst hw2))
    go_ret
    exact ⟨rfl, ba (Below.refl _ _) _⟩
  go_enter Try.func71, Try.ntmps71
  go_wp2_with (first | (go_at_call 38; with_reducible refine (HT.out _).mono ?_; rintro e w1 ⟨rfl, hw⟩; have hw2 := hw.symm; subst hw2) | (go_at_call 38; with_reducible refine (HS.out _).mono ?_; rintro e w1 ⟨rfl, hw⟩; have hw2 := hw.symm; subst hw2) | (go_at_call 38; with_reducible refine (G0.out _).mono ?_; rintro e w1 ⟨rfl, hw⟩; have hw2 := hw.symm; subst hw2) | (go_at_call 78; refine (HRS.out _).mono ?_; rintro e w2 ⟨rfl, hb2⟩))
  go_ret
  exact ⟨by simp, below_new hb2⟩

set_option maxRecDepth 10000 in
set_option maxHeartbeats 2000000 in
theorem cmd_7 (tok seq : Int) (text task : ByteArray) (num up : Int) (yes : Bool) (w : World) (_ht : text.size ≤ 9223372036854775807) (_hk : task.size ≤ 9223372036854775807) (h1 : 0 ≤ tok ∧ tok ≤ 1000000) (h2 : 0 ≤ seq ∧ seq ≤ 1000000) :
    Calls Try.prog 71 #[.agg #[.int .i64 7, .int .i64 tok, .int .i64 seq, .string text, .string task, .int .i64 num, .int .i64 up, .bool yes]] w fun e w' => e = .returned (.bool ((decide (0 ≤ num ∧ num ≤ 1000000000) && restB false false true false true text task num up yes))) ∧ Below w.heap.size w w' := by
  have HT : Hid (∀ w, Calls Try.prog 38 #[.int .i64 tok, .int .i64 0, .int .i64 1000000] w fun e w' => e = .returned (.bool true) ∧ w' = w) := by intro w; have := rng_any tok 1000000 w; rwa [decide_eq_true h1] at this
  have HS : Hid (∀ w, Calls Try.prog 38 #[.int .i64 seq, .int .i64 0, .int .i64 1000000] w fun e w' => e = .returned (.bool true) ∧ w' = w) := by intro w; have := rng_any seq 1000000 w; rwa [decide_eq_true h2] at this
  have HRS : Hid (∀ w, Calls Try.prog 78 #[.agg #[.int .i64 7, .int .i64 tok, .int .i64 seq, .string text, .string task, .int .i64 num, .int .i64 up, .bool yes], .bool false, .bool false, .bool true, .bool false, .bool true] w fun e w' => e = .returned (.bool (restB false false true false true text task num up yes)) ∧ Below w.heap.size w w') := fun w => rest_00101 7 tok seq text task num up yes w
  obtain ⟨r, HR⟩ : ∃ r, Hid (restB false false true false true text task num up yes = r) := ⟨_, rfl⟩
  rw [HR.out] at HRS ⊢
  clear HR h1 h2
  obtain ⟨q0, HQ0⟩ : ∃ q, Hid (decide (0 ≤ num ∧ num ≤ 1000000000) = q) := ⟨_, rfl⟩
  have G0 : Hid (∀ w, Calls Try.prog 38 #[.int .i64 num, .int .i64 0, .int .i64 1000000000] w fun e w' => e = .returned (.bool q0) ∧ w' = w) := by intro w; rw [← HQ0.out]; exact rng_any num 1000000000 w
  rw [HQ0.out]
  clear HQ0
  cases q0
  case false =>
    go_enter Try.func71, Try.ntmps71
    go_wp2_with (first | (go_at_call 38; with_reducible refine (HT.out _).mono ?_; rintro e w1 ⟨rfl, hw⟩; have hw2 := hw.symm; subst hw2) | (go_at_call 38; with_reducible refine (HS.out _).mono ?_; rintro e w1 ⟨rfl, hw⟩; have hw2 := hw.symm; subst hw2) | (go_at_call 38; with_reducible refine (G0.out _).mono ?_; rintro e w1 ⟨rfl, hw⟩; have hw2 := hw.symm; subst hw2))
    go_ret
    exact ⟨rfl, ba (Below.refl _ _) _⟩
  go_enter Try.func71, Try.ntmps71
  go_wp2_with (first | (go_at_call 38; with_reducible refine (HT.out _).mono ?_; rintro e w1 ⟨rfl, hw⟩; have hw2 := hw.symm; subst hw2) | (go_at_call 38; with_reducible refine (HS.out _).mono ?_; rintro e w1 ⟨rfl, hw⟩; have hw2 := hw.symm; subst hw2) | (go_at_call 38; with_reducible refine (G0.out _).mono ?_; rintro e w1 ⟨rfl, hw⟩; have hw2 := hw.symm; subst hw2) | (go_at_call 78; refine (HRS.out _).mono ?_; rintro e w2 ⟨rfl, hb2⟩))
  go_ret
  exact ⟨by simp, below_new hb2⟩

set_option maxRecDepth 10000 in
set_option maxHeartbeats 2000000 in
theorem cmd_8 (tok seq : Int) (text task : ByteArray) (num up : Int) (yes : Bool) (w : World) (ht : text.size ≤ 9223372036854775807) (_hk : task.size ≤ 9223372036854775807) (h1 : 0 ≤ tok ∧ tok ≤ 1000000) (h2 : 0 ≤ seq ∧ seq ≤ 1000000) :
    Calls Try.prog 71 #[.agg #[.int .i64 8, .int .i64 tok, .int .i64 seq, .string text, .string task, .int .i64 num, .int .i64 up, .bool yes]] w fun e w' => e = .returned (.bool ((nameB text && (decide (0 ≤ num ∧ num ≤ 68374079) && (decide (0 ≤ up ∧ up ≤ 68374079) && restB true false true true false text task num up yes))))) ∧ Below w.heap.size w w' := by
  have HT : Hid (∀ w, Calls Try.prog 38 #[.int .i64 tok, .int .i64 0, .int .i64 1000000] w fun e w' => e = .returned (.bool true) ∧ w' = w) := by intro w; have := rng_any tok 1000000 w; rwa [decide_eq_true h1] at this
  have HS : Hid (∀ w, Calls Try.prog 38 #[.int .i64 seq, .int .i64 0, .int .i64 1000000] w fun e w' => e = .returned (.bool true) ∧ w' = w) := by intro w; have := rng_any seq 1000000 w; rwa [decide_eq_true h2] at this
  have HRS : Hid (∀ w, Calls Try.prog 78 #[.agg #[.int .i64 8, .int .i64 tok, .int .i64 seq, .string text, .string task, .int .i64 num, .int .i64 up, .bool yes], .bool true, .bool false, .bool true, .bool true, .bool false] w fun e w' => e = .returned (.bool (restB true false true true false text task num up yes)) ∧ Below w.heap.size w w') := fun w => rest_10110 8 tok seq text task num up yes w
  obtain ⟨r, HR⟩ : ∃ r, Hid (restB true false true true false text task num up yes = r) := ⟨_, rfl⟩
  rw [HR.out] at HRS ⊢
  clear HR h1 h2
  obtain ⟨q0, HQ0⟩ : ∃ q, Hid (nameB text = q) := ⟨_, rfl⟩
  have G0 : Hid (∀ w, Calls Try.prog 79 #[.string text] w fun e w' => e = .returned (.bool q0) ∧ w' = w) := by intro w; rw [← HQ0.out]; exact nameOk_any text w ht
  obtain ⟨q1, HQ1⟩ : ∃ q, Hid (decide (0 ≤ num ∧ num ≤ 68374079) = q) := ⟨_, rfl⟩
  have G1 : Hid (∀ w, Calls Try.prog 38 #[.int .i64 num, .int .i64 0, .int .i64 68374079] w fun e w' => e = .returned (.bool q1) ∧ w' = w) := by intro w; rw [← HQ1.out]; exact rng_any num 68374079 w
  obtain ⟨q2, HQ2⟩ : ∃ q, Hid (decide (0 ≤ up ∧ up ≤ 68374079) = q) := ⟨_, rfl⟩
  have G2 : Hid (∀ w, Calls Try.prog 38 #[.int .i64 up, .int .i64 0, .int .i64 68374079] w fun e w' => e = .returned (.bool q2) ∧ w' = w) := by intro w; rw [← HQ2.out]; exact rng_any up 68374079 w
  rw [HQ0.out, HQ1.out, HQ2.out]
  clear HQ0 HQ1 HQ2
  cases q0
  case false =>
    go_enter Try.func71, Try.ntmps71
    go_wp2_with (first | (go_at_call 38; with_reducible refine (HT.out _).mono ?_; rintro e w1 ⟨rfl, hw⟩; have hw2 := hw.symm; subst hw2) | (go_at_call 38; with_reducible refine (HS.out _).mono ?_; rintro e w1 ⟨rfl, hw⟩; have hw2 := hw.symm; subst hw2) | (go_at_call 79; with_reducible refine (G0.out _).mono ?_; rintro e w1 ⟨rfl, hw⟩; have hw2 := hw.symm; subst hw2) | (go_at_call 38; with_reducible refine (G1.out _).mono ?_; rintro e w1 ⟨rfl, hw⟩; have hw2 := hw.symm; subst hw2) | (go_at_call 38; with_reducible refine (G2.out _).mono ?_; rintro e w1 ⟨rfl, hw⟩; have hw2 := hw.symm; subst hw2))
    go_ret
    exact ⟨rfl, ba (Below.refl _ _) _⟩
  cases q1
  case false =>
    go_enter Try.func71, Try.ntmps71
    go_wp2_with (first | (go_at_call 38; with_reducible refine (HT.out _).mono ?_; rintro e w1 ⟨rfl, hw⟩; have hw2 := hw.symm; subst hw2) | (go_at_call 38; with_reducible refine (HS.out _).mono ?_; rintro e w1 ⟨rfl, hw⟩; have hw2 := hw.symm; subst hw2) | (go_at_call 79; with_reducible refine (G0.out _).mono ?_; rintro e w1 ⟨rfl, hw⟩; have hw2 := hw.symm; subst hw2) | (go_at_call 38; with_reducible refine (G1.out _).mono ?_; rintro e w1 ⟨rfl, hw⟩; have hw2 := hw.symm; subst hw2) | (go_at_call 38; with_reducible refine (G2.out _).mono ?_; rintro e w1 ⟨rfl, hw⟩; have hw2 := hw.symm; subst hw2))
    go_ret
    exact ⟨rfl, ba (Below.refl _ _) _⟩
  cases q2
  case false =>
    go_enter Try.func71, Try.ntmps71
    go_wp2_with (first | (go_at_call 38; with_reducible refine (HT.out _).mono ?_; rintro e w1 ⟨rfl, hw⟩; have hw2 := hw.symm; subst hw2) | (go_at_call 38; with_reducible refine (HS.out _).mono ?_; rintro e w1 ⟨rfl, hw⟩; have hw2 := hw.symm; subst hw2) | (go_at_call 79; with_reducible refine (G0.out _).mono ?_; rintro e w1 ⟨rfl, hw⟩; have hw2 := hw.symm; subst hw2) | (go_at_call 38; with_reducible refine (G1.out _).mono ?_; rintro e w1 ⟨rfl, hw⟩; have hw2 := hw.symm; subst hw2) | (go_at_call 38; with_reducible refine (G2.out _).mono ?_; rintro e w1 ⟨rfl, hw⟩; have hw2 := hw.symm; subst hw2))
    go_ret
    exact ⟨rfl, ba (Below.refl _ _) _⟩
  go_enter Try.func71, Try.ntmps71
  go_wp2_with (first | (go_at_call 38; with_reducible refine (HT.out _).mono ?_; rintro e w1 ⟨rfl, hw⟩; have hw2 := hw.symm; subst hw2) | (go_at_call 38; with_reducible refine (HS.out _).mono ?_; rintro e w1 ⟨rfl, hw⟩; have hw2 := hw.symm; subst hw2) | (go_at_call 79; with_reducible refine (G0.out _).mono ?_; rintro e w1 ⟨rfl, hw⟩; have hw2 := hw.symm; subst hw2) | (go_at_call 38; with_reducible refine (G1.out _).mono ?_; rintro e w1 ⟨rfl, hw⟩; have hw2 := hw.symm; subst hw2) | (go_at_call 38; with_reducible refine (G2.out _).mono ?_; rintro e w1 ⟨rfl, hw⟩; have hw2 := hw.symm; subst hw2) | (go_at_call 78; refine (HRS.out _).mono ?_; rintro e w2 ⟨rfl, hb2⟩))
  go_ret
  exact ⟨by simp, below_new hb2⟩

set_option maxRecDepth 10000 in
set_option maxHeartbeats 2000000 in
theorem cmd_9 (tok seq : Int) (text task : ByteArray) (num up : Int) (yes : Bool) (w : World) (ht : text.size ≤ 9223372036854775807) (hk : task.size ≤ 9223372036854775807) (h1 : 0 ≤ tok ∧ tok ≤ 1000000) (h2 : 0 ≤ seq ∧ seq ≤ 1000000) :
    Calls Try.prog 71 #[.agg #[.int .i64 9, .int .i64 tok, .int .i64 seq, .string text, .string task, .int .i64 num, .int .i64 up, .bool yes]] w fun e w' => e = .returned (.bool ((nameB text && (nameB task && (decide (0 ≤ num ∧ num ≤ 68374079) && restB true true true false false text task num up yes))))) ∧ Below w.heap.size w w' := by
  have HT : Hid (∀ w, Calls Try.prog 38 #[.int .i64 tok, .int .i64 0, .int .i64 1000000] w fun e w' => e = .returned (.bool true) ∧ w' = w) := by intro w; have := rng_any tok 1000000 w; rwa [decide_eq_true h1] at this
  have HS : Hid (∀ w, Calls Try.prog 38 #[.int .i64 seq, .int .i64 0, .int .i64 1000000] w fun e w' => e = .returned (.bool true) ∧ w' = w) := by intro w; have := rng_any seq 1000000 w; rwa [decide_eq_true h2] at this
  have HRS : Hid (∀ w, Calls Try.prog 78 #[.agg #[.int .i64 9, .int .i64 tok, .int .i64 seq, .string text, .string task, .int .i64 num, .int .i64 up, .bool yes], .bool true, .bool true, .bool true, .bool false, .bool false] w fun e w' => e = .returned (.bool (restB true true true false false text task num up yes)) ∧ Below w.heap.size w w') := fun w => rest_11100 9 tok seq text task num up yes w
  obtain ⟨r, HR⟩ : ∃ r, Hid (restB true true true false false text task num up yes = r) := ⟨_, rfl⟩
  rw [HR.out] at HRS ⊢
  clear HR h1 h2
  obtain ⟨q0, HQ0⟩ : ∃ q, Hid (nameB text = q) := ⟨_, rfl⟩
  have G0 : Hid (∀ w, Calls Try.prog 79 #[.string text] w fun e w' => e = .returned (.bool q0) ∧ w' = w) := by intro w; rw [← HQ0.out]; exact nameOk_any text w ht
  obtain ⟨q1, HQ1⟩ : ∃ q, Hid (nameB task = q) := ⟨_, rfl⟩
  have G1 : Hid (∀ w, Calls Try.prog 79 #[.string task] w fun e w' => e = .returned (.bool q1) ∧ w' = w) := by intro w; rw [← HQ1.out]; exact nameOk_any task w hk
  obtain ⟨q2, HQ2⟩ : ∃ q, Hid (decide (0 ≤ num ∧ num ≤ 68374079) = q) := ⟨_, rfl⟩
  have G2 : Hid (∀ w, Calls Try.prog 38 #[.int .i64 num, .int .i64 0, .int .i64 68374079] w fun e w' => e = .returned (.bool q2) ∧ w' = w) := by intro w; rw [← HQ2.out]; exact rng_any num 68374079 w
  rw [HQ0.out, HQ1.out, HQ2.out]
  clear HQ0 HQ1 HQ2
  cases q0
  case false =>
    go_enter Try.func71, Try.ntmps71
    go_wp2_with (first | (go_at_call 38; with_reducible refine (HT.out _).mono ?_; rintro e w1 ⟨rfl, hw⟩; have hw2 := hw.symm; subst hw2) | (go_at_call 38; with_reducible refine (HS.out _).mono ?_; rintro e w1 ⟨rfl, hw⟩; have hw2 := hw.symm; subst hw2) | (go_at_call 79; with_reducible refine (G0.out _).mono ?_; rintro e w1 ⟨rfl, hw⟩; have hw2 := hw.symm; subst hw2) | (go_at_call 79; with_reducible refine (G1.out _).mono ?_; rintro e w1 ⟨rfl, hw⟩; have hw2 := hw.symm; subst hw2) | (go_at_call 38; with_reducible refine (G2.out _).mono ?_; rintro e w1 ⟨rfl, hw⟩; have hw2 := hw.symm; subst hw2))
    go_ret
    exact ⟨rfl, ba (Below.refl _ _) _⟩
  cases q1
  case false =>
    go_enter Try.func71, Try.ntmps71
    go_wp2_with (first | (go_at_call 38; with_reducible refine (HT.out _).mono ?_; rintro e w1 ⟨rfl, hw⟩; have hw2 := hw.symm; subst hw2) | (go_at_call 38; with_reducible refine (HS.out _).mono ?_; rintro e w1 ⟨rfl, hw⟩; have hw2 := hw.symm; subst hw2) | (go_at_call 79; with_reducible refine (G0.out _).mono ?_; rintro e w1 ⟨rfl, hw⟩; have hw2 := hw.symm; subst hw2) | (go_at_call 79; with_reducible refine (G1.out _).mono ?_; rintro e w1 ⟨rfl, hw⟩; have hw2 := hw.symm; subst hw2) | (go_at_call 38; with_reducible refine (G2.out _).mono ?_; rintro e w1 ⟨rfl, hw⟩; have hw2 := hw.symm; subst hw2))
    go_ret
    exact ⟨rfl, ba (Below.refl _ _) _⟩
  cases q2
  case false =>
    go_enter Try.func71, Try.ntmps71
    go_wp2_with (first | (go_at_call 38; with_reducible refine (HT.out _).mono ?_; rintro e w1 ⟨rfl, hw⟩; have hw2 := hw.symm; subst hw2) | (go_at_call 38; with_reducible refine (HS.out _).mono ?_; rintro e w1 ⟨rfl, hw⟩; have hw2 := hw.symm; subst hw2) | (go_at_call 79; with_reducible refine (G0.out _).mono ?_; rintro e w1 ⟨rfl, hw⟩; have hw2 := hw.symm; subst hw2) | (go_at_call 79; with_reducible refine (G1.out _).mono ?_; rintro e w1 ⟨rfl, hw⟩; have hw2 := hw.symm; subst hw2) | (go_at_call 38; with_reducible refine (G2.out _).mono ?_; rintro e w1 ⟨rfl, hw⟩; have hw2 := hw.symm; subst hw2))
    go_ret
    exact ⟨rfl, ba (Below.refl _ _) _⟩
  go_enter Try.func71, Try.ntmps71
  go_wp2_with (first | (go_at_call 38; with_reducible refine (HT.out _).mono ?_; rintro e w1 ⟨rfl, hw⟩; have hw2 := hw.symm; subst hw2) | (go_at_call 38; with_reducible refine (HS.out _).mono ?_; rintro e w1 ⟨rfl, hw⟩; have hw2 := hw.symm; subst hw2) | (go_at_call 79; with_reducible refine (G0.out _).mono ?_; rintro e w1 ⟨rfl, hw⟩; have hw2 := hw.symm; subst hw2) | (go_at_call 79; with_reducible refine (G1.out _).mono ?_; rintro e w1 ⟨rfl, hw⟩; have hw2 := hw.symm; subst hw2) | (go_at_call 38; with_reducible refine (G2.out _).mono ?_; rintro e w1 ⟨rfl, hw⟩; have hw2 := hw.symm; subst hw2) | (go_at_call 78; refine (HRS.out _).mono ?_; rintro e w2 ⟨rfl, hb2⟩))
  go_ret
  exact ⟨by simp, below_new hb2⟩

set_option maxRecDepth 10000 in
set_option maxHeartbeats 2000000 in
theorem cmd_none (op tok seq : Int) (text task : ByteArray) (num up : Int) (yes : Bool) (w : World) (h1 : 0 ≤ tok ∧ tok ≤ 1000000) (h2 : 0 ≤ seq ∧ seq ≤ 1000000) (e1 : ¬ op = 1) (e2 : ¬ op = 2) (e3 : ¬ op = 3) (e4 : ¬ op = 4) (e5 : ¬ op = 5) (e6 : ¬ op = 6) (e7 : ¬ op = 7) (e8 : ¬ op = 8) (e9 : ¬ op = 9) :
    Calls Try.prog 71 #[.agg #[.int .i64 op, .int .i64 tok, .int .i64 seq, .string text, .string task, .int .i64 num, .int .i64 up, .bool yes]] w fun e w' => e = .returned (.bool false) ∧ Below w.heap.size w w' := by
  have HT : Hid (∀ w, Calls Try.prog 38 #[.int .i64 tok, .int .i64 0, .int .i64 1000000] w fun e w' => e = .returned (.bool true) ∧ w' = w) := by intro w; have := rng_any tok 1000000 w; rwa [decide_eq_true h1] at this
  have HS : Hid (∀ w, Calls Try.prog 38 #[.int .i64 seq, .int .i64 0, .int .i64 1000000] w fun e w' => e = .returned (.bool true) ∧ w' = w) := by intro w; have := rng_any seq 1000000 w; rwa [decide_eq_true h2] at this
  clear h1 h2
  go_enter Try.func71, Try.ntmps71
  go_wp2_with (first | (go_at_call 38; with_reducible refine (HT.out _).mono ?_; rintro e w1 ⟨rfl, hw⟩; have hw2 := hw.symm; subst hw2) | (go_at_call 38; with_reducible refine (HS.out _).mono ?_; rintro e w1 ⟨rfl, hw⟩; have hw2 := hw.symm; subst hw2))
  go_ret
  exact ⟨rfl, ba (Below.refl _ _) _⟩
set_option maxRecDepth 10000 in
set_option maxHeartbeats 2000000 in
theorem cmd_bad (op tok seq : Int) (text task : ByteArray) (num up : Int) (yes : Bool) (w : World) (h : ¬ ((0 ≤ tok ∧ tok ≤ 1000000) ∧ (0 ≤ seq ∧ seq ≤ 1000000))) :
    Calls Try.prog 71 #[.agg #[.int .i64 op, .int .i64 tok, .int .i64 seq, .string text, .string task, .int .i64 num, .int .i64 up, .bool yes]] w fun e w' => e = .returned (.bool false) ∧ Below w.heap.size w w' := by
  by_cases h1 : 0 ≤ tok ∧ tok ≤ 1000000
  · have h2 : ¬ (0 ≤ seq ∧ seq ≤ 1000000) := fun k => h ⟨h1, k⟩
    have HT : Hid (∀ w, Calls Try.prog 38 #[.int .i64 tok, .int .i64 0, .int .i64 1000000] w fun e w' => e = .returned (.bool true) ∧ w' = w) := by intro w; have := rng_any tok 1000000 w; rwa [decide_eq_true h1] at this
    have HS : Hid (∀ w, Calls Try.prog 38 #[.int .i64 seq, .int .i64 0, .int .i64 1000000] w fun e w' => e = .returned (.bool false) ∧ w' = w) := by intro w; have := rng_any seq 1000000 w; rwa [decide_eq_false h2] at this
    by_cases hts : tok = seq
    · subst hts; exact absurd h1 h2
    · clear h h1 h2
      go_enter Try.func71, Try.ntmps71
      go_wp2_with (first | (go_at_call 38; with_reducible refine (HT.out _).mono ?_; rintro e w1 ⟨rfl, hw⟩; have hw2 := hw.symm; subst hw2) | (go_at_call 38; with_reducible refine (HS.out _).mono ?_; rintro e w1 ⟨rfl, hw⟩; have hw2 := hw.symm; subst hw2))
      go_ret
      exact ⟨rfl, ba (Below.refl _ _) _⟩
  · have HT : Hid (∀ w, Calls Try.prog 38 #[.int .i64 tok, .int .i64 0, .int .i64 1000000] w fun e w' => e = .returned (.bool false) ∧ w' = w) := by intro w; have := rng_any tok 1000000 w; rwa [decide_eq_false h1] at this
    clear h h1
    go_enter Try.func71, Try.ntmps71
    go_wp2_with (go_at_call 38; with_reducible refine (HT.out _).mono ?_; rintro e w1 ⟨rfl, hw⟩; have hw2 := hw.symm; subst hw2)
    go_ret
    exact ⟨rfl, ba (Below.refl _ _) _⟩
/-- Whether a command is right. -/
theorem commandOk_any (op tok seq : Int) (text task : ByteArray) (num up : Int) (yes : Bool) (w : World) (ht : text.size ≤ 9223372036854775807) (hk : task.size ≤ 9223372036854775807) :
    Calls Try.prog 71 #[.agg #[.int .i64 op, .int .i64 tok, .int .i64 seq, .string text, .string task, .int .i64 num, .int .i64 up, .bool yes]] w fun e w' => e = .returned (.bool (cmdB op tok seq text task num up yes)) ∧ Below w.heap.size w w' := by
  unfold cmdB
  by_cases h : (0 ≤ tok ∧ tok ≤ 1000000) ∧ (0 ≤ seq ∧ seq ≤ 1000000)
  · obtain ⟨h1, h2⟩ := h
    rw [decide_eq_true h1, decide_eq_true h2, Bool.true_and, Bool.true_and]
    unfold opB
    by_cases e1 : op = 1
    · rw [if_pos e1]; subst e1; exact cmd_1 tok seq text task num up yes w ht hk h1 h2
    rw [if_neg e1]
    by_cases e2 : op = 2
    · rw [if_pos e2]; subst e2; exact cmd_2 tok seq text task num up yes w ht hk h1 h2
    rw [if_neg e2]
    by_cases e3 : op = 3
    · rw [if_pos e3]; subst e3; exact cmd_3 tok seq text task num up yes w ht hk h1 h2
    rw [if_neg e3]
    by_cases e4 : op = 4
    · rw [if_pos e4]; subst e4; exact cmd_4 tok seq text task num up yes w ht hk h1 h2
    rw [if_neg e4]
    by_cases e5 : op = 5
    · rw [if_pos e5]; subst e5; exact cmd_5 tok seq text task num up yes w ht hk h1 h2
    rw [if_neg e5]
    by_cases e6 : op = 6
    · rw [if_pos e6]; subst e6; exact cmd_6 tok seq text task num up yes w ht hk h1 h2
    rw [if_neg e6]
    by_cases e7 : op = 7
    · rw [if_pos e7]; subst e7; exact cmd_7 tok seq text task num up yes w ht hk h1 h2
    rw [if_neg e7]
    by_cases e8 : op = 8
    · rw [if_pos e8]; subst e8; exact cmd_8 tok seq text task num up yes w ht hk h1 h2
    rw [if_neg e8]
    by_cases e9 : op = 9
    · rw [if_pos e9]; subst e9; exact cmd_9 tok seq text task num up yes w ht hk h1 h2
    rw [if_neg e9]
    exact cmd_none op tok seq text task num up yes w h1 h2 e1 e2 e3 e4 e5 e6 e7 e8 e9
  · have e : (decide (0 ≤ tok ∧ tok ≤ 1000000) && (decide (0 ≤ seq ∧ seq ≤ 1000000) && opB op tok seq text task num up yes)) = false := by
      by_cases h1 : 0 ≤ tok ∧ tok ≤ 1000000
      · rw [decide_eq_false fun k => h ⟨h1, k⟩, Bool.false_and, Bool.and_false]
      · rw [decide_eq_false h1, Bool.false_and]
    rw [e]
    exact cmd_bad op tok seq text task num up yes w h
end Go.Proofs.Ytehkebdncfljmaa

namespace Go.Proofs.Ytehkebdncfljmaa
open Go Go.RowKit
set_option linter.unusedVariables false

/-- What lies there while a right command is drawn: the answer's block, the board's block. -/
structure RtS (g : Nat) (w : World) (bb : Nat) (sv pv rv : Value) (ck tk : Int) (W : World) : Prop where
  res : K8 94 W w.heap.size (.int .i64 0) (.int .i64 0) (.int .i64 0) (.string ⟨#[]⟩) (.string ⟨#[]⟩) (.int .i64 0) (.int .i64 0) (.bool false)
  bd : B5 103 W bb sv pv rv (.int .i64 ck) (.int .i64 tk)
  drw : Drw W g
  sv' : Save g w W
  gl : g < w.heap.size
  lo : w.heap.size ≤ bb
section
variable {g : Nat} {w W W' : World} {bb : Nat} {sv pv rv : Value} {ck tk : Int}
theorem RtS.save (h : RtS g w bb sv pv rv ck tk W) (hs : Save g W W') (hd : Drw W' g) : RtS g w bb sv pv rv ck tk W' :=
  ⟨h.res.save hs (by have := h.gl; omega), h.bd.save hs (by have := h.gl; have := h.lo; omega), hd, h.sv'.trans hs, h.gl, h.lo⟩
theorem RtS.up (h : RtS g w bb sv pv rv ck tk W) (hb : Below W.heap.size W W') : RtS g w bb sv pv rv ck tk W' := h.save (Save.of_below hb) (h.drw.keep (hb.mono h.drw.lt))
theorem RtS.ne (h : RtS g w bb sv pv rv ck tk W) : bb ≠ w.heap.size := h.bd.ty.ne h.res.ty (by decide)
theorem RtS.set0 (h : RtS g w bb sv pv rv ck tk W) (u : Value) : RtS g w bb u pv rv ck tk (W.setCell ⟨bb, 0, none⟩ u) :=
  have hb : Below w.heap.size W (W.setCell ⟨bb, 0, none⟩ u) := Below.setCell (Below.refl _ _) h.lo _
  ⟨h.res.far h.ne _, h.bd.s0 _, h.drw.keep (hb.mono h.gl), h.sv'.below_on hb (Nat.le_refl _), h.gl, h.lo⟩
theorem RtS.set3 (h : RtS g w bb sv pv rv ck tk W) (u : Int) : RtS g w bb sv pv rv u tk (W.setCell ⟨bb, 3, none⟩ (.int .i64 u)) :=
  have hb : Below w.heap.size W (W.setCell ⟨bb, 3, none⟩ (.int .i64 u)) := Below.setCell (Below.refl _ _) h.lo _
  ⟨h.res.far h.ne _, h.bd.s3 _, h.drw.keep (hb.mono h.gl), h.sv'.below_on hb (Nat.le_refl _), h.gl, h.lo⟩
theorem RtS.set5 (h : RtS g w bb sv pv rv ck tk W) (s p r : Value) (c k : Int) : RtS g w bb s p r c k (set5 W bb s p r (.int .i64 c) (.int .i64 k)) :=
  have hb : Below w.heap.size W (Go.Proofs.Ytehkebdncfljmaa.set5 W bb s p r (.int .i64 c) (.int .i64 k)) := below_set5 (Below.refl _ _) h.lo _ _ _ _ _
  ⟨(set5_other W bb _ _ _ _ _ h.ne.symm).trans h.res, h.bd.set _ _ _ _ _, h.drw.keep (hb.mono h.gl), h.sv'.below_on hb (Nat.le_refl _), h.gl, h.lo⟩
theorem RtS.fin (h : RtS g w bb sv pv rv ck tk W) (op tok seq : Int) (text task : ByteArray) (num up : Int) (yes : Bool) : K8 94 (set8 W w.heap.size (.int .i64 op) (.int .i64 tok) (.int .i64 seq) (.string text) (.string task) (.int .i64 num) (.int .i64 up) (.bool yes)) w.heap.size (.int .i64 op) (.int .i64 tok) (.int .i64 seq) (.string text) (.string task) (.int .i64 num) (.int .i64 up) (.bool yes) ∧ Drw (set8 W w.heap.size (.int .i64 op) (.int .i64 tok) (.int .i64 seq) (.string text) (.string task) (.int .i64 num) (.int .i64 up) (.bool yes)) g ∧ Save g w (set8 W w.heap.size (.int .i64 op) (.int .i64 tok) (.int .i64 seq) (.string text) (.string task) (.int .i64 num) (.int .i64 up) (.bool yes)) :=
  have hb : Below w.heap.size W (set8 W w.heap.size (.int .i64 op) (.int .i64 tok) (.int .i64 seq) (.string text) (.string task) (.int .i64 num) (.int .i64 up) (.bool yes)) := below_set8 (Below.refl _ _) (Nat.le_refl _) _ _ _ _ _ _ _ _
  ⟨h.res.set _ _ _ _ _ _ _ _, h.drw.keep (hb.mono h.gl), h.sv'.below_on hb (Nat.le_refl _)⟩
end
theorem se_built (w : World) (x : Se) : Reads (w.alloc (.cells #[.int .i64 x.tok, .int .i64 x.last, .string x.reply] 106)) (.slice (some ⟨w.heap.size, 0, none⟩) 1 1) [x] := by
  have h := K3.new 106 w (.int .i64 x.tok) (.int .i64 x.last) (.string x.reply)
  refine ⟨some ⟨w.heap.size, 0, none⟩, 1, rfl, fun _ => ⟨w.heap.size, 0, rfl, by simp, fun i y hy j u hu => ?_⟩⟩
  match i, hy with
  | 0, hy =>
    simp only [List.getElem?_cons_zero, Option.some.injEq] at hy
    subst hy
    match j, hu with
    | 0, hu => cases hu; exact h.c0
    | 1, hu => cases hu; exact h.c1
    | 2, hu => cases hu; exact h.c2
    | j + 3, hu => simp [Rec.cells] at hu
  | i + 1, hy => simp at hy
theorem own_one {α : Type} [Rec α] {W : World} {B : Nat} {e : TypeId} {v : Value} {x : α} (h : ownsR W B e v [x]) : ∃ r c, v = .slice (some ⟨r, 0, none⟩) 1 c ∧ B ≤ r ∧ r < W.heap.size ∧ ∀ j u, (Rec.cells x)[j]? = some u → W.cell? ⟨r, j, none⟩ = some u := by
  rcases id h.2 with ⟨rfl, h0⟩ | ⟨r, cap, cur, rfl, hb, hg, _⟩
  · simp at h0
  · obtain ⟨h1, h2, h3, h4⟩ := h.at (i := 0) (x := x) rfl
    refine ⟨r, cap, rfl, h2, h1, fun j u hu => ?_⟩
    have hj : j < Rec.width α := by
      have := (List.getElem?_eq_some_iff.1 hu).1
      rw [Rec.len] at this
      exact this
    have h5 := (h4 j hj).1
    rw [Nat.zero_mul, Nat.zero_add] at h5
    rw [h5, hu]
/-- What l17Right answers. -/
def RtP (g : Nat) (w : World) (e : Ending) (w' : World) : Prop :=
  ∃ (op tok seq : Int) (text task : ByteArray) (num up : Int) (yes : Bool), e = .returned (cmdV op tok seq text task num up yes) ∧ cmdB op tok seq text task num up yes = true ∧ text.size ≤ 600 ∧ task.size ≤ 8 ∧ Drw w' g ∧ Save g w w'
theorem ofP_none {g : Nat} {sv : Value} {ap ar : Option Addr} {cp cr : Nat} {ck tk : Int} (W : World) (hd : Drw W g) : Calls Try.prog 84 #[.pointer (some ⟨g, 0, none⟩), bdV sv (.slice ap 0 cp) (.slice ar 0 cr) ck tk] W (OfP g W) :=
  (l16Of_none g sv ap ar cp cr ck tk W hd).mono fun e w' ⟨t, h1, h2, h3, h4⟩ => ⟨2, t, _, 0, 0, false, h1, h2, by decide, by decide, by decide, by decide, h3, h4⟩

set_option maxRecDepth 10000 in
set_option maxHeartbeats 8000000 in
theorem l17Right_any (g : Nat) (w : World) (hd : Drw w g) : Calls Try.prog 70 #[.pointer (some ⟨g, 0, none⟩)] w (RtP g w) := by
  have hgl : g < w.heap.size := hd.lt
  obtain ⟨T, HT⟩ : ∃ T, Hid (annT = T) := ⟨_, rfl⟩
  obtain ⟨W0, HW0⟩ : ∃ W0, Hid (w.alloc (.cells #[.int .i64 0, .int .i64 0, .int .i64 0, .string ⟨#[]⟩, .string ⟨#[]⟩, .int .i64 0, .int .i64 0, .bool false] 94) = W0) := ⟨_, rfl⟩
  have Z0 : Hid (K8 94 W0 w.heap.size (.int .i64 0) (.int .i64 0) (.int .i64 0) (.string ⟨#[]⟩) (.string ⟨#[]⟩) (.int .i64 0) (.int .i64 0) (.bool false)) := by show K8 _ _ _ _ _ _ _ _ _ _ _; rw [← HW0.out]; exact K8.new _ _ _ _ _ _ _ _ _ _
  have B0 : Hid (Below w.heap.size w W0) := by show Below _ _ _; rw [← HW0.out]; exact ba (Below.refl _ _) _
  go_enter Try.func70, Try.ntmps70
  go_wp2_with fail
  rw [HW0.out]
  refine (boardNew_any W0).mono ?_
  rintro x W1 ⟨rfl, hb1⟩
  obtain ⟨W2, HW2⟩ : ∃ W2, Hid (W1.alloc (.cells #[.slice none 0 0, .slice none 0 0, .slice none 0 0, .int .i64 0, .int .i64 1] 103) = W2) := ⟨_, rfl⟩
  have HR2 : Hid (RtS g w W1.heap.size (.slice none 0 0) (.slice none 0 0) (.slice none 0 0) 0 1 W2) := by
    show RtS _ _ _ _ _ _ _ _ _
    have h0 := B0.out.size
    have h1 := hb1.size
    have hb : Below W0.heap.size W0 W2 := by rw [← HW2.out]; exact ba hb1 _
    have hw : Below w.heap.size w W2 := B0.out.trans (hb.mono h0)
    exact ⟨Z0.out.up hb, by rw [← HW2.out]; exact B5.new _ _ _ _ _ _ _, hd.keep (hw.mono hgl), Save.of_below hw, hgl, by omega⟩
  clear hb1 B0 Z0 HW0 hd
  obtain ⟨bb, hbb⟩ : ∃ bb, W1.heap.size = bb := ⟨_, rfl⟩
  rw [hbb] at HR2
  go_wp2_with fail
  try rw [hbb]
  rw [HW2.out]
  refine (below_any g 5 _ HR2.out.drw (by decide) (by decide)).mono ?_
  rintro x W3 ⟨q, rfl, q0, q1, hd3, hs3⟩
  have HR3 : Hid (RtS g w bb (.slice none 0 0) (.slice none 0 0) (.slice none 0 0) 0 1 W3) := HR2.out.save hs3 hd3
  clear HR2 hd3 hs3 HW2 hbb
  go_wp2_with fail
  refine (below_any g 4 _ HR3.out.drw (by decide) (by decide)).mono ?_
  rintro x W4 ⟨sl, rfl, l0, l1, hd4, hs4⟩
  have HR4 : Hid (RtS g w bb (.slice none 0 0) (.slice none 0 0) (.slice none 0 0) 0 1 W4) := HR3.out.save hs4 hd4
  clear HR3 hd4 hs4
  obtain ⟨st, hst⟩ : ∃ st, 1 + q = st := ⟨_, rfl⟩
  have HR5 : Hid (RtS g w bb (.slice (some ⟨W4.heap.size, 0, none⟩) 1 1) (.slice none 0 0) (.slice none 0 0) 0 1 ((W4.setCell ⟨bb, 0, none⟩ (.slice (some ⟨W4.heap.size, 0, none⟩) 1 1)).alloc (.cells #[.int .i64 st, .int .i64 sl, .string ⟨#[]⟩] 106))) := (HR4.out.set0 _).up (ba (Below.refl _ _) _)
  have HSE : Hid (K3 106 ((W4.setCell ⟨bb, 0, none⟩ (.slice (some ⟨W4.heap.size, 0, none⟩) 1 1)).alloc (.cells #[.int .i64 st, .int .i64 sl, .string ⟨#[]⟩] 106)) W4.heap.size (.int .i64 st) (.int .i64 sl) (.string ⟨#[]⟩))  := by
    have h := K3.new 106 (W4.setCell ⟨bb, 0, none⟩ (.slice (some ⟨W4.heap.size, 0, none⟩) 1 1)) (.int .i64 st) (.int .i64 sl) (.string ⟨#[]⟩)
    rw [show (W4.setCell ⟨bb, 0, none⟩ (.slice (some ⟨W4.heap.size, 0, none⟩) 1 1)).heap.size = W4.heap.size by simp] at h
    exact h
  have hlt := HR4.out.bd.lt
  have hne : ¬ bb = W4.heap.size := by omega
  have d0 := HR4.out.bd.c0
  have z0 := HR4.out.bd.fr 0
  have hsbg : W4.heap.size ≠ g := by have := HR4.out.drw.lt; omega
  have hwb : w.heap.size ≤ W4.heap.size := HR4.out.sv'.size
  obtain ⟨W5, HW5⟩ : ∃ W5, Hid ((W4.setCell ⟨bb, 0, none⟩ (.slice (some ⟨W4.heap.size, 0, none⟩) 1 1)).alloc (.cells #[.int .i64 st, .int .i64 sl, .string ⟨#[]⟩] 106) = W5) := ⟨_, rfl⟩
  rw [HW5.out] at HR5 HSE
  clear HR4
  go_wp2_with fail
  rw [HW5.out]
  refine (below_any g 50 _ HR5.out.drw (by decide) (by decide)).mono ?_
  rintro x W6 ⟨ck, rfl, c0, c1, hd6, hs6⟩
  have HR6 : Hid (RtS g w bb (.slice (some ⟨W4.heap.size, 0, none⟩) 1 1) (.slice none 0 0) (.slice none 0 0) 0 1 W6) := HR5.out.save hs6 hd6
  have HS6 : Hid (K3 106 W6 W4.heap.size (.int .i64 st) (.int .i64 sl) (.string ⟨#[]⟩)) := HSE.out.save hs6 hsbg
  obtain ⟨sb, hsb⟩ : ∃ sb, W4.heap.size = sb := ⟨_, rfl⟩
  rw [hsb] at HR6 HS6 hsbg hwb
  rw [hsb]
  clear HR5 HSE HW5 hd6 hs6 hlt hne d0 z0 hsb
  have d3 := HR6.out.bd.c3
  have z3 := HR6.out.bd.fr 3
  have HR7 : Hid (RtS g w bb (.slice (some ⟨sb, 0, none⟩) 1 1) (.slice none 0 0) (.slice none 0 0) ck 1 (W6.setCell ⟨bb, 3, none⟩ (.int .i64 ck))) := HR6.out.set3 ck
  have HS7 : Hid (K3 106 (W6.setCell ⟨bb, 3, none⟩ (.int .i64 ck)) sb (.int .i64 st) (.int .i64 sl) (.string ⟨#[]⟩)) := HS6.out.far (HR6.out.bd.ty.ne HS6.out.ty (by decide)) _
  clear HR6 HS6
  go_wp2_with fail
  refine (once_any g 2 _ HR7.out.drw (by decide) (by decide)).mono ?_
  rintro x W8 ⟨b, rfl, hd8, hs8⟩
  have HR8 : Hid (RtS g w bb (.slice (some ⟨sb, 0, none⟩) 1 1) (.slice none 0 0) (.slice none 0 0) ck 1 W8) := HR7.out.save hs8 hd8
  have HS8 : Hid (K3 106 W8 sb (.int .i64 st) (.int .i64 sl) (.string ⟨#[]⟩)) := HS7.out.save hs8 hsbg
  clear HR7 HS7 hd8 hs8 d3 z3
  have hst0 : 0 ≤ st := by omega
  have hst1 : st ≤ 1000 := by omega
  have hsl1 : sl ≤ 1000 := by omega
  clear hst q0 q1
  cases b with
  | false =>
    have HCM : Hid (Calls Try.prog 77 #[.pointer (some ⟨g, 0, none⟩), bdV (.slice (some ⟨sb, 0, none⟩) 1 1) (.slice none 0 0) (.slice none 0 0) ck 1] W8 (CoP g W8)) := l16Command_any g sb 1 (.slice none 0 0) none 0 ck 1 st sl ⟨#[]⟩ W8 HR8.out.drw HS8.out.c0 HS8.out.c1 HS8.out.c2 hsbg HS8.out.lt ⟨hst0, hst1⟩ ⟨l0, hsl1⟩ (fun W _ h => ofP_none W h)
    clear HS8
    have d0 := HR8.out.bd.c0
    have d1 := HR8.out.bd.c1
    have d2 := HR8.out.bd.c2
    have d3 := HR8.out.bd.c3
    have d4 := HR8.out.bd.c4
    go_wp2_with fail
    refine HCM.out.mono ?_
    rintro x V1 ⟨op, tok, seq, text, task, num, up, yes, rfl, htx, htk, _, _, _, _, _, hdv, hsv⟩
    have HV1 : Hid (RtS g w bb (.slice (some ⟨sb, 0, none⟩) 1 1) (.slice none 0 0) (.slice none 0 0) ck 1 V1) := HR8.out.save hsv hdv
    clear HR8 hdv hsv HCM d0 d1 d2 d3 d4
    obtain ⟨V2, HV2⟩ : ∃ V2, Hid (V1.alloc (.cells #[.int .i64 op, .int .i64 tok, .int .i64 seq, .string text, .string task, .int .i64 num, .int .i64 up, .bool yes] 94) = V2) := ⟨_, rfl⟩
    have HX2 : Hid (K8 94 V2 V1.heap.size (.int .i64 op) (.int .i64 tok) (.int .i64 seq) (.string text) (.string task) (.int .i64 num) (.int .i64 up) (.bool yes)) := by show K8 _ _ _ _ _ _ _ _ _ _ _; rw [← HV2.out]; exact K8.new _ _ _ _ _ _ _ _ _ _
    have HR2 : Hid (RtS g w bb (.slice (some ⟨sb, 0, none⟩) 1 1) (.slice none 0 0) (.slice none 0 0) ck 1 V2) := by show RtS _ _ _ _ _ _ _ _ _; rw [← HV2.out]; exact HV1.out.up (ba (Below.refl _ _) _)
    have hbn : V1.heap.size ≠ w.heap.size := by have := HV1.out.res.lt; omega
    have HCO : Hid (Calls Try.prog 71 #[.agg #[.int .i64 op, .int .i64 tok, .int .i64 seq, .string text, .string task, .int .i64 num, .int .i64 up, .bool yes]] V2 fun e w' => e = .returned (.bool (cmdB op tok seq text task num up yes)) ∧ Below V2.heap.size V2 w') := commandOk_any op tok seq text task num up yes V2 (by omega) (by omega)
    clear HV1
    go_wp2_with fail
    rw [HV2.out]
    refine HCO.out.mono ?_
    rintro x V3 ⟨rfl, hb3⟩
    have HR3 : Hid (RtS g w bb (.slice (some ⟨sb, 0, none⟩) 1 1) (.slice none 0 0) (.slice none 0 0) ck 1 V3) := HR2.out.up hb3
    have HX3 := HX2.out.up hb3
    have e0 := HX3.c0
    have e1 := HX3.c1
    have e2 := HX3.c2
    have e3 := HX3.c3
    have e4 := HX3.c4
    have e5 := HX3.c5
    have e6 := HX3.c6
    have e7 := HX3.c7
    have r0 := HR3.out.res.c0
    have f0 := HR3.out.res.fz 0
    have r1 := HR3.out.res.c1
    have f1 := HR3.out.res.fz 1
    have r2 := HR3.out.res.c2
    have f2 := HR3.out.res.fz 2
    have r3 := HR3.out.res.c3
    have f3 := HR3.out.res.fz 3
    have r4 := HR3.out.res.c4
    have f4 := HR3.out.res.fz 4
    have r5 := HR3.out.res.c5
    have f5 := HR3.out.res.fz 5
    have r6 := HR3.out.res.c6
    have f6 := HR3.out.res.fz 6
    have r7 := HR3.out.res.c7
    have f7 := HR3.out.res.fz 7
    clear HR2 HX2 HCO HX3 hb3 HV2
    cases hq : cmdB op tok seq text task num up yes with
    | true =>
      have HF : Hid _ := HR3.out.fin op tok seq text task num up yes
      have HQ : Hid (cmdB op tok seq text task num up yes = true) := hq
      clear HR3 hq
      go_wp2
      refine bodyPost_ret (ret_k1 (p := 2) (by kernel_rfl) (by kernel_rfl) HF.out.1) rfl ?_
      exact ⟨op, tok, seq, text, task, num, up, yes, rfl, HQ.out, htx, htk, HF.out.2.1, HF.out.2.2⟩
    | false =>
      have HF : Hid _ := HR3.out.fin 5 1 1 ⟨#[]⟩ ⟨#[]⟩ 0 0 false
      clear HR3 hq
      go_wp2
      refine bodyPost_ret (ret_k1 (p := 2) (by kernel_rfl) (by kernel_rfl) HF.out.1) rfl ?_
      exact ⟨5, 1, 1, _, _, 0, 0, false, rfl, by decide +kernel, by decide, by decide, HF.out.2.1, HF.out.2.2⟩
  | true =>
    have HSB : Hid (Calls Try.prog 76 #[bdV (.slice (some ⟨sb, 0, none⟩) 1 1) (.slice none 0 0) (.slice none 0 0) ck 1, .string annT] W8 fun e w' => ∃ (sv' pv x : Value) (xr : Addr) (tv : Value), e = .returned (.tuple #[bdV sv' pv (.slice (some xr) 0 0) ck 1, x]) ∧ ownsR w' W8.heap.size 106 sv' [Se.mk st sl ⟨#[]⟩] ∧ ownsR w' W8.heap.size 120 pv [annP tv] ∧ Below W8.heap.size W8 w') := submit_ann _ none none 0 0 ck 1 [Se.mk st sl ⟨#[]⟩] W8 (by
      refine ⟨some ⟨sb, 0, none⟩, 1, rfl, fun _ => ⟨sb, 0, rfl, HS8.out.lt, fun i y hy j u hu => ?_⟩⟩
      match i, hy with
      | 0, hy =>
        simp only [List.getElem?_cons_zero, Option.some.injEq] at hy
        subst hy
        match j, hu with
        | 0, hu => cases hu; exact HS8.out.c0
        | 1, hu => cases hu; exact HS8.out.c1
        | 2, hu => cases hu; exact HS8.out.c2
        | j + 3, hu => simp [Rec.cells] at hu
      | i + 1, hy => simp at hy) (by simp)
    have d0 := HR8.out.bd.c0
    have d1 := HR8.out.bd.c1
    have d2 := HR8.out.bd.c2
    have d3 := HR8.out.bd.c3
    have d4 := HR8.out.bd.c4
    rw [HT.out] at HSB
    go_wp2_with fail
    first | rw [show (⟨#[100, 97, 103, 32, 97, 110, 110, 10, 99, 114, 111, 110, 32, 42, 32, 42, 32, 42, 32, 42, 32, 42, 10, 102, 114, 111, 109, 32, 48, 10, 116, 111, 32, 57, 48, 10, 99, 97, 116, 99, 104, 117, 112, 10, 116, 97, 115, 107, 32, 97, 32, 111, 110, 101, 32, 49, 32, 102, 114, 101, 101, 10]⟩ : ByteArray) = T from HT.out] | skip
    refine HSB.out.mono ?_
    rintro x W9 ⟨sv', pv, y, xr, tv, rfl, hos, hop, hb9⟩
    have HR9 : Hid (RtS g w bb (.slice (some ⟨sb, 0, none⟩) 1 1) (.slice none 0 0) (.slice none 0 0) ck 1 W9) := HR8.out.up hb9
    have hg8 := HR8.out.drw.lt
    clear HR8 HS8 HSB d0 d1 d2 d3 d4 hb9
    have hos1 := ownsR_set5b hos HR9.out.bd (by decide) sv' pv (.slice (some xr) 0 0) (.int .i64 ck) (.int .i64 1)
    have hop1 := ownsR_set5b hop HR9.out.bd (by decide) sv' pv (.slice (some xr) 0 0) (.int .i64 ck) (.int .i64 1)
    have HRA : Hid (RtS g w bb sv' pv (.slice (some xr) 0 0) ck 1 (set5 W9 bb sv' pv (.slice (some xr) 0 0) (.int .i64 ck) (.int .i64 1))) := HR9.out.set5 _ _ _ _ _
    obtain ⟨s2, sc, rfl, hs8, hs9, hsc⟩ := own_one hos1
    obtain ⟨pb, pc, rfl, hp8, hp9, hpc⟩ := own_one hop1
    have HCM : Hid (Calls Try.prog 77 #[.pointer (some ⟨g, 0, none⟩), bdV (.slice (some ⟨s2, 0, none⟩) 1 sc) (.slice (some ⟨pb, 0, none⟩) 1 pc) (.slice (some xr) 0 0) ck 1] (set5 W9 bb (.slice (some ⟨s2, 0, none⟩) 1 sc) (.slice (some ⟨pb, 0, none⟩) 1 pc) (.slice (some xr) 0 0) (.int .i64 ck) (.int .i64 1)) (CoP g (set5 W9 bb (.slice (some ⟨s2, 0, none⟩) 1 sc) (.slice (some ⟨pb, 0, none⟩) 1 pc) (.slice (some xr) 0 0) (.int .i64 ck) (.int .i64 1)))) := l16Command_any g s2 sc _ (some xr) 0 ck 1 st sl ⟨#[]⟩ _ HRA.out.drw (hsc 0 _ rfl) (hsc 1 _ rfl) (hsc 2 _ rfl) (by omega) hs9 ⟨hst0, hst1⟩ ⟨l0, hsl1⟩ (fun W hs h => l16Of_ann g _ pb pc (some xr) 0 ck 1 W h (hs.cell (p := ⟨pb, 0, none⟩) (by show pb ≠ g; omega) (hpc 0 _ rfl)) (by omega) (by have := hs.size; omega) ⟨c0, by omega⟩ (by decide))
    clear hos hop hos1 hop1 hs8 hs9 hsc hp8 hp9 hpc
    have d0 := HR9.out.bd.c0
    have d1 := HR9.out.bd.c1
    have d2 := HR9.out.bd.c2
    have d3 := HR9.out.bd.c3
    have d4 := HR9.out.bd.c4
    have g0 := HR9.out.bd.fr 0
    have g1 := HR9.out.bd.fr 1
    have g2 := HR9.out.bd.fr 2
    have g3 := HR9.out.bd.fr 3
    have g4 := HR9.out.bd.fr 4
    clear HR9
    go_wp2_with fail
    refine HCM.out.mono ?_
    rintro x V1 ⟨op, tok, seq, text, task, num, up, yes, rfl, htx, htk, _, _, _, _, _, hdv, hsv⟩
    have HV1 : Hid (RtS g w bb (.slice (some ⟨s2, 0, none⟩) 1 sc) (.slice (some ⟨pb, 0, none⟩) 1 pc) (.slice (some xr) 0 0) ck 1 V1) := HRA.out.save hsv hdv
    clear HRA hdv hsv HCM d0 d1 d2 d3 d4
    obtain ⟨V2, HV2⟩ : ∃ V2, Hid (V1.alloc (.cells #[.int .i64 op, .int .i64 tok, .int .i64 seq, .string text, .string task, .int .i64 num, .int .i64 up, .bool yes] 94) = V2) := ⟨_, rfl⟩
    have HX2 : Hid (K8 94 V2 V1.heap.size (.int .i64 op) (.int .i64 tok) (.int .i64 seq) (.string text) (.string task) (.int .i64 num) (.int .i64 up) (.bool yes)) := by show K8 _ _ _ _ _ _ _ _ _ _ _; rw [← HV2.out]; exact K8.new _ _ _ _ _ _ _ _ _ _
    have HR2 : Hid (RtS g w bb (.slice (some ⟨s2, 0, none⟩) 1 sc) (.slice (some ⟨pb, 0, none⟩) 1 pc) (.slice (some xr) 0 0) ck 1 V2) := by show RtS _ _ _ _ _ _ _ _ _; rw [← HV2.out]; exact HV1.out.up (ba (Below.refl _ _) _)
    have hbn : V1.heap.size ≠ w.heap.size := by have := HV1.out.res.lt; omega
    have HCO : Hid (Calls Try.prog 71 #[.agg #[.int .i64 op, .int .i64 tok, .int .i64 seq, .string text, .string task, .int .i64 num, .int .i64 up, .bool yes]] V2 fun e w' => e = .returned (.bool (cmdB op tok seq text task num up yes)) ∧ Below V2.heap.size V2 w') := commandOk_any op tok seq text task num up yes V2 (by omega) (by omega)
    clear HV1
    go_wp2_with fail
    rw [HV2.out]
    refine HCO.out.mono ?_
    rintro x V3 ⟨rfl, hb3⟩
    have HR3 : Hid (RtS g w bb (.slice (some ⟨s2, 0, none⟩) 1 sc) (.slice (some ⟨pb, 0, none⟩) 1 pc) (.slice (some xr) 0 0) ck 1 V3) := HR2.out.up hb3
    have HX3 := HX2.out.up hb3
    have e0 := HX3.c0
    have e1 := HX3.c1
    have e2 := HX3.c2
    have e3 := HX3.c3
    have e4 := HX3.c4
    have e5 := HX3.c5
    have e6 := HX3.c6
    have e7 := HX3.c7
    have r0 := HR3.out.res.c0
    have f0 := HR3.out.res.fz 0
    have r1 := HR3.out.res.c1
    have f1 := HR3.out.res.fz 1
    have r2 := HR3.out.res.c2
    have f2 := HR3.out.res.fz 2
    have r3 := HR3.out.res.c3
    have f3 := HR3.out.res.fz 3
    have r4 := HR3.out.res.c4
    have f4 := HR3.out.res.fz 4
    have r5 := HR3.out.res.c5
    have f5 := HR3.out.res.fz 5
    have r6 := HR3.out.res.c6
    have f6 := HR3.out.res.fz 6
    have r7 := HR3.out.res.c7
    have f7 := HR3.out.res.fz 7
    clear HR2 HX2 HCO HX3 hb3 HV2
    cases hq : cmdB op tok seq text task num up yes with
    | true =>
      have HF : Hid _ := HR3.out.fin op tok seq text task num up yes
      have HQ : Hid (cmdB op tok seq text task num up yes = true) := hq
      clear HR3 hq
      go_wp2
      refine bodyPost_ret (ret_k1 (p := 2) (by kernel_rfl) (by kernel_rfl) HF.out.1) rfl ?_
      exact ⟨op, tok, seq, text, task, num, up, yes, rfl, HQ.out, htx, htk, HF.out.2.1, HF.out.2.2⟩
    | false =>
      have HF : Hid _ := HR3.out.fin 5 1 1 ⟨#[]⟩ ⟨#[]⟩ 0 0 false
      clear HR3 hq
      go_wp2
      refine bodyPost_ret (ret_k1 (p := 2) (by kernel_rfl) (by kernel_rfl) HF.out.1) rfl ?_
      exact ⟨5, 1, 1, _, _, 0, 0, false, rfl, by decide +kernel, by decide, by decide, HF.out.2.1, HF.out.2.2⟩
end Go.Proofs.Ytehkebdncfljmaa
