/-
  Whether a command is right, as the specification tells it: the walks.
-/
import Derived.Test.YtkfhmeiiicidaaaDoorNam
import Derived.Test.YtkfhmeiiicidaaaDoorNl
namespace Go.Proofs.YtkfhmeiiicidaaaDoor
open Go Go.RowKit

theorem nil_list : (⟨#[]⟩ : ByteArray).toList = [] := (ByteArray.toList_eq _).trans rfl
/-- What of a command is nothing, but for what may be there. -/
def restB (f1 f2 f3 f4 f5 : Bool) (text task : ByteArray) (num up : Int) (yes : Bool) : Bool := (f1 || decide (text = ⟨#[]⟩)) && ((f2 || decide (task = ⟨#[]⟩)) && ((f3 || decide (num = 0)) && ((f4 || decide (up = 0)) && (f5 || !yes))))

set_option maxHeartbeats 1000000 in
theorem rest_00000 (op tok seq : Int) (text task : ByteArray) (num up : Int) (yes : Bool) (w : World) :
    Calls Tryd.prog 29 #[.agg #[.int .i64 op, .int .i64 tok, .int .i64 seq, .string text, .string task, .int .i64 num, .int .i64 up, .bool yes], .bool false, .bool false, .bool false, .bool false, .bool false] w fun e w' => e = .returned (.bool (restB false false false false false text task num up yes)) ∧ Below w.heap.size w w' := by
  by_cases h0 : text = ⟨#[]⟩
  case neg =>
    have e0 : (text.toList == []) = false := by rw [← nil_list]; exact ne_list h0
    have HF : Ending.returned (.bool false) = .returned (.bool (restB false false false false false text task num up yes)) := by unfold restB; rw [decide_eq_false h0]; simp
    clear h0
    go_enter Tryd.func29, Tryd.ntmps29
    go_wp2
    go_ret
    exact ⟨HF, ba (Below.refl _ _) _⟩
  subst h0
  by_cases h1 : task = ⟨#[]⟩
  case neg =>
    have e1 : (task.toList == []) = false := by rw [← nil_list]; exact ne_list h1
    have HF : Ending.returned (.bool false) = .returned (.bool (restB false false false false false ⟨#[]⟩ task num up yes)) := by unfold restB; rw [decide_eq_false h1]; simp
    clear h1
    go_enter Tryd.func29, Tryd.ntmps29
    go_wp2
    go_ret
    exact ⟨HF, ba (Below.refl _ _) _⟩
  subst h1
  by_cases h2 : num = 0
  case neg =>
    have e2 : (num == 0) = false := beq_eq_false_iff_ne.2 h2
    have HF : Ending.returned (.bool false) = .returned (.bool (restB false false false false false ⟨#[]⟩ ⟨#[]⟩ num up yes)) := by unfold restB; rw [decide_eq_false h2]; simp
    clear h2
    go_enter Tryd.func29, Tryd.ntmps29
    go_wp2
    go_ret
    exact ⟨HF, ba (Below.refl _ _) _⟩
  subst h2
  by_cases h3 : up = 0
  case neg =>
    have e3 : (up == 0) = false := beq_eq_false_iff_ne.2 h3
    have HF : Ending.returned (.bool false) = .returned (.bool (restB false false false false false ⟨#[]⟩ ⟨#[]⟩ 0 up yes)) := by unfold restB; rw [decide_eq_false h3]; simp
    clear h3
    go_enter Tryd.func29, Tryd.ntmps29
    go_wp2
    go_ret
    exact ⟨HF, ba (Below.refl _ _) _⟩
  subst h3
  cases yes
  case false =>
    have HF : Ending.returned (.bool true) = .returned (.bool (restB false false false false false ⟨#[]⟩ ⟨#[]⟩ 0 0 false)) := by simp [restB]
    go_enter Tryd.func29, Tryd.ntmps29
    go_wp2
    go_ret
    exact ⟨HF, ba (Below.refl _ _) _⟩
  case true =>
    have HF : Ending.returned (.bool false) = .returned (.bool (restB false false false false false ⟨#[]⟩ ⟨#[]⟩ 0 0 true)) := by simp [restB]
    go_enter Tryd.func29, Tryd.ntmps29
    go_wp2
    go_ret
    exact ⟨HF, ba (Below.refl _ _) _⟩

set_option maxHeartbeats 1000000 in
theorem rest_10000 (op tok seq : Int) (text task : ByteArray) (num up : Int) (yes : Bool) (w : World) :
    Calls Tryd.prog 29 #[.agg #[.int .i64 op, .int .i64 tok, .int .i64 seq, .string text, .string task, .int .i64 num, .int .i64 up, .bool yes], .bool true, .bool false, .bool false, .bool false, .bool false] w fun e w' => e = .returned (.bool (restB true false false false false text task num up yes)) ∧ Below w.heap.size w w' := by
  by_cases h1 : task = ⟨#[]⟩
  case neg =>
    have e1 : (task.toList == []) = false := by rw [← nil_list]; exact ne_list h1
    have HF : Ending.returned (.bool false) = .returned (.bool (restB true false false false false text task num up yes)) := by unfold restB; rw [decide_eq_false h1]; simp
    clear h1
    go_enter Tryd.func29, Tryd.ntmps29
    go_wp2
    go_ret
    exact ⟨HF, ba (Below.refl _ _) _⟩
  subst h1
  by_cases h2 : num = 0
  case neg =>
    have e2 : (num == 0) = false := beq_eq_false_iff_ne.2 h2
    have HF : Ending.returned (.bool false) = .returned (.bool (restB true false false false false text ⟨#[]⟩ num up yes)) := by unfold restB; rw [decide_eq_false h2]; simp
    clear h2
    go_enter Tryd.func29, Tryd.ntmps29
    go_wp2
    go_ret
    exact ⟨HF, ba (Below.refl _ _) _⟩
  subst h2
  by_cases h3 : up = 0
  case neg =>
    have e3 : (up == 0) = false := beq_eq_false_iff_ne.2 h3
    have HF : Ending.returned (.bool false) = .returned (.bool (restB true false false false false text ⟨#[]⟩ 0 up yes)) := by unfold restB; rw [decide_eq_false h3]; simp
    clear h3
    go_enter Tryd.func29, Tryd.ntmps29
    go_wp2
    go_ret
    exact ⟨HF, ba (Below.refl _ _) _⟩
  subst h3
  cases yes
  case false =>
    have HF : Ending.returned (.bool true) = .returned (.bool (restB true false false false false text ⟨#[]⟩ 0 0 false)) := by simp [restB]
    go_enter Tryd.func29, Tryd.ntmps29
    go_wp2
    go_ret
    exact ⟨HF, ba (Below.refl _ _) _⟩
  case true =>
    have HF : Ending.returned (.bool false) = .returned (.bool (restB true false false false false text ⟨#[]⟩ 0 0 true)) := by simp [restB]
    go_enter Tryd.func29, Tryd.ntmps29
    go_wp2
    go_ret
    exact ⟨HF, ba (Below.refl _ _) _⟩

set_option maxHeartbeats 1000000 in
theorem rest_10001 (op tok seq : Int) (text task : ByteArray) (num up : Int) (yes : Bool) (w : World) :
    Calls Tryd.prog 29 #[.agg #[.int .i64 op, .int .i64 tok, .int .i64 seq, .string text, .string task, .int .i64 num, .int .i64 up, .bool yes], .bool true, .bool false, .bool false, .bool false, .bool true] w fun e w' => e = .returned (.bool (restB true false false false true text task num up yes)) ∧ Below w.heap.size w w' := by
  by_cases h1 : task = ⟨#[]⟩
  case neg =>
    have e1 : (task.toList == []) = false := by rw [← nil_list]; exact ne_list h1
    have HF : Ending.returned (.bool false) = .returned (.bool (restB true false false false true text task num up yes)) := by unfold restB; rw [decide_eq_false h1]; simp
    clear h1
    go_enter Tryd.func29, Tryd.ntmps29
    go_wp2
    go_ret
    exact ⟨HF, ba (Below.refl _ _) _⟩
  subst h1
  by_cases h2 : num = 0
  case neg =>
    have e2 : (num == 0) = false := beq_eq_false_iff_ne.2 h2
    have HF : Ending.returned (.bool false) = .returned (.bool (restB true false false false true text ⟨#[]⟩ num up yes)) := by unfold restB; rw [decide_eq_false h2]; simp
    clear h2
    go_enter Tryd.func29, Tryd.ntmps29
    go_wp2
    go_ret
    exact ⟨HF, ba (Below.refl _ _) _⟩
  subst h2
  by_cases h3 : up = 0
  case neg =>
    have e3 : (up == 0) = false := beq_eq_false_iff_ne.2 h3
    have HF : Ending.returned (.bool false) = .returned (.bool (restB true false false false true text ⟨#[]⟩ 0 up yes)) := by unfold restB; rw [decide_eq_false h3]; simp
    clear h3
    go_enter Tryd.func29, Tryd.ntmps29
    go_wp2
    go_ret
    exact ⟨HF, ba (Below.refl _ _) _⟩
  subst h3
  have HF : Ending.returned (.bool true) = .returned (.bool (restB true false false false true text ⟨#[]⟩ 0 0 yes)) := by simp [restB]
  go_enter Tryd.func29, Tryd.ntmps29
  go_wp2
  go_ret
  exact ⟨HF, ba (Below.refl _ _) _⟩

set_option maxHeartbeats 1000000 in
theorem rest_00100 (op tok seq : Int) (text task : ByteArray) (num up : Int) (yes : Bool) (w : World) :
    Calls Tryd.prog 29 #[.agg #[.int .i64 op, .int .i64 tok, .int .i64 seq, .string text, .string task, .int .i64 num, .int .i64 up, .bool yes], .bool false, .bool false, .bool true, .bool false, .bool false] w fun e w' => e = .returned (.bool (restB false false true false false text task num up yes)) ∧ Below w.heap.size w w' := by
  by_cases h0 : text = ⟨#[]⟩
  case neg =>
    have e0 : (text.toList == []) = false := by rw [← nil_list]; exact ne_list h0
    have HF : Ending.returned (.bool false) = .returned (.bool (restB false false true false false text task num up yes)) := by unfold restB; rw [decide_eq_false h0]; simp
    clear h0
    go_enter Tryd.func29, Tryd.ntmps29
    go_wp2
    go_ret
    exact ⟨HF, ba (Below.refl _ _) _⟩
  subst h0
  by_cases h1 : task = ⟨#[]⟩
  case neg =>
    have e1 : (task.toList == []) = false := by rw [← nil_list]; exact ne_list h1
    have HF : Ending.returned (.bool false) = .returned (.bool (restB false false true false false ⟨#[]⟩ task num up yes)) := by unfold restB; rw [decide_eq_false h1]; simp
    clear h1
    go_enter Tryd.func29, Tryd.ntmps29
    go_wp2
    go_ret
    exact ⟨HF, ba (Below.refl _ _) _⟩
  subst h1
  by_cases h3 : up = 0
  case neg =>
    have e3 : (up == 0) = false := beq_eq_false_iff_ne.2 h3
    have HF : Ending.returned (.bool false) = .returned (.bool (restB false false true false false ⟨#[]⟩ ⟨#[]⟩ num up yes)) := by unfold restB; rw [decide_eq_false h3]; simp
    clear h3
    go_enter Tryd.func29, Tryd.ntmps29
    go_wp2
    go_ret
    exact ⟨HF, ba (Below.refl _ _) _⟩
  subst h3
  cases yes
  case false =>
    have HF : Ending.returned (.bool true) = .returned (.bool (restB false false true false false ⟨#[]⟩ ⟨#[]⟩ num 0 false)) := by simp [restB]
    go_enter Tryd.func29, Tryd.ntmps29
    go_wp2
    go_ret
    exact ⟨HF, ba (Below.refl _ _) _⟩
  case true =>
    have HF : Ending.returned (.bool false) = .returned (.bool (restB false false true false false ⟨#[]⟩ ⟨#[]⟩ num 0 true)) := by simp [restB]
    go_enter Tryd.func29, Tryd.ntmps29
    go_wp2
    go_ret
    exact ⟨HF, ba (Below.refl _ _) _⟩

set_option maxHeartbeats 1000000 in
theorem rest_00101 (op tok seq : Int) (text task : ByteArray) (num up : Int) (yes : Bool) (w : World) :
    Calls Tryd.prog 29 #[.agg #[.int .i64 op, .int .i64 tok, .int .i64 seq, .string text, .string task, .int .i64 num, .int .i64 up, .bool yes], .bool false, .bool false, .bool true, .bool false, .bool true] w fun e w' => e = .returned (.bool (restB false false true false true text task num up yes)) ∧ Below w.heap.size w w' := by
  by_cases h0 : text = ⟨#[]⟩
  case neg =>
    have e0 : (text.toList == []) = false := by rw [← nil_list]; exact ne_list h0
    have HF : Ending.returned (.bool false) = .returned (.bool (restB false false true false true text task num up yes)) := by unfold restB; rw [decide_eq_false h0]; simp
    clear h0
    go_enter Tryd.func29, Tryd.ntmps29
    go_wp2
    go_ret
    exact ⟨HF, ba (Below.refl _ _) _⟩
  subst h0
  by_cases h1 : task = ⟨#[]⟩
  case neg =>
    have e1 : (task.toList == []) = false := by rw [← nil_list]; exact ne_list h1
    have HF : Ending.returned (.bool false) = .returned (.bool (restB false false true false true ⟨#[]⟩ task num up yes)) := by unfold restB; rw [decide_eq_false h1]; simp
    clear h1
    go_enter Tryd.func29, Tryd.ntmps29
    go_wp2
    go_ret
    exact ⟨HF, ba (Below.refl _ _) _⟩
  subst h1
  by_cases h3 : up = 0
  case neg =>
    have e3 : (up == 0) = false := beq_eq_false_iff_ne.2 h3
    have HF : Ending.returned (.bool false) = .returned (.bool (restB false false true false true ⟨#[]⟩ ⟨#[]⟩ num up yes)) := by unfold restB; rw [decide_eq_false h3]; simp
    clear h3
    go_enter Tryd.func29, Tryd.ntmps29
    go_wp2
    go_ret
    exact ⟨HF, ba (Below.refl _ _) _⟩
  subst h3
  have HF : Ending.returned (.bool true) = .returned (.bool (restB false false true false true ⟨#[]⟩ ⟨#[]⟩ num 0 yes)) := by simp [restB]
  go_enter Tryd.func29, Tryd.ntmps29
  go_wp2
  go_ret
  exact ⟨HF, ba (Below.refl _ _) _⟩

set_option maxHeartbeats 1000000 in
theorem rest_10110 (op tok seq : Int) (text task : ByteArray) (num up : Int) (yes : Bool) (w : World) :
    Calls Tryd.prog 29 #[.agg #[.int .i64 op, .int .i64 tok, .int .i64 seq, .string text, .string task, .int .i64 num, .int .i64 up, .bool yes], .bool true, .bool false, .bool true, .bool true, .bool false] w fun e w' => e = .returned (.bool (restB true false true true false text task num up yes)) ∧ Below w.heap.size w w' := by
  by_cases h1 : task = ⟨#[]⟩
  case neg =>
    have e1 : (task.toList == []) = false := by rw [← nil_list]; exact ne_list h1
    have HF : Ending.returned (.bool false) = .returned (.bool (restB true false true true false text task num up yes)) := by unfold restB; rw [decide_eq_false h1]; simp
    clear h1
    go_enter Tryd.func29, Tryd.ntmps29
    go_wp2
    go_ret
    exact ⟨HF, ba (Below.refl _ _) _⟩
  subst h1
  cases yes
  case false =>
    have HF : Ending.returned (.bool true) = .returned (.bool (restB true false true true false text ⟨#[]⟩ num up false)) := by simp [restB]
    go_enter Tryd.func29, Tryd.ntmps29
    go_wp2
    go_ret
    exact ⟨HF, ba (Below.refl _ _) _⟩
  case true =>
    have HF : Ending.returned (.bool false) = .returned (.bool (restB true false true true false text ⟨#[]⟩ num up true)) := by simp [restB]
    go_enter Tryd.func29, Tryd.ntmps29
    go_wp2
    go_ret
    exact ⟨HF, ba (Below.refl _ _) _⟩

set_option maxHeartbeats 1000000 in
theorem rest_11100 (op tok seq : Int) (text task : ByteArray) (num up : Int) (yes : Bool) (w : World) :
    Calls Tryd.prog 29 #[.agg #[.int .i64 op, .int .i64 tok, .int .i64 seq, .string text, .string task, .int .i64 num, .int .i64 up, .bool yes], .bool true, .bool true, .bool true, .bool false, .bool false] w fun e w' => e = .returned (.bool (restB true true true false false text task num up yes)) ∧ Below w.heap.size w w' := by
  by_cases h3 : up = 0
  case neg =>
    have e3 : (up == 0) = false := beq_eq_false_iff_ne.2 h3
    have HF : Ending.returned (.bool false) = .returned (.bool (restB true true true false false text task num up yes)) := by unfold restB; rw [decide_eq_false h3]; simp
    clear h3
    go_enter Tryd.func29, Tryd.ntmps29
    go_wp2
    go_ret
    exact ⟨HF, ba (Below.refl _ _) _⟩
  subst h3
  cases yes
  case false =>
    have HF : Ending.returned (.bool true) = .returned (.bool (restB true true true false false text task num 0 false)) := by simp [restB]
    go_enter Tryd.func29, Tryd.ntmps29
    go_wp2
    go_ret
    exact ⟨HF, ba (Below.refl _ _) _⟩
  case true =>
    have HF : Ending.returned (.bool false) = .returned (.bool (restB true true true false false text task num 0 true)) := by simp [restB]
    go_enter Tryd.func29, Tryd.ntmps29
    go_wp2
    go_ret
    exact ⟨HF, ba (Below.refl _ _) _⟩

end Go.Proofs.YtkfhmeiiicidaaaDoor
