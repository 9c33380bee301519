/-
  What the functions of numbers in bytes answer: the walks.
-/
import Derived.Test.YtehkebdncfljmaaRows
import Derived.Test.YtehkebdncfljmaaAid
import Derived.Test.YtehkebdncfljmaaInf
import Derived.WalkKit
import Derived.WalkSpells
import Derived.WalkLawsBesides
import Derived.Handy
namespace Go.Proofs.Ytehkebdncfljmaa
open Go.RowKit


set_option maxRecDepth 10000 in
set_option maxHeartbeats 400000 in
theorem l01Var_any (n : Nat) (w : World) (hn : n ≤ 1000000000) :
    Calls Try.prog 39 #[.int .i64 n] w fun e w' => e = .returned (.string (bstr (varI n))) ∧ Below w.heap.size w w' := by
  go_enter Try.func39, Try.ntmps39
  go_wp2
  go_loopw [0, 3] (fun c out wr => ∃ (m : Nat) (pre : List Int), c = .int .i64 m ∧ pre.length + m ≤ n ∧ varI n = pre ++ varI m ∧ ownsB wr w.heap.size 5 out pre ∧ Below w.heap.size w wr) (fun c _ _ => (intOf c).toNat)
  case atStart => exact ⟨n, [], rfl, by simp, by simp, ownsB_made _ _ _ _ _ (Nat.le_refl _) (by decide) rfl, (Below.refl _ _).alloc (Nat.le_refl _) _⟩
  case round =>
    obtain ⟨m, pre, rfl, hle, heq, hown, hbel⟩ := hrel
    have HE : Hid (varI n = pre ++ varI m) := heq
    clear heq
    have hsz := hbel.size
    by_cases hm : 127 < m
    · go_wp2_with (at_builtin; refine wpList_append_byte _ w rfl (.tmp 7) (.tmp 12) 22 rfl w.heap.size 5 Try.underlying22 info5 _ pre rfl (hown.alloc _) (hbel.alloc hsz _) ⟨wr.heap.size, 0, none⟩ 1 ((m : Int) % 128 + 128) rfl ?c1 ?c2 ?c3 ?_)
      case c1 => simp
      case c2 => omega
      case c3 => simp; omega
      intro v' w1 hown1 hbel1
      clear hown hbel
      go_wp2
      go_roundw
      case rel => exact ⟨m / 128, pre ++ [(m : Int) % 128 + 128], by go_num, by simp; omega, by rw [HE.out, varI_more hm]; simp, hown1, hbel1⟩
      case measure => simp [intOf]; omega
    · go_wp2_with (at_builtin; refine wpList_append_byte _ w rfl (.tmp 16) (.tmp 19) 22 rfl w.heap.size 5 Try.underlying22 info5 _ pre rfl (hown.alloc _) (hbel.alloc hsz _) ⟨wr.heap.size, 0, none⟩ 1 (m : Int) rfl ?d1 ?d2 ?d3 ?_)
      case d1 => simp
      case d2 => omega
      case d3 => simp; omega
      intro v' w1 hown1 hbel1
      have hcv := run_own_string (P := Try.prog) 22 9 hown1 Try.underlying22 Try.underlying5 Try.underlying9
      clear hown hbel
      go_wp2
      go_ret
      exact ⟨by rw [HE.out, varI_last hm]; rfl, hbel1⟩

set_option maxRecDepth 10000 in
set_option maxHeartbeats 400000 in
theorem varText_bad (n : Int) (w : World) (hn : n < 0 ∨ 1000000000 < n) :
    Calls Try.prog 35 #[.int .i64 n] w fun e w' => e = .returned (.tuple #[.string ByteArray.empty, .bool false]) ∧ Below w.heap.size w w' := by
  rcases hn with hn | hn
  · go_enter Try.func35, Try.ntmps35
    go_wp2
    go_ret2
    exact ⟨rfl, Below.refl _ _⟩
  · have h0 : ¬ n < 0 := by omega
    go_enter Try.func35, Try.ntmps35
    go_wp2
    go_ret2
    exact ⟨rfl, Below.refl _ _⟩

set_option maxRecDepth 10000 in
set_option maxHeartbeats 400000 in
theorem varText_ok (n : Nat) (w : World) (hn : n ≤ 1000000000) :
    Calls Try.prog 35 #[.int .i64 n] w fun e w' => e = .returned (.tuple #[.string (bstr (varI n)), .bool true]) ∧ Below w.heap.size w w' := by
  have hmk : ∀ w, (Instr.makeSlice 22 (.int .i64 0) (.int .i64 5)).run Try.prog w = .ok (.slice (some ⟨w.heap.size, 0, none⟩) 0 5) (w.alloc (.cells #[.int .u8 0, .int .u8 0, .int .u8 0, .int .u8 0, .int .u8 0] 5)) := fun _ => by kernel_rfl
  have h0 : ¬ (n : Int) < 0 := by omega
  have h1 : ¬ 1000000000 < (n : Int) := by omega
  go_enter Try.func35, Try.ntmps35
  go_wp2
  go_loopw [0, 4] (fun c out wr => ∃ (m : Nat) (pre : List Int), c = .int .i64 m ∧ pre.length + m ≤ n ∧ varI n = pre ++ varI m ∧ ownsB wr w.heap.size 5 out pre ∧ Below w.heap.size w wr) (fun c _ _ => (intOf c).toNat)
  case atStart => exact ⟨n, [], rfl, by simp, by simp, ownsB_made _ _ _ _ _ (Nat.le_refl _) (by decide) rfl, (Below.refl _ _).alloc (Nat.le_refl _) _⟩
  case round =>
    obtain ⟨m, pre, rfl, hle, heq, hown, hbel⟩ := hrel
    have HE : Hid (varI n = pre ++ varI m) := heq
    clear heq
    have hsz := hbel.size
    by_cases hm : 127 < m
    · go_wp2_with (at_builtin; refine wpList_append_byte _ w rfl (.tmp 14) (.tmp 19) 22 rfl w.heap.size 5 Try.underlying22 info5 _ pre rfl (hown.alloc _) (hbel.alloc hsz _) ⟨wr.heap.size, 0, none⟩ 1 ((m : Int) % 128 + 128) rfl ?c1 ?c2 ?c3 ?_)
      case c1 => simp
      case c2 => omega
      case c3 => simp; omega
      intro v' w1 hown1 hbel1
      clear hown hbel
      go_wp2
      go_roundw
      case rel => exact ⟨m / 128, pre ++ [(m : Int) % 128 + 128], by go_num, by simp; omega, by rw [HE.out, varI_more hm]; simp, hown1, hbel1⟩
      case measure => simp [intOf]; omega
    · go_wp2_with (at_builtin; refine wpList_append_byte _ w rfl (.tmp 23) (.tmp 26) 22 rfl w.heap.size 5 Try.underlying22 info5 _ pre rfl (hown.alloc _) (hbel.alloc hsz _) ⟨wr.heap.size, 0, none⟩ 1 (m : Int) rfl ?d1 ?d2 ?d3 ?_)
      case d1 => simp
      case d2 => omega
      case d3 => simp; omega
      intro v' w1 hown1 hbel1
      have hcv := run_own_string (P := Try.prog) 22 9 hown1 Try.underlying22 Try.underlying5 Try.underlying9
      clear hown hbel
      go_wp2
      go_ret2
      exact ⟨by rw [HE.out, varI_last hm]; rfl, hbel1⟩

set_option maxRecDepth 10000 in
set_option maxHeartbeats 400000 in
theorem l01In_yes (x a b : Int) (w : World) (h1 : a ≤ x) (h2 : x ≤ b) :
    Calls Try.prog 38 #[.int .i64 x, .int .i64 a, .int .i64 b] w fun e w' => e = .returned (.bool true) ∧ w' = w := by
  go_enter Try.func38, Try.ntmps38
  go_wp2
  go_ret
  exact ⟨rfl, rfl⟩

set_option maxRecDepth 10000 in
set_option maxHeartbeats 400000 in
theorem l01In_no (x a b : Int) (w : World) (h : x < a ∨ b < x) :
    Calls Try.prog 38 #[.int .i64 x, .int .i64 a, .int .i64 b] w fun e w' => e = .returned (.bool false) ∧ w' = w := by
  by_cases h1 : a ≤ x
  · have h2 : b < x := by omega
    clear h
    go_enter Try.func38, Try.ntmps38
    go_wp2
    go_ret
    exact ⟨congrArg Ending.returned (congrArg Value.bool (decide_eq_false (by omega))), rfl⟩
  · clear h
    go_enter Try.func38, Try.ntmps38
    go_wp2
    go_ret
    exact ⟨rfl, rfl⟩

end Go.Proofs.Ytehkebdncfljmaa
