/-
  Entries: the law's helpers, and whether one is right: the walks.
-/
import Derived.Test.YtgjamikmjknlfaaDoorRcs
namespace Go.Proofs.YtgjamikmjknlfaaDoor
open Go Go.RowKit

set_option maxHeartbeats 400000 in
theorem szEntry_law (t k : Int) (d : ByteArray) (w : World) (hd : d.size ≤ 9223372036854775807) :
    Calls Tryd.prog 45 #[.agg #[.int .i64 t, .int .i64 k, .string d], .int .i64 1048576] w fun e w' => ∃ r : Int, e = .returned (.int .i64 r) ∧ (r = -1 ∨ 0 ≤ r ∧ d.size ≤ 1048576) ∧ Below w.heap.size w w' := by
  by_cases h1 : (1048576 : Int) - d.size < 0
  · go_enter Tryd.func45, Tryd.ntmps45
    go_wp2
    go_ret
    exact ⟨_, rfl, .inl rfl, ba (Below.refl _ _) _⟩
  · go_enter Tryd.func45, Tryd.ntmps45
    go_wp2
    go_ret
    exact ⟨_, rfl, .inr ⟨by omega, by omega⟩, ba (Below.refl _ _) _⟩

set_option maxHeartbeats 400000 in
theorem toEntry_any (t k : Int) (d : ByteArray) (w : World) :
    Calls Tryd.prog 49 #[.agg #[.int .i64 t, .int .i64 k, .string d]] w fun e w' => e = .returned (.agg #[.int .i64 t, .int .i64 k, .string d]) ∧ Below w.heap.size w w' := by
  go_enter Tryd.func49, Tryd.ntmps49
  go_wp2
  go_returns
  exact ⟨rfl, ba (ba (ba (Below.refl _ _) _) _) _⟩

set_option maxHeartbeats 400000 in
theorem eqEntry_any (t k : Int) (d : ByteArray) (w : World) :
    Calls Tryd.prog 61 #[.agg #[.int .i64 t, .int .i64 k, .string d], .agg #[.int .i64 t, .int .i64 k, .string d]] w fun e w' => e = .returned (.bool true) ∧ Below w.heap.size w w' := by
  go_enter Tryd.func61, Tryd.ntmps61
  go_wp2
  go_ret
  exact ⟨rfl, ba (ba (Below.refl _ _) _) _⟩

/-- What an entry's kind asks of its data. -/
def kindOk (k : Int) (d : ByteArray) : Bool :=
  if k = 1 then d.toList.isEmpty else if k = 2 then okT d else if k = 3 then decide ((d.size : Int) ≤ 640) else false
def okE (t k : Int) (d : ByteArray) : Bool := decide (0 ≤ t) && decide (t ≤ 100000) && kindOk k d
/-- The kind of an entry, as the program tells it: a type behind an interface. -/
def contV (k : Int) (d : ByteArray) : Value := if k = 1 then .iface 138 (.string d) else if k = 2 then .iface 139 (.string d) else if k = 3 then .iface 140 (.string d) else .nilIface

theorem contentOf_any (t k : Int) (d : ByteArray) (w : World) :
    Calls Tryd.prog 77 #[.agg #[.int .i64 t, .int .i64 k, .string d]] w fun e w' => e = .returned (contV k d) ∧ Below w.heap.size w w' := by
  by_cases h1 : k = 1
  · subst h1
    go_enter Tryd.func77, Tryd.ntmps77
    go_wp2
    go_ret
    exact ⟨rfl, ba (Below.refl _ _) _⟩
  · by_cases h2 : k = 2
    · subst h2
      go_enter Tryd.func77, Tryd.ntmps77
      go_wp2
      go_ret
      exact ⟨rfl, ba (Below.refl _ _) _⟩
    · by_cases h3 : k = 3
      · subst h3
        go_enter Tryd.func77, Tryd.ntmps77
        go_wp2
        go_ret
        exact ⟨rfl, ba (Below.refl _ _) _⟩
      · have HC : Hid (contV k d = .nilIface) := by show contV k d = _; simp [contV, h1, h2, h3]
        rw [HC.out]
        go_enter Tryd.func77, Tryd.ntmps77
        go_wp2
        go_ret
        exact ⟨rfl, ba (Below.refl _ _) _⟩

theorem as_yes (t : TypeId) (ht : t = 138 ∨ t = 139 ∨ t = 140) (d : ByteArray) (w : World) : (Instr.typeAssert (.iface t (.string d)) 126 t true).run Tryd.prog w = .ok (.tuple #[.string d, .bool true]) w := by
  rcases ht with rfl | rfl | rfl <;> kernel_rfl
theorem as_64_63 (d : ByteArray) (w : World) : (Instr.typeAssert (.iface 139 (.string d)) 126 138 true).run Tryd.prog w = .ok (.tuple #[.string ByteArray.empty, .bool false]) w := by kernel_rfl
theorem as_65_63 (d : ByteArray) (w : World) : (Instr.typeAssert (.iface 140 (.string d)) 126 138 true).run Tryd.prog w = .ok (.tuple #[.string ByteArray.empty, .bool false]) w := by kernel_rfl
theorem as_65_64 (d : ByteArray) (w : World) : (Instr.typeAssert (.iface 140 (.string d)) 126 139 true).run Tryd.prog w = .ok (.tuple #[.string ByteArray.empty, .bool false]) w := by kernel_rfl
theorem as_nil_63 (w : World) : (Instr.typeAssert .nilIface 126 138 true).run Tryd.prog w = .ok (.tuple #[.string ByteArray.empty, .bool false]) w := by kernel_rfl
theorem as_nil_64 (w : World) : (Instr.typeAssert .nilIface 126 139 true).run Tryd.prog w = .ok (.tuple #[.string ByteArray.empty, .bool false]) w := by kernel_rfl
theorem as_nil_65 (w : World) : (Instr.typeAssert .nilIface 126 140 true).run Tryd.prog w = .ok (.tuple #[.string ByteArray.empty, .bool false]) w := by kernel_rfl

set_option maxHeartbeats 1000000 in
theorem isRight_any (k : Int) (d : ByteArray) (w : World) (hd : d.size ≤ maxLen) :
    Calls Tryd.prog 89 #[contV k d] w fun e w' => e = .returned (.bool (kindOk k d)) ∧ Below w.heap.size w w' := by
  have HD : Hid (d.size ≤ maxLen) := hd
  clear hd
  by_cases h1 : k = 1
  · subst h1
    have a1 := as_yes 138 (by decide) d
    show Calls Tryd.prog 89 #[.iface 138 (.string d)] w fun e w' => e = .returned (.bool d.toList.isEmpty) ∧ Below w.heap.size w w'
    go_enter Tryd.func89, Tryd.ntmps89
    go_wp2
    go_ret
    exact ⟨rfl, Below.refl _ _⟩
  · by_cases h2 : k = 2
    · subst h2
      have a1 := as_64_63 d
      have a2 := as_yes 139 (by decide) d
      show Calls Tryd.prog 89 #[.iface 139 (.string d)] w fun e w' => e = .returned (.bool (okT d)) ∧ Below w.heap.size w w'
      go_enter Tryd.func89, Tryd.ntmps89
      go_wp2_with (go_at_call 84; refine (readConf_any _ _ HD.out).mono ?_; rintro e w1 ⟨v1, rfl, ho, hb⟩; clear ho)
      go_ret
      exact ⟨rfl, hb⟩
    · by_cases h3 : k = 3
      · subst h3
        have hd := HD.out
        unfold maxLen at hd
        have a1 := as_65_63 d
        have a2 := as_65_64 d
        have a3 := as_yes 140 (by decide) d
        show Calls Tryd.prog 89 #[.iface 140 (.string d)] w fun e w' => e = .returned (.bool (decide ((d.size : Int) ≤ 640))) ∧ Below w.heap.size w w'
        go_enter Tryd.func89, Tryd.ntmps89
        go_wp2
        go_ret
        exact ⟨rfl, Below.refl _ _⟩
      · have HC : Hid (contV k d = .nilIface) := by show contV k d = _; simp [contV, h1, h2, h3]
        have HK : Hid (kindOk k d = false) := by show kindOk k d = _; simp [kindOk, h1, h2, h3]
        rw [HC.out, HK.out]
        have a1 := as_nil_63
        have a2 := as_nil_64
        have a3 := as_nil_65
        go_enter Tryd.func89, Tryd.ntmps89
        go_wp2
        go_ret
        exact ⟨rfl, Below.refl _ _⟩
end Go.Proofs.YtgjamikmjknlfaaDoor
