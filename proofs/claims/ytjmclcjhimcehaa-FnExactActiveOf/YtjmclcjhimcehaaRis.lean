/-
  How a task's state is asked for by its place: the walks.
-/
import Derived.Test.YtjmclcjhimcehaaSts
import Derived.Test.YtjmclcjhimcehaaR5s
namespace Go.Proofs.Ytjmclcjhimcehaa
open Go Go.RowKit
set_option linter.unusedVariables false

set_option maxRecDepth 10000 in
set_option maxHeartbeats 2000000 in
theorem isIn_any (ao : Option Addr) (n cap : Nat) (nm : ByteArray) (fr up ep : Int) (st : List Sa) (i s : Int) (w : World) (hr : Reads w (.slice ao n cap) st) (hn : n ≤ 1048577) :
    Calls Try.prog 77 #[.agg #[.string nm, .int .i64 fr, .int .i64 up, .int .i64 ep, .slice ao n cap], .int .i64 i, .int .i64 s] w fun e w' => e = .returned (.bool (isN st i s)) ∧ Below w.heap.size w w' := by
  have HN : Hid (n = st.length) := hr.len
  obtain ⟨W1, hW1⟩ : ∃ W1, w.alloc (.cells #[.string nm, .int .i64 fr, .int .i64 up, .int .i64 ep, .slice ao n cap] 65) = W1 := ⟨_, rfl⟩
  have Z1 : R5 W1 w.heap.size nm fr up ep (.slice ao n cap) := by rw [← hW1]; exact R5.new _ _ _ _ _ _
  have B1 : Below w.heap.size w W1 := by rw [← hW1]; exact ba (Below.refl _ _) _
  have c4 := Z1.c4
  by_cases h0 : 0 ≤ i
  case neg =>
    have HE : Hid (isN st i s = false) := isN_out (.inl (by omega)) s
    rw [HE.out]
    have h0' : decide (0 ≤ i) = false := decide_eq_false h0
    clear hr
    go_enter Try.func77, Try.ntmps77
    go_wp2
    go_ret
    exact ⟨rfl, B1⟩
  have h0' : decide (0 ≤ i) = true := decide_eq_true h0
  by_cases h1 : i < (n : Int)
  case neg =>
    have HE : Hid (isN st i s = false) := isN_out (.inr (by have := HN.out; omega)) s
    rw [HE.out]
    have h1' : decide (i < (n : Int)) = false := decide_eq_false h1
    clear hr
    go_enter Try.func77, Try.ntmps77
    go_wp2
    go_ret
    exact ⟨rfl, B1⟩
  have h1' : decide (i < (n : Int)) = true := decide_eq_true h1
  obtain ⟨k, rfl⟩ : ∃ k : Nat, i = (k : Int) := ⟨i.toNat, by omega⟩
  obtain ⟨x, hx⟩ : ∃ x, st[k]? = some x := ⟨_, List.getElem?_eq_getElem (by have := HN.out; omega)⟩
  have HE : Hid (isN st (k : Int) s = decide (x.is = s)) := isN_in hx s
  rw [HE.out]
  obtain ⟨b, o, rfl, hb, d0, -, -, -⟩ := sa_at (hr.below B1) hx
  clear hr hx
  go_enter Try.func77, Try.ntmps77
  go_wp2
  go_ret
  exact ⟨rfl, B1⟩
set_option maxRecDepth 10000 in
set_option maxHeartbeats 2000000 in
theorem isRunning_any (ao : Option Addr) (n cap : Nat) (nm : ByteArray) (fr up ep : Int) (st : List Sa) (i : Int) (w : World) (hr : Reads w (.slice ao n cap) st) (hn : n ≤ 1048577) :
    Calls Try.prog 71 #[.agg #[.string nm, .int .i64 fr, .int .i64 up, .int .i64 ep, .slice ao n cap], .int .i64 i] w fun e w' => e = .returned (.bool (isN st i 1)) ∧ Below w.heap.size w w' := by
  have H1 : Hid (∀ W s, Below w.heap.size w W → Calls Try.prog 77 #[.agg #[.string nm, .int .i64 fr, .int .i64 up, .int .i64 ep, .slice ao n cap], .int .i64 i, .int .i64 s] W fun e w' => e = .returned (.bool (isN st i s)) ∧ Below W.heap.size W w') := fun W s hb => isIn_any ao n cap nm fr up ep st i s W (hr.below hb) hn
  clear hr
  go_enter Try.func71, Try.ntmps71
  go_wp2_with fail
  refine (H1.out _ _ (ba (Below.refl _ _) _)).mono ?_
  rintro e w1 ⟨rfl, hb1⟩
  go_wp2
  go_ret
  exact ⟨rfl, below_new hb1⟩
end Go.Proofs.Ytjmclcjhimcehaa
