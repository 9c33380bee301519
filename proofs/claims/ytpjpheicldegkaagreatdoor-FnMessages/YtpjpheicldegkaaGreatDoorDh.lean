/- Dh -/
import Derived.Test.YtpjpheicldegkaaGreatDoorGM14
import Derived.Test.YtpjpheicldegkaaGreatDoorGM1
import Derived.Deep.QuietTactic
import Derived.BigQuiet
namespace Go.Proofs.YtpjpheicldegkaaGreatDoor
open Go.RowKit

set_option maxHeartbeats 400000 in
theorem big_any (a : Option Addr) (n cap : Nat) (w : World) (hn : n ≤ 9223372036854775807) :
    Calls Tryz.prog 4 #[.slice a n cap] w fun e w' => e = .returned (.bool (decide (1048576 < n))) ∧ w' = w := by
  by_cases h : 1048576 < n
  · go_enter Tryz.func4, Tryz.ntmps4
    go_wp2
    go_ret
    exact ⟨by simp [h]; omega, rfl⟩
  · go_enter Tryz.func4, Tryz.ntmps4
    go_wp2
    go_ret
    exact ⟨by simp [h]; omega, rfl⟩
theorem quc.on {w w' : World} {v : Value} {n : Nat} (h : quc w w.heap.size v n) (hb : Below w.heap.size w w') : quc w' w'.heap.size v n := by
  obtain ⟨a, cap, hv, hc⟩ := h.keep (w' := w') hb.block
  refine ⟨a, cap, hv, fun j hj => ?_⟩
  obtain ⟨x, z, ha, hlt, hr⟩ := hc j hj
  exact ⟨x, z, ha, Nat.lt_of_lt_of_le hlt hb.size, hr⟩

theorem ownsS.slice {w : World} {B : Nat} {e : TypeId} {v : Value} {l : List ByteArray} (h : ownsS w B e v l) : ∃ a d, v = .slice a l.length d := by
  by_cases hne : l = []
  · subst hne; obtain ⟨ao, c, rfl⟩ := ownsS_empty h; exact ⟨ao, c, rfl⟩
  · obtain ⟨g, c, rfl, _⟩ := ownsS_form h hne; exact ⟨_, c, rfl⟩

end Go.Proofs.YtpjpheicldegkaaGreatDoor
