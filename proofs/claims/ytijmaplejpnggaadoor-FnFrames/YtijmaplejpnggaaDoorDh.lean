/-
  Helpers of the drawn laws: what is too long; a drawn text; lists of texts held against one another: the walks.
-/
import Derived.Test.YtijmaplejpnggaaDoorDraw2
import Derived.Test.YtijmaplejpnggaaDoorStr
import Derived.Deep.QuietTactic
import Derived.BigQuiet
namespace Go.Proofs.YtijmaplejpnggaaDoor
open Go.RowKit

set_option maxHeartbeats 1000000 in
theorem drawHex_any (v : Value) (n : Nat) (w : World) (hn : n ≤ 1048576) (hc : CodeAt w w.heap.size v n) :
    Calls Tryd.prog 10 #[v] w fun e w' => ∃ t : ByteArray, e = .returned (.string t) ∧ t.size ≤ 1000000 ∧ Below w.heap.size w w' := by
  go_enter Tryd.func10, Tryd.ntmps10
  go_wp2_with (first | (go_at_call 27; refine (new_any v n _ hn hc).mono ?_; rintro e w1 ⟨g, rfl, hg0, hd, hb⟩) | (go_at_call 30; refine (once_any g 60 _ hd (by decide) (by decide)).mono ?_; have hd0 := hd; clear hd hd0; rintro e w2 ⟨b, rfl, hd, hs⟩; have hb := hb.trans (hs.below hg0 hb.size); clear hs; cases b) | (go_at_call 29; refine (below_any g _ _ hd (by decide) (by decide)).mono ?_; clear hd; rintro e w3 ⟨x, rfl, hx0, hx1, hd, hs⟩; have hb := hb.trans (hs.below hg0 hb.size); clear hs; obtain ⟨k, rfl⟩ := Int.eq_ofNat_of_zero_le hx0) | (go_at_call 31; refine (long_any (20000 + k) 200 _ (by omega) (by omega)).mono ?_; rintro e w4 ⟨t, rfl, ht, hb4⟩) | (go_at_call 32; refine (dtext_any g k _ hd (by omega)).mono ?_; rintro e w4 ⟨t, rfl, ht, hd4, hs4⟩))
  · go_ret
    exact ⟨t, rfl, by omega, hb.trans (hs4.below hg0 hb.size)⟩
  · go_ret
    exact ⟨t, rfl, by omega, hb.trans (hb4.mono hb.size)⟩

set_option maxHeartbeats 400000 in
theorem big_any (a : Option Addr) (n cap : Nat) (w : World) (hn : n ≤ 9223372036854775807) :
    Calls Tryd.prog 8 #[.slice a n cap] w fun e w' => e = .returned (.bool (decide (1048576 < n))) ∧ w' = w := by
  by_cases h : 1048576 < n
  · go_enter Tryd.func8, Tryd.ntmps8
    go_wp2
    go_ret
    exact ⟨by simp [h]; omega, rfl⟩
  · go_enter Tryd.func8, Tryd.ntmps8
    go_wp2
    go_ret
    exact ⟨by simp [h]; omega, rfl⟩
theorem CodeAt.on {w w' : World} {v : Value} {n : Nat} (h : CodeAt w w.heap.size v n) (hb : Below w.heap.size w w') : CodeAt w' w'.heap.size v n := by
  obtain ⟨a, cap, hv, hc⟩ := h.keep (w' := w') hb.block
  refine ⟨a, cap, hv, fun j hj => ?_⟩
  obtain ⟨x, z, ha, hlt, hr⟩ := hc j hj
  exact ⟨x, z, ha, Nat.lt_of_lt_of_le hlt hb.size, hr⟩
theorem Below.on {w w1 w2 : World} (h1 : Below w.heap.size w w1) (h2 : Below w1.heap.size w1 w2) : Below w.heap.size w w2 := h1.trans (h2.mono h1.size)

set_option maxHeartbeats 400000 in
theorem sameS_none (a b : Option Addr) (c d : Nat) (w : World) :
    Calls Tryd.prog 13 #[.slice a 0 c, .slice b 0 d] w fun e w' => e = .returned (.bool true) ∧ Below w.heap.size w w' := by
  go_enter Tryd.func13, Tryd.ntmps13
  go_wp2
  refine wp_loop_rounds 1 ?_
  rw [rounds_succ]
  go_wp2
  go_ret
  exact ⟨rfl, Below.refl _ _⟩

set_option maxHeartbeats 1000000 in
theorem sameS_some (g h n c d : Nat) (l : List ByteArray) (w : World) (hn : n ≤ 1048577) (hl : l.length = n) (ha : ∀ j (hj : j < l.length), w.cell? ⟨g, j, none⟩ = some (.string l[j])) (hb : ∀ j (hj : j < l.length), w.cell? ⟨h, j, none⟩ = some (.string l[j])) :
    Calls Tryd.prog 13 #[.slice (some ⟨g, 0, none⟩) n c, .slice (some ⟨h, 0, none⟩) n d] w fun e w' => e = .returned (.bool true) ∧ Below w.heap.size w w' := by
  have HA : Hid (∀ j (hj : j < l.length), w.cell? ⟨g, j, none⟩ = some (.string l[j])) := ha
  have HB : Hid (∀ j (hj : j < l.length), w.cell? ⟨h, j, none⟩ = some (.string l[j])) := hb
  have HL : Hid (l.length = n) := hl
  clear ha hb hl
  go_enter Tryd.func13, Tryd.ntmps13
  go_wp2
  go_loopw [5] (fun i wr => ∃ (k m : Nat), k ≤ n ∧ i = .int .i64 k ∧ wr = w.drewN m) (fun i _ => n - (intOf i).toNat)
  case atStart => exact ⟨0, 0, Nat.zero_le _, rfl, rfl⟩
  case round =>
    obtain ⟨k, m, hk, rfl, rfl⟩ := hrel
    by_cases hlt : k < n
    · obtain ⟨t, hta, htb⟩ : ∃ t, w.cell? ⟨g, k, none⟩ = some (.string t) ∧ w.cell? ⟨h, k, none⟩ = some (.string t) := ⟨_, HA.out k (by rw [HL.out]; exact hlt), HB.out k (by rw [HL.out]; exact hlt)⟩
      go_wp2
      go_quiet (fail)
      go_wp2
      go_roundw
      case rel => exact ⟨k + 1, _, by omega, by go_num, rfl⟩
      case measure => simp [intOf]; omega
    · go_wp2
      go_ret
      exact ⟨rfl, ⟨rfl, rfl, rfl, Nat.le_refl _, fun _ _ => rfl⟩⟩

theorem sameS_cells {w : World} {A g d : Nat} {va : Value} {l : List ByteArray} (ha : ownsS w A 9 va l) (hb : ∀ j (hj : j < l.length), w.cell? ⟨g, j, none⟩ = some (.string l[j])) (hl : l.length ≤ 1048577) :
    Calls Tryd.prog 13 #[va, .slice (some ⟨g, 0, none⟩) l.length d] w fun e w' => e = .returned (.bool true) ∧ Below w.heap.size w w' := by
  by_cases hne : l = []
  · subst hne
    obtain ⟨ao, c, rfl⟩ := ownsS_empty ha
    exact sameS_none ao _ c d w
  · obtain ⟨r, c, rfl, _, _, _, hca, _⟩ := ownsS_form ha hne
    exact sameS_some r g l.length c d l w hl rfl hca hb
theorem ownsS.slice {w : World} {B : Nat} {e : TypeId} {v : Value} {l : List ByteArray} (h : ownsS w B e v l) : ∃ a d, v = .slice a l.length d := by
  by_cases hne : l = []
  · subst hne; obtain ⟨ao, c, rfl⟩ := ownsS_empty h; exact ⟨ao, c, rfl⟩
  · obtain ⟨g, c, rfl, _⟩ := ownsS_form h hne; exact ⟨_, c, rfl⟩

end Go.Proofs.YtijmaplejpnggaaDoor
