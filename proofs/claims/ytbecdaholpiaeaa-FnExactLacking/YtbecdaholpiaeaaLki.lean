/-
  What lacks of spans, as the program tells it: the walk.
-/
import Derived.Test.YtbecdaholpiaeaaLak
import Derived.Test.YtbecdaholpiaeaaCtn
namespace Go.Proofs.Ytbecdaholpiaeaa
open Go Go.RowKit

set_option maxRecDepth 10000 in
set_option maxHeartbeats 1000000 in
theorem implLacking_any (v u : Value) (l : List Sp) (m : List Int) (w : World) (h1 : Reads w v l) (h2 : Reads w u m) (n1 : l.length ≤ 1048576) (n2 : m.length ≤ 1048577) :
    Calls Try.prog 8 #[v, u] w fun x w' => ∃ v', x = .returned v' ∧ ownsR w' w.heap.size 36 v' (l.filter fun s => !decide (s.fr ∈ m)) ∧ Below w.heap.size w w' := by
  obtain ⟨ao, ac, rfl, -⟩ := id h1
  obtain ⟨bo, bc, rfl, -⟩ := id h2
  have HR : Hid (Reads w (.slice ao l.length ac) l) := h1
  have HI : Hid (∀ W x, Below w.heap.size w W → Calls Try.prog 16 #[.slice bo m.length bc, .int .i64 x] W fun e w' => e = .returned (.bool (decide (x ∈ m))) ∧ w' = W) := fun W x hb => contains_try bo _ bc m x W (h2.below hb) n2
  clear h1 h2
  obtain ⟨n, HN⟩ : ∃ n, Hid (l.length = n) := ⟨_, rfl⟩
  rw [HN.out] at HR n1 ⊢
  generalize m.length = lm at *
  go_enter Try.func8, Try.ntmps8
  go_wp2
  go_loopw [5, 11] (fun ov iv wr => ∃ k : Nat, k ≤ n ∧ iv = .int .i64 k ∧ ownsR wr w.heap.size 36 ov ((l.take k).filter fun s => !decide (s.fr ∈ m)) ∧ Below w.heap.size w wr) (fun _ iv _ => n - (intOf iv).toNat)
  case atStart => exact ⟨0, Nat.zero_le _, rfl, sp_made w _ (Nat.le_refl _), ba (Below.refl _ _) _⟩
  case round =>
    obtain ⟨k, hk, rfl, hown, hbel⟩ := hrel
    by_cases hlt : k < n
    · obtain ⟨x, hx⟩ : ∃ x, l[k]? = some x := ⟨_, List.getElem?_eq_getElem (by rw [HN.out]; exact hlt)⟩
      have HT : Hid ((l.take (k + 1)).filter (fun s => !decide (s.fr ∈ m)) = (l.take k).filter (fun s => !decide (s.fr ∈ m)) ++ (if !decide (x.fr ∈ m) then [x] else [])) := lack_take _ hx
      have hfl : ((l.take k).filter fun s => !decide (s.fr ∈ m)).length ≤ 1048576 := by
        have e1 := List.length_filter_le (fun s : Sp => !decide (s.fr ∈ m)) (l.take k)
        have e2 := List.length_take_le k l
        omega
      obtain ⟨b, o, rfl, hb, c0, c1⟩ := sp_at (HR.out.below hbel) hx
      have hsz := hbel.size
      have H1 := HI.out (wr.alloc (.cells #[.int .i64 x.fr, .int .i64 x.up] 36)) x.fr (hbel.alloc hsz _)
      clear hx
      obtain ⟨fr, up⟩ := x
      simp only at *
      cases hq : decide (fr ∈ m) with
      | true =>
        rw [hq] at H1 HT
        have HT2 : Hid ((l.take (k + 1)).filter (fun s => !decide (s.fr ∈ m)) = (l.take k).filter (fun s => !decide (s.fr ∈ m))) := HT.out.trans (List.append_nil _)
        clear hq
        go_wp2_with (go_at_call 16; refine H1.mono ?_; rintro e w1 ⟨rfl, hw⟩; have hw2 := hw.symm; subst hw2)
        go_roundw
        case rel => exact ⟨k + 1, by omega, by go_num, by rw [HT2.out]; exact hown.alloc _, hbel.alloc hsz _⟩
        case measure => simp [intOf]; omega
      | false =>
        rw [hq] at H1 HT
        have HT2 : Hid ((l.take (k + 1)).filter (fun s => !decide (s.fr ∈ m)) = (l.take k).filter (fun s => !decide (s.fr ∈ m)) ++ [⟨fr, up⟩]) := HT.out
        clear hq
        go_wp2_with (first | (go_at_call 16; refine H1.mono ?_; rintro e w1 ⟨rfl, hw⟩; have hw2 := hw.symm; subst hw2) | (at_builtin; refine append_recG _ w rfl (.tmp 20) (.tmp 22) 25 rfl w.heap.size 36 _ 16 Try.underlying25 infoSp rfl _ ((l.take k).filter fun s => !decide (s.fr ∈ m)) rfl ((hown.alloc _).alloc _) (ba (hbel.alloc hsz _) _) (wr.heap.size + 1) 1 (Sp.mk fr up) rfl (cell_sp (by simp [go_sem]) (by simp [go_sem])) hfl (by decide) (by simp; omega) ?_; intro v' w4 hown4 hbel4 hg4))
        rw [← HT2.out] at hown4
        go_wp2
        go_roundw
        case rel => exact ⟨k + 1, by omega, by go_num, hown4, hbel4⟩
        case measure => simp [intOf]; omega
    · have HK : Hid (l.take k = l) := by show _ = _; exact List.take_of_length_le (by rw [HN.out]; omega)
      rw [HK.out] at hown
      go_wp2
      go_ret
      exact ⟨_, rfl, hown, hbel⟩
end Go.Proofs.Ytbecdaholpiaeaa
