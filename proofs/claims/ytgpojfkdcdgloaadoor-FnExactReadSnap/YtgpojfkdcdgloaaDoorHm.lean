/-
  Numbers marked one by one, and looked at again: the walks; the law on a conf that is read from its text.
-/
import Derived.Test.YtgpojfkdcdgloaaDoorRcs
namespace Go.Proofs.YtgpojfkdcdgloaaDoor
open Go Go.RowKit

set_option maxHeartbeats 1000000 in
theorem markInt_some (g n c B : Nat) (l : List Int) (w : World) (ho : ownsR w B 3 (.slice (some ⟨g, 0, none⟩) n c) l) (hn : n ≤ 1048577) :
    Calls Tryd.prog 52 #[.slice (some ⟨g, 0, none⟩) n c, .int .i64 1] w fun e w' => e = .returned (.int .i64 (1 + (n : Int))) ∧ ownsR w' B 3 (.slice (some ⟨g, 0, none⟩) n c) (marksR id 1 1 l.length) ∧ w.grownBy w' (some g) := by
  have HN : Hid (n = l.length) := ho.reads.len
  have HO : Hid (ownsR w B 3 (.slice (some ⟨g, 0, none⟩) n c) (markedR id 1 1 l 0)) := markedR_zero ho
  clear ho
  go_enter Tryd.func52, Tryd.ntmps52
  go_wp2
  go_loopw [1, 5] (fun q i wr => ∃ k : Nat, k ≤ n ∧ i = .int .i64 k ∧ q = .int .i64 (1 + (k : Int)) ∧ Hid (ownsR wr B 3 (.slice (some ⟨g, 0, none⟩) n c) (markedR id 1 1 l k)) ∧ w.grownBy wr (some g)) (fun _ i _ => n - (intOf i).toNat)
  case atStart => exact ⟨0, Nat.zero_le _, rfl, by simp, HO, grown_refl _ _⟩
  case round =>
    obtain ⟨k, hk, rfl, rfl, HL, hbel⟩ := hrel
    by_cases hlt : k < n
    · obtain ⟨y, hy⟩ : ∃ y, l[k]? = some y := ⟨_, List.getElem?_eq_getElem (by rw [← HN.out]; exact hlt)⟩
      obtain ⟨hgs, d0, f0⟩ := int_own HL.out (markedR_at hy)
      have R := int_put HL.out (1 + (k : Int)) (markedR_at hy)
      have e := markedR_set (mk := id) (s := 1) (x := 1) hy
      rw [show id ((1 : Int) + 1 * (k : Int)) = 1 + (k : Int) by simp] at e
      rw [e] at R
      have HR : Hid (ownsR (wr.setCell ⟨g, k, none⟩ (.int .i64 (1 + (k : Int)))) B 3 (.slice (some ⟨g, 0, none⟩) n c) (markedR id 1 1 l (k + 1))) := R
      clear R e hy
      go_wp2
      go_roundw
      case rel => exact ⟨k + 1, by omega, by go_num, by go_num, HR, grown_trans hbel (grown_set _ _ _ _)⟩
      case measure => simp [intOf]; omega
    · have hkn : k = l.length := by rw [← HN.out]; omega
      have R : ownsR wr B 3 (.slice (some ⟨g, 0, none⟩) n c) (marksR id 1 1 l.length) := by
        have := HL.out
        rw [hkn, markedR_all] at this
        exact this
      have e : (k : Int) = n := by rw [HN.out, hkn]
      clear hkn
      go_wp2
      go_ret
      exact ⟨by rw [← e]; rfl, R, hbel⟩
theorem markInt_any {w : World} {B : Nat} {v : Value} {l : List Int} (ho : ownsR w B 3 v l) (hn : l.length ≤ 1048577) :
    Calls Tryd.prog 52 #[v, .int .i64 1] w fun e w' => e = .returned (.int .i64 (1 + (l.length : Int))) ∧ ownsR w' B 3 v (marksR id 1 1 l.length) ∧ w.grownBy w' v.ownBlock := by
  rcases ho.2 with ⟨rfl, h0⟩ | ⟨g, cap, cur, rfl, _⟩
  · rw [h0]
    exact (markIntS_none none 0 1 w).mono fun e w' ⟨he, h⟩ => ⟨he, ownsR_nil _ _ _, grown_of_below h _⟩
  · exact markInt_some g l.length cap B l w ho hn

set_option maxHeartbeats 1000000 in
theorem heldInt_try (ao : Option Addr) (n c : Nat) (w : World) (hr : Reads w (.slice ao n c) (marksR (id : Int → Int) 1 1 n)) (hn : n ≤ 1048577) :
    Calls Tryd.prog 53 #[.slice ao n c, .int .i64 1] w fun e w' => e = .returned (.int .i64 (1 + (n : Int))) ∧ w' = w := by
  have HR : Hid (Reads w (.slice ao n c) (marksR (id : Int → Int) 1 1 n)) := hr
  clear hr
  go_enter Tryd.func53, Tryd.ntmps53
  go_wp2
  go_loopw [1, 5] (fun q i wr => ∃ k : Nat, k ≤ n ∧ i = .int .i64 k ∧ q = .int .i64 (1 + (k : Int)) ∧ wr = w) (fun _ i _ => n - (intOf i).toNat)
  case atStart => exact ⟨0, Nat.zero_le _, rfl, by simp, rfl⟩
  case round =>
    obtain ⟨k, hk, rfl, rfl, rfl⟩ := hrel
    by_cases hlt : k < n
    · have hy := marksR_at (mk := (id : Int → Int)) (s := 1) (x := 1) hlt
      rw [show id ((1 : Int) + 1 * (k : Int)) = 1 + (k : Int) by simp] at hy
      obtain ⟨b, o, rfl, hb, c0⟩ := int_at HR.out hy
      clear hy
      go_wp2
      go_roundw
      case rel => exact ⟨k + 1, by omega, by go_num, by go_num, trivial⟩
      case measure => simp [intOf]; omega
    · have hkn : k = n := by omega
      subst hkn
      go_wp2
      go_ret
      exact ⟨rfl, rfl⟩
theorem heldInt_any {w : World} {v : Value} {n : Nat} (hr : Reads w v (marksR (id : Int → Int) 1 1 n)) (hn : n ≤ 1048577) :
    Calls Tryd.prog 53 #[v, .int .i64 1] w fun e w' => e = .returned (.int .i64 (1 + (n : Int))) ∧ w' = w := by
  obtain ⟨ao, c, rfl, _⟩ := id hr
  rw [marksR_length] at hr ⊢
  exact heldInt_try ao n c w hr hn

end Go.Proofs.YtgpojfkdcdgloaaDoor
