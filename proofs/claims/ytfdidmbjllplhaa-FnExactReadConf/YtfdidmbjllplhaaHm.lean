/-
  Numbers marked one by one, and looked at again: the walks; the law on a conf that is read from its text.
-/
import Derived.Test.YtfdidmbjllplhaaRcs
namespace Go.Proofs.Ytfdidmbjllplhaa
open Go Go.RowKit

set_option maxHeartbeats 1000000 in
theorem markInt_some (g n c B : Nat) (l : List Int) (w : World) (ho : ownsR w B 3 (.slice (some ⟨g, 0, none⟩) n c) l) (hn : n ≤ 1048577) :
    Calls Try.prog 18 #[.slice (some ⟨g, 0, none⟩) n c, .int .i64 1] w fun e w' => e = .returned (.int .i64 (1 + (n : Int))) ∧ ownsR w' B 3 (.slice (some ⟨g, 0, none⟩) n c) (marksR id 1 1 l.length) ∧ w.grownBy w' (some g) := by
  have HN : Hid (n = l.length) := ho.reads.len
  have HO : Hid (ownsR w B 3 (.slice (some ⟨g, 0, none⟩) n c) (markedR id 1 1 l 0)) := markedR_zero ho
  clear ho
  go_enter Try.func18, Try.ntmps18
  go_wp2
  go_loopw [1, 5] (fun q i wr => ∃ k : Nat, k ≤ n ∧ i = .int .i64 k ∧ q = .int .i64 (1 + (k : Int)) ∧ Hid (ownsR wr B 3 (.slice (some ⟨g, 0, none⟩) n c) (markedR id 1 1 l k)) ∧ w.grownBy wr (some g)) (fun _ i _ => n - (intOf i).toNat)
  case atStart => exact ⟨0, Nat.zero_le _, rfl, by simp, HO, grown_refl _ _⟩
  case round =>
    obtain ⟨k, hk, rfl, rfl, HL, hbel⟩ := hrel
    by_cases hlt : k < n
    · obtain ⟨y, hy⟩ : ∃ y, l[k]? = some y := ⟨_, List.getElem?_eq_getElem (by rw [← HN.out]; exact hlt)⟩
      obtain ⟨hgs, d0, f0⟩ := int_own HL.out (markedR_at hy)
      have R := int_put HL.out (1 + (k : Int)) (markedR_at hy)
      have e := markedR_set (mk := id) (s := 1) (x := 1) hy
      rw [show id ((1 : Int) + 1 * (k : Int)) = 1 + (k : Int) by simp] at e
      rw [e] at R
      have HR : Hid (ownsR (wr.setCell ⟨g, k, none⟩ (.int .i64 (1 + (k : Int)))) B 3 (.slice (some ⟨g, 0, none⟩) n c) (markedR id 1 1 l (k + 1))) := R
      clear R e hy
      go_wp2
      go_roundw
      case rel => exact ⟨k + 1, by omega, by go_num, by go_num, HR, grown_trans hbel (grown_set _ _ _ _)⟩
      case measure => simp [intOf]; omega
    · have hkn : k = l.length := by rw [← HN.out]; omega
      have R : ownsR wr B 3 (.slice (some ⟨g, 0, none⟩) n c) (marksR id 1 1 l.length) := by
        have := HL.out
        rw [hkn, markedR_all] at this
        exact this
      have e : (k : Int) = n := by rw [HN.out, hkn]
      clear hkn
      go_wp2
      go_ret
      exact ⟨by rw [← e]; rfl, R, hbel⟩
theorem markInt_any {w : World} {B : Nat} {v : Value} {l : List Int} (ho : ownsR w B 3 v l) (hn : l.length ≤ 1048577) :
    Calls Try.prog 18 #[v, .int .i64 1] w fun e w' => e = .returned (.int .i64 (1 + (l.length : Int))) ∧ ownsR w' B 3 v (marksR id 1 1 l.length) ∧ w.grownBy w' v.ownBlock := by
  rcases ho.2 with ⟨rfl, h0⟩ | ⟨g, cap, cur, rfl, _⟩
  · rw [h0]
    exact (markIntS_none none 0 1 w).mono fun e w' ⟨he, h⟩ => ⟨he, ownsR_nil _ _ _, grown_of_below h _⟩
  · exact markInt_some g l.length cap B l w ho hn

set_option maxHeartbeats 1000000 in
theorem heldInt_try (ao : Option Addr) (n c : Nat) (w : World) (hr : Reads w (.slice ao n c) (marksR (id : Int → Int) 1 1 n)) (hn : n ≤ 1048577) :
    Calls Try.prog 19 #[.slice ao n c, .int .i64 1] w fun e w' => e = .returned (.int .i64 (1 + (n : Int))) ∧ w' = w := by
  have HR : Hid (Reads w (.slice ao n c) (marksR (id : Int → Int) 1 1 n)) := hr
  clear hr
  go_enter Try.func19, Try.ntmps19
  go_wp2
  go_loopw [1, 5] (fun q i wr => ∃ k : Nat, k ≤ n ∧ i = .int .i64 k ∧ q = .int .i64 (1 + (k : Int)) ∧ wr = w) (fun _ i _ => n - (intOf i).toNat)
  case atStart => exact ⟨0, Nat.zero_le _, rfl, by simp, rfl⟩
  case round =>
    obtain ⟨k, hk, rfl, rfl, rfl⟩ := hrel
    by_cases hlt : k < n
    · have hy := marksR_at (mk := (id : Int → Int)) (s := 1) (x := 1) hlt
      rw [show id ((1 : Int) + 1 * (k : Int)) = 1 + (k : Int) by simp] at hy
      obtain ⟨b, o, rfl, hb, c0⟩ := int_at HR.out hy
      clear hy
      go_wp2
      go_roundw
      case rel => exact ⟨k + 1, by omega, by go_num, by go_num, trivial⟩
      case measure => simp [intOf]; omega
    · have hkn : k = n := by omega
      subst hkn
      go_wp2
      go_ret
      exact ⟨rfl, rfl⟩
theorem heldInt_any {w : World} {v : Value} {n : Nat} (hr : Reads w v (marksR (id : Int → Int) 1 1 n)) (hn : n ≤ 1048577) :
    Calls Try.prog 19 #[v, .int .i64 1] w fun e w' => e = .returned (.int .i64 (1 + (n : Int))) ∧ w' = w := by
  obtain ⟨ao, c, rfl, _⟩ := id hr
  rw [marksR_length] at hr ⊢
  exact heldInt_try ao n c w hr hn

set_option maxHeartbeats 2000000 in
theorem law_ReadConf (s : ByteArray) (w : World) (hs : s.size ≤ maxLen) :
    Calls Try.prog 5 #[.string s] w fun e w' => e = .returned (.bool true) ∧ Below w.heap.size w w' := by
  have HS : Hid (s.size ≤ maxLen) := hs
  unfold maxLen at hs
  by_cases hbig : (1048576 : Int) < (s.size : Int)
  · go_enter Try.func5, Try.ntmps5
    go_wp2
    go_ret
    exact ⟨rfl, Below.refl _ _⟩
  · have hl := confT_len s
    generalize hq : okT s = q
    obtain ⟨l, HC⟩ : ∃ l, Hid (confT s = l) := ⟨_, rfl⟩
    rw [HC.out] at hl
    have H1 : Hid (∀ w, Calls Try.prog 16 #[.string s] w fun e w' => ∃ v, e = .returned (.tuple #[v, .bool q]) ∧ ownsR w' w.heap.size 3 v l ∧ Below w.heap.size w w') := by
      intro w; rw [← hq, ← HC.out]; exact specReadConf_any s w HS.out
    have H2 : Hid (∀ w, Calls Try.prog 17 #[.string s] w fun e w' => ∃ v, e = .returned (.tuple #[v, .bool q]) ∧ ownsR w' w.heap.size 3 v l ∧ Below w.heap.size w w') := by
      intro w; rw [← hq, ← HC.out]; exact readConf_any s w HS.out
    have HL : Hid (l.length ≤ 1048577) := by show l.length ≤ _; omega
    clear hq HC
    go_enter Try.func5, Try.ntmps5
    go_wp2_with fail
    refine (H1.out _).mono ?_
    rintro e w1 ⟨v1, rfl, ho1, hb1⟩
    have O1 : Hid (ownsR w1 w.heap.size 3 v1 l) := ho1
    clear ho1
    go_wp2_with fail
    refine (H2.out _).mono ?_
    rintro e w2 ⟨v2, rfl, ho2, hb2⟩
    have B2 := Below.on hb1 hb2
    have A2 : Hid (v1.ownBlock = none ∨ v1.ownBlock ≠ v2.ownBlock) := apart_new O1.out ho2
    have O2 : Hid (ownsR w2 w.heap.size 3 v1 l) := O1.out.all hb2
    have P2 : Hid (ownsR w2 w.heap.size 3 v2 l) := ho2.mono hb1.size
    clear hb1 hb2 ho2 O1
    go_wp2_with fail
    refine (eqIntS_val P2.out.reads O2.out.reads HL.out).mono ?_
    rintro e w3 ⟨rfl, hb3⟩
    have B3 := Below.on B2 hb3
    have O3 : Hid (ownsR w3 w.heap.size 3 v1 l) := O2.out.all hb3
    have P3 : Hid (ownsR w3 w.heap.size 3 v2 l) := P2.out.all hb3
    clear hb3 B2 O2 P2
    go_wp2_with fail
    refine (markInt_any P3.out HL.out).mono ?_
    rintro e w4 ⟨rfl, hm4, hg4⟩
    have B4 := below_marked B3 P3.out hg4
    have O4 : Hid (ownsR w4 w.heap.size 3 v1 l) := O3.out.other hg4 A2.out
    have P4 : Hid (ownsR w4 w.heap.size 3 v2 (marksR (id : Int → Int) 1 1 l.length)) := hm4
    clear hg4 hm4 B3 O3 P3 A2
    go_wp2_with fail
    refine (heldInt_any P4.out.reads HL.out).mono ?_
    rintro e w4' ⟨rfl, hw⟩
    have hw2 := hw.symm
    subst hw2
    clear hw
    have hl0 : (0 : Int) ≤ (l.length : Int) := by omega
    go_wp2_with fail
    refine (H2.out _).mono ?_
    rintro e w5 ⟨v5, rfl, ho5, hb5⟩
    have B5 := Below.on B4 hb5
    have O5 : Hid (ownsR w5 w.heap.size 3 v1 l) := O4.out.all hb5
    have P5 : Hid (ownsR w5 w.heap.size 3 v2 (marksR (id : Int → Int) 1 1 l.length)) := P4.out.all hb5
    have Q5 : Hid (Reads w5 v5 l) := ho5.reads
    clear hb5 ho5 B4 O4 P4
    go_wp2_with fail
    refine (eqIntS_val Q5.out O5.out.reads HL.out).mono ?_
    rintro e w6 ⟨rfl, hb6⟩
    have B6 := Below.on B5 hb6
    have P6 : Hid (ownsR w6 w.heap.size 3 v2 (marksR (id : Int → Int) 1 1 l.length)) := P5.out.all hb6
    clear hb6 B5 O5 P5 Q5
    go_wp2_with fail
    refine (heldInt_any P6.out.reads HL.out).mono ?_
    rintro e w6' ⟨rfl, hw⟩
    have hw2 := hw.symm
    subst hw2
    clear hw
    go_wp2
    go_ret
    exact ⟨rfl, B6⟩
end Go.Proofs.Ytfdidmbjllplhaa
