/-
  A conf read from its text: the walks. A conf read from its text, as the specification reads it; and marks in rows of numbers: the walks. Numbers marked one by one, and looked at again: the walks; the law on a conf that is read from its text.
-/
import Derived.Test.YtgpojfkdcdgloaaDoorCt
namespace Go.Proofs.YtgpojfkdcdgloaaDoor
open Go Go.RowKit

/-- The bytes of a text as numbers. -/
def bytesI (s : ByteArray) : List Int := s.toList.map fun b => (b.toNat : Int)
theorem bytesI_length (s : ByteArray) : (bytesI s).length = s.size := by
  unfold bytesI
  rw [List.length_map, ByteArray.toList_eq]
  exact Array.length_toList
theorem bytesI_at {s : ByteArray} {k : Nat} (h : k < s.size) : (bytesI s)[k]? = some (s[k].toNat : Int) := by
  unfold bytesI
  rw [ByteArray.toList_eq, List.getElem?_map, Array.getElem?_toList]
  have h' : k < s.data.size := h
  rw [Array.getElem?_eq_getElem h']
  rfl
/-- The conf that is read, and whether there is one. -/
def okT (s : ByteArray) : Bool := okC (bytesI s)
def confT (s : ByteArray) : List Int := if okT s then bytesI s else []
theorem okT_long {s : ByteArray} (h : 4 < s.size) : okT s = false := okC_long (by rw [bytesI_length]; exact h)
theorem confT_no {s : ByteArray} (h : okT s = false) : confT s = [] := by simp [confT, h]
theorem confT_yes {s : ByteArray} (h : okT s = true) : confT s = bytesI s := by simp [confT, h]
theorem confT_len (s : ByteArray) : (confT s).length ≤ 4 := by
  cases h : okT s with
  | false => rw [confT_no h]; simp
  | true => rw [confT_yes h]; exact okC_len h

/-- One number more behind a row that the call owns. -/
theorem cells_int {b : Nat} {x : Int} {w : World} (h : w.cell? ⟨b, 0, none⟩ = some (.int .i64 x)) : ∀ j u, (Rec.cells x)[j]? = some u → w.cell? ⟨b, j, none⟩ = some u ∧ u.oneCell' = true := by
  intro j u hj
  match j, hj with
  | 0, hj =>
    have : Value.int .i64 x = u := by simpa [Rec.cells] using hj
    subst this
    exact ⟨h, rfl⟩
theorem ownsN_made (w : World) (B cap : Nat) (cur : Array Value) (hb : B ≤ w.heap.size) (hm : cap ≤ maxLen) (hs : cur.size = cap) :
    ownsR (w.alloc (.cells cur 3)) B 3 (.slice (some ⟨w.heap.size, 0, none⟩) 0 cap) ([] : List Int) :=
  World.ownsRow_made w cur cap hb hm (by simp [Rec.width]; omega)

set_option maxHeartbeats 1000000 in
theorem readConf_any (s : ByteArray) (w : World) (hs : s.size ≤ maxLen) :
    Calls Tryd.prog 103 #[.string s] w fun e w' => ∃ v, e = .returned (.tuple #[v, .bool (okT s)]) ∧ ownsR w' w.heap.size 3 v (confT s) ∧ Below w.heap.size w w' := by
  unfold maxLen at hs
  have hmk : ∀ w, (Instr.makeSlice 24 (.int .i64 0) (.int .i64 4)).run Tryd.prog w = .ok (.slice (some ⟨w.heap.size, 0, none⟩) 0 4) (w.alloc (.cells #[.int .i64 0, .int .i64 0, .int .i64 0, .int .i64 0] 3)) := fun _ => by kernel_rfl
  by_cases h4 : (4 : Int) < (s.size : Int)
  · have HF : Hid (okT s = false) := okT_long (by omega)
    go_enter Tryd.func103, Tryd.ntmps103
    go_wp2
    go_ret2
    rw [HF.out, confT_no HF.out]
    exact ⟨_, rfl, ownsN_made _ _ _ _ (Nat.le_refl _) (by decide) rfl, (Below.refl _ _).alloc (Nat.le_refl _) _⟩
  · obtain ⟨l, HB⟩ : ∃ l, Hid (bytesI s = l) := ⟨_, rfl⟩
    have HL : Hid (l.length = s.size) := by show l.length = s.size; rw [← HB.out]; exact bytesI_length s
    go_enter Tryd.func103, Tryd.ntmps103
    go_wp2
    go_loopw [4, 5] (fun out i wr => ∃ k : Nat, k ≤ s.size ∧ i = .int .i64 k ∧ ownsR wr w.heap.size 3 out (l.take k) ∧ Below w.heap.size w wr) (fun _ i _ => s.size - (intOf i).toNat)
    case atStart => exact ⟨0, Nat.zero_le _, rfl, ownsN_made _ _ _ _ (Nat.le_refl _) (by decide) rfl, (Below.refl _ _).alloc (Nat.le_refl _) _⟩
    case round =>
      obtain ⟨k, hk, rfl, hown, hbel⟩ := hrel
      have hsz := hbel.size
      by_cases hlt : k < s.size
      · have HT : Hid (l.take (k + 1) = l.take k ++ [(s[k].toNat : Int)]) := take_snoc (by rw [← HB.out]; exact bytesI_at hlt)
        have hlen : (l.take k).length ≤ 4 := by simp; omega
        have hb8 : s[k].toNat < 256 := s[k].toNat_lt
        go_wp2_with (at_builtin; refine wpList_append_rec _ w rfl (.tmp 17) (.tmp 22) 24 rfl w.heap.size 3 _ 8 Tryd.underlying24 info3 rfl _ (l.take k) rfl (hown.alloc _) (hbel.alloc hsz _) wr.heap.size 1 (s[k].toNat : Int) rfl ?c1 ?c2 ?c3 ?c4 ?_)
        case c1 => exact cells_int (by simp)
        case c2 => omega
        case c3 => omega
        case c4 => simp; omega
        intro v' w2 hown2 hbel2 _
        clear hown hbel
        rw [← HT.out] at hown2
        go_wp2
        go_roundw
        case rel => exact ⟨k + 1, by omega, by go_num, hown2, hbel2⟩
        case measure => simp [intOf]; omega
      · have hkn : k = l.length := by rw [HL.out]; omega
        have hown2 := hown
        rw [hkn, List.take_length] at hown2
        have HO : Hid (ownsR wr w.heap.size 3 _ l) := hown2
        clear hown hown2 hkn
        have hC := confOk_any HO.out.reads (by rw [HL.out]; omega)
        cases hq : okC l with
        | true =>
          have HQ : Hid (okT s = true) := by show okC (bytesI s) = true; rw [HB.out]; exact hq
          rw [hq] at hC
          go_wp2_with (go_at_call 75; refine hC.mono ?_; rintro e w3 ⟨rfl, hb3⟩)
          go_ret2
          rw [HQ.out, confT_yes HQ.out, HB.out]
          exact ⟨_, rfl, HO.out.all hb3, hbel.trans (hb3.mono hsz)⟩
        | false =>
          have HQ : Hid (okT s = false) := by show okC (bytesI s) = false; rw [HB.out]; exact hq
          rw [hq] at hC
          go_wp2_with (go_at_call 75; refine hC.mono ?_; rintro e w3 ⟨rfl, hb3⟩)
          go_ret2
          rw [HQ.out, confT_no HQ.out]
          have hb4 := hbel.trans (hb3.mono hsz)
          exact ⟨_, rfl, ownsN_made _ _ _ _ hb4.size (by decide) rfl, hb4.alloc hb4.size _⟩
end Go.Proofs.YtgpojfkdcdgloaaDoor

namespace Go.Proofs.YtgpojfkdcdgloaaDoor
open Go Go.RowKit

set_option maxHeartbeats 1000000 in
theorem specReadConf_any (s : ByteArray) (w : World) (hs : s.size ≤ maxLen) :
    Calls Tryd.prog 49 #[.string s] w fun e w' => ∃ v, e = .returned (.tuple #[v, .bool (okT s)]) ∧ ownsR w' w.heap.size 3 v (confT s) ∧ Below w.heap.size w w' := by
  unfold maxLen at hs
  obtain ⟨l, HB⟩ : ∃ l, Hid (bytesI s = l) := ⟨_, rfl⟩
  have HL : Hid (l.length = s.size) := by show l.length = s.size; rw [← HB.out]; exact bytesI_length s
  go_enter Tryd.func49, Tryd.ntmps49
  go_wp2
  go_loopw [4, 5] (fun out i wr => ∃ k : Nat, k ≤ s.size ∧ k ≤ 5 ∧ i = .int .i64 k ∧ ownsR wr w.heap.size 3 out (l.take k) ∧ Below w.heap.size w wr) (fun _ i _ => s.size - (intOf i).toNat)
  case atStart => exact ⟨0, Nat.zero_le _, Nat.zero_le _, rfl, ownsN_made _ _ _ _ (Nat.le_refl _) (by decide) rfl, (Below.refl _ _).alloc (Nat.le_refl _) _⟩
  case round =>
    obtain ⟨k, hk, hk5, rfl, hown, hbel⟩ := hrel
    have hsz := hbel.size
    by_cases hlt : k < s.size
    · by_cases hk4 : (k : Int) ≤ 4
      · have HT : Hid (l.take (k + 1) = l.take k ++ [(s[k].toNat : Int)]) := take_snoc (by rw [← HB.out]; exact bytesI_at hlt)
        have hlen : (l.take k).length ≤ 4 := by simp; omega
        have hb8 : s[k].toNat < 256 := s[k].toNat_lt
        go_wp2_with (at_builtin; refine wpList_append_rec _ w rfl (.tmp 17) (.tmp 22) 24 rfl w.heap.size 3 _ 8 Tryd.underlying24 info3 rfl _ (l.take k) rfl (hown.alloc _) (hbel.alloc hsz _) wr.heap.size 1 (s[k].toNat : Int) rfl ?c1 ?c2 ?c3 ?c4 ?_)
        case c1 => exact cells_int (by simp)
        case c2 => omega
        case c3 => omega
        case c4 => simp; omega
        intro v' w2 hown2 hbel2 _
        clear hown hbel
        rw [← HT.out] at hown2
        go_wp2
        go_roundw
        case rel => exact ⟨k + 1, by omega, by omega, by go_num, hown2, hbel2⟩
        case measure => simp [intOf]; omega
      · have HQ : Hid (okT s = false) := okT_long (by omega)
        have hk6 : k = 5 := by omega
        obtain ⟨a, c, rfl⟩ := hown.slice
        have e5 : (l.take k).length = 5 := by rw [List.length_take, HL.out]; omega
        rw [e5] at hown ⊢
        by_cases h6 : s.size = 5
        · have HO : Hid (ownsR wr w.heap.size 3 (.slice a 5 c) l) := by
            have := hown
            rw [List.take_of_length_le (by rw [HL.out]; omega)] at this
            exact this
          have hC := specConfOk_any HO.out.reads (by rw [HL.out]; omega)
          rw [show okC l = false by rw [← HB.out]; exact HQ.out] at hC
          clear hown e5
          go_wp2_with (go_at_call 71; refine hC.mono ?_; rintro e w3 ⟨rfl, hb3⟩)
          go_ret2
          rw [HQ.out, confT_no HQ.out]
          have hb4 := hbel.trans (hb3.mono hsz)
          exact ⟨_, rfl, ownsN_made _ _ _ _ hb4.size (by decide) rfl, hb4.alloc hb4.size _⟩
        · have h7 : ¬ (5 : Int) = (s.size : Int) := by omega
          clear hown e5 h6
          go_wp2
          go_ret2
          rw [HQ.out, confT_no HQ.out]
          exact ⟨_, rfl, ownsN_made _ _ _ _ hsz (by decide) rfl, hbel.alloc hsz _⟩
    · have hkn : k = l.length := by rw [HL.out]; omega
      have hown2 := hown
      rw [hkn, List.take_length] at hown2
      obtain ⟨a, c, rfl⟩ := hown2.slice
      have HO : Hid (ownsR wr w.heap.size 3 (.slice a l.length c) l) := hown2
      have hC := specConfOk_any HO.out.reads (by rw [HL.out]; omega)
      rw [HL.out] at hC ⊢
      clear hown hown2
      have h7 : ¬ k < s.size := hlt
      cases hq : okC l with
      | true =>
        have HQ : Hid (okT s = true) := by show okC (bytesI s) = true; rw [HB.out]; exact hq
        rw [hq] at hC
        clear hkn
        go_wp2_with (go_at_call 71; refine hC.mono ?_; rintro e w3 ⟨rfl, hb3⟩)
        go_ret2
        rw [HQ.out, confT_yes HQ.out, HB.out]
        refine ⟨_, rfl, ?_, hbel.trans (hb3.mono hsz)⟩
        have := HO.out.all hb3
        rw [HL.out] at this
        exact this
      | false =>
        have HQ : Hid (okT s = false) := by show okC (bytesI s) = false; rw [HB.out]; exact hq
        rw [hq] at hC
        clear hkn
        go_wp2_with (go_at_call 71; refine hC.mono ?_; rintro e w3 ⟨rfl, hb3⟩)
        go_ret2
        rw [HQ.out, confT_no HQ.out]
        have hb4 := hbel.trans (hb3.mono hsz)
        exact ⟨_, rfl, ownsN_made _ _ _ _ hb4.size (by decide) rfl, hb4.alloc hb4.size _⟩
end Go.Proofs.YtgpojfkdcdgloaaDoor

namespace Go.Proofs.YtgpojfkdcdgloaaDoor
open Go Go.RowKit

set_option maxHeartbeats 1000000 in
theorem markInt_some (g n c B : Nat) (l : List Int) (w : World) (ho : ownsR w B 3 (.slice (some ⟨g, 0, none⟩) n c) l) (hn : n ≤ 1048577) :
    Calls Tryd.prog 52 #[.slice (some ⟨g, 0, none⟩) n c, .int .i64 1] w fun e w' => e = .returned (.int .i64 (1 + (n : Int))) ∧ ownsR w' B 3 (.slice (some ⟨g, 0, none⟩) n c) (marksR id 1 1 l.length) ∧ w.grownBy w' (some g) := by
  have HN : Hid (n = l.length) := ho.reads.len
  have HO : Hid (ownsR w B 3 (.slice (some ⟨g, 0, none⟩) n c) (markedR id 1 1 l 0)) := markedR_zero ho
  clear ho
  go_enter Tryd.func52, Tryd.ntmps52
  go_wp2
  go_loopw [1, 5] (fun q i wr => ∃ k : Nat, k ≤ n ∧ i = .int .i64 k ∧ q = .int .i64 (1 + (k : Int)) ∧ Hid (ownsR wr B 3 (.slice (some ⟨g, 0, none⟩) n c) (markedR id 1 1 l k)) ∧ w.grownBy wr (some g)) (fun _ i _ => n - (intOf i).toNat)
  case atStart => exact ⟨0, Nat.zero_le _, rfl, by simp, HO, grown_refl _ _⟩
  case round =>
    obtain ⟨k, hk, rfl, rfl, HL, hbel⟩ := hrel
    by_cases hlt : k < n
    · obtain ⟨y, hy⟩ : ∃ y, l[k]? = some y := ⟨_, List.getElem?_eq_getElem (by rw [← HN.out]; exact hlt)⟩
      obtain ⟨hgs, d0, f0⟩ := int_own HL.out (markedR_at hy)
      have R := int_put HL.out (1 + (k : Int)) (markedR_at hy)
      have e := markedR_set (mk := id) (s := 1) (x := 1) hy
      rw [show id ((1 : Int) + 1 * (k : Int)) = 1 + (k : Int) by simp] at e
      rw [e] at R
      have HR : Hid (ownsR (wr.setCell ⟨g, k, none⟩ (.int .i64 (1 + (k : Int)))) B 3 (.slice (some ⟨g, 0, none⟩) n c) (markedR id 1 1 l (k + 1))) := R
      clear R e hy
      go_wp2
      go_roundw
      case rel => exact ⟨k + 1, by omega, by go_num, by go_num, HR, grown_trans hbel (grown_set _ _ _ _)⟩
      case measure => simp [intOf]; omega
    · have hkn : k = l.length := by rw [← HN.out]; omega
      have R : ownsR wr B 3 (.slice (some ⟨g, 0, none⟩) n c) (marksR id 1 1 l.length) := by
        have := HL.out
        rw [hkn, markedR_all] at this
        exact this
      have e : (k : Int) = n := by rw [HN.out, hkn]
      clear hkn
      go_wp2
      go_ret
      exact ⟨by rw [← e]; rfl, R, hbel⟩
theorem markInt_any {w : World} {B : Nat} {v : Value} {l : List Int} (ho : ownsR w B 3 v l) (hn : l.length ≤ 1048577) :
    Calls Tryd.prog 52 #[v, .int .i64 1] w fun e w' => e = .returned (.int .i64 (1 + (l.length : Int))) ∧ ownsR w' B 3 v (marksR id 1 1 l.length) ∧ w.grownBy w' v.ownBlock := by
  rcases ho.2 with ⟨rfl, h0⟩ | ⟨g, cap, cur, rfl, _⟩
  · rw [h0]
    exact (markIntS_none none 0 1 w).mono fun e w' ⟨he, h⟩ => ⟨he, ownsR_nil _ _ _, grown_of_below h _⟩
  · exact markInt_some g l.length cap B l w ho hn

set_option maxHeartbeats 1000000 in
theorem heldInt_try (ao : Option Addr) (n c : Nat) (w : World) (hr : Reads w (.slice ao n c) (marksR (id : Int → Int) 1 1 n)) (hn : n ≤ 1048577) :
    Calls Tryd.prog 53 #[.slice ao n c, .int .i64 1] w fun e w' => e = .returned (.int .i64 (1 + (n : Int))) ∧ w' = w := by
  have HR : Hid (Reads w (.slice ao n c) (marksR (id : Int → Int) 1 1 n)) := hr
  clear hr
  go_enter Tryd.func53, Tryd.ntmps53
  go_wp2
  go_loopw [1, 5] (fun q i wr => ∃ k : Nat, k ≤ n ∧ i = .int .i64 k ∧ q = .int .i64 (1 + (k : Int)) ∧ wr = w) (fun _ i _ => n - (intOf i).toNat)
  case atStart => exact ⟨0, Nat.zero_le _, rfl, by simp, rfl⟩
  case round =>
    obtain ⟨k, hk, rfl, rfl, rfl⟩ := hrel
    by_cases hlt : k < n
    · have hy := marksR_at (mk := (id : Int → Int)) (s := 1) (x := 1) hlt
      rw [show id ((1 : Int) + 1 * (k : Int)) = 1 + (k : Int) by simp] at hy
      obtain ⟨b, o, rfl, hb, c0⟩ := int_at HR.out hy
      clear hy
      go_wp2
      go_roundw
      case rel => exact ⟨k + 1, by omega, by go_num, by go_num, trivial⟩
      case measure => simp [intOf]; omega
    · have hkn : k = n := by omega
      subst hkn
      go_wp2
      go_ret
      exact ⟨rfl, rfl⟩
theorem heldInt_any {w : World} {v : Value} {n : Nat} (hr : Reads w v (marksR (id : Int → Int) 1 1 n)) (hn : n ≤ 1048577) :
    Calls Tryd.prog 53 #[v, .int .i64 1] w fun e w' => e = .returned (.int .i64 (1 + (n : Int))) ∧ w' = w := by
  obtain ⟨ao, c, rfl, _⟩ := id hr
  rw [marksR_length] at hr ⊢
  exact heldInt_try ao n c w hr hn

end Go.Proofs.YtgpojfkdcdgloaaDoor
