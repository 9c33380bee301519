/-
  A conf read from its text, as the specification reads it; and marks in rows of numbers: the walks.
-/
import Derived.Test.YtgjamikmjknlfaaDoorRc
namespace Go.Proofs.YtgjamikmjknlfaaDoor
open Go Go.RowKit

set_option maxHeartbeats 1000000 in
theorem specReadConf_any (s : ByteArray) (w : World) (hs : s.size ≤ maxLen) :
    Calls Tryd.prog 38 #[.string s] w fun e w' => ∃ v, e = .returned (.tuple #[v, .bool (okT s)]) ∧ ownsR w' w.heap.size 3 v (confT s) ∧ Below w.heap.size w w' := by
  unfold maxLen at hs
  obtain ⟨l, HB⟩ : ∃ l, Hid (bytesI s = l) := ⟨_, rfl⟩
  have HL : Hid (l.length = s.size) := by show l.length = s.size; rw [← HB.out]; exact bytesI_length s
  go_enter Tryd.func38, Tryd.ntmps38
  go_wp2
  go_loopw [4, 5] (fun out i wr => ∃ k : Nat, k ≤ s.size ∧ k ≤ 5 ∧ i = .int .i64 k ∧ ownsR wr w.heap.size 3 out (l.take k) ∧ Below w.heap.size w wr) (fun _ i _ => s.size - (intOf i).toNat)
  case atStart => exact ⟨0, Nat.zero_le _, Nat.zero_le _, rfl, ownsN_made _ _ _ _ (Nat.le_refl _) (by decide) rfl, (Below.refl _ _).alloc (Nat.le_refl _) _⟩
  case round =>
    obtain ⟨k, hk, hk5, rfl, hown, hbel⟩ := hrel
    have hsz := hbel.size
    by_cases hlt : k < s.size
    · by_cases hk4 : (k : Int) ≤ 4
      · have HT : Hid (l.take (k + 1) = l.take k ++ [(s[k].toNat : Int)]) := take_snoc (by rw [← HB.out]; exact bytesI_at hlt)
        have hlen : (l.take k).length ≤ 4 := by simp; omega
        have hb8 : s[k].toNat < 256 := s[k].toNat_lt
        go_wp2_with (at_builtin; refine wpList_append_rec _ w rfl (.tmp 17) (.tmp 22) 23 rfl w.heap.size 3 _ 8 Tryd.underlying23 info3 rfl _ (l.take k) rfl (hown.alloc _) (hbel.alloc hsz _) wr.heap.size 1 (s[k].toNat : Int) rfl ?c1 ?c2 ?c3 ?c4 ?_)
        case c1 => exact cells_int (by simp)
        case c2 => omega
        case c3 => omega
        case c4 => simp; omega
        intro v' w2 hown2 hbel2 _
        clear hown hbel
        rw [← HT.out] at hown2
        go_wp2
        go_roundw
        case rel => exact ⟨k + 1, by omega, by omega, by go_num, hown2, hbel2⟩
        case measure => simp [intOf]; omega
      · have HQ : Hid (okT s = false) := okT_long (by omega)
        have hk6 : k = 5 := by omega
        obtain ⟨a, c, rfl⟩ := hown.slice
        have e5 : (l.take k).length = 5 := by rw [List.length_take, HL.out]; omega
        rw [e5] at hown ⊢
        by_cases h6 : s.size = 5
        · have HO : Hid (ownsR wr w.heap.size 3 (.slice a 5 c) l) := by
            have := hown
            rw [List.take_of_length_le (by rw [HL.out]; omega)] at this
            exact this
          have hC := specConfOk_any HO.out.reads (by rw [HL.out]; omega)
          rw [show okC l = false by rw [← HB.out]; exact HQ.out] at hC
          clear hown e5
          go_wp2_with (go_at_call 48; refine hC.mono ?_; rintro e w3 ⟨rfl, hb3⟩)
          go_ret2
          rw [HQ.out, confT_no HQ.out]
          have hb4 := hbel.trans (hb3.mono hsz)
          exact ⟨_, rfl, ownsN_made _ _ _ _ hb4.size (by decide) rfl, hb4.alloc hb4.size _⟩
        · have h7 : ¬ (5 : Int) = (s.size : Int) := by omega
          clear hown e5 h6
          go_wp2
          go_ret2
          rw [HQ.out, confT_no HQ.out]
          exact ⟨_, rfl, ownsN_made _ _ _ _ hsz (by decide) rfl, hbel.alloc hsz _⟩
    · have hkn : k = l.length := by rw [HL.out]; omega
      have hown2 := hown
      rw [hkn, List.take_length] at hown2
      obtain ⟨a, c, rfl⟩ := hown2.slice
      have HO : Hid (ownsR wr w.heap.size 3 (.slice a l.length c) l) := hown2
      have hC := specConfOk_any HO.out.reads (by rw [HL.out]; omega)
      rw [HL.out] at hC ⊢
      clear hown hown2
      have h7 : ¬ k < s.size := hlt
      cases hq : okC l with
      | true =>
        have HQ : Hid (okT s = true) := by show okC (bytesI s) = true; rw [HB.out]; exact hq
        rw [hq] at hC
        clear hkn
        go_wp2_with (go_at_call 48; refine hC.mono ?_; rintro e w3 ⟨rfl, hb3⟩)
        go_ret2
        rw [HQ.out, confT_yes HQ.out, HB.out]
        refine ⟨_, rfl, ?_, hbel.trans (hb3.mono hsz)⟩
        have := HO.out.all hb3
        rw [HL.out] at this
        exact this
      | false =>
        have HQ : Hid (okT s = false) := by show okC (bytesI s) = false; rw [HB.out]; exact hq
        rw [hq] at hC
        clear hkn
        go_wp2_with (go_at_call 48; refine hC.mono ?_; rintro e w3 ⟨rfl, hb3⟩)
        go_ret2
        rw [HQ.out, confT_no HQ.out]
        have hb4 := hbel.trans (hb3.mono hsz)
        exact ⟨_, rfl, ownsN_made _ _ _ _ hb4.size (by decide) rfl, hb4.alloc hb4.size _⟩
end Go.Proofs.YtgjamikmjknlfaaDoor
