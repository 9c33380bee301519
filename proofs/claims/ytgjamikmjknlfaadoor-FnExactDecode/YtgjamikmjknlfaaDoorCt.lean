/-
  The text of a conf: the walks.
-/
import Derived.Test.YtgjamikmjknlfaaDoorLco
import Derived.WalkSpells
import Derived.WalkLawsBesides
namespace Go.Proofs.YtgjamikmjknlfaaDoor
open Go Go.RowKit

/-- The text of a conf, and whether it is right. -/
def textC (l : List Int) : ByteArray := if okC l then bstr l else ByteArray.empty
def textV (l : List Int) : Value := .tuple #[.string (textC l), .bool (okC l)]
theorem textV_no {l : List Int} (h : okC l = false) : textV l = .tuple #[.string ByteArray.empty, .bool false] := by simp [textV, textC, h]
theorem textV_yes {l : List Int} (h : okC l = true) : textV l = .tuple #[.string (bstr l), .bool true] := by simp [textV, textC, h]
theorem okC_at {l : List Int} (h : okC l = true) {k : Nat} {x : Int} (hx : l[k]? = some x) : 0 < x ∧ x ≤ 4 := by
  have h0 : asc 0 l = true := by
    unfold okC at h
    rw [Bool.and_eq_true] at h
    exact h.2
  exact okC_range l 0 h0 (Int.le_refl _) x (List.mem_of_getElem? hx)
theorem okC_len {l : List Int} (h : okC l = true) : l.length ≤ 4 := by
  rcases Nat.lt_or_ge 4 l.length with h1 | h1
  · rw [okC_long h1] at h; cases h
  · exact h1
theorem take_snoc {α : Type} {l : List α} {k : Nat} {x : α} (h : l[k]? = some x) : l.take (k + 1) = l.take k ++ [x] := by
  rw [List.take_add_one, h]
  rfl

set_option maxHeartbeats 1000000 in
theorem confText_any {w : World} {v : Value} {l : List Int} (hr : Reads w v l) (hn : l.length ≤ 1048577) :
    Calls Tryd.prog 29 #[v] w fun e w' => e = .returned (textV l) ∧ Below w.heap.size w w' := by
  obtain ⟨ao, c, rfl, _⟩ := id hr
  have hmk : ∀ w, (Instr.makeSlice 42 (.int .i64 0) (.int .i64 4)).run Tryd.prog w = .ok (.slice (some ⟨w.heap.size, 0, none⟩) 0 4) (w.alloc (.cells #[.int .u8 0, .int .u8 0, .int .u8 0, .int .u8 0] 5)) := fun _ => by kernel_rfl
  have HR : Hid (Reads w (.slice ao l.length c) l) := hr
  clear hr
  obtain ⟨n, HN⟩ : ∃ n, Hid (n = l.length) := ⟨_, rfl⟩
  have HC : Hid (Calls Tryd.prog 59 #[.slice ao n c] w fun e w' => e = .returned (.bool (okC l)) ∧ Below w.heap.size w w') := by
    show Calls _ _ _ _ _
    rw [HN.out]
    exact confOk_any HR.out hn
  rw [← HN.out]
  have HR : Hid (Reads w (.slice ao n c) l) := by show Reads _ _ _; rw [HN.out]; exact HR.out
  cases hq : okC l with
  | false =>
    rw [textV_no hq]
    rw [hq] at HC
    go_enter Tryd.func29, Tryd.ntmps29
    go_wp2_with (go_at_call 59; refine (HC.out).mono ?_; rintro e w1 ⟨rfl, hb1⟩)
    go_ret2
    exact ⟨rfl, hb1⟩
  | true =>
    rw [textV_yes hq]
    have hl4 : n ≤ 4 := by rw [HN.out]; exact okC_len hq
    have HQ : Hid (okC l = true) := hq
    rw [hq] at HC
    clear hq
    go_enter Tryd.func29, Tryd.ntmps29
    go_wp2_with (go_at_call 59; refine (HC.out).mono ?_; rintro e w1 ⟨rfl, hb1⟩)
    have hs1 := hb1.size
    go_loopw [4, 13] (fun out i wr => ∃ k : Nat, k ≤ n ∧ i = .int .i64 k ∧ ownsB wr w.heap.size 5 out (l.take k) ∧ Below w.heap.size w wr) (fun _ i _ => n - (intOf i).toNat)
    case atStart => exact ⟨0, Nat.zero_le _, rfl, ownsB_made _ _ _ _ _ hs1 (by decide) rfl, hb1.alloc hs1 _⟩
    case round =>
      obtain ⟨k, hk, rfl, hown, hbel⟩ := hrel
      have hsz := hbel.size
      by_cases hlt : k < n
      · obtain ⟨x, hx⟩ : ∃ x, l[k]? = some x := ⟨_, List.getElem?_eq_getElem (by rw [← HN.out]; exact hlt)⟩
        have HT : Hid (l.take (k + 1) = l.take k ++ [x]) := take_snoc hx
        obtain ⟨hx0, hx4⟩ := okC_at HQ.out hx
        obtain ⟨b, o, rfl, hb, c0⟩ := int_at (HR.out.below hbel) hx
        clear hx
        have hlen : (l.take k).length ≤ 4 := by simp; omega
        go_wp2_with (at_builtin; refine wpList_append_byte _ w rfl (.tmp 17) (.tmp 20) 42 rfl w.heap.size 5 Tryd.underlying42 info5 _ (l.take k) rfl (hown.alloc _) (hbel.alloc hsz _) ⟨wr.heap.size, 0, none⟩ 1 x rfl ?c1 ?c2 ?c3 ?_)
        case c1 => simp
        case c2 => omega
        case c3 => simp; omega
        intro v' w2 hown2 hbel2
        clear hown hbel
        rw [← HT.out] at hown2
        go_wp2
        go_roundw
        case rel => exact ⟨k + 1, by omega, by go_num, hown2, hbel2⟩
        case measure => simp [intOf]; omega
      · have hkn : k = l.length := by rw [← HN.out]; omega
        have hown2 := hown
        rw [hkn, List.take_length] at hown2
        have hcv := run_own_string (P := Tryd.prog) 42 9 hown2 Tryd.underlying42 Tryd.underlying5 Tryd.underlying9
        clear hown hown2 hkn
        go_wp2
        go_ret2
        exact ⟨rfl, hbel⟩

set_option maxHeartbeats 1000000 in
theorem specConfText_any {w : World} {v : Value} {l : List Int} (hr : Reads w v l) (hn : l.length ≤ 1048577) :
    Calls Tryd.prog 21 #[v] w fun e w' => e = .returned (textV l) ∧ Below w.heap.size w w' := by
  obtain ⟨ao, c, rfl, _⟩ := id hr
  have HR : Hid (Reads w (.slice ao l.length c) l) := hr
  clear hr
  obtain ⟨n, HN⟩ : ∃ n, Hid (n = l.length) := ⟨_, rfl⟩
  have HC : Hid (Calls Tryd.prog 48 #[.slice ao n c] w fun e w' => e = .returned (.bool (okC l)) ∧ Below w.heap.size w w') := by
    show Calls _ _ _ _ _
    rw [HN.out]
    exact specConfOk_any HR.out hn
  rw [← HN.out]
  have HR : Hid (Reads w (.slice ao n c) l) := by show Reads _ _ _; rw [HN.out]; exact HR.out
  cases hq : okC l with
  | false =>
    rw [textV_no hq]
    rw [hq] at HC
    go_enter Tryd.func21, Tryd.ntmps21
    go_wp2_with (go_at_call 48; refine (HC.out).mono ?_; rintro e w1 ⟨rfl, hb1⟩)
    go_ret2
    exact ⟨rfl, hb1⟩
  | true =>
    rw [textV_yes hq]
    have hl4 : n ≤ 4 := by rw [HN.out]; exact okC_len hq
    have HQ : Hid (okC l = true) := hq
    rw [hq] at HC
    clear hq
    go_enter Tryd.func21, Tryd.ntmps21
    go_wp2_with (go_at_call 48; refine (HC.out).mono ?_; rintro e w1 ⟨rfl, hb1⟩)
    have hs1 := hb1.size
    go_loopw [4, 5] (fun out i wr => ∃ k : Nat, k ≤ n ∧ i = .int .i64 k ∧ ownsB wr w.heap.size 5 out (l.take k) ∧ Below w.heap.size w wr) (fun _ i _ => n - (intOf i).toNat)
    case atStart => exact ⟨0, Nat.zero_le _, rfl, ownsB_made _ _ _ _ _ hs1 (by decide) rfl, hb1.alloc hs1 _⟩
    case round =>
      obtain ⟨k, hk, rfl, hown, hbel⟩ := hrel
      have hsz := hbel.size
      by_cases hlt : k < n
      · obtain ⟨x, hx⟩ : ∃ x, l[k]? = some x := ⟨_, List.getElem?_eq_getElem (by rw [← HN.out]; exact hlt)⟩
        have HT : Hid (l.take (k + 1) = l.take k ++ [x]) := take_snoc hx
        obtain ⟨hx0, hx4⟩ := okC_at HQ.out hx
        obtain ⟨b, o, rfl, hb, c0⟩ := int_at (HR.out.below hbel) hx
        clear hx
        have hlen : (l.take k).length ≤ 4 := by simp; omega
        go_wp2_with (at_builtin; refine wpList_append_byte _ w rfl (.tmp 16) (.tmp 22) 42 rfl w.heap.size 5 Tryd.underlying42 info5 _ (l.take k) rfl (hown.alloc _) (hbel.alloc hsz _) ⟨wr.heap.size, 0, none⟩ 1 x rfl ?c1 ?c2 ?c3 ?_)
        case c1 => simp
        case c2 => omega
        case c3 => simp; omega
        intro v' w2 hown2 hbel2
        clear hown hbel
        rw [← HT.out] at hown2
        go_wp2
        go_roundw
        case rel => exact ⟨k + 1, by omega, by go_num, hown2, hbel2⟩
        case measure => simp [intOf]; omega
      · have hkn : k = l.length := by rw [← HN.out]; omega
        have hown2 := hown
        rw [hkn, List.take_length] at hown2
        have hcv := run_own_string (P := Tryd.prog) 42 9 hown2 Tryd.underlying42 Tryd.underlying5 Tryd.underlying9
        clear hown hown2 hkn
        go_wp2
        go_ret2
        exact ⟨rfl, hbel⟩

end Go.Proofs.YtgjamikmjknlfaaDoor
