/-
  The text of a conf: the walks.
-/
import Derived.Test.YtfdidmbjllplhaaLco
import Derived.WalkSpells
import Derived.WalkLawsBesides
namespace Go.Proofs.Ytfdidmbjllplhaa
open Go Go.RowKit

/-- The text of a conf, and whether it is right. -/
def textC (l : List Int) : ByteArray := if okC l then bstr l else ByteArray.empty
def textV (l : List Int) : Value := .tuple #[.string (textC l), .bool (okC l)]
theorem textV_no {l : List Int} (h : okC l = false) : textV l = .tuple #[.string ByteArray.empty, .bool false] := by simp [textV, textC, h]
theorem textV_yes {l : List Int} (h : okC l = true) : textV l = .tuple #[.string (bstr l), .bool true] := by simp [textV, textC, h]
theorem okC_at {l : List Int} (h : okC l = true) {k : Nat} {x : Int} (hx : l[k]? = some x) : 0 < x ∧ x ≤ 4 := by
  have h0 : asc 0 l = true := by
    unfold okC at h
    rw [Bool.and_eq_true] at h
    exact h.2
  exact okC_range l 0 h0 (Int.le_refl _) x (List.mem_of_getElem? hx)
theorem okC_len {l : List Int} (h : okC l = true) : l.length ≤ 4 := by
  rcases Nat.lt_or_ge 4 l.length with h1 | h1
  · rw [okC_long h1] at h; cases h
  · exact h1
theorem take_snoc {α : Type} {l : List α} {k : Nat} {x : α} (h : l[k]? = some x) : l.take (k + 1) = l.take k ++ [x] := by
  rw [List.take_add_one, h]
  rfl

set_option maxHeartbeats 1000000 in
theorem confText_any {w : World} {v : Value} {l : List Int} (hr : Reads w v l) (hn : l.length ≤ 1048577) :
    Calls Try.prog 15 #[v] w fun e w' => e = .returned (textV l) ∧ Below w.heap.size w w' := by
  obtain ⟨ao, c, rfl, _⟩ := id hr
  have hmk : ∀ w, (Instr.makeSlice 46 (.int .i64 0) (.int .i64 4)).run Try.prog w = .ok (.slice (some ⟨w.heap.size, 0, none⟩) 0 4) (w.alloc (.cells #[.int .u8 0, .int .u8 0, .int .u8 0, .int .u8 0] 5)) := fun _ => by kernel_rfl
  have HR : Hid (Reads w (.slice ao l.length c) l) := hr
  clear hr
  obtain ⟨n, HN⟩ : ∃ n, Hid (n = l.length) := ⟨_, rfl⟩
  have HC : Hid (Calls Try.prog 12 #[.slice ao n c] w fun e w' => e = .returned (.bool (okC l)) ∧ Below w.heap.size w w') := by
    show Calls _ _ _ _ _
    rw [HN.out]
    exact confOk_any HR.out hn
  rw [← HN.out]
  have HR : Hid (Reads w (.slice ao n c) l) := by show Reads _ _ _; rw [HN.out]; exact HR.out
  cases hq : okC l with
  | false =>
    rw [textV_no hq]
    rw [hq] at HC
    go_enter Try.func15, Try.ntmps15
    go_wp2_with (go_at_call 12; refine (HC.out).mono ?_; rintro e w1 ⟨rfl, hb1⟩)
    go_ret2
    exact ⟨rfl, hb1⟩
  | true =>
    rw [textV_yes hq]
    have hl4 : n ≤ 4 := by rw [HN.out]; exact okC_len hq
    have HQ : Hid (okC l = true) := hq
    rw [hq] at HC
    clear hq
    go_enter Try.func15, Try.ntmps15
    go_wp2_with (go_at_call 12; refine (HC.out).mono ?_; rintro e w1 ⟨rfl, hb1⟩)
    have hs1 := hb1.size
    go_loopw [4, 13] (fun out i wr => ∃ k : Nat, k ≤ n ∧ i = .int .i64 k ∧ ownsB wr w.heap.size 5 out (l.take k) ∧ Below w.heap.size w wr) (fun _ i _ => n - (intOf i).toNat)
    case atStart => exact ⟨0, Nat.zero_le _, rfl, ownsB_made _ _ _ _ _ hs1 (by decide) rfl, hb1.alloc hs1 _⟩
    case round =>
      obtain ⟨k, hk, rfl, hown, hbel⟩ := hrel
      have hsz := hbel.size
      by_cases hlt : k < n
      · obtain ⟨x, hx⟩ : ∃ x, l[k]? = some x := ⟨_, List.getElem?_eq_getElem (by rw [← HN.out]; exact hlt)⟩
        have HT : Hid (l.take (k + 1) = l.take k ++ [x]) := take_snoc hx
        obtain ⟨hx0, hx4⟩ := okC_at HQ.out hx
        obtain ⟨b, o, rfl, hb, c0⟩ := int_at (HR.out.below hbel) hx
        clear hx
        have hlen : (l.take k).length ≤ 4 := by simp; omega
        go_wp2_with (at_builtin; refine wpList_append_byte _ w rfl (.tmp 17) (.tmp 20) 46 rfl w.heap.size 5 Try.underlying46 info5 _ (l.take k) rfl (hown.alloc _) (hbel.alloc hsz _) ⟨wr.heap.size, 0, none⟩ 1 x rfl ?c1 ?c2 ?c3 ?_)
        case c1 => simp
        case c2 => omega
        case c3 => simp; omega
        intro v' w2 hown2 hbel2
        clear hown hbel
        rw [← HT.out] at hown2
        go_wp2
        go_roundw
        case rel => exact ⟨k + 1, by omega, by go_num, hown2, hbel2⟩
        case measure => simp [intOf]; omega
      · have hkn : k = l.length := by rw [← HN.out]; omega
        have hown2 := hown
        rw [hkn, List.take_length] at hown2
        have hcv := run_own_string (P := Try.prog) 46 9 hown2 Try.underlying46 Try.underlying5 Try.underlying9
        clear hown hown2 hkn
        go_wp2
        go_ret2
        exact ⟨rfl, hbel⟩

set_option maxHeartbeats 1000000 in
theorem specConfText_any {w : World} {v : Value} {l : List Int} (hr : Reads w v l) (hn : l.length ≤ 1048577) :
    Calls Try.prog 14 #[v] w fun e w' => e = .returned (textV l) ∧ Below w.heap.size w w' := by
  obtain ⟨ao, c, rfl, _⟩ := id hr
  have HR : Hid (Reads w (.slice ao l.length c) l) := hr
  clear hr
  obtain ⟨n, HN⟩ : ∃ n, Hid (n = l.length) := ⟨_, rfl⟩
  have HC : Hid (Calls Try.prog 10 #[.slice ao n c] w fun e w' => e = .returned (.bool (okC l)) ∧ Below w.heap.size w w') := by
    show Calls _ _ _ _ _
    rw [HN.out]
    exact specConfOk_any HR.out hn
  rw [← HN.out]
  have HR : Hid (Reads w (.slice ao n c) l) := by show Reads _ _ _; rw [HN.out]; exact HR.out
  cases hq : okC l with
  | false =>
    rw [textV_no hq]
    rw [hq] at HC
    go_enter Try.func14, Try.ntmps14
    go_wp2_with (go_at_call 10; refine (HC.out).mono ?_; rintro e w1 ⟨rfl, hb1⟩)
    go_ret2
    exact ⟨rfl, hb1⟩
  | true =>
    rw [textV_yes hq]
    have hl4 : n ≤ 4 := by rw [HN.out]; exact okC_len hq
    have HQ : Hid (okC l = true) := hq
    rw [hq] at HC
    clear hq
    go_enter Try.func14, Try.ntmps14
    go_wp2_with (go_at_call 10; refine (HC.out).mono ?_; rintro e w1 ⟨rfl, hb1⟩)
    have hs1 := hb1.size
    go_loopw [4, 5] (fun out i wr => ∃ k : Nat, k ≤ n ∧ i = .int .i64 k ∧ ownsB wr w.heap.size 5 out (l.take k) ∧ Below w.heap.size w wr) (fun _ i _ => n - (intOf i).toNat)
    case atStart => exact ⟨0, Nat.zero_le _, rfl, ownsB_made _ _ _ _ _ hs1 (by decide) rfl, hb1.alloc hs1 _⟩
    case round =>
      obtain ⟨k, hk, rfl, hown, hbel⟩ := hrel
      have hsz := hbel.size
      by_cases hlt : k < n
      · obtain ⟨x, hx⟩ : ∃ x, l[k]? = some x := ⟨_, List.getElem?_eq_getElem (by rw [← HN.out]; exact hlt)⟩
        have HT : Hid (l.take (k + 1) = l.take k ++ [x]) := take_snoc hx
        obtain ⟨hx0, hx4⟩ := okC_at HQ.out hx
        obtain ⟨b, o, rfl, hb, c0⟩ := int_at (HR.out.below hbel) hx
        clear hx
        have hlen : (l.take k).length ≤ 4 := by simp; omega
        go_wp2_with (at_builtin; refine wpList_append_byte _ w rfl (.tmp 16) (.tmp 22) 46 rfl w.heap.size 5 Try.underlying46 info5 _ (l.take k) rfl (hown.alloc _) (hbel.alloc hsz _) ⟨wr.heap.size, 0, none⟩ 1 x rfl ?c1 ?c2 ?c3 ?_)
        case c1 => simp
        case c2 => omega
        case c3 => simp; omega
        intro v' w2 hown2 hbel2
        clear hown hbel
        rw [← HT.out] at hown2
        go_wp2
        go_roundw
        case rel => exact ⟨k + 1, by omega, by go_num, hown2, hbel2⟩
        case measure => simp [intOf]; omega
      · have hkn : k = l.length := by rw [← HN.out]; omega
        have hown2 := hown
        rw [hkn, List.take_length] at hown2
        have hcv := run_own_string (P := Try.prog) 46 9 hown2 Try.underlying46 Try.underlying5 Try.underlying9
        clear hown hown2 hkn
        go_wp2
        go_ret2
        exact ⟨rfl, hbel⟩

set_option maxHeartbeats 2000000 in
theorem law_ConfText (ao : Option Addr) (n cap : Nat) (l : List Int) (w : World) (hr : Reads w (.slice ao n cap) l) (hn : n ≤ 9223372036854775807) :
    Calls Try.prog 4 #[.slice ao n cap] w fun e w' => e = .returned (.bool true) ∧ Below w.heap.size w w' := by
  have HR : Hid (Reads w (.slice ao n cap) l) := hr
  have HN : Hid (n = l.length) := hr.len
  clear hr
  by_cases hbig : (1048576 : Int) < (n : Int)
  · go_enter Try.func4, Try.ntmps4
    go_wp2
    go_ret
    exact ⟨rfl, Below.refl _ _⟩
  · have hn1 : n ≤ 1048576 := by omega
    have HL : Hid (l.length ≤ 1048577) := by show l.length ≤ 1048577; rw [← HN.out]; omega
    obtain ⟨t, HT⟩ : ∃ t, Hid (textC l = t) := ⟨_, rfl⟩
    obtain ⟨q, HQ⟩ : ∃ q, Hid (okC l = q) := ⟨_, rfl⟩
    have HV : Hid (textV l = .tuple #[.string t, .bool q]) := by show textV l = _; rw [textV, HT.out, HQ.out]
    go_enter Try.func4, Try.ntmps4
    go_wp2_with fail
    refine (toIntS_any ao n cap l _ HR.out hn1).mono ?_
    rintro e w1 ⟨v1, rfl, ho1, hb1⟩
    have R1 : Hid (Reads w1 (.slice ao n cap) l) := HR.out.below hb1
    have O1 : Hid (Reads w1 v1 l) := ho1.reads
    clear ho1
    go_wp2_with fail
    refine (specConfText_any O1.out HL.out).mono ?_
    rintro e w2 ⟨rfl, hb2⟩
    have B2 := Below.on hb1 hb2
    have R2 : Hid (Reads w2 (.slice ao n cap) l) := R1.out.below hb2
    clear hb1 hb2 R1 O1
    rw [HV.out]
    go_wp2_with fail
    refine (toIntS_any ao n cap l _ R2.out hn1).mono ?_
    rintro e w3 ⟨v3, rfl, ho3, hb3⟩
    have B3 := Below.on B2 hb3
    have R3 : Hid (Reads w3 (.slice ao n cap) l) := R2.out.below hb3
    have O3 : Hid (Reads w3 v3 l) := ho3.reads
    clear hb3 ho3 B2 R2
    go_wp2_with fail
    refine (confText_any O3.out HL.out).mono ?_
    rintro e w4 ⟨rfl, hb4⟩
    have B4 := Below.on B3 hb4
    have R4 : Hid (Reads w4 (.slice ao n cap) l) := R3.out.below hb4
    have O4 : Hid (Reads w4 v3 l) := O3.out.below hb4
    clear hb4 B3 R3 O3
    rw [HV.out]
    go_wp2_with fail
    refine (toIntS_any ao n cap l _ R4.out hn1).mono ?_
    rintro e w5 ⟨v5, rfl, ho5, hb5⟩
    have B5 := Below.on B4 hb5
    have O5 : Hid (Reads w5 v3 l) := O4.out.below hb5
    have P5 : Hid (Reads w5 v5 l) := ho5.reads
    clear hb5 ho5 B4 R4 O4
    go_wp2_with fail
    refine (eqIntS_val O5.out P5.out HL.out).mono ?_
    rintro e w6 ⟨rfl, hb6⟩
    have B6 := Below.on B5 hb6
    clear hb6 B5 O5 P5
    go_wp2
    go_ret
    exact ⟨rfl, B6⟩
end Go.Proofs.Ytfdidmbjllplhaa
