/-
  Figures of sixteen: the walks of what reads them.
-/
import Derived.Test.YtnnfhhdiamidhaaDoorHex
import Derived.Test.YtnnfhhdiamidhaaDoorShelfB
import Derived.WalkMore
namespace Go.Proofs.YtnnfhhdiamidhaaDoor
open Go.RowKit

/-- The number of a figure, or -1. -/
def valOf (c : Nat) : Int := if 48 ≤ c ∧ c ≤ 57 then (c : Int) - 48 else if 97 ≤ c ∧ c ≤ 102 then (c : Int) - 87 else -1
theorem valOf_bd (c : Nat) : -1 ≤ valOf c ∧ valOf c ≤ 15 := by
  unfold valOf
  split
  · omega
  · split <;> omega

theorem index_all : ∀ n : Fin 256, Lib.indexByte [48, 49, 50, 51, 52, 53, 54, 55, 56, 57, 97, 98, 99, 100, 101, 102] (UInt8.ofNat n.val) = valOf n.val := by decide +kernel

theorem indexFig (c : UInt8) (w : World) :
    Calls Tryd.prog 23 #[.string { data := #[48, 49, 50, 51, 52, 53, 54, 55, 56, 57, 97, 98, 99, 100, 101, 102] }, .int .u8 (c.toNat : Int)] w fun e w' => e = .returned (.int .i64 (valOf c.toNat)) ∧ w' = w := by
  have h := Tryd.strings_IndexByte { data := #[48, 49, 50, 51, 52, 53, 54, 55, 56, 57, 97, 98, 99, 100, 101, 102] } (c.toNat : Int) w
  have e := index_all ⟨c.toNat, c.toNat_lt⟩
  have e2 : ((c.toNat : Int).toNat).toUInt8 = UInt8.ofNat c.toNat := by simp
  rw [e2] at h
  simp only [] at e
  rw [← e]
  exact h

/-- What the first k pairs of figures come to. -/
def unTo (s : ByteArray) : Nat → Option (List Int)
  | 0 => some []
  | k + 1 =>
    match unTo s k with
    | none => none
    | some l =>
      if valOf (s.data.toList.getD (2 * k) 0).toNat < 0 ∨ valOf (s.data.toList.getD (2 * k + 1) 0).toNat < 0 then none
      else some (l ++ [16 * valOf (s.data.toList.getD (2 * k) 0).toNat + valOf (s.data.toList.getD (2 * k + 1) 0).toNat])
theorem unTo_none {s : ByteArray} {k : Nat} (h : unTo s k = none) : ∀ d, unTo s (k + d) = none
  | 0 => h
  | d + 1 => by rw [← Nat.add_assoc, unTo, unTo_none h d]
theorem unTo_length {s : ByteArray} : ∀ {k : Nat} {l : List Int}, unTo s k = some l → l.length = k
  | 0, l, h => by simp [unTo] at h; simp [← h]
  | k + 1, l, h => by
    rw [unTo] at h
    match hk : unTo s k with
    | none => rw [hk] at h; simp at h
    | some l' =>
      rw [hk] at h
      simp only [] at h
      have := unTo_length hk
      split at h
      · simp at h
      · simp at h; rw [← h]; simp [this]
theorem unTo_bad {s : ByteArray} {k i : Nat} {l : List Int} (hi : 2 * k = i) (h : unTo s k = some l) (hlt : i + 1 < s.size) (hb : valOf s[i].toNat < 0 ∨ valOf s[i + 1].toNat < 0) : unTo s (k + 1) = none := by
  subst hi
  rw [unTo, h]
  simp only []
  rw [byteAt s _ (show 2 * k < s.size by omega), byteAt s _ hlt, if_pos hb]
theorem unTo_good {s : ByteArray} {k i : Nat} {l : List Int} (hi : 2 * k = i) (h : unTo s k = some l) (hlt : i + 1 < s.size) (hb : ¬ valOf s[i].toNat < 0) (hb2 : ¬ valOf s[i + 1].toNat < 0) :
    unTo s (k + 1) = some (l ++ [16 * valOf s[i].toNat + valOf s[i + 1].toNat]) := by
  subst hi
  rw [unTo, h]
  simp only []
  rw [byteAt s _ (show 2 * k < s.size by omega), byteAt s _ hlt, if_neg (by omega)]

/-- As a value. -/
def unV : Option (List Int) → Value
  | none => .tuple #[.string ByteArray.empty, .bool false]
  | some l => .tuple #[.string (bstr l), .bool true]

theorem unV_bad {s : ByteArray} {k i : Nat} {l : List Int} (hi : Hid (2 * k = i)) (h : Hid (unTo s k = some l)) (hlt : i + 1 < s.size) (hb : valOf s[i].toNat < 0 ∨ valOf s[i + 1].toNat < 0) (hev : s.size % 2 = 0) :
    Ending.returned (.tuple #[.string ByteArray.empty, .bool false]) = .returned (unV (unTo s (s.size / 2))) := by
  have h1 := unTo_bad hi.out h.out hlt hb
  have h2 := hi.out
  have h3 := unTo_none h1 (s.size / 2 - (k + 1))
  rw [show k + 1 + (s.size / 2 - (k + 1)) = s.size / 2 by omega] at h3
  rw [h3]
  rfl

theorem unV_end {s : ByteArray} {k i : Nat} {l : List Int} (hi : Hid (2 * k = i)) (h : Hid (unTo s k = some l)) (hlt : ¬ i < s.size) (hle : i ≤ s.size) :
    Ending.returned (.tuple #[.string (bstr l), .bool true]) = .returned (unV (unTo s (s.size / 2))) := by
  have h2 := hi.out
  rw [show s.size / 2 = k by omega, h.out]
  rfl

theorem ownsB_form {w : World} {B : Nat} {e : TypeId} {v : Value} {l : List Int} (h : ownsB w B e v l) : ∃ ao cp, v = Value.slice ao l.length cp := by
  rcases h.2 with ⟨rfl, hn⟩ | ⟨g, cap, cur, rfl, _⟩
  · exact ⟨none, 0, by rw [hn]⟩
  · exact ⟨_, _, rfl⟩

set_option maxHeartbeats 2000000 in
set_option maxRecDepth 100000 in
theorem unhex_even (s : ByteArray) (w : World) (hs : s.size ≤ 40000) (hev : s.size % 2 = 0) :
    Calls Tryd.prog 14 #[.string s] w fun e w' => e = .returned (unV (unTo s (s.size / 2))) ∧ Below w.heap.size w w' := by
  have hev2 : ((s.size : Int) % 2 != 0) = false := by simp; omega
  obtain ⟨i0, hi0, hz0, hz1, hz2⟩ := info_parts info5
  go_enter Tryd.func14, Tryd.ntmps14
  go_wp2
  go_step3
  go_wp2_with (at_make; refine wpList_make_own _ rfl _ _ 22 rfl w.heap.size 5 i0 (.int .u8 0) 1 Tryd.underlying22 hi0 hz0 hz1 _ _ _ (s.size / 2) rfl rfl (by omega) ?m1 ?m2 ?m3 ?_)
  case m1 => rw [hz2]; omega
  case m2 => unfold maxLen; omega
  case m3 => omega
  intro w1 hown0 hgr0
  have hown1 : ownsB w1 w.heap.size 5 (.slice (some ⟨w.heap.size, 0, none⟩) 0 (s.size / 2)) [] := hown0
  have hbel0 : Below w.heap.size w w1 := (Below.refl _ _).grown hgr0 (Nat.le_refl _) (fun k hk => by cases hk)
  clear hown0 hgr0 hi0 hz0 hz1 hz2
  go_wp2
  go_step3
  go_wp2
  go_loopw [4, 5] (fun out c wr => ∃ (k i : Nat) (l : List Int), i ≤ s.size ∧ c = .int .i64 i ∧ ownsB wr w.heap.size 5 out l ∧ Below w.heap.size w wr ∧ Hid (2 * k = i) ∧ Hid (unTo s k = some l)) (fun _ c _ => s.size - (intOf c).toNat)
  case atStart => exact ⟨0, 0, [], Nat.zero_le _, rfl, hown1, hbel0, rfl, rfl⟩
  case round =>
    obtain ⟨k, i, l, hi, rfl, hown, hbel, HI, HU⟩ := hrel
    clear hown1 hbel0
    have hsz := hbel.size
    have hl := unTo_length HU.out
    have HL : Hid (l.length = k) := hl
    clear hl
    obtain ⟨ao, cp, rfl⟩ := ownsB_form hown
    by_cases hlt : i < s.size
    · have hlt2 : i + 1 < s.size := by have := HI.out; omega
      have hne : (2 * (l.length : Int) != (s.size : Int)) = true := by rw [bne_iff_ne]; have := HL.out; have := HI.out; omega
      have hv1 := valOf_bd s[i].toNat
      have hv2 := valOf_bd s[i + 1].toNat
      have hle : l.length ≤ 20000 := by have := HL.out; have := HI.out; omega
      obtain ⟨hv1a, hv1b⟩ := hv1
      obtain ⟨hv2a, hv2b⟩ := hv2
      by_cases hb1 : valOf s[i].toNat < 0
      · go_wp2
        refine wp_loop_rounds 3 ?_
        rw [rounds_succ]
        go_wp2_with (go_at_call 23; refine (indexFig _ _).mono ?_; rintro e w' ⟨rfl, hw⟩; have hw2 := hw.symm; subst hw2)
        rw [Exit.noGoto_ret]
        go_ret2
        exact ⟨unV_bad HI HU hlt2 (Or.inl (by omega)) hev, hbel⟩
      · by_cases hb2 : valOf s[i + 1].toNat < 0
        · go_wp2
          refine wp_loop_rounds 3 ?_
          rw [rounds_succ]
          go_wp2_with (go_at_call 23; refine (indexFig _ _).mono ?_; rintro e w' ⟨rfl, hw⟩; have hw2 := hw.symm; subst hw2)
          rw [rounds_succ]
          go_wp2_with (go_at_call 23; refine (indexFig _ _).mono ?_; rintro e w' ⟨rfl, hw⟩; have hw2 := hw.symm; subst hw2)
          rw [Exit.noGoto_ret]
          go_ret2
          exact ⟨unV_bad HI HU hlt2 (Or.inr (by omega)) hev, hbel⟩
        · go_wp2
          refine wp_loop_rounds 3 ?_
          rw [rounds_succ]
          go_wp2_with (go_at_call 23; refine (indexFig _ _).mono ?_; rintro e w' ⟨rfl, hw⟩; have hw2 := hw.symm; subst hw2)
          rw [rounds_succ]
          go_wp2_with (go_at_call 23; refine (indexFig _ _).mono ?_; rintro e w' ⟨rfl, hw⟩; have hw2 := hw.symm; subst hw2)
          rw [rounds_succ]
          go_wp2_with (at_builtin; refine wpList_append_byte _ w rfl (.tmp 45) (.tmp 48) 22 rfl w.heap.size 5 Tryd.underlying22 info5 _ l rfl (hown.alloc _) (hbel.alloc hsz _) ⟨wr.heap.size, 0, none⟩ 1 (valOf s[i].toNat * 16 + valOf s[i + 1].toNat) rfl ?c1 ?c2 ?c3 ?_)
          case c1 => simp
          case c2 => omega
          case c3 => simp; omega
          intro v2 w2 hown2 hbel2
          clear hown hbel
          go_wp2
          go_roundw
          case rel => exact ⟨k + 1, i + 2, _, by omega, by go_num, hown2, hbel2, (by have := HI.out; show 2 * (k + 1) = i + 2; omega), (by rw [Int.mul_comm]; exact unTo_good HI.out HU.out hlt2 (by omega) (by omega))⟩
          case measure => simp [intOf]; omega
    · have hcv := run_own_string (P := Tryd.prog) 22 9 hown Tryd.underlying22 Tryd.underlying5 Tryd.underlying9
      have hne : (2 * (l.length : Int) != (s.size : Int)) = false := by rw [bne_eq_false_iff_eq]; have := HL.out; have := HI.out; omega
      have hle : l.length ≤ 20000 := by have := HL.out; have := HI.out; omega
      clear hown
      go_wp2
      rw [Exit.noGoto_ret]
      go_ret2
      exact ⟨unV_end HI HU hlt hi, hbel⟩

set_option maxHeartbeats 400000 in
theorem unhex_bad (s : ByteArray) (w : World) (hs0 : s.size ≤ 9223372036854775807) (hs : 40000 < s.size ∨ s.size % 2 = 1) :
    Calls Tryd.prog 14 #[.string s] w fun e w' => e = .returned (.tuple #[.string ByteArray.empty, .bool false]) ∧ Below w.heap.size w w' := by
  by_cases h1 : s.size % 2 = 1
  · have h2 : ((s.size : Int) % 2 != 0) = true := by rw [bne_iff_ne]; omega
    clear hs
    go_enter Tryd.func14, Tryd.ntmps14
    go_wp2
    go_step3
    go_wp2
    rw [Exit.noGoto_ret]
    go_ret2
    exact ⟨rfl, Below.refl _ _⟩
  · have h2 : ((s.size : Int) % 2 != 0) = false := by rw [bne_eq_false_iff_eq]; omega
    have h3 : 40000 < s.size := by omega
    clear hs
    go_enter Tryd.func14, Tryd.ntmps14
    go_wp2
    go_step3
    go_wp2
    rw [Exit.noGoto_ret]
    go_ret2
    exact ⟨rfl, Below.refl _ _⟩

theorem unhex_any (s : ByteArray) (w : World) (hs : s.size ≤ 40000) (hev : s.size % 2 = 0) (t : ByteArray) (z : Bool) (h : unV (unTo s (s.size / 2)) = .tuple #[.string t, .bool z]) :
    Calls Tryd.prog 14 #[.string s] w fun e w' => e = .returned (.tuple #[.string t, .bool z]) ∧ Below w.heap.size w w' := by
  have := unhex_even s w hs hev
  rw [h] at this
  exact this
theorem unV_form (o : Option (List Int)) : ∃ (t : ByteArray) (z : Bool), unV o = .tuple #[.string t, .bool z] := by
  cases o with
  | none => exact ⟨_, _, rfl⟩
  | some l => exact ⟨_, _, rfl⟩

end Go.Proofs.YtnnfhhdiamidhaaDoor
