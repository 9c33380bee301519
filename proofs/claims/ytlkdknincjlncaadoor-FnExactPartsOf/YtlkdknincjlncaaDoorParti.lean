/-
  The words of a line: the walks of the program's PartsOf.
-/
import Derived.Test.YtlkdknincjlncaaDoorPartw
import Derived.Test.YtlkdknincjlncaaDoorShelfF
namespace Go.Proofs.YtlkdknincjlncaaDoor
open Go.RowKit

set_option maxHeartbeats 400000 in
theorem clone_any (s : ByteArray) (w : World) (hs : s.size ≤ 1048576) :
    Calls Tryd.prog 16 #[.string s] w fun e w' => e = .returned (.string s) ∧ Below w.heap.size w w' := by
  go_enter Tryd.func16, Tryd.ntmps16
  go_wp2_with (go_at_call 21; refine (Tryd.stringslite_Clone _ _ (by omega)).mono ?_; rintro e w1 ⟨rfl, hb1⟩)
  go_ret
  exact ⟨rfl, hb1⟩

set_option maxHeartbeats 400000 in
theorem isPlain_yes (s : ByteArray) (w : World) (hs : s.size ≤ 1048576) (hp : plainTo s s.size) :
    Calls Tryd.prog 14 #[.string s] w fun e w' => e = .returned (.bool true) ∧ w' = w := by
  have HP : Hid (plainTo s s.size) := hp
  clear hp
  go_enter Tryd.func14, Tryd.ntmps14
  go_wp2
  go_loop [3] (fun i => ∃ n : Nat, n ≤ s.size ∧ i = .int .i64 n) (fun i => s.size - (intOf i).toNat)
  case atStart => exact ⟨0, Nat.zero_le _, rfl⟩
  case round =>
    obtain ⟨n, hn, rfl⟩ := hrel
    by_cases hlt : n < s.size
    · have hb := HP.out n hlt hlt
      have h1 := hb.1
      have h2 := hb.2
      clear hb
      go_wp2
      go_round
      case rel => exact ⟨n + 1, by omega, by go_num⟩
      case measure => simp [intOf]; omega
    · go_wp2
      go_ret
      exact ⟨rfl, rfl⟩

theorem not_plain {s : ByteArray} (h : ¬ plainTo s s.size) : ∃ m, ∃ (hm : m < s.size), (s[m].toNat < 32 ∨ 126 < s[m].toNat) := by
  have hx : ∃ j, ¬ ∀ (h : j < s.size), j < s.size → 32 ≤ s[j].toNat ∧ s[j].toNat ≤ 126 := Classical.not_forall.1 h
  obtain ⟨j, hj⟩ := hx
  by_cases hlt : j < s.size
  · refine ⟨j, hlt, ?_⟩
    by_cases h1 : s[j].toNat < 32
    · exact Or.inl h1
    · right
      by_cases h2 : 126 < s[j].toNat
      · exact h2
      · exact absurd (fun _ _ => ⟨by omega, by omega⟩) hj
  · exact absurd (fun h => absurd h hlt) hj

set_option maxHeartbeats 400000 in
theorem isPlain_no (s : ByteArray) (w : World) (hs : s.size ≤ 1048576) (hp : ¬ plainTo s s.size) :
    Calls Tryd.prog 14 #[.string s] w fun e w' => e = .returned (.bool false) ∧ w' = w := by
  obtain ⟨m, hm, hb⟩ := not_plain hp
  have HB : Hid (s[m].toNat < 32 ∨ 126 < s[m].toNat) := hb
  clear hp hb
  go_enter Tryd.func14, Tryd.ntmps14
  go_wp2
  go_loop [3] (fun i => ∃ n : Nat, n ≤ m ∧ i = .int .i64 n) (fun i => s.size - (intOf i).toNat)
  case atStart => exact ⟨0, Nat.zero_le _, rfl⟩
  case round =>
    obtain ⟨n, hn, rfl⟩ := hrel
    have hlt : n < s.size := by omega
    have h256 := s[n].toNat_lt
    by_cases h1 : s[n].toNat < 32
    · go_wp2
      go_ret
      exact ⟨rfl, rfl⟩
    · by_cases h2 : 126 < s[n].toNat
      · go_wp2
        go_ret
        exact ⟨rfl, rfl⟩
      · have hne : n ≠ m := by
          intro e; subst e
          have := HB.out
          omega
        go_wp2
        go_round
        case rel => exact ⟨n + 1, by omega, by go_num⟩
        case measure => simp [intOf]; omega

theorem fieldsGo_le : ∀ (l cur : List UInt8), ∀ t ∈ Lib.fieldsGo cur l, t.length ≤ cur.length + l.length
  | [], cur, t, h => by
    unfold Lib.fieldsGo at h
    split at h
    · simp at h
    · simp at h; subst h; simp
  | b :: l, cur, t, h => by
    unfold Lib.fieldsGo at h
    split at h
    · split at h
      · have := fieldsGo_le l [] t h
        simp at this ⊢; omega
      · rcases List.mem_cons.1 h with rfl | h
        · simp
        · have := fieldsGo_le l [] t h
          simp at this ⊢; omega
    · have := fieldsGo_le l (cur ++ [b]) t h
      simp at this ⊢; omega
theorem texts_le {s : ByteArray} {t : ByteArray} (h : t ∈ texts (Lib.fields s.data.toList)) : t.size ≤ s.size := by
  simp only [texts, List.mem_map] at h
  obtain ⟨l, hl, rfl⟩ := h
  have := fieldsGo_le _ _ l hl
  simp at this
  have e : s.data.size = s.size := rfl
  show l.toArray.size ≤ s.size
  simp
  omega

def SpaceIs (w : World) : Prop := Lib.TabIs Tryd.prog w "strings.asciiSpace" .u8 Lib.asciiSpaceTab
theorem gSpace : Tryd.prog.globalNamed "strings.asciiSpace" = some 0 := by kernel_rfl
theorem SpaceIs.below {w w1 : World} (h : SpaceIs w) (hb : Below w.heap.size w w1) : SpaceIs w1 := by
  have hc := Lib.TabIs.cell h gSpace 0 (by rw [Lib.asciiSpaceTab_length]; decide)
  exact var?_below hb gSpace (World.block_lt_of_cell? w _ hc) h

set_option maxHeartbeats 400000 in
theorem parts_long (s : ByteArray) (w : World) (hs0 : s.size ≤ 1048576) (hs : 600 < s.size) :
    Calls Tryd.prog 8 #[.string s] w fun e w' => PartsEnd s w e w' := by
  have HH : Hid (PartsEnd s w _ _) := end_false (partsR_long hs) (Below.refl w.heap.size w)
  go_enter Tryd.func8, Tryd.ntmps8
  go_wp2
  go_ret2
  exact HH.out

theorem partsR_not {s : ByteArray} (h : ¬ plainTo s s.size) : partsR s = ([], false) := by
  obtain ⟨m, hm, hb⟩ := not_plain h
  exact partsR_bad hm hb

set_option maxHeartbeats 400000 in
theorem parts_not (s : ByteArray) (w : World) (hs : s.size ≤ 600) (hp : ¬ plainTo s s.size) :
    Calls Tryd.prog 8 #[.string s] w fun e w' => PartsEnd s w e w' := by
  have HH : Hid (PartsEnd s w _ _) := end_false (partsR_not hp) (Below.refl w.heap.size w)
  have HP : Hid (¬ plainTo s s.size) := hp
  clear hp
  have hd : decide ((600 : Int) < (s.size : Int)) = false := by simp; omega
  go_enter Tryd.func8, Tryd.ntmps8
  go_wp2_with (go_at_call 14; refine (isPlain_no s _ (by omega) HP.out).mono ?_; rintro e w' ⟨rfl, hw⟩; have hw2 := hw.symm; subst hw2)
  go_ret2
  exact HH.out

theorem plain_ascii {s : ByteArray} (h : plainTo s s.size) : ∀ (j : Nat) b, s.data.toList[j]? = some b → b.toNat < 128 := by
  intro j b hb
  have := plain_all.1 h b (List.mem_of_getElem? hb)
  omega
theorem ownsS_fields (w : World) (F : List (List UInt8)) (hF : F.length ≤ 1048577) : ownsS (w.alloc (.cells (F.map fun l => Value.string ⟨l.toArray⟩).toArray 9)) w.heap.size 9 (.slice (some ⟨w.heap.size, 0, none⟩) F.length F.length) (texts F) := by
  have := World.ownsRow_lit (base := w.heap.size) (e := 9) (size := 1) w (F.map fun l => Value.string ⟨l.toArray⟩).toArray F.length (Nat.le_refl _) (by unfold maxLen; omega) (by simp)
  unfold ownsS
  rw [texts_length]
  simpa [texts, Function.comp_def] using this

set_option maxHeartbeats 400000 in
theorem parts_many (s : ByteArray) (w : World) (hs : s.size ≤ 600) (hp : plainTo s s.size) (ht : SpaceIs w) (hm : 10 < (Lib.fields s.data.toList).length) (hF : (Lib.fields s.data.toList).length ≤ 1048577) :
    Calls Tryd.prog 8 #[.string s] w fun e w' => PartsEnd s w e w' := by
  have H := end_false (wx := w.alloc (.cells ((Lib.fields s.data.toList).map fun l => Value.string ⟨l.toArray⟩).toArray 9)) (partsR_many (by omega) hp hm) ((Below.refl w.heap.size w).alloc (Nat.le_refl _) _)
  rw [World.size_alloc] at H
  have HH : Hid (PartsEnd s w _ _) := H
  clear H
  have HP : Hid (plainTo s s.size) := hp
  clear hp
  have hd : decide ((600 : Int) < (s.size : Int)) = false := by simp; omega
  go_enter Tryd.func8, Tryd.ntmps8
  go_wp2_with (first | (go_at_call 14; refine (isPlain_yes s _ (by omega) HP.out).mono ?_; rintro e w' ⟨rfl, hw⟩; have hw2 := hw.symm; subst hw2) | (go_at_call 15; refine (Tryd.strings_Fields s _ (by omega) (plain_ascii HP.out) ht).mono ?_; rintro e w2 ⟨rfl, hw⟩; subst hw))
  go_ret2
  exact HH.out

set_option maxHeartbeats 1000000 in
theorem parts_ok (s : ByteArray) (w : World) (hs : s.size ≤ 600) (hp : plainTo s s.size) (ht : SpaceIs w) (hm : ¬ 10 < (Lib.fields s.data.toList).length) :
    Calls Tryd.prog 8 #[.string s] w fun e w' => PartsEnd s w e w' := by
  have HR : Hid (partsR s = (Lib.fields s.data.toList, true)) := partsR_ok (by omega) hp hm
  have HP : Hid (plainTo s s.size) := hp
  clear hp
  have hd : decide ((600 : Int) < (s.size : Int)) = false := by simp; omega
  have hF := ownsS_fields w (Lib.fields s.data.toList) (by omega)
  have HT : ∀ t ∈ texts (Lib.fields s.data.toList), t.size ≤ s.size := fun t h => texts_le h
  have HT2 : Hid (∀ t ∈ texts (Lib.fields s.data.toList), t.size ≤ s.size) := HT
  clear HT
  have hlen := texts_length (Lib.fields s.data.toList)
  have HL : Hid ((texts (Lib.fields s.data.toList)).length = (Lib.fields s.data.toList).length) := hlen
  clear hlen
  go_enter Tryd.func8, Tryd.ntmps8
  go_wp2_with (first | (go_at_call 14; refine (isPlain_yes s _ (by omega) HP.out).mono ?_; rintro e w' ⟨rfl, hw⟩; have hw2 := hw.symm; subst hw2) | (go_at_call 15; refine (Tryd.strings_Fields s _ (by omega) (plain_ascii HP.out) ht).mono ?_; rintro e w2 ⟨rfl, hw⟩; subst hw))
  generalize Lib.fields s.data.toList = F at *
  go_loopw [23] (fun i wr => ∃ k : Nat, k ≤ F.length ∧ i = .int .i64 k ∧ ownsS wr w.heap.size 9 (.slice (some ⟨w.heap.size, 0, none⟩) F.length F.length) (texts F) ∧ Below w.heap.size w wr) (fun i _ => F.length - (intOf i).toNat)
  case atStart => exact ⟨0, Nat.zero_le _, rfl, hF, (Below.refl _ _).alloc (Nat.le_refl _) _⟩
  case round =>
    obtain ⟨k, hk, rfl, hown, hbel⟩ := hrel
    clear hF
    have hsz := hbel.size
    by_cases hlt : k < F.length
    · obtain ⟨t, ht2, hcell, hfr, hg, hnn⟩ := ownsS_cell hown hlt
      clear hnn
      have hts : t.size ≤ 1048576 := by have := HT2.out t (List.mem_of_getElem? ht2); omega
      have HK : Hid ((texts F)[k]? = some t) := ht2
      clear ht2
      go_wp2_with (go_at_call 16; refine (clone_any t _ hts).mono ?_; rintro e w2 ⟨rfl, hb2⟩; have hc2 := (hb2.cell (p := ⟨w.heap.size, k, none⟩) hg).trans hcell; have hf2 := (hb2.frozen (p := ⟨w.heap.size, k, none⟩) hg).trans hfr)
      have R := ownsS_store (hown.all hb2) k t
      rw [set_same HK.out] at R
      clear hown hcell hfr hc2 hf2
      go_roundw
      case rel => exact ⟨k + 1, by omega, by go_num, R, (hbel.trans (hb2.mono hsz)).setCell (p := ⟨w.heap.size, k, none⟩) (Nat.le_refl _) _⟩
      case measure => simp [intOf]; omega
    · have HH : Hid (PartsEnd s w _ _) := end_true HR.out hown hbel
      go_wp2
      go_ret2
      exact HH.out

theorem fields_length_le (s : ByteArray) : (Lib.fields s.data.toList).length ≤ s.size + 1 := by
  rw [Lib.fields_length]
  have h : ∀ (l : List UInt8) (b : Bool), Lib.cntF b l ≤ l.length := by
    intro l
    induction l with
    | nil => intro b; simp [Lib.cntF]
    | cons x l ih =>
      intro b
      have := ih (Lib.isSp x)
      simp only [Lib.cntF, List.length_cons]
      split <;> omega
  have := h s.data.toList true
  have e : s.data.toList.length = s.size := by simp
  omega
theorem parts_any (s : ByteArray) (w : World) (hs : s.size ≤ 1048576) (ht : SpaceIs w) : Calls Tryd.prog 8 #[.string s] w fun e w' => PartsEnd s w e w' := by
  by_cases h : 600 < s.size
  · exact parts_long s w hs h
  · by_cases hp : plainTo s s.size
    · by_cases hm : 10 < (Lib.fields s.data.toList).length
      · exact parts_many s w (by omega) hp ht hm (by have := fields_length_le s; omega)
      · exact parts_ok s w (by omega) hp ht hm
    · exact parts_not s w (by omega) hp

end Go.Proofs.YtlkdknincjlncaaDoor
