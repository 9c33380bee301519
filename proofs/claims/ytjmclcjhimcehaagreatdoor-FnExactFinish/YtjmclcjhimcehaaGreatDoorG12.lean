/-
  Contracts of the library, proved once there, laid at this program by the kit (its plain words). The words of a line: the walks of the program's PartsOf. A rule of five fields, as the program reads it.
-/
import Derived.Shelf.Strconv.Itoa0
import Derived.Shelf.Strconv.Itoa1
import Derived.Shelf.LaysM
import Derived.Shelf.Strconv.Itoa2
import Derived.Shelf.Strconv.Itoa3
import Derived.Shelf.Strconv.Clone
import Derived.Shelf.Strings.Fields
import Derived.Shelf.Strings.SplitShaped
import Derived.Shelf.Unicode.Latin
import Derived.Shelf.Unicode.Is16White
import Derived.Shelf.Unicode.IsSpaceAny
import Derived.Shelf.Unicode.Is16Any
import Derived.Shelf.Unicode.Is32Any
import Derived.Shelf.Unicode.ExclAny
import Derived.Test.YtjmclcjhimcehaaGreatDoorProg
import Derived.Test.YtjmclcjhimcehaaGreatDoorG8
import Derived.Test.YtjmclcjhimcehaaGreatDoorG11
import Derived.Test.YtjmclcjhimcehaaGreatDoorG4
import Derived.Test.YtjmclcjhimcehaaGreatDoorG9
namespace Go.Proofs
open Go.Shelf
def Tryz.laysM316_ren : Go.Shelf.Ren := ⟨fun | 316 => 98 | n => n, fun | 9 => 9 | 3 => 3 | 4 => 4 | 37 => 177 | 0 => 0 | 127 => 178 | 5 => 5 | n => n, fun | n => n⟩
theorem Tryz.laysM316 : Go.Proofs.LaysM.n316 Tryz.prog Tryz.laysM316_ren := {
  mixed := by kernel_rfl
  f316 := Tryz.func98.trans (congrArg some (by kernel_rfl))
  t0 := Tryz.underlying0
  a0 := Tryz.isAgg0
  z0 := Tryz.sizeOf0
  v0 := Tryz.zeroValue0
  t3 := Tryz.underlying3
  a3 := Tryz.isAgg3
  z3 := Tryz.sizeOf3
  v3 := Tryz.zeroValue3
  t4 := Tryz.underlying4
  a4 := Tryz.isAgg4
  z4 := Tryz.sizeOf4
  v4 := Tryz.zeroValue4
  t9 := Tryz.underlying9
  a9 := Tryz.isAgg9
  z9 := Tryz.sizeOf9
  v9 := Tryz.zeroValue9
  t37 := Tryz.underlying177
  a37 := Tryz.isAgg177
  z37 := Tryz.sizeOf177
  v37 := Tryz.zeroValue177
  t127 := Tryz.underlying178
  a127 := Tryz.isAgg178
  z127 := Tryz.sizeOf178
  v127 := Tryz.zeroValue178
  t5 := Tryz.underlying5
  a5 := Tryz.isAgg5
  z5 := Tryz.sizeOf5
  v5 := Tryz.zeroValue5
  i0 := by kernel_rfl
  i3 := by kernel_rfl
  i4 := by kernel_rfl
  i5 := by kernel_rfl
  i9 := by kernel_rfl
  i37 := by kernel_rfl
  i127 := by kernel_rfl }
open Go.RowKit in
theorem Tryz.stringslite_Clone (s : ByteArray) (w : World) (hlim : s.size ≤ 281474976710656) :
    Calls Tryz.prog 98 #[.string s] w fun e w' => e = .returned (.string s) ∧ Below w.heap.size w w' := Any.stringslite_Clone Tryz.laysM316 s w hlim
def Tryz.lays157_ren : Go.Shelf.Ren := ⟨fun | 157 => 191 | 229 => 209 | 199 => 210 | 261 => 220 | 311 => 230 | 312 => 231 | n => n, fun | 9 => 9 | 31 => 86 | 3 => 3 | 5 => 5 | 4 => 4 | 119 => 261 | 0 => 0 | 40 => 263 | 152 => 272 | 21 => 21 | 154 => 274 | 51 => 224 | 141 => 276 | 196 => 284 | 193 => 281 | 198 => 287 | 49 => 285 | 194 => 282 | 201 => 290 | 226 => 297 | 46 => 182 | 227 => 298 | n => n, fun | 0 => 1 | 6 => 2 | n => n⟩
theorem Tryz.lays157 : Go.Proofs.Lays.n157 Tryz.prog Tryz.lays157_ren := {
  mixed := by kernel_rfl
  f157 := Tryz.func191.trans (congrArg some (by kernel_rfl))
  f199 := Tryz.func210.trans (congrArg some (by kernel_rfl))
  f229 := Tryz.func209.trans (congrArg some (by kernel_rfl))
  f261 := Tryz.func220.trans (congrArg some (by kernel_rfl))
  f311 := Tryz.func230.trans (congrArg some (by kernel_rfl))
  f312 := Tryz.func231.trans (congrArg some (by kernel_rfl))
  t0 := Tryz.underlying0
  a0 := Tryz.isAgg0
  z0 := Tryz.sizeOf0
  v0 := Tryz.zeroValue0
  t3 := Tryz.underlying3
  a3 := Tryz.isAgg3
  z3 := Tryz.sizeOf3
  v3 := Tryz.zeroValue3
  t4 := Tryz.underlying4
  a4 := Tryz.isAgg4
  z4 := Tryz.sizeOf4
  v4 := Tryz.zeroValue4
  t5 := Tryz.underlying5
  a5 := Tryz.isAgg5
  z5 := Tryz.sizeOf5
  v5 := Tryz.zeroValue5
  t9 := Tryz.underlying9
  a9 := Tryz.isAgg9
  z9 := Tryz.sizeOf9
  v9 := Tryz.zeroValue9
  t21 := Tryz.underlying21
  a21 := Tryz.isAgg21
  z21 := Tryz.sizeOf21
  v21 := Tryz.zeroValue21
  t31 := Tryz.underlying86
  a31 := Tryz.isAgg86
  z31 := Tryz.sizeOf86
  v31 := Tryz.zeroValue86
  t40 := Tryz.underlying263
  a40 := Tryz.isAgg263
  z40 := Tryz.sizeOf263
  v40 := Tryz.zeroValue263
  t46 := Tryz.underlying182
  a46 := Tryz.isAgg182
  z46 := Tryz.sizeOf182
  v46 := Tryz.zeroValue182
  t49 := Tryz.underlying285
  a49 := Tryz.isAgg285
  z49 := Tryz.sizeOf285
  v49 := Tryz.zeroValue285
  t51 := Tryz.underlying224
  a51 := Tryz.isAgg224
  z51 := Tryz.sizeOf224
  v51 := Tryz.zeroValue224
  t119 := Tryz.underlying261
  a119 := Tryz.isAgg261
  z119 := Tryz.sizeOf261
  t141 := Tryz.underlying276
  a141 := Tryz.isAgg276
  z141 := Tryz.sizeOf276
  v141 := Tryz.zeroValue276
  t152 := Tryz.underlying272
  a152 := Tryz.isAgg272
  z152 := Tryz.sizeOf272
  v152 := Tryz.zeroValue272
  t154 := Tryz.underlying274
  a154 := Tryz.isAgg274
  z154 := Tryz.sizeOf274
  v154 := Tryz.zeroValue274
  t193 := Tryz.underlying281
  a193 := Tryz.isAgg281
  z193 := Tryz.sizeOf281
  v193 := Tryz.zeroValue281
  t194 := Tryz.underlying282
  a194 := Tryz.isAgg282
  z194 := Tryz.sizeOf282
  v194 := Tryz.zeroValue282
  t196 := Tryz.underlying284
  a196 := Tryz.isAgg284
  z196 := Tryz.sizeOf284
  v196 := Tryz.zeroValue284
  t198 := Tryz.underlying287
  a198 := Tryz.isAgg287
  z198 := Tryz.sizeOf287
  v198 := Tryz.zeroValue287
  t201 := Tryz.underlying290
  a201 := Tryz.isAgg290
  z201 := Tryz.sizeOf290
  v201 := Tryz.zeroValue290
  t226 := Tryz.underlying297
  a226 := Tryz.isAgg297
  z226 := Tryz.sizeOf297
  v226 := Tryz.zeroValue297
  t227 := Tryz.underlying298
  a227 := Tryz.isAgg298
  z227 := Tryz.sizeOf298
  v227 := Tryz.zeroValue298
  g0 := by kernel_rfl
  g6 := by kernel_rfl }
open Go.RowKit Go.Lib in
theorem Tryz.strings_Fields (s : ByteArray) (w : World) (hs : s.size < 4294967281) (hascii : ∀ (j : Nat) b, s.data.toList[j]? = some b → b.toNat < 128) (htab : Lib.TabIs Tryz.prog w "strings.asciiSpace" .u8 Lib.asciiSpaceTab) :
    Calls Tryz.prog 191 #[.string s] w fun e w' =>
      e = .returned (.slice (some ⟨w.heap.size, 0, none⟩) (Lib.fields s.data.toList).length (Lib.fields s.data.toList).length) ∧ w' = w.alloc (.cells ((Lib.fields s.data.toList).map fun l => Value.string ⟨l.toArray⟩).toArray 9) := Any.strings_Fields Tryz.lays157 (by kernel_rfl) (by kernel_rfl) s w hs hascii htab
end Go.Proofs

namespace Go.Proofs.YtjmclcjhimcehaaGreatDoor
open Go.RowKit

set_option maxHeartbeats 400000 in
theorem clone_any (s : ByteArray) (w : World) (hs : s.size ≤ 1048576) :
    Calls Tryz.prog 40 #[.string s] w fun e w' => e = .returned (.string s) ∧ Below w.heap.size w w' := by
  go_enter Tryz.func40, Tryz.ntmps40
  go_wp2_with (go_at_call 98; refine (Tryz.stringslite_Clone _ _ (by omega)).mono ?_; rintro e w1 ⟨rfl, hb1⟩)
  go_ret
  exact ⟨rfl, hb1⟩

set_option maxHeartbeats 400000 in
theorem isPlain_yes (s : ByteArray) (w : World) (hs : s.size ≤ 1048576) (hp : plainTo s s.size) :
    Calls Tryz.prog 190 #[.string s] w fun e w' => e = .returned (.bool true) ∧ w' = w := by
  have HP : Hid (plainTo s s.size) := hp
  clear hp
  go_enter Tryz.func190, Tryz.ntmps190
  go_wp2
  go_loop [3] (fun i => ∃ n : Nat, n ≤ s.size ∧ i = .int .i64 n) (fun i => s.size - (intOf i).toNat)
  case atStart => exact ⟨0, Nat.zero_le _, rfl⟩
  case round =>
    obtain ⟨n, hn, rfl⟩ := hrel
    by_cases hlt : n < s.size
    · have hb := HP.out n hlt hlt
      have h1 := hb.1
      have h2 := hb.2
      clear hb
      go_wp2
      go_round
      case rel => exact ⟨n + 1, by omega, by go_num⟩
      case measure => simp [intOf]; omega
    · go_wp2
      go_ret
      exact ⟨rfl, rfl⟩

theorem not_plain {s : ByteArray} (h : ¬ plainTo s s.size) : ∃ m, ∃ (hm : m < s.size), (s[m].toNat < 32 ∨ 126 < s[m].toNat) := by
  have hx : ∃ j, ¬ ∀ (h : j < s.size), j < s.size → 32 ≤ s[j].toNat ∧ s[j].toNat ≤ 126 := Classical.not_forall.1 h
  obtain ⟨j, hj⟩ := hx
  by_cases hlt : j < s.size
  · refine ⟨j, hlt, ?_⟩
    by_cases h1 : s[j].toNat < 32
    · exact Or.inl h1
    · right
      by_cases h2 : 126 < s[j].toNat
      · exact h2
      · exact absurd (fun _ _ => ⟨by omega, by omega⟩) hj
  · exact absurd (fun h => absurd h hlt) hj

set_option maxHeartbeats 400000 in
theorem isPlain_no (s : ByteArray) (w : World) (hs : s.size ≤ 1048576) (hp : ¬ plainTo s s.size) :
    Calls Tryz.prog 190 #[.string s] w fun e w' => e = .returned (.bool false) ∧ w' = w := by
  obtain ⟨m, hm, hb⟩ := not_plain hp
  have HB : Hid (s[m].toNat < 32 ∨ 126 < s[m].toNat) := hb
  clear hp hb
  go_enter Tryz.func190, Tryz.ntmps190
  go_wp2
  go_loop [3] (fun i => ∃ n : Nat, n ≤ m ∧ i = .int .i64 n) (fun i => s.size - (intOf i).toNat)
  case atStart => exact ⟨0, Nat.zero_le _, rfl⟩
  case round =>
    obtain ⟨n, hn, rfl⟩ := hrel
    have hlt : n < s.size := by omega
    have h256 := s[n].toNat_lt
    by_cases h1 : s[n].toNat < 32
    · go_wp2
      go_ret
      exact ⟨rfl, rfl⟩
    · by_cases h2 : 126 < s[n].toNat
      · go_wp2
        go_ret
        exact ⟨rfl, rfl⟩
      · have hne : n ≠ m := by
          intro e; subst e
          have := HB.out
          omega
        go_wp2
        go_round
        case rel => exact ⟨n + 1, by omega, by go_num⟩
        case measure => simp [intOf]; omega

theorem fieldsGo_le : ∀ (l cur : List UInt8), ∀ t ∈ Lib.fieldsGo cur l, t.length ≤ cur.length + l.length
  | [], cur, t, h => by
    unfold Lib.fieldsGo at h
    split at h
    · simp at h
    · simp at h; subst h; simp
  | b :: l, cur, t, h => by
    unfold Lib.fieldsGo at h
    split at h
    · split at h
      · have := fieldsGo_le l [] t h
        simp at this ⊢; omega
      · rcases List.mem_cons.1 h with rfl | h
        · simp
        · have := fieldsGo_le l [] t h
          simp at this ⊢; omega
    · have := fieldsGo_le l (cur ++ [b]) t h
      simp at this ⊢; omega
theorem texts_le {s : ByteArray} {t : ByteArray} (h : t ∈ texts (Lib.fields s.data.toList)) : t.size ≤ s.size := by
  simp only [texts, List.mem_map] at h
  obtain ⟨l, hl, rfl⟩ := h
  have := fieldsGo_le _ _ l hl
  simp at this
  have e : s.data.size = s.size := rfl
  show l.toArray.size ≤ s.size
  simp
  omega

def SpaceIs (w : World) : Prop := Lib.TabIs Tryz.prog w "strings.asciiSpace" .u8 Lib.asciiSpaceTab
theorem gSpace : Tryz.prog.globalNamed "strings.asciiSpace" = some 1 := by kernel_rfl
theorem SpaceIs.below {w w1 : World} (h : SpaceIs w) (hb : Below w.heap.size w w1) : SpaceIs w1 := by
  have hc := Lib.TabIs.cell h gSpace 0 (by rw [Lib.asciiSpaceTab_length]; decide)
  exact var?_below hb gSpace (World.block_lt_of_cell? w _ hc) h

set_option maxHeartbeats 400000 in
theorem parts_long (s : ByteArray) (w : World) (hs0 : s.size ≤ 1048576) (hs : 600 < s.size) :
    Calls Tryz.prog 161 #[.string s] w fun e w' => PartsEnd s w e w' := by
  have HH : Hid (PartsEnd s w _ _) := end_false (partsR_long hs) (Below.refl w.heap.size w)
  go_enter Tryz.func161, Tryz.ntmps161
  go_wp2
  go_ret2
  exact HH.out

theorem partsR_not {s : ByteArray} (h : ¬ plainTo s s.size) : partsR s = ([], false) := by
  obtain ⟨m, hm, hb⟩ := not_plain h
  exact partsR_bad hm hb

set_option maxHeartbeats 400000 in
theorem parts_not (s : ByteArray) (w : World) (hs : s.size ≤ 600) (hp : ¬ plainTo s s.size) :
    Calls Tryz.prog 161 #[.string s] w fun e w' => PartsEnd s w e w' := by
  have HH : Hid (PartsEnd s w _ _) := end_false (partsR_not hp) (Below.refl w.heap.size w)
  have HP : Hid (¬ plainTo s s.size) := hp
  clear hp
  have hd : decide ((600 : Int) < (s.size : Int)) = false := by simp; omega
  go_enter Tryz.func161, Tryz.ntmps161
  go_wp2_with (go_at_call 190; refine (isPlain_no s _ (by omega) HP.out).mono ?_; rintro e w' ⟨rfl, hw⟩; have hw2 := hw.symm; subst hw2)
  go_ret2
  exact HH.out

theorem plain_ascii {s : ByteArray} (h : plainTo s s.size) : ∀ (j : Nat) b, s.data.toList[j]? = some b → b.toNat < 128 := by
  intro j b hb
  have := plain_all.1 h b (List.mem_of_getElem? hb)
  omega
theorem ownsS_fields (w : World) (F : List (List UInt8)) (hF : F.length ≤ 1048577) : ownsS (w.alloc (.cells (F.map fun l => Value.string ⟨l.toArray⟩).toArray 9)) w.heap.size 9 (.slice (some ⟨w.heap.size, 0, none⟩) F.length F.length) (texts F) := by
  have := World.ownsRow_lit (base := w.heap.size) (e := 9) (size := 1) w (F.map fun l => Value.string ⟨l.toArray⟩).toArray F.length (Nat.le_refl _) (by unfold maxLen; omega) (by simp)
  unfold ownsS
  rw [texts_length]
  simpa [texts, Function.comp_def] using this

set_option maxHeartbeats 400000 in
theorem parts_many (s : ByteArray) (w : World) (hs : s.size ≤ 600) (hp : plainTo s s.size) (ht : SpaceIs w) (hm : 10 < (Lib.fields s.data.toList).length) (hF : (Lib.fields s.data.toList).length ≤ 1048577) :
    Calls Tryz.prog 161 #[.string s] w fun e w' => PartsEnd s w e w' := by
  have H := end_false (wx := w.alloc (.cells ((Lib.fields s.data.toList).map fun l => Value.string ⟨l.toArray⟩).toArray 9)) (partsR_many (by omega) hp hm) ((Below.refl w.heap.size w).alloc (Nat.le_refl _) _)
  rw [World.size_alloc] at H
  have HH : Hid (PartsEnd s w _ _) := H
  clear H
  have HP : Hid (plainTo s s.size) := hp
  clear hp
  have hd : decide ((600 : Int) < (s.size : Int)) = false := by simp; omega
  go_enter Tryz.func161, Tryz.ntmps161
  go_wp2_with (first | (go_at_call 190; refine (isPlain_yes s _ (by omega) HP.out).mono ?_; rintro e w' ⟨rfl, hw⟩; have hw2 := hw.symm; subst hw2) | (go_at_call 191; refine (Tryz.strings_Fields s _ (by omega) (plain_ascii HP.out) ht).mono ?_; rintro e w2 ⟨rfl, hw⟩; subst hw))
  go_ret2
  exact HH.out

set_option maxHeartbeats 1000000 in
theorem parts_ok (s : ByteArray) (w : World) (hs : s.size ≤ 600) (hp : plainTo s s.size) (ht : SpaceIs w) (hm : ¬ 10 < (Lib.fields s.data.toList).length) :
    Calls Tryz.prog 161 #[.string s] w fun e w' => PartsEnd s w e w' := by
  have HR : Hid (partsR s = (Lib.fields s.data.toList, true)) := partsR_ok (by omega) hp hm
  have HP : Hid (plainTo s s.size) := hp
  clear hp
  have hd : decide ((600 : Int) < (s.size : Int)) = false := by simp; omega
  have hF := ownsS_fields w (Lib.fields s.data.toList) (by omega)
  have HT : ∀ t ∈ texts (Lib.fields s.data.toList), t.size ≤ s.size := fun t h => texts_le h
  have HT2 : Hid (∀ t ∈ texts (Lib.fields s.data.toList), t.size ≤ s.size) := HT
  clear HT
  have hlen := texts_length (Lib.fields s.data.toList)
  have HL : Hid ((texts (Lib.fields s.data.toList)).length = (Lib.fields s.data.toList).length) := hlen
  clear hlen
  go_enter Tryz.func161, Tryz.ntmps161
  go_wp2_with (first | (go_at_call 190; refine (isPlain_yes s _ (by omega) HP.out).mono ?_; rintro e w' ⟨rfl, hw⟩; have hw2 := hw.symm; subst hw2) | (go_at_call 191; refine (Tryz.strings_Fields s _ (by omega) (plain_ascii HP.out) ht).mono ?_; rintro e w2 ⟨rfl, hw⟩; subst hw))
  generalize Lib.fields s.data.toList = F at *
  go_loopw [23] (fun i wr => ∃ k : Nat, k ≤ F.length ∧ i = .int .i64 k ∧ ownsS wr w.heap.size 9 (.slice (some ⟨w.heap.size, 0, none⟩) F.length F.length) (texts F) ∧ Below w.heap.size w wr) (fun i _ => F.length - (intOf i).toNat)
  case atStart => exact ⟨0, Nat.zero_le _, rfl, hF, (Below.refl _ _).alloc (Nat.le_refl _) _⟩
  case round =>
    obtain ⟨k, hk, rfl, hown, hbel⟩ := hrel
    clear hF
    have hsz := hbel.size
    by_cases hlt : k < F.length
    · obtain ⟨t, ht2, hcell, hfr, hg, hnn⟩ := ownsS_cell hown hlt
      clear hnn
      have hts : t.size ≤ 1048576 := by have := HT2.out t (List.mem_of_getElem? ht2); omega
      have HK : Hid ((texts F)[k]? = some t) := ht2
      clear ht2
      go_wp2_with (go_at_call 40; refine (clone_any t _ hts).mono ?_; rintro e w2 ⟨rfl, hb2⟩; have hc2 := (hb2.cell (p := ⟨w.heap.size, k, none⟩) hg).trans hcell; have hf2 := (hb2.frozen (p := ⟨w.heap.size, k, none⟩) hg).trans hfr)
      have R := ownsS_store (hown.all hb2) k t
      rw [set_same HK.out] at R
      clear hown hcell hfr hc2 hf2
      go_roundw
      case rel => exact ⟨k + 1, by omega, by go_num, R, (hbel.trans (hb2.mono hsz)).setCell (p := ⟨w.heap.size, k, none⟩) (Nat.le_refl _) _⟩
      case measure => simp [intOf]; omega
    · have HH : Hid (PartsEnd s w _ _) := end_true HR.out hown hbel
      go_wp2
      go_ret2
      exact HH.out

theorem fields_length_le (s : ByteArray) : (Lib.fields s.data.toList).length ≤ s.size + 1 := by
  rw [Lib.fields_length]
  have h : ∀ (l : List UInt8) (b : Bool), Lib.cntF b l ≤ l.length := by
    intro l
    induction l with
    | nil => intro b; simp [Lib.cntF]
    | cons x l ih =>
      intro b
      have := ih (Lib.isSp x)
      simp only [Lib.cntF, List.length_cons]
      split <;> omega
  have := h s.data.toList true
  have e : s.data.toList.length = s.size := by simp
  omega
theorem parts_any (s : ByteArray) (w : World) (hs : s.size ≤ 1048576) (ht : SpaceIs w) : Calls Tryz.prog 161 #[.string s] w fun e w' => PartsEnd s w e w' := by
  by_cases h : 600 < s.size
  · exact parts_long s w hs h
  · by_cases hp : plainTo s s.size
    · by_cases hm : 10 < (Lib.fields s.data.toList).length
      · exact parts_many s w (by omega) hp ht hm (by have := fields_length_le s; omega)
      · exact parts_ok s w (by omega) hp ht hm
    · exact parts_not s w (by omega) hp

end Go.Proofs.YtjmclcjhimcehaaGreatDoor

namespace Go.Proofs.YtjmclcjhimcehaaGreatDoor
open Go Go.RowKit
set_option linter.unusedVariables false

/-- Two rows that lie apart. -/
def Apt (u v : Value) : Prop := u.ownBlock = none ∨ u.ownBlock ≠ v.ownBlock
theorem Apt.symm {u v : Value} (h : Apt u v) : Apt v u := by
  by_cases hv : v.ownBlock = none
  · exact .inl hv
  · rcases h with h | h
    · exact .inr (by rw [h]; exact hv)
    · exact .inr (fun e => h e.symm)
/-- Five rows that lie apart. -/
structure Ap5 (v0 v1 v2 v3 v4 : Value) : Prop where
  a01 : Apt v0 v1
  a02 : Apt v0 v2
  a03 : Apt v0 v3
  a04 : Apt v0 v4
  a12 : Apt v1 v2
  a13 : Apt v1 v3
  a14 : Apt v1 v4
  a23 : Apt v2 v3
  a24 : Apt v2 v4
  a34 : Apt v3 v4
def PcI (s : ByteArray) (w : World) (e : Ending) (w' : World) : Prop :=
  ∃ v0 v1 v2 v3 v4, e = .returned (.tuple #[.agg #[v0, v1, v2, v3, v4], .bool (pcO s).isSome]) ∧ ownsR w' w.heap.size 3 v0 (pcN (pcO s) 0) ∧ ownsR w' w.heap.size 3 v1 (pcN (pcO s) 1) ∧ ownsR w' w.heap.size 3 v2 (pcN (pcO s) 2) ∧ ownsR w' w.heap.size 3 v3 (pcN (pcO s) 3) ∧ ownsR w' w.heap.size 3 v4 (pcN (pcO s) 4) ∧ Below w.heap.size w w' ∧ Ap5 v0 v1 v2 v3 v4
theorem pci_no {s : ByteArray} {w W : World} (h : pcO s = none) (hb : Below w.heap.size w W) : PcI s w (.returned (.tuple #[.agg #[.slice none 0 0, .slice none 0 0, .slice none 0 0, .slice none 0 0, .slice none 0 0], .bool false])) W := by
  refine ⟨_, _, _, _, _, by rw [h]; rfl, ?_, ?_, ?_, ?_, ?_, hb, ⟨.inl rfl, .inl rfl, .inl rfl, .inl rfl, .inl rfl, .inl rfl, .inl rfl, .inl rfl, .inl rfl, .inl rfl⟩⟩ <;> rw [h] <;> exact ownsR_none _ _ _
def okF (T : List ByteArray) (k : Nat) : Bool := (fieldO (T.getD k ⟨#[]⟩) (rloN k) (rhiN k)).isSome
def flF (T : List ByteArray) (k : Nat) : Nat → Bool := fieldF (T.getD k ⟨#[]⟩) (rloN k) (rhiN k)
def flL (T : List ByteArray) (k : Nat) : List Int := fieldL (T.getD k ⟨#[]⟩) (rloN k) (rhiN k)
theorem pcT_is (t0 t1 t2 t3 t4 : ByteArray) : pcT [t0, t1, t2, t3, t4] = if okF [t0, t1, t2, t3, t4] 0 && (okF [t0, t1, t2, t3, t4] 1 && (okF [t0, t1, t2, t3, t4] 2 && (okF [t0, t1, t2, t3, t4] 3 && okF [t0, t1, t2, t3, t4] 4))) then some [flL [t0, t1, t2, t3, t4] 0, flL [t0, t1, t2, t3, t4] 1, flL [t0, t1, t2, t3, t4] 2, flL [t0, t1, t2, t3, t4] 3, flL [t0, t1, t2, t3, t4] 4] else none := rfl
theorem pcT_no {T : List ByteArray} {t0 t1 t2 t3 t4 : ByteArray} (hT : T = [t0, t1, t2, t3, t4]) (k : Nat) (hk : k < 5) (h : okF T k = false) : pcT T = none := by
  subst hT
  rw [pcT_is]
  rcases k with _ | _ | _ | _ | _ | k
  · simp [h]
  · simp [h]
  · simp [h]
  · simp [h]
  · simp [h]
  · omega
theorem pcT_yes {T : List ByteArray} {t0 t1 t2 t3 t4 : ByteArray} (hT : T = [t0, t1, t2, t3, t4]) (h : ∀ k, k < 5 → okF T k = true) : pcT T = some [flL T 0, flL T 1, flL T 2, flL T 3, flL T 4] := by
  subst hT
  rw [pcT_is, h 0 (by decide), h 1 (by decide), h 2 (by decide), h 3 (by decide), h 4 (by decide)]
  rfl
theorem flF_nums (T : List ByteArray) (k : Nat) (hk : k < 5) (n : Nat) (hn : n = 60) : numsTo (flF T k) n = flL T k := by
  unfold flF flL
  rcases k with _ | _ | _ | _ | _ | k
  · exact fieldF_nums (by decide) (by decide) (by decide) n hn
  · exact fieldF_nums (by decide) (by decide) (by decide) n hn
  · exact fieldF_nums (by decide) (by decide) (by decide) n hn
  · exact fieldF_nums (by decide) (by decide) (by decide) n hn
  · exact fieldF_nums (by decide) (by decide) (by decide) n hn
  · omega
theorem nums_flags {T : List ByteArray} {k : Nat} (hk : k < 5) {p : Nat → Bool} (hp : p = flF T k) (W : World) : Calls Tryz.prog 163 #[.agg (fldA p)] W fun x w' => ∃ v, x = .returned v ∧ ownsR w' W.heap.size 3 v (flL T k) ∧ Below W.heap.size W w' := by
  have := numbers_any p W
  rw [← flF_nums T k hk 60 rfl, ← hp]
  exact this
theorem heap_setCells {g b : Nat} (hne : b ≠ g) : ∀ (vs : List Value) (o : Nat) (W : World), (W.setCells g o vs).heap[b]? = W.heap[b]?
  | [], _, _ => rfl
  | v :: r, o, W => by
    rw [World.setCells, heap_setCells hne r]
    exact heap_setCell_other W _ b v hne
theorem Rb.cellFar {W : World} {b g o : Nat} {r : Nat → Nat → Bool} (h : Rb W b r) (hg : b ≠ g) (u : Value) : Rb (W.setCell ⟨g, o, none⟩ u) b r := Rb.far (o := o) (vs := [u]) h hg
theorem Rb.set5 {W : World} {b g : Nat} {r : Nat → Nat → Bool} (h : Rb W b r) (hg : b ≠ g) (u0 u1 u2 u3 u4 : Value) : Rb (set5 W g u0 u1 u2 u3 u4) b r := ((((h.cellFar hg u0).cellFar hg u1).cellFar hg u2).cellFar hg u3).cellFar hg u4
/-- A world where a rule's flags lie. -/
structure Rrw (b : Nat) (r : Nat → Nat → Bool) where
  at' : World
  ok : Rb at' b r
/-- What lies there in the rounds. -/
structure PiS (w : World) (B R gp : Nat) (T : List ByteArray) (W : World) (r : Nat → Nat → Bool) : Prop where
  zr : B5 120 W B (.slice none 0 0) (.slice none 0 0) (.slice none 0 0) (.slice none 0 0) (.slice none 0 0)
  z2 : Rb W R r
  zp : ∀ k t, T[k]? = some t → W.cell? ⟨gp, k, none⟩ = some (.string t)
  lt : gp < R
  lt2 : B < R
  be : Below B w W
section
variable {w W W' : World} {B R gp : Nat} {T : List ByteArray} {r : Nat → Nat → Bool}
theorem PiS.up (h : PiS w B R gp T W r) (hb : Below W.heap.size W W') : PiS w B R gp T W' r :=
  ⟨h.zr.up hb, h.z2.up hb, fun k t ht => (hb.cell (p := ⟨gp, k, none⟩) (Nat.lt_trans h.lt h.z2.lt)).trans (h.zp k t ht), h.lt, h.lt2, h.be.trans (hb.mono (by have := h.zr.lt; omega))⟩
theorem PiS.put (h : PiS w B R gp T W r) {k : Nat} (hk : k < 5) (p : Nat → Bool) : PiS w B R gp T (W.setCells R (k * 60) (fldA p).toList) (fun m => if m = k then p else r m) := by
  have l1 := h.lt
  have l2 := h.lt2
  exact ⟨(heap_setCells (by omega) _ _ _).trans h.zr, h.z2.setSub hk p, fun k t ht => (World.cell?_of_block (a := ⟨gp, k, none⟩) (heap_setCells (b := gp) (g := R) (by omega) _ _ _)).trans (h.zp k t ht), h.lt, h.lt2, below_setCells (by omega) _ _ _ h.be⟩
end
set_option maxRecDepth 10000 in
set_option maxHeartbeats 4000000 in
theorem implParse_any (s : ByteArray) (w : World) (hs : s.size ≤ 1048576) (hg : RchIs w) (hm : MaxIs w) (hsp : SpaceIs w) : Calls Tryz.prog 139 #[.string s] w (PcI s w) := by
  have HG : Hid (∀ W, Below w.heap.size w W → RchIs W) := fun W hb => hg.up hb
  have HM : Hid (∀ W, Below w.heap.size w W → MaxIs W) := fun W hb => hm.up hb
  have HPA : Hid (∀ W, Below w.heap.size w W → Calls Tryz.prog 161 #[.string s] W fun e w' => PartsEnd s W e w') := fun W hb => parts_any s W hs (hsp.below hb)
  clear hg hm hsp
  go_enter Tryz.func139, Tryz.ntmps139
  go_wp2_with fail
  refine (HPA.out _ (ba (Below.refl _ _) _)).mono ?_
  rintro e w1 ⟨vp, rfl, hop, hb1⟩
  have ZR : B5 120 w1 w.heap.size (.slice none 0 0) (.slice none 0 0) (.slice none 0 0) (.slice none 0 0) (.slice none 0 0) := (B5.new 120 w (.slice none 0 0) (.slice none 0 0) (.slice none 0 0) (.slice none 0 0) (.slice none 0 0)).up hb1
  have B1 : Below w.heap.size w w1 := below_new hb1
  have hz : w.heap.size < w1.heap.size := ZR.lt
  obtain ⟨ao, cap, rfl⟩ := ownsS_slice hop
  have HOP : Hid (ownsS w1 (w.heap.size + 1) 9 (.slice ao (texts (partsR s).1).length cap) (texts (partsR s).1)) := by show ownsS _ _ _ _ _; simpa using hop
  clear hop hb1 HPA
  have r0 := ZR.c0
  have r1 := ZR.c1
  have r2 := ZR.c2
  have r3 := ZR.c3
  have r4 := ZR.c4
  have rf := ZR.fr
  have HZR : Hid (B5 120 w1 w.heap.size (.slice none 0 0) (.slice none 0 0) (.slice none 0 0) (.slice none 0 0) (.slice none 0 0)) := ZR
  clear ZR
  cases hok : (partsR s).2 with
  | false =>
    have HN : Hid (pcO s = none) := by show _ = _; unfold pcO; rw [hok]; rfl
    clear HOP hok
    generalize (texts (partsR s).1).length = n
    go_wp2
    refine bodyPost_ret (ret_c2 rfl rfl rfl (HZR.out.set (.slice none 0 0) (.slice none 0 0) (.slice none 0 0) (.slice none 0 0) (.slice none 0 0))) rfl ?_
    exact pci_no HN.out (below_set5 B1 (Nat.le_refl _) _ _ _ _ _)
  | true =>
    by_cases h5 : (texts (partsR s).1).length = 5
    · obtain ⟨t0, t1, t2, t3, t4, hT⟩ := five h5
      obtain ⟨T, HT⟩ : ∃ T, Hid (T = [t0, t1, t2, t3, t4]) := ⟨_, rfl⟩
      have HPE : Hid (pcO s = pcT T) := by show _ = _; unfold pcO; rw [hok, hT, HT.out]; rfl
      clear r0 r1 r2 r3 r4 rf hok h5
      have z0 : t0.size ≤ 1048576 := parts_sz (s := s) (by rw [hT]; simp)
      have HR0 : Hid (∀ W, Below w.heap.size w W → Calls Tryz.prog 162 #[.string t0, .agg #[.int .i64 0, .int .i64 59]] W fun x w'' => x = .returned (.tuple #[.agg (fldA (flF T 0)), .bool (okF T 0)]) ∧ Below W.heap.size W w'') := fun W hb => by
        rw [HT.out]
        exact readField_any t0 0 59 W z0 (by decide) (by decide) (HM.out W hb)
      have z1 : t1.size ≤ 1048576 := parts_sz (s := s) (by rw [hT]; simp)
      have HR1 : Hid (∀ W, Below w.heap.size w W → Calls Tryz.prog 162 #[.string t1, .agg #[.int .i64 0, .int .i64 23]] W fun x w'' => x = .returned (.tuple #[.agg (fldA (flF T 1)), .bool (okF T 1)]) ∧ Below W.heap.size W w'') := fun W hb => by
        rw [HT.out]
        exact readField_any t1 0 23 W z1 (by decide) (by decide) (HM.out W hb)
      have z2 : t2.size ≤ 1048576 := parts_sz (s := s) (by rw [hT]; simp)
      have HR2 : Hid (∀ W, Below w.heap.size w W → Calls Tryz.prog 162 #[.string t2, .agg #[.int .i64 1, .int .i64 31]] W fun x w'' => x = .returned (.tuple #[.agg (fldA (flF T 2)), .bool (okF T 2)]) ∧ Below W.heap.size W w'') := fun W hb => by
        rw [HT.out]
        exact readField_any t2 1 31 W z2 (by decide) (by decide) (HM.out W hb)
      have z3 : t3.size ≤ 1048576 := parts_sz (s := s) (by rw [hT]; simp)
      have HR3 : Hid (∀ W, Below w.heap.size w W → Calls Tryz.prog 162 #[.string t3, .agg #[.int .i64 1, .int .i64 12]] W fun x w'' => x = .returned (.tuple #[.agg (fldA (flF T 3)), .bool (okF T 3)]) ∧ Below W.heap.size W w'') := fun W hb => by
        rw [HT.out]
        exact readField_any t3 1 12 W z3 (by decide) (by decide) (HM.out W hb)
      have z4 : t4.size ≤ 1048576 := parts_sz (s := s) (by rw [hT]; simp)
      have HR4 : Hid (∀ W, Below w.heap.size w W → Calls Tryz.prog 162 #[.string t4, .agg #[.int .i64 0, .int .i64 6]] W fun x w'' => x = .returned (.tuple #[.agg (fldA (flF T 4)), .bool (okF T 4)]) ∧ Below W.heap.size W w'') := fun W hb => by
        rw [HT.out]
        exact readField_any t4 0 6 W z4 (by decide) (by decide) (HM.out W hb)
      rw [hT] at HOP
      obtain ⟨gp, cp, hv, hgp, hcp⟩ := ownsS_read HOP.out (by simp)
      obtain ⟨rfl, -⟩ : ao = some ⟨gp, 0, none⟩ ∧ True := ⟨by injection hv, trivial⟩
      rw [hT]
      obtain ⟨V, HV⟩ : ∃ V, Hid (w1.alloc (.cells (rulA fun _ _ => false) 202) = V) := ⟨_, rfl⟩
      have HZ : Hid (PiS w w.heap.size w1.heap.size gp T V fun _ _ => false) := by
        show PiS _ _ _ _ _ _ _
        rw [← HV.out, HT.out]
        exact ⟨HZR.out.alloc _, Rb.new _ _ 202 rfl, fun k t ht => cell_up (ba (Below.refl _ _) _) (hcp k t ht), hgp, hz, ba B1 _⟩
      clear hcp hv HOP hgp hT z0 z1 z2 z3 z4 HM HZR B1
      go_wp2_with (refine wpr_alloc rfl rfl ?_; rw [HV.out])
      clear HV
      generalize w1.heap.size = R at *
      generalize hB : w.heap.size = B at *
      go_loopw [26] (fun i wr => ∃ (k : Nat) (r : Nat → Nat → Bool), k ≤ 5 ∧ i = .int .i64 k ∧ Hid ((∀ j, j < k → okF T j = true) ∧ ∀ j, j < k → r j = flF T j) ∧ Hid (PiS w B R gp T wr r)) (fun i _ => 5 - (intOf i).toNat)
      case atStart => exact ⟨0, _, Nat.zero_le _, rfl, ⟨fun j hj => by omega, fun j hj => by omega⟩, HZ⟩
      case round =>
        obtain ⟨k, r, hk, rfl, HE, HS⟩ := hrel
        clear HZ
        obtain rfl | rfl | rfl | rfl | rfl | rfl : k = 0 ∨ k = 1 ∨ k = 2 ∨ k = 3 ∨ k = 4 ∨ k = 5 := by omega
        · have g0 := (HG.out _ HS.out.be).at (2 * 0) _ rfl
          have g1 := (HG.out _ HS.out.be).at (2 * 0 + 1) _ rfl
          have c0 := HS.out.zp 0 t0 (by rw [HT.out]; rfl)
          go_wp2_with fail
          refine (HR0.out _ HS.out.be).mono ?_
          rintro x w3 ⟨rfl, hb3⟩
          obtain ⟨Q, HQ⟩ : ∃ Q, Hid (flF T 0 = Q) := ⟨_, rfl⟩
          rw [HQ.out]
          have HS2 : Hid (PiS w B R gp T (w3.alloc (.cells (fldA Q) 200)) r) := (HS.out.up hb3).up (ba (Below.refl _ _) _)
          have HFB : Hid (Fb 200 (w3.alloc (.cells (fldA Q) 200)) w3.heap.size Q) := Fb.new 200 _ _ rfl
          clear hb3 g0 g1 c0 HS
          cases hq : okF T 0 with
          | false =>
            have HN : Hid (pcO s = none) := HPE.out.trans (pcT_no HT.out 0 (by decide) hq)
            have HZ2 : Hid (B5 120 (w3.alloc (.cells (fldA Q) 200)) B (.slice none 0 0) (.slice none 0 0) (.slice none 0 0) (.slice none 0 0) (.slice none 0 0)) := HS2.out.zr
            have r0 := HZ2.out.c0
            have r1 := HZ2.out.c1
            have r2 := HZ2.out.c2
            have r3 := HZ2.out.c3
            have r4 := HZ2.out.c4
            have rf := HZ2.out.fr
            clear hq HE
            go_wp2_with (first | (refine wpl_alloc rfl rfl ?_) | (refine wpl_store_new Q (.tmp 9) (.tmp 37) rfl rfl rfl rfl ?_))
            refine bodyPost_ret (ret_c2 rfl rfl rfl (HZ2.out.set (.slice none 0 0) (.slice none 0 0) (.slice none 0 0) (.slice none 0 0) (.slice none 0 0))) rfl ?_
            subst hB
            exact pci_no HN.out (below_set5 HS2.out.be (Nat.le_refl _) _ _ _ _ _)
          | true =>
            have HTT : Hid (PiS w B R gp T ((w3.alloc (.cells (fldA Q) 200)).setCells R (0 * 60) (fldA Q).toList) (fun m => if m = 0 then Q else r m)) := HS2.out.put (by decide) _
            have HN : Hid ((∀ j, j < 0 + 1 → okF T j = true) ∧ ∀ j, j < 0 + 1 → (if j = 0 then Q else r j) = flF T j) := by
              refine ⟨fun j hj => ?_, fun j hj => ?_⟩
              · by_cases hjk : j = 0
                · subst hjk; exact hq
                · exact HE.out.1 j (by omega)
              · by_cases hjk : j = 0
                · rw [if_pos hjk, hjk]; exact HQ.out.symm
                · rw [if_neg hjk]; exact HE.out.2 j (by omega)
            clear hq HE
            go_wp2_with (first | (refine wpl_alloc rfl rfl ?_) | (refine wpl_store_new Q (.tmp 9) (.tmp 37) rfl rfl rfl rfl ?_) | (refine wpl_load HFB.out (.tmp 9) rfl rfl rfl ?_) | (refine wpr_storeSub HS2.out.z2 0 (by decide) Q (.tmp 44) (.tmp 43) rfl rfl rfl rfl ?_))
            go_roundw
            case rel => exact ⟨0 + 1, _, by decide, by go_num, HN, HTT⟩
            case measure => simp [intOf]
        · have g0 := (HG.out _ HS.out.be).at (2 * 1) _ rfl
          have g1 := (HG.out _ HS.out.be).at (2 * 1 + 1) _ rfl
          have c0 := HS.out.zp 1 t1 (by rw [HT.out]; rfl)
          go_wp2_with fail
          refine (HR1.out _ HS.out.be).mono ?_
          rintro x w3 ⟨rfl, hb3⟩
          obtain ⟨Q, HQ⟩ : ∃ Q, Hid (flF T 1 = Q) := ⟨_, rfl⟩
          rw [HQ.out]
          have HS2 : Hid (PiS w B R gp T (w3.alloc (.cells (fldA Q) 200)) r) := (HS.out.up hb3).up (ba (Below.refl _ _) _)
          have HFB : Hid (Fb 200 (w3.alloc (.cells (fldA Q) 200)) w3.heap.size Q) := Fb.new 200 _ _ rfl
          clear hb3 g0 g1 c0 HS
          cases hq : okF T 1 with
          | false =>
            have HN : Hid (pcO s = none) := HPE.out.trans (pcT_no HT.out 1 (by decide) hq)
            have HZ2 : Hid (B5 120 (w3.alloc (.cells (fldA Q) 200)) B (.slice none 0 0) (.slice none 0 0) (.slice none 0 0) (.slice none 0 0) (.slice none 0 0)) := HS2.out.zr
            have r0 := HZ2.out.c0
            have r1 := HZ2.out.c1
            have r2 := HZ2.out.c2
            have r3 := HZ2.out.c3
            have r4 := HZ2.out.c4
            have rf := HZ2.out.fr
            clear hq HE
            go_wp2_with (first | (refine wpl_alloc rfl rfl ?_) | (refine wpl_store_new Q (.tmp 9) (.tmp 37) rfl rfl rfl rfl ?_))
            refine bodyPost_ret (ret_c2 rfl rfl rfl (HZ2.out.set (.slice none 0 0) (.slice none 0 0) (.slice none 0 0) (.slice none 0 0) (.slice none 0 0))) rfl ?_
            subst hB
            exact pci_no HN.out (below_set5 HS2.out.be (Nat.le_refl _) _ _ _ _ _)
          | true =>
            have HTT : Hid (PiS w B R gp T ((w3.alloc (.cells (fldA Q) 200)).setCells R (1 * 60) (fldA Q).toList) (fun m => if m = 1 then Q else r m)) := HS2.out.put (by decide) _
            have HN : Hid ((∀ j, j < 1 + 1 → okF T j = true) ∧ ∀ j, j < 1 + 1 → (if j = 1 then Q else r j) = flF T j) := by
              refine ⟨fun j hj => ?_, fun j hj => ?_⟩
              · by_cases hjk : j = 1
                · subst hjk; exact hq
                · exact HE.out.1 j (by omega)
              · by_cases hjk : j = 1
                · rw [if_pos hjk, hjk]; exact HQ.out.symm
                · rw [if_neg hjk]; exact HE.out.2 j (by omega)
            clear hq HE
            go_wp2_with (first | (refine wpl_alloc rfl rfl ?_) | (refine wpl_store_new Q (.tmp 9) (.tmp 37) rfl rfl rfl rfl ?_) | (refine wpl_load HFB.out (.tmp 9) rfl rfl rfl ?_) | (refine wpr_storeSub HS2.out.z2 1 (by decide) Q (.tmp 44) (.tmp 43) rfl rfl rfl rfl ?_))
            go_roundw
            case rel => exact ⟨1 + 1, _, by decide, by go_num, HN, HTT⟩
            case measure => simp [intOf]
        · have g0 := (HG.out _ HS.out.be).at (2 * 2) _ rfl
          have g1 := (HG.out _ HS.out.be).at (2 * 2 + 1) _ rfl
          have c0 := HS.out.zp 2 t2 (by rw [HT.out]; rfl)
          go_wp2_with fail
          refine (HR2.out _ HS.out.be).mono ?_
          rintro x w3 ⟨rfl, hb3⟩
          obtain ⟨Q, HQ⟩ : ∃ Q, Hid (flF T 2 = Q) := ⟨_, rfl⟩
          rw [HQ.out]
          have HS2 : Hid (PiS w B R gp T (w3.alloc (.cells (fldA Q) 200)) r) := (HS.out.up hb3).up (ba (Below.refl _ _) _)
          have HFB : Hid (Fb 200 (w3.alloc (.cells (fldA Q) 200)) w3.heap.size Q) := Fb.new 200 _ _ rfl
          clear hb3 g0 g1 c0 HS
          cases hq : okF T 2 with
          | false =>
            have HN : Hid (pcO s = none) := HPE.out.trans (pcT_no HT.out 2 (by decide) hq)
            have HZ2 : Hid (B5 120 (w3.alloc (.cells (fldA Q) 200)) B (.slice none 0 0) (.slice none 0 0) (.slice none 0 0) (.slice none 0 0) (.slice none 0 0)) := HS2.out.zr
            have r0 := HZ2.out.c0
            have r1 := HZ2.out.c1
            have r2 := HZ2.out.c2
            have r3 := HZ2.out.c3
            have r4 := HZ2.out.c4
            have rf := HZ2.out.fr
            clear hq HE
            go_wp2_with (first | (refine wpl_alloc rfl rfl ?_) | (refine wpl_store_new Q (.tmp 9) (.tmp 37) rfl rfl rfl rfl ?_))
            refine bodyPost_ret (ret_c2 rfl rfl rfl (HZ2.out.set (.slice none 0 0) (.slice none 0 0) (.slice none 0 0) (.slice none 0 0) (.slice none 0 0))) rfl ?_
            subst hB
            exact pci_no HN.out (below_set5 HS2.out.be (Nat.le_refl _) _ _ _ _ _)
          | true =>
            have HTT : Hid (PiS w B R gp T ((w3.alloc (.cells (fldA Q) 200)).setCells R (2 * 60) (fldA Q).toList) (fun m => if m = 2 then Q else r m)) := HS2.out.put (by decide) _
            have HN : Hid ((∀ j, j < 2 + 1 → okF T j = true) ∧ ∀ j, j < 2 + 1 → (if j = 2 then Q else r j) = flF T j) := by
              refine ⟨fun j hj => ?_, fun j hj => ?_⟩
              · by_cases hjk : j = 2
                · subst hjk; exact hq
                · exact HE.out.1 j (by omega)
              · by_cases hjk : j = 2
                · rw [if_pos hjk, hjk]; exact HQ.out.symm
                · rw [if_neg hjk]; exact HE.out.2 j (by omega)
            clear hq HE
            go_wp2_with (first | (refine wpl_alloc rfl rfl ?_) | (refine wpl_store_new Q (.tmp 9) (.tmp 37) rfl rfl rfl rfl ?_) | (refine wpl_load HFB.out (.tmp 9) rfl rfl rfl ?_) | (refine wpr_storeSub HS2.out.z2 2 (by decide) Q (.tmp 44) (.tmp 43) rfl rfl rfl rfl ?_))
            go_roundw
            case rel => exact ⟨2 + 1, _, by decide, by go_num, HN, HTT⟩
            case measure => simp [intOf]
        · have g0 := (HG.out _ HS.out.be).at (2 * 3) _ rfl
          have g1 := (HG.out _ HS.out.be).at (2 * 3 + 1) _ rfl
          have c0 := HS.out.zp 3 t3 (by rw [HT.out]; rfl)
          go_wp2_with fail
          refine (HR3.out _ HS.out.be).mono ?_
          rintro x w3 ⟨rfl, hb3⟩
          obtain ⟨Q, HQ⟩ : ∃ Q, Hid (flF T 3 = Q) := ⟨_, rfl⟩
          rw [HQ.out]
          have HS2 : Hid (PiS w B R gp T (w3.alloc (.cells (fldA Q) 200)) r) := (HS.out.up hb3).up (ba (Below.refl _ _) _)
          have HFB : Hid (Fb 200 (w3.alloc (.cells (fldA Q) 200)) w3.heap.size Q) := Fb.new 200 _ _ rfl
          clear hb3 g0 g1 c0 HS
          cases hq : okF T 3 with
          | false =>
            have HN : Hid (pcO s = none) := HPE.out.trans (pcT_no HT.out 3 (by decide) hq)
            have HZ2 : Hid (B5 120 (w3.alloc (.cells (fldA Q) 200)) B (.slice none 0 0) (.slice none 0 0) (.slice none 0 0) (.slice none 0 0) (.slice none 0 0)) := HS2.out.zr
            have r0 := HZ2.out.c0
            have r1 := HZ2.out.c1
            have r2 := HZ2.out.c2
            have r3 := HZ2.out.c3
            have r4 := HZ2.out.c4
            have rf := HZ2.out.fr
            clear hq HE
            go_wp2_with (first | (refine wpl_alloc rfl rfl ?_) | (refine wpl_store_new Q (.tmp 9) (.tmp 37) rfl rfl rfl rfl ?_))
            refine bodyPost_ret (ret_c2 rfl rfl rfl (HZ2.out.set (.slice none 0 0) (.slice none 0 0) (.slice none 0 0) (.slice none 0 0) (.slice none 0 0))) rfl ?_
            subst hB
            exact pci_no HN.out (below_set5 HS2.out.be (Nat.le_refl _) _ _ _ _ _)
          | true =>
            have HTT : Hid (PiS w B R gp T ((w3.alloc (.cells (fldA Q) 200)).setCells R (3 * 60) (fldA Q).toList) (fun m => if m = 3 then Q else r m)) := HS2.out.put (by decide) _
            have HN : Hid ((∀ j, j < 3 + 1 → okF T j = true) ∧ ∀ j, j < 3 + 1 → (if j = 3 then Q else r j) = flF T j) := by
              refine ⟨fun j hj => ?_, fun j hj => ?_⟩
              · by_cases hjk : j = 3
                · subst hjk; exact hq
                · exact HE.out.1 j (by omega)
              · by_cases hjk : j = 3
                · rw [if_pos hjk, hjk]; exact HQ.out.symm
                · rw [if_neg hjk]; exact HE.out.2 j (by omega)
            clear hq HE
            go_wp2_with (first | (refine wpl_alloc rfl rfl ?_) | (refine wpl_store_new Q (.tmp 9) (.tmp 37) rfl rfl rfl rfl ?_) | (refine wpl_load HFB.out (.tmp 9) rfl rfl rfl ?_) | (refine wpr_storeSub HS2.out.z2 3 (by decide) Q (.tmp 44) (.tmp 43) rfl rfl rfl rfl ?_))
            go_roundw
            case rel => exact ⟨3 + 1, _, by decide, by go_num, HN, HTT⟩
            case measure => simp [intOf]
        · have g0 := (HG.out _ HS.out.be).at (2 * 4) _ rfl
          have g1 := (HG.out _ HS.out.be).at (2 * 4 + 1) _ rfl
          have c0 := HS.out.zp 4 t4 (by rw [HT.out]; rfl)
          go_wp2_with fail
          refine (HR4.out _ HS.out.be).mono ?_
          rintro x w3 ⟨rfl, hb3⟩
          obtain ⟨Q, HQ⟩ : ∃ Q, Hid (flF T 4 = Q) := ⟨_, rfl⟩
          rw [HQ.out]
          have HS2 : Hid (PiS w B R gp T (w3.alloc (.cells (fldA Q) 200)) r) := (HS.out.up hb3).up (ba (Below.refl _ _) _)
          have HFB : Hid (Fb 200 (w3.alloc (.cells (fldA Q) 200)) w3.heap.size Q) := Fb.new 200 _ _ rfl
          clear hb3 g0 g1 c0 HS
          cases hq : okF T 4 with
          | false =>
            have HN : Hid (pcO s = none) := HPE.out.trans (pcT_no HT.out 4 (by decide) hq)
            have HZ2 : Hid (B5 120 (w3.alloc (.cells (fldA Q) 200)) B (.slice none 0 0) (.slice none 0 0) (.slice none 0 0) (.slice none 0 0) (.slice none 0 0)) := HS2.out.zr
            have r0 := HZ2.out.c0
            have r1 := HZ2.out.c1
            have r2 := HZ2.out.c2
            have r3 := HZ2.out.c3
            have r4 := HZ2.out.c4
            have rf := HZ2.out.fr
            clear hq HE
            go_wp2_with (first | (refine wpl_alloc rfl rfl ?_) | (refine wpl_store_new Q (.tmp 9) (.tmp 37) rfl rfl rfl rfl ?_))
            refine bodyPost_ret (ret_c2 rfl rfl rfl (HZ2.out.set (.slice none 0 0) (.slice none 0 0) (.slice none 0 0) (.slice none 0 0) (.slice none 0 0))) rfl ?_
            subst hB
            exact pci_no HN.out (below_set5 HS2.out.be (Nat.le_refl _) _ _ _ _ _)
          | true =>
            have HTT : Hid (PiS w B R gp T ((w3.alloc (.cells (fldA Q) 200)).setCells R (4 * 60) (fldA Q).toList) (fun m => if m = 4 then Q else r m)) := HS2.out.put (by decide) _
            have HN : Hid ((∀ j, j < 4 + 1 → okF T j = true) ∧ ∀ j, j < 4 + 1 → (if j = 4 then Q else r j) = flF T j) := by
              refine ⟨fun j hj => ?_, fun j hj => ?_⟩
              · by_cases hjk : j = 4
                · subst hjk; exact hq
                · exact HE.out.1 j (by omega)
              · by_cases hjk : j = 4
                · rw [if_pos hjk, hjk]; exact HQ.out.symm
                · rw [if_neg hjk]; exact HE.out.2 j (by omega)
            clear hq HE
            go_wp2_with (first | (refine wpl_alloc rfl rfl ?_) | (refine wpl_store_new Q (.tmp 9) (.tmp 37) rfl rfl rfl rfl ?_) | (refine wpl_load HFB.out (.tmp 9) rfl rfl rfl ?_) | (refine wpr_storeSub HS2.out.z2 4 (by decide) Q (.tmp 44) (.tmp 43) rfl rfl rfl rfl ?_))
            go_roundw
            case rel => exact ⟨4 + 1, _, by decide, by go_num, HN, HTT⟩
            case measure => simp [intOf]
        · obtain ⟨L0, L1, L2, L3, L4, HL⟩ : ∃ L0 L1 L2 L3 L4, Hid (flL T 0 = L0 ∧ flL T 1 = L1 ∧ flL T 2 = L2 ∧ flL T 3 = L3 ∧ flL T 4 = L4) := ⟨_, _, _, _, _, rfl, rfl, rfl, rfl, rfl⟩
          have HY : Hid (pcO s = some [L0, L1, L2, L3, L4]) := by
            show _ = _
            rw [HPE.out, pcT_yes HT.out HE.out.1, HL.out.1, HL.out.2.1, HL.out.2.2.1, HL.out.2.2.2.1, HL.out.2.2.2.2]
          have HN0 : Hid (∀ W, Calls Tryz.prog 163 #[.agg (fldA (r 0))] W fun x w' => ∃ v, x = .returned v ∧ ownsR w' W.heap.size 3 v L0 ∧ Below W.heap.size W w') := fun W => by
            rw [← HL.out.1]
            exact nums_flags (by decide) (HE.out.2 0 (by decide)) W
          have HN1 : Hid (∀ W, Calls Tryz.prog 163 #[.agg (fldA (r 1))] W fun x w' => ∃ v, x = .returned v ∧ ownsR w' W.heap.size 3 v L1 ∧ Below W.heap.size W w') := fun W => by
            rw [← HL.out.2.1]
            exact nums_flags (by decide) (HE.out.2 1 (by decide)) W
          have HN2 : Hid (∀ W, Calls Tryz.prog 163 #[.agg (fldA (r 2))] W fun x w' => ∃ v, x = .returned v ∧ ownsR w' W.heap.size 3 v L2 ∧ Below W.heap.size W w') := fun W => by
            rw [← HL.out.2.2.1]
            exact nums_flags (by decide) (HE.out.2 2 (by decide)) W
          have HN3 : Hid (∀ W, Calls Tryz.prog 163 #[.agg (fldA (r 3))] W fun x w' => ∃ v, x = .returned v ∧ ownsR w' W.heap.size 3 v L3 ∧ Below W.heap.size W w') := fun W => by
            rw [← HL.out.2.2.2.1]
            exact nums_flags (by decide) (HE.out.2 3 (by decide)) W
          have HN4 : Hid (∀ W, Calls Tryz.prog 163 #[.agg (fldA (r 4))] W fun x w' => ∃ v, x = .returned v ∧ ownsR w' W.heap.size 3 v L4 ∧ Below W.heap.size W w') := fun W => by
            rw [← HL.out.2.2.2.2]
            exact nums_flags (by decide) (HE.out.2 4 (by decide)) W
          clear HE HL HR0 HR1 HR2 HR3 HR4 HG HT HPE
          have HRR : Hid (Rb wr.drew R r) := HS.out.z2
          have HZR : Hid (B5 120 wr.drew B (.slice none 0 0) (.slice none 0 0) (.slice none 0 0) (.slice none 0 0) (.slice none 0 0)) := HS.out.zr
          have HBE : Hid (Below B w wr.drew) := HS.out.be.drew
          have HRL : Hid (B < R) := HS.out.lt2
          clear HS
          haveI : Nonempty (Rrw R r) := ⟨⟨_, HRR.out⟩⟩
          go_wp2_with fail
          refine wp_region_pick (fun w' => ∃ x : Rrw R r, w' = x.at') [0, 1, 3, 4, 6, 7, 9, 10, 12, 13] 17 7 (by kernel_rfl) (by decide) (by decide) (by kernel_rfl) (fun _ _ d _ _ h => by cases d <;> exact h) ⟨⟨_, HRR.out⟩, rfl⟩ ?_
          refine wpTakes_l rfl (fun x h => by cases h) ?_
          go_big_quiet_step (fail)
          refine wpQuiet_nil ?_
          refine wpTakes_l rfl (fun x h => by cases h) (wpq_loadSub (fun _ ⟨x, hx⟩ => by rw [hx]; exact x.ok) 0 (by decide) (.tmp 46) rfl rfl rfl ?_)
          refine wpQuiet_nil ?_
          simp only [Act.put, List.setIfInBounds_toArray, List.set_cons_succ, List.set_cons_zero]
          refine wpTakes_l rfl (fun x h => by cases h) ?_
          go_big_quiet_step (fail)
          refine wpQuiet_nil ?_
          refine wpTakes_l rfl (fun x h => by cases h) (wpq_loadSub (fun _ ⟨x, hx⟩ => by rw [hx]; exact x.ok) 1 (by decide) (.tmp 49) rfl rfl rfl ?_)
          refine wpQuiet_nil ?_
          simp only [Act.put, List.setIfInBounds_toArray, List.set_cons_succ, List.set_cons_zero]
          refine wpTakes_l rfl (fun x h => by cases h) ?_
          go_big_quiet_step (fail)
          refine wpQuiet_nil ?_
          refine wpTakes_l rfl (fun x h => by cases h) (wpq_loadSub (fun _ ⟨x, hx⟩ => by rw [hx]; exact x.ok) 2 (by decide) (.tmp 52) rfl rfl rfl ?_)
          refine wpQuiet_nil ?_
          simp only [Act.put, List.setIfInBounds_toArray, List.set_cons_succ, List.set_cons_zero]
          refine wpTakes_l rfl (fun x h => by cases h) ?_
          go_big_quiet_step (fail)
          refine wpQuiet_nil ?_
          refine wpTakes_l rfl (fun x h => by cases h) (wpq_loadSub (fun _ ⟨x, hx⟩ => by rw [hx]; exact x.ok) 3 (by decide) (.tmp 55) rfl rfl rfl ?_)
          refine wpQuiet_nil ?_
          simp only [Act.put, List.setIfInBounds_toArray, List.set_cons_succ, List.set_cons_zero]
          refine wpTakes_l rfl (fun x h => by cases h) ?_
          go_big_quiet_step (fail)
          refine wpQuiet_nil ?_
          refine wpTakes_l rfl (fun x h => by cases h) (wpq_loadSub (fun _ ⟨x, hx⟩ => by rw [hx]; exact x.ok) 4 (by decide) (.tmp 58) rfl rfl rfl ?_)
          refine wpQuiet_nil ?_
          simp only [Act.put, List.setIfInBounds_toArray, List.set_cons_succ, List.set_cons_zero]
          refine takes_nil ?_
          refine any_one (fuel := 6) (i := 2) (by kernel_rfl) rfl rfl ?_
          intro K hK
          go_wp2_with fail
          refine (HN0.out _).mono ?_
          rintro z y0 ⟨v0, rfl, ho, hb⟩
          obtain ⟨a0, n0, d0, rfl⟩ := ho.slice3
          have HRR0 : Hid (Rb y0 R r) := HRR.out.up hb
          have HZR0 : Hid (B5 120 y0 B (.slice none 0 0) (.slice none 0 0) (.slice none 0 0) (.slice none 0 0) (.slice none 0 0)) := HZR.out.up hb
          have HBE0 : Hid (Below B w y0) := HBE.out.trans (hb.mono (by have := HZR.out.lt; omega))
          have O0_0 : Hid (ownsR y0 (B + 1) 3 (.slice a0 n0 d0) L0) := ho.mono HZR.out.lt
          clear ho hb
          go_wp2
          refine hK.out _ _ ⟨⟨_, HRR0.out⟩, rfl⟩ ?_
          clear hK K
          refine any_one (fuel := 5) (i := 5) (by kernel_rfl) rfl rfl ?_
          intro K hK
          go_wp2_with fail
          refine (HN1.out _).mono ?_
          rintro z y1 ⟨v1, rfl, ho, hb⟩
          obtain ⟨a1, n1, d1, rfl⟩ := ho.slice3
          have HRR1 : Hid (Rb y1 R r) := HRR0.out.up hb
          have HZR1 : Hid (B5 120 y1 B (.slice none 0 0) (.slice none 0 0) (.slice none 0 0) (.slice none 0 0) (.slice none 0 0)) := HZR0.out.up hb
          have HBE1 : Hid (Below B w y1) := HBE0.out.trans (hb.mono (by have := HZR0.out.lt; omega))
          have O0_1 : Hid (ownsR y1 (B + 1) 3 (.slice a0 n0 d0) L0) := O0_0.out.all hb
          have O1_1 : Hid (ownsR y1 (B + 1) 3 (.slice a1 n1 d1) L1) := ho.mono HZR0.out.lt
          have A01 : Hid (Apt (.slice a0 n0 d0) (.slice a1 n1 d1)) := apart_new O0_0.out ho
          clear ho hb
          go_wp2
          refine hK.out _ _ ⟨⟨_, HRR1.out⟩, rfl⟩ ?_
          clear hK K
          refine any_one (fuel := 4) (i := 8) (by kernel_rfl) rfl rfl ?_
          intro K hK
          go_wp2_with fail
          refine (HN2.out _).mono ?_
          rintro z y2 ⟨v2, rfl, ho, hb⟩
          obtain ⟨a2, n2, d2, rfl⟩ := ho.slice3
          have HRR2 : Hid (Rb y2 R r) := HRR1.out.up hb
          have HZR2 : Hid (B5 120 y2 B (.slice none 0 0) (.slice none 0 0) (.slice none 0 0) (.slice none 0 0) (.slice none 0 0)) := HZR1.out.up hb
          have HBE2 : Hid (Below B w y2) := HBE1.out.trans (hb.mono (by have := HZR1.out.lt; omega))
          have O0_2 : Hid (ownsR y2 (B + 1) 3 (.slice a0 n0 d0) L0) := O0_1.out.all hb
          have O1_2 : Hid (ownsR y2 (B + 1) 3 (.slice a1 n1 d1) L1) := O1_1.out.all hb
          have O2_2 : Hid (ownsR y2 (B + 1) 3 (.slice a2 n2 d2) L2) := ho.mono HZR1.out.lt
          have A02 : Hid (Apt (.slice a0 n0 d0) (.slice a2 n2 d2)) := apart_new O0_1.out ho
          have A12 : Hid (Apt (.slice a1 n1 d1) (.slice a2 n2 d2)) := apart_new O1_1.out ho
          clear ho hb
          go_wp2
          refine hK.out _ _ ⟨⟨_, HRR2.out⟩, rfl⟩ ?_
          clear hK K
          refine any_one (fuel := 3) (i := 11) (by kernel_rfl) rfl rfl ?_
          intro K hK
          go_wp2_with fail
          refine (HN3.out _).mono ?_
          rintro z y3 ⟨v3, rfl, ho, hb⟩
          obtain ⟨a3, n3, d3, rfl⟩ := ho.slice3
          have HRR3 : Hid (Rb y3 R r) := HRR2.out.up hb
          have HZR3 : Hid (B5 120 y3 B (.slice none 0 0) (.slice none 0 0) (.slice none 0 0) (.slice none 0 0) (.slice none 0 0)) := HZR2.out.up hb
          have HBE3 : Hid (Below B w y3) := HBE2.out.trans (hb.mono (by have := HZR2.out.lt; omega))
          have O0_3 : Hid (ownsR y3 (B + 1) 3 (.slice a0 n0 d0) L0) := O0_2.out.all hb
          have O1_3 : Hid (ownsR y3 (B + 1) 3 (.slice a1 n1 d1) L1) := O1_2.out.all hb
          have O2_3 : Hid (ownsR y3 (B + 1) 3 (.slice a2 n2 d2) L2) := O2_2.out.all hb
          have O3_3 : Hid (ownsR y3 (B + 1) 3 (.slice a3 n3 d3) L3) := ho.mono HZR2.out.lt
          have A03 : Hid (Apt (.slice a0 n0 d0) (.slice a3 n3 d3)) := apart_new O0_2.out ho
          have A13 : Hid (Apt (.slice a1 n1 d1) (.slice a3 n3 d3)) := apart_new O1_2.out ho
          have A23 : Hid (Apt (.slice a2 n2 d2) (.slice a3 n3 d3)) := apart_new O2_2.out ho
          clear ho hb
          go_wp2
          refine hK.out _ _ ⟨⟨_, HRR3.out⟩, rfl⟩ ?_
          clear hK K
          refine any_one (fuel := 2) (i := 14) (by kernel_rfl) rfl rfl ?_
          intro K hK
          go_wp2_with fail
          refine (HN4.out _).mono ?_
          rintro z y4 ⟨v4, rfl, ho, hb⟩
          obtain ⟨a4, n4, d4, rfl⟩ := ho.slice3
          have HRR4 : Hid (Rb y4 R r) := HRR3.out.up hb
          have HZR4 : Hid (B5 120 y4 B (.slice none 0 0) (.slice none 0 0) (.slice none 0 0) (.slice none 0 0) (.slice none 0 0)) := HZR3.out.up hb
          have HBE4 : Hid (Below B w y4) := HBE3.out.trans (hb.mono (by have := HZR3.out.lt; omega))
          have O0_4 : Hid (ownsR y4 (B + 1) 3 (.slice a0 n0 d0) L0) := O0_3.out.all hb
          have O1_4 : Hid (ownsR y4 (B + 1) 3 (.slice a1 n1 d1) L1) := O1_3.out.all hb
          have O2_4 : Hid (ownsR y4 (B + 1) 3 (.slice a2 n2 d2) L2) := O2_3.out.all hb
          have O3_4 : Hid (ownsR y4 (B + 1) 3 (.slice a3 n3 d3) L3) := O3_3.out.all hb
          have O4_4 : Hid (ownsR y4 (B + 1) 3 (.slice a4 n4 d4) L4) := ho.mono HZR3.out.lt
          have A04 : Hid (Apt (.slice a0 n0 d0) (.slice a4 n4 d4)) := apart_new O0_3.out ho
          have A14 : Hid (Apt (.slice a1 n1 d1) (.slice a4 n4 d4)) := apart_new O1_3.out ho
          have A24 : Hid (Apt (.slice a2 n2 d2) (.slice a4 n4 d4)) := apart_new O2_3.out ho
          have A34 : Hid (Apt (.slice a3 n3 d3) (.slice a4 n4 d4)) := apart_new O3_3.out ho
          clear ho hb
          go_wp2
          refine hK.out _ _ ⟨⟨_, HRR4.out⟩, rfl⟩ ?_
          clear hK K
          refine any_one (fuel := 1) (i := 15) (by kernel_rfl) rfl rfl ?_
          intro K hK
          go_wp2
          refine hK.out _ _ ⟨⟨_, HRR4.out⟩, rfl⟩ ?_
          clear hK K
          refine any_one (fuel := 0) (i := 16) (by kernel_rfl) rfl rfl ?_
          intro K hK
          have r0 := HZR4.out.c0
          have r1 := HZR4.out.c1
          have r2 := HZR4.out.c2
          have r3 := HZR4.out.c3
          have r4 := HZR4.out.c4
          have rf := HZR4.out.fr
          go_wp2
          refine hK.out _ _ ⟨⟨_, HRR4.out.set5 (fun e => by have := HRL.out; omega) _ _ _ _ _⟩, rfl⟩ ?_
          clear hK K r0 r1 r2 r3 r4 rf
          refine any_done (by kernel_rfl) ?_
          simp only [List.drop_succ_cons, List.drop_zero]
          go_wp2
          refine bodyPost_ret (ret_c2 rfl rfl rfl (HZR4.out.set (.slice a0 n0 d0) (.slice a1 n1 d1) (.slice a2 n2 d2) (.slice a3 n3 d3) (.slice a4 n4 d4))) rfl ?_
          subst hB
          refine ⟨_, _, _, _, _, by rw [HY.out]; rfl, ?_, ?_, ?_, ?_, ?_, below_set5 HBE4.out (Nat.le_refl _) _ _ _ _ _, ⟨A01.out, A02.out, A03.out, A04.out, A12.out, A13.out, A14.out, A23.out, A24.out, A34.out⟩⟩
          · rw [HY.out]; exact (ownsR_set5 O0_4.out (Nat.lt_succ_self _) _ _ _ _ _).mono (Nat.le_succ _)
          · rw [HY.out]; exact (ownsR_set5 O1_4.out (Nat.lt_succ_self _) _ _ _ _ _).mono (Nat.le_succ _)
          · rw [HY.out]; exact (ownsR_set5 O2_4.out (Nat.lt_succ_self _) _ _ _ _ _).mono (Nat.le_succ _)
          · rw [HY.out]; exact (ownsR_set5 O3_4.out (Nat.lt_succ_self _) _ _ _ _ _).mono (Nat.le_succ _)
          · rw [HY.out]; exact (ownsR_set5 O4_4.out (Nat.lt_succ_self _) _ _ _ _ _).mono (Nat.le_succ _)
    · have HN : Hid (pcO s = none) := by show _ = _; unfold pcO; rw [hok, pcT_len h5]; rfl
      clear HOP hok
      generalize (texts (partsR s).1).length = n at h5
      have h5' : ¬ ((n : Int) = 5) := by omega
      go_wp2
      refine bodyPost_ret (ret_c2 rfl rfl rfl (HZR.out.set (.slice none 0 0) (.slice none 0 0) (.slice none 0 0) (.slice none 0 0) (.slice none 0 0))) rfl ?_
      exact pci_no HN.out (below_set5 B1 (Nat.le_refl _) _ _ _ _ _)
end Go.Proofs.YtjmclcjhimcehaaGreatDoor
