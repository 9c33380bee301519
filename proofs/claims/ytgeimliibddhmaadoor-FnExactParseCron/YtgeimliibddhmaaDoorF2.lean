/-
  Contracts of the library, proved once there, laid at this program by the kit (its plain words). The words of a line: the walks of the program's PartsOf. A rule of five fields, as the program reads it. Numbers marked one by one from any number on, and looked at again: a row, and a rule's five rows. Words that are a rule make one that is right: plain facts. The law on a rule that is read from its text: the walk. The table of reaches, as the row lists it; a rule that came in as an argument, opened. The wrap of a tied row whose contract also wants the world's shape; the library's word of the greatest length, off that shape.
-/
import Derived.Shelf.Strconv.Itoa0
import Derived.Shelf.Strconv.Itoa1
import Derived.Shelf.LaysM
import Derived.Shelf.Strconv.Itoa2
import Derived.Shelf.Strconv.Itoa3
import Derived.Shelf.Strconv.Clone
import Derived.Shelf.Strings.Fields
import Derived.Shelf.Strings.SplitShaped
import Derived.Shelf.Unicode.Latin
import Derived.Shelf.Unicode.Is16White
import Derived.Shelf.Unicode.IsSpaceAny
import Derived.Shelf.Unicode.Is16Any
import Derived.Shelf.Unicode.Is32Any
import Derived.Shelf.Unicode.ExclAny
import Derived.Test.YtgeimliibddhmaaDoorProg
import Derived.Test.YtgeimliibddhmaaDoorPartw
import Derived.Test.YtgeimliibddhmaaDoorF1
import Derived.Test.YtgeimliibddhmaaDoorAt
import Derived.Test.YtgeimliibddhmaaDoorPc
import Derived.Test.YtgeimliibddhmaaDoorLcr
import Derived.Test.YtgeimliibddhmaaDoorRows
import Derived.Test.YtgeimliibddhmaaDoorRo
import Derived.Test.YtgeimliibddhmaaDoorOn
import Derived.Lib.LaidU8
import Derived.Deep.Strs
import Derived.ProofKit
import Derived.OpenShut
import Derived.Handed
import Derived.Shelf.Vars
namespace Go.Proofs
open Go.Shelf
def Tryd.laysM316_ren : Go.Shelf.Ren := ⟨fun | 316 => 93 | n => n, fun | 9 => 9 | 3 => 3 | 4 => 4 | 37 => 22 | 0 => 0 | 127 => 118 | 5 => 5 | n => n, fun | n => n⟩
theorem Tryd.laysM316 : Go.Proofs.LaysM.n316 Tryd.prog Tryd.laysM316_ren := {
  mixed := by kernel_rfl
  f316 := Tryd.func93.trans (congrArg some (by kernel_rfl))
  t0 := Tryd.underlying0
  a0 := Tryd.isAgg0
  z0 := Tryd.sizeOf0
  v0 := Tryd.zeroValue0
  t3 := Tryd.underlying3
  a3 := Tryd.isAgg3
  z3 := Tryd.sizeOf3
  v3 := Tryd.zeroValue3
  t4 := Tryd.underlying4
  a4 := Tryd.isAgg4
  z4 := Tryd.sizeOf4
  v4 := Tryd.zeroValue4
  t9 := Tryd.underlying9
  a9 := Tryd.isAgg9
  z9 := Tryd.sizeOf9
  v9 := Tryd.zeroValue9
  t37 := Tryd.underlying22
  a37 := Tryd.isAgg22
  z37 := Tryd.sizeOf22
  v37 := Tryd.zeroValue22
  t127 := Tryd.underlying118
  a127 := Tryd.isAgg118
  z127 := Tryd.sizeOf118
  v127 := Tryd.zeroValue118
  t5 := Tryd.underlying5
  a5 := Tryd.isAgg5
  z5 := Tryd.sizeOf5
  v5 := Tryd.zeroValue5
  i0 := by kernel_rfl
  i3 := by kernel_rfl
  i4 := by kernel_rfl
  i5 := by kernel_rfl
  i9 := by kernel_rfl
  i37 := by kernel_rfl
  i127 := by kernel_rfl }
open Go.RowKit in
theorem Tryd.stringslite_Clone (s : ByteArray) (w : World) (hlim : s.size ≤ 281474976710656) :
    Calls Tryd.prog 93 #[.string s] w fun e w' => e = .returned (.string s) ∧ Below w.heap.size w w' := Any.stringslite_Clone Tryd.laysM316 s w hlim
def Tryd.lays157_ren : Go.Shelf.Ren := ⟨fun | 157 => 73 | 229 => 91 | 199 => 92 | 261 => 108 | 311 => 119 | 312 => 120 | n => n, fun | 9 => 9 | 31 => 60 | 3 => 3 | 5 => 5 | 4 => 4 | 119 => 119 | 0 => 0 | 40 => 121 | 152 => 135 | 21 => 21 | 154 => 137 | 51 => 138 | 141 => 140 | 196 => 147 | 193 => 144 | 198 => 150 | 49 => 148 | 194 => 145 | 201 => 153 | 226 => 166 | 46 => 113 | 227 => 167 | n => n, fun | 0 => 1 | 6 => 2 | n => n⟩
theorem Tryd.lays157 : Go.Proofs.Lays.n157 Tryd.prog Tryd.lays157_ren := {
  mixed := by kernel_rfl
  f157 := Tryd.func73.trans (congrArg some (by kernel_rfl))
  f199 := Tryd.func92.trans (congrArg some (by kernel_rfl))
  f229 := Tryd.func91.trans (congrArg some (by kernel_rfl))
  f261 := Tryd.func108.trans (congrArg some (by kernel_rfl))
  f311 := Tryd.func119.trans (congrArg some (by kernel_rfl))
  f312 := Tryd.func120.trans (congrArg some (by kernel_rfl))
  t0 := Tryd.underlying0
  a0 := Tryd.isAgg0
  z0 := Tryd.sizeOf0
  v0 := Tryd.zeroValue0
  t3 := Tryd.underlying3
  a3 := Tryd.isAgg3
  z3 := Tryd.sizeOf3
  v3 := Tryd.zeroValue3
  t4 := Tryd.underlying4
  a4 := Tryd.isAgg4
  z4 := Tryd.sizeOf4
  v4 := Tryd.zeroValue4
  t5 := Tryd.underlying5
  a5 := Tryd.isAgg5
  z5 := Tryd.sizeOf5
  v5 := Tryd.zeroValue5
  t9 := Tryd.underlying9
  a9 := Tryd.isAgg9
  z9 := Tryd.sizeOf9
  v9 := Tryd.zeroValue9
  t21 := Tryd.underlying21
  a21 := Tryd.isAgg21
  z21 := Tryd.sizeOf21
  v21 := Tryd.zeroValue21
  t31 := Tryd.underlying60
  a31 := Tryd.isAgg60
  z31 := Tryd.sizeOf60
  v31 := Tryd.zeroValue60
  t40 := Tryd.underlying121
  a40 := Tryd.isAgg121
  z40 := Tryd.sizeOf121
  v40 := Tryd.zeroValue121
  t46 := Tryd.underlying113
  a46 := Tryd.isAgg113
  z46 := Tryd.sizeOf113
  v46 := Tryd.zeroValue113
  t49 := Tryd.underlying148
  a49 := Tryd.isAgg148
  z49 := Tryd.sizeOf148
  v49 := Tryd.zeroValue148
  t51 := Tryd.underlying138
  a51 := Tryd.isAgg138
  z51 := Tryd.sizeOf138
  v51 := Tryd.zeroValue138
  t119 := Tryd.underlying119
  a119 := Tryd.isAgg119
  z119 := Tryd.sizeOf119
  t141 := Tryd.underlying140
  a141 := Tryd.isAgg140
  z141 := Tryd.sizeOf140
  v141 := Tryd.zeroValue140
  t152 := Tryd.underlying135
  a152 := Tryd.isAgg135
  z152 := Tryd.sizeOf135
  v152 := Tryd.zeroValue135
  t154 := Tryd.underlying137
  a154 := Tryd.isAgg137
  z154 := Tryd.sizeOf137
  v154 := Tryd.zeroValue137
  t193 := Tryd.underlying144
  a193 := Tryd.isAgg144
  z193 := Tryd.sizeOf144
  v193 := Tryd.zeroValue144
  t194 := Tryd.underlying145
  a194 := Tryd.isAgg145
  z194 := Tryd.sizeOf145
  v194 := Tryd.zeroValue145
  t196 := Tryd.underlying147
  a196 := Tryd.isAgg147
  z196 := Tryd.sizeOf147
  v196 := Tryd.zeroValue147
  t198 := Tryd.underlying150
  a198 := Tryd.isAgg150
  z198 := Tryd.sizeOf150
  v198 := Tryd.zeroValue150
  t201 := Tryd.underlying153
  a201 := Tryd.isAgg153
  z201 := Tryd.sizeOf153
  v201 := Tryd.zeroValue153
  t226 := Tryd.underlying166
  a226 := Tryd.isAgg166
  z226 := Tryd.sizeOf166
  v226 := Tryd.zeroValue166
  t227 := Tryd.underlying167
  a227 := Tryd.isAgg167
  z227 := Tryd.sizeOf167
  v227 := Tryd.zeroValue167
  g0 := by kernel_rfl
  g6 := by kernel_rfl }
open Go.RowKit Go.Lib in
theorem Tryd.strings_Fields (s : ByteArray) (w : World) (hs : s.size < 4294967281) (hascii : ∀ (j : Nat) b, s.data.toList[j]? = some b → b.toNat < 128) (htab : Lib.TabIs Tryd.prog w "strings.asciiSpace" .u8 Lib.asciiSpaceTab) :
    Calls Tryd.prog 73 #[.string s] w fun e w' =>
      e = .returned (.slice (some ⟨w.heap.size, 0, none⟩) (Lib.fields s.data.toList).length (Lib.fields s.data.toList).length) ∧ w' = w.alloc (.cells ((Lib.fields s.data.toList).map fun l => Value.string ⟨l.toArray⟩).toArray 9) := Any.strings_Fields Tryd.lays157 (by kernel_rfl) (by kernel_rfl) s w hs hascii htab
end Go.Proofs

namespace Go.Proofs.YtgeimliibddhmaaDoor
open Go.RowKit

set_option maxHeartbeats 400000 in
theorem clone_any (s : ByteArray) (w : World) (hs : s.size ≤ 1048576) :
    Calls Tryd.prog 74 #[.string s] w fun e w' => e = .returned (.string s) ∧ Below w.heap.size w w' := by
  go_enter Tryd.func74, Tryd.ntmps74
  go_wp2_with (go_at_call 93; refine (Tryd.stringslite_Clone _ _ (by omega)).mono ?_; rintro e w1 ⟨rfl, hb1⟩)
  go_ret
  exact ⟨rfl, hb1⟩

set_option maxHeartbeats 400000 in
theorem isPlain_yes (s : ByteArray) (w : World) (hs : s.size ≤ 1048576) (hp : plainTo s s.size) :
    Calls Tryd.prog 72 #[.string s] w fun e w' => e = .returned (.bool true) ∧ w' = w := by
  have HP : Hid (plainTo s s.size) := hp
  clear hp
  go_enter Tryd.func72, Tryd.ntmps72
  go_wp2
  go_loop [3] (fun i => ∃ n : Nat, n ≤ s.size ∧ i = .int .i64 n) (fun i => s.size - (intOf i).toNat)
  case atStart => exact ⟨0, Nat.zero_le _, rfl⟩
  case round =>
    obtain ⟨n, hn, rfl⟩ := hrel
    by_cases hlt : n < s.size
    · have hb := HP.out n hlt hlt
      have h1 := hb.1
      have h2 := hb.2
      clear hb
      go_wp2
      go_round
      case rel => exact ⟨n + 1, by omega, by go_num⟩
      case measure => simp [intOf]; omega
    · go_wp2
      go_ret
      exact ⟨rfl, rfl⟩

theorem not_plain {s : ByteArray} (h : ¬ plainTo s s.size) : ∃ m, ∃ (hm : m < s.size), (s[m].toNat < 32 ∨ 126 < s[m].toNat) := by
  have hx : ∃ j, ¬ ∀ (h : j < s.size), j < s.size → 32 ≤ s[j].toNat ∧ s[j].toNat ≤ 126 := Classical.not_forall.1 h
  obtain ⟨j, hj⟩ := hx
  by_cases hlt : j < s.size
  · refine ⟨j, hlt, ?_⟩
    by_cases h1 : s[j].toNat < 32
    · exact Or.inl h1
    · right
      by_cases h2 : 126 < s[j].toNat
      · exact h2
      · exact absurd (fun _ _ => ⟨by omega, by omega⟩) hj
  · exact absurd (fun h => absurd h hlt) hj

set_option maxHeartbeats 400000 in
theorem isPlain_no (s : ByteArray) (w : World) (hs : s.size ≤ 1048576) (hp : ¬ plainTo s s.size) :
    Calls Tryd.prog 72 #[.string s] w fun e w' => e = .returned (.bool false) ∧ w' = w := by
  obtain ⟨m, hm, hb⟩ := not_plain hp
  have HB : Hid (s[m].toNat < 32 ∨ 126 < s[m].toNat) := hb
  clear hp hb
  go_enter Tryd.func72, Tryd.ntmps72
  go_wp2
  go_loop [3] (fun i => ∃ n : Nat, n ≤ m ∧ i = .int .i64 n) (fun i => s.size - (intOf i).toNat)
  case atStart => exact ⟨0, Nat.zero_le _, rfl⟩
  case round =>
    obtain ⟨n, hn, rfl⟩ := hrel
    have hlt : n < s.size := by omega
    have h256 := s[n].toNat_lt
    by_cases h1 : s[n].toNat < 32
    · go_wp2
      go_ret
      exact ⟨rfl, rfl⟩
    · by_cases h2 : 126 < s[n].toNat
      · go_wp2
        go_ret
        exact ⟨rfl, rfl⟩
      · have hne : n ≠ m := by
          intro e; subst e
          have := HB.out
          omega
        go_wp2
        go_round
        case rel => exact ⟨n + 1, by omega, by go_num⟩
        case measure => simp [intOf]; omega

theorem fieldsGo_le : ∀ (l cur : List UInt8), ∀ t ∈ Lib.fieldsGo cur l, t.length ≤ cur.length + l.length
  | [], cur, t, h => by
    unfold Lib.fieldsGo at h
    split at h
    · simp at h
    · simp at h; subst h; simp
  | b :: l, cur, t, h => by
    unfold Lib.fieldsGo at h
    split at h
    · split at h
      · have := fieldsGo_le l [] t h
        simp at this ⊢; omega
      · rcases List.mem_cons.1 h with rfl | h
        · simp
        · have := fieldsGo_le l [] t h
          simp at this ⊢; omega
    · have := fieldsGo_le l (cur ++ [b]) t h
      simp at this ⊢; omega
theorem texts_le {s : ByteArray} {t : ByteArray} (h : t ∈ texts (Lib.fields s.data.toList)) : t.size ≤ s.size := by
  simp only [texts, List.mem_map] at h
  obtain ⟨l, hl, rfl⟩ := h
  have := fieldsGo_le _ _ l hl
  simp at this
  have e : s.data.size = s.size := rfl
  show l.toArray.size ≤ s.size
  simp
  omega

def SpaceIs (w : World) : Prop := Lib.TabIs Tryd.prog w "strings.asciiSpace" .u8 Lib.asciiSpaceTab
theorem gSpace : Tryd.prog.globalNamed "strings.asciiSpace" = some 1 := by kernel_rfl
theorem SpaceIs.below {w w1 : World} (h : SpaceIs w) (hb : Below w.heap.size w w1) : SpaceIs w1 := by
  have hc := Lib.TabIs.cell h gSpace 0 (by rw [Lib.asciiSpaceTab_length]; decide)
  exact var?_below hb gSpace (World.block_lt_of_cell? w _ hc) h

set_option maxHeartbeats 400000 in
theorem parts_long (s : ByteArray) (w : World) (hs0 : s.size ≤ 1048576) (hs : 600 < s.size) :
    Calls Tryd.prog 40 #[.string s] w fun e w' => PartsEnd s w e w' := by
  have HH : Hid (PartsEnd s w _ _) := end_false (partsR_long hs) (Below.refl w.heap.size w)
  go_enter Tryd.func40, Tryd.ntmps40
  go_wp2
  go_ret2
  exact HH.out

theorem partsR_not {s : ByteArray} (h : ¬ plainTo s s.size) : partsR s = ([], false) := by
  obtain ⟨m, hm, hb⟩ := not_plain h
  exact partsR_bad hm hb

set_option maxHeartbeats 400000 in
theorem parts_not (s : ByteArray) (w : World) (hs : s.size ≤ 600) (hp : ¬ plainTo s s.size) :
    Calls Tryd.prog 40 #[.string s] w fun e w' => PartsEnd s w e w' := by
  have HH : Hid (PartsEnd s w _ _) := end_false (partsR_not hp) (Below.refl w.heap.size w)
  have HP : Hid (¬ plainTo s s.size) := hp
  clear hp
  have hd : decide ((600 : Int) < (s.size : Int)) = false := by simp; omega
  go_enter Tryd.func40, Tryd.ntmps40
  go_wp2_with (go_at_call 72; refine (isPlain_no s _ (by omega) HP.out).mono ?_; rintro e w' ⟨rfl, hw⟩; have hw2 := hw.symm; subst hw2)
  go_ret2
  exact HH.out

theorem plain_ascii {s : ByteArray} (h : plainTo s s.size) : ∀ (j : Nat) b, s.data.toList[j]? = some b → b.toNat < 128 := by
  intro j b hb
  have := plain_all.1 h b (List.mem_of_getElem? hb)
  omega
theorem ownsS_fields (w : World) (F : List (List UInt8)) (hF : F.length ≤ 1048577) : ownsS (w.alloc (.cells (F.map fun l => Value.string ⟨l.toArray⟩).toArray 9)) w.heap.size 9 (.slice (some ⟨w.heap.size, 0, none⟩) F.length F.length) (texts F) := by
  have := World.ownsRow_lit (base := w.heap.size) (e := 9) (size := 1) w (F.map fun l => Value.string ⟨l.toArray⟩).toArray F.length (Nat.le_refl _) (by unfold maxLen; omega) (by simp)
  unfold ownsS
  rw [texts_length]
  simpa [texts, Function.comp_def] using this

set_option maxHeartbeats 400000 in
theorem parts_many (s : ByteArray) (w : World) (hs : s.size ≤ 600) (hp : plainTo s s.size) (ht : SpaceIs w) (hm : 10 < (Lib.fields s.data.toList).length) (hF : (Lib.fields s.data.toList).length ≤ 1048577) :
    Calls Tryd.prog 40 #[.string s] w fun e w' => PartsEnd s w e w' := by
  have H := end_false (wx := w.alloc (.cells ((Lib.fields s.data.toList).map fun l => Value.string ⟨l.toArray⟩).toArray 9)) (partsR_many (by omega) hp hm) ((Below.refl w.heap.size w).alloc (Nat.le_refl _) _)
  rw [World.size_alloc] at H
  have HH : Hid (PartsEnd s w _ _) := H
  clear H
  have HP : Hid (plainTo s s.size) := hp
  clear hp
  have hd : decide ((600 : Int) < (s.size : Int)) = false := by simp; omega
  go_enter Tryd.func40, Tryd.ntmps40
  go_wp2_with (first | (go_at_call 72; refine (isPlain_yes s _ (by omega) HP.out).mono ?_; rintro e w' ⟨rfl, hw⟩; have hw2 := hw.symm; subst hw2) | (go_at_call 73; refine (Tryd.strings_Fields s _ (by omega) (plain_ascii HP.out) ht).mono ?_; rintro e w2 ⟨rfl, hw⟩; subst hw))
  go_ret2
  exact HH.out

set_option maxHeartbeats 1000000 in
theorem parts_ok (s : ByteArray) (w : World) (hs : s.size ≤ 600) (hp : plainTo s s.size) (ht : SpaceIs w) (hm : ¬ 10 < (Lib.fields s.data.toList).length) :
    Calls Tryd.prog 40 #[.string s] w fun e w' => PartsEnd s w e w' := by
  have HR : Hid (partsR s = (Lib.fields s.data.toList, true)) := partsR_ok (by omega) hp hm
  have HP : Hid (plainTo s s.size) := hp
  clear hp
  have hd : decide ((600 : Int) < (s.size : Int)) = false := by simp; omega
  have hF := ownsS_fields w (Lib.fields s.data.toList) (by omega)
  have HT : ∀ t ∈ texts (Lib.fields s.data.toList), t.size ≤ s.size := fun t h => texts_le h
  have HT2 : Hid (∀ t ∈ texts (Lib.fields s.data.toList), t.size ≤ s.size) := HT
  clear HT
  have hlen := texts_length (Lib.fields s.data.toList)
  have HL : Hid ((texts (Lib.fields s.data.toList)).length = (Lib.fields s.data.toList).length) := hlen
  clear hlen
  go_enter Tryd.func40, Tryd.ntmps40
  go_wp2_with (first | (go_at_call 72; refine (isPlain_yes s _ (by omega) HP.out).mono ?_; rintro e w' ⟨rfl, hw⟩; have hw2 := hw.symm; subst hw2) | (go_at_call 73; refine (Tryd.strings_Fields s _ (by omega) (plain_ascii HP.out) ht).mono ?_; rintro e w2 ⟨rfl, hw⟩; subst hw))
  generalize Lib.fields s.data.toList = F at *
  go_loopw [23] (fun i wr => ∃ k : Nat, k ≤ F.length ∧ i = .int .i64 k ∧ ownsS wr w.heap.size 9 (.slice (some ⟨w.heap.size, 0, none⟩) F.length F.length) (texts F) ∧ Below w.heap.size w wr) (fun i _ => F.length - (intOf i).toNat)
  case atStart => exact ⟨0, Nat.zero_le _, rfl, hF, (Below.refl _ _).alloc (Nat.le_refl _) _⟩
  case round =>
    obtain ⟨k, hk, rfl, hown, hbel⟩ := hrel
    clear hF
    have hsz := hbel.size
    by_cases hlt : k < F.length
    · obtain ⟨t, ht2, hcell, hfr, hg, hnn⟩ := ownsS_cell hown hlt
      clear hnn
      have hts : t.size ≤ 1048576 := by have := HT2.out t (List.mem_of_getElem? ht2); omega
      have HK : Hid ((texts F)[k]? = some t) := ht2
      clear ht2
      go_wp2_with (go_at_call 74; refine (clone_any t _ hts).mono ?_; rintro e w2 ⟨rfl, hb2⟩; have hc2 := (hb2.cell (p := ⟨w.heap.size, k, none⟩) hg).trans hcell; have hf2 := (hb2.frozen (p := ⟨w.heap.size, k, none⟩) hg).trans hfr)
      have R := ownsS_store (hown.all hb2) k t
      rw [set_same HK.out] at R
      clear hown hcell hfr hc2 hf2
      go_roundw
      case rel => exact ⟨k + 1, by omega, by go_num, R, (hbel.trans (hb2.mono hsz)).setCell (p := ⟨w.heap.size, k, none⟩) (Nat.le_refl _) _⟩
      case measure => simp [intOf]; omega
    · have HH : Hid (PartsEnd s w _ _) := end_true HR.out hown hbel
      go_wp2
      go_ret2
      exact HH.out

theorem fields_length_le (s : ByteArray) : (Lib.fields s.data.toList).length ≤ s.size + 1 := by
  rw [Lib.fields_length]
  have h : ∀ (l : List UInt8) (b : Bool), Lib.cntF b l ≤ l.length := by
    intro l
    induction l with
    | nil => intro b; simp [Lib.cntF]
    | cons x l ih =>
      intro b
      have := ih (Lib.isSp x)
      simp only [Lib.cntF, List.length_cons]
      split <;> omega
  have := h s.data.toList true
  have e : s.data.toList.length = s.size := by simp
  omega
theorem parts_any (s : ByteArray) (w : World) (hs : s.size ≤ 1048576) (ht : SpaceIs w) : Calls Tryd.prog 40 #[.string s] w fun e w' => PartsEnd s w e w' := by
  by_cases h : 600 < s.size
  · exact parts_long s w hs h
  · by_cases hp : plainTo s s.size
    · by_cases hm : 10 < (Lib.fields s.data.toList).length
      · exact parts_many s w (by omega) hp ht hm (by have := fields_length_le s; omega)
      · exact parts_ok s w (by omega) hp ht hm
    · exact parts_not s w (by omega) hp

end Go.Proofs.YtgeimliibddhmaaDoor

namespace Go.Proofs.YtgeimliibddhmaaDoor
open Go Go.RowKit
set_option linter.unusedVariables false

/-- Two rows that lie apart. -/
def Apt (u v : Value) : Prop := u.ownBlock = none ∨ u.ownBlock ≠ v.ownBlock
theorem Apt.symm {u v : Value} (h : Apt u v) : Apt v u := by
  by_cases hv : v.ownBlock = none
  · exact .inl hv
  · rcases h with h | h
    · exact .inr (by rw [h]; exact hv)
    · exact .inr (fun e => h e.symm)
/-- Five rows that lie apart. -/
structure Ap5 (v0 v1 v2 v3 v4 : Value) : Prop where
  a01 : Apt v0 v1
  a02 : Apt v0 v2
  a03 : Apt v0 v3
  a04 : Apt v0 v4
  a12 : Apt v1 v2
  a13 : Apt v1 v3
  a14 : Apt v1 v4
  a23 : Apt v2 v3
  a24 : Apt v2 v4
  a34 : Apt v3 v4
def PcI (s : ByteArray) (w : World) (e : Ending) (w' : World) : Prop :=
  ∃ v0 v1 v2 v3 v4, e = .returned (.tuple #[.agg #[v0, v1, v2, v3, v4], .bool (pcO s).isSome]) ∧ ownsR w' w.heap.size 3 v0 (pcN (pcO s) 0) ∧ ownsR w' w.heap.size 3 v1 (pcN (pcO s) 1) ∧ ownsR w' w.heap.size 3 v2 (pcN (pcO s) 2) ∧ ownsR w' w.heap.size 3 v3 (pcN (pcO s) 3) ∧ ownsR w' w.heap.size 3 v4 (pcN (pcO s) 4) ∧ Below w.heap.size w w' ∧ Ap5 v0 v1 v2 v3 v4
theorem pci_no {s : ByteArray} {w W : World} (h : pcO s = none) (hb : Below w.heap.size w W) : PcI s w (.returned (.tuple #[.agg #[.slice none 0 0, .slice none 0 0, .slice none 0 0, .slice none 0 0, .slice none 0 0], .bool false])) W := by
  refine ⟨_, _, _, _, _, by rw [h]; rfl, ?_, ?_, ?_, ?_, ?_, hb, ⟨.inl rfl, .inl rfl, .inl rfl, .inl rfl, .inl rfl, .inl rfl, .inl rfl, .inl rfl, .inl rfl, .inl rfl⟩⟩ <;> rw [h] <;> exact ownsR_none _ _ _
def okF (T : List ByteArray) (k : Nat) : Bool := (fieldO (T.getD k ⟨#[]⟩) (rloN k) (rhiN k)).isSome
def flF (T : List ByteArray) (k : Nat) : Nat → Bool := fieldF (T.getD k ⟨#[]⟩) (rloN k) (rhiN k)
def flL (T : List ByteArray) (k : Nat) : List Int := fieldL (T.getD k ⟨#[]⟩) (rloN k) (rhiN k)
theorem pcT_is (t0 t1 t2 t3 t4 : ByteArray) : pcT [t0, t1, t2, t3, t4] = if okF [t0, t1, t2, t3, t4] 0 && (okF [t0, t1, t2, t3, t4] 1 && (okF [t0, t1, t2, t3, t4] 2 && (okF [t0, t1, t2, t3, t4] 3 && okF [t0, t1, t2, t3, t4] 4))) then some [flL [t0, t1, t2, t3, t4] 0, flL [t0, t1, t2, t3, t4] 1, flL [t0, t1, t2, t3, t4] 2, flL [t0, t1, t2, t3, t4] 3, flL [t0, t1, t2, t3, t4] 4] else none := rfl
theorem pcT_no {T : List ByteArray} {t0 t1 t2 t3 t4 : ByteArray} (hT : T = [t0, t1, t2, t3, t4]) (k : Nat) (hk : k < 5) (h : okF T k = false) : pcT T = none := by
  subst hT
  rw [pcT_is]
  rcases k with _ | _ | _ | _ | _ | k
  · simp [h]
  · simp [h]
  · simp [h]
  · simp [h]
  · simp [h]
  · omega
theorem pcT_yes {T : List ByteArray} {t0 t1 t2 t3 t4 : ByteArray} (hT : T = [t0, t1, t2, t3, t4]) (h : ∀ k, k < 5 → okF T k = true) : pcT T = some [flL T 0, flL T 1, flL T 2, flL T 3, flL T 4] := by
  subst hT
  rw [pcT_is, h 0 (by decide), h 1 (by decide), h 2 (by decide), h 3 (by decide), h 4 (by decide)]
  rfl
theorem flF_nums (T : List ByteArray) (k : Nat) (hk : k < 5) (n : Nat) (hn : n = 60) : numsTo (flF T k) n = flL T k := by
  unfold flF flL
  rcases k with _ | _ | _ | _ | _ | k
  · exact fieldF_nums (by decide) (by decide) (by decide) n hn
  · exact fieldF_nums (by decide) (by decide) (by decide) n hn
  · exact fieldF_nums (by decide) (by decide) (by decide) n hn
  · exact fieldF_nums (by decide) (by decide) (by decide) n hn
  · exact fieldF_nums (by decide) (by decide) (by decide) n hn
  · omega
theorem nums_flags {T : List ByteArray} {k : Nat} (hk : k < 5) {p : Nat → Bool} (hp : p = flF T k) (W : World) : Calls Tryd.prog 42 #[.agg (fldA p)] W fun x w' => ∃ v, x = .returned v ∧ ownsR w' W.heap.size 3 v (flL T k) ∧ Below W.heap.size W w' := by
  have := numbers_any p W
  rw [← flF_nums T k hk 60 rfl, ← hp]
  exact this
theorem heap_setCells {g b : Nat} (hne : b ≠ g) : ∀ (vs : List Value) (o : Nat) (W : World), (W.setCells g o vs).heap[b]? = W.heap[b]?
  | [], _, _ => rfl
  | v :: r, o, W => by
    rw [World.setCells, heap_setCells hne r]
    exact heap_setCell_other W _ b v hne
theorem Rb.cellFar {W : World} {b g o : Nat} {r : Nat → Nat → Bool} (h : Rb W b r) (hg : b ≠ g) (u : Value) : Rb (W.setCell ⟨g, o, none⟩ u) b r := Rb.far (o := o) (vs := [u]) h hg
theorem Rb.set5 {W : World} {b g : Nat} {r : Nat → Nat → Bool} (h : Rb W b r) (hg : b ≠ g) (u0 u1 u2 u3 u4 : Value) : Rb (set5 W g u0 u1 u2 u3 u4) b r := ((((h.cellFar hg u0).cellFar hg u1).cellFar hg u2).cellFar hg u3).cellFar hg u4
/-- A world where a rule's flags lie. -/
structure Rrw (b : Nat) (r : Nat → Nat → Bool) where
  at' : World
  ok : Rb at' b r
/-- What lies there in the rounds. -/
structure PiS (w : World) (B R gp : Nat) (T : List ByteArray) (W : World) (r : Nat → Nat → Bool) : Prop where
  zr : B5 26 W B (.slice none 0 0) (.slice none 0 0) (.slice none 0 0) (.slice none 0 0) (.slice none 0 0)
  z2 : Rb W R r
  zp : ∀ k t, T[k]? = some t → W.cell? ⟨gp, k, none⟩ = some (.string t)
  lt : gp < R
  lt2 : B < R
  be : Below B w W
section
variable {w W W' : World} {B R gp : Nat} {T : List ByteArray} {r : Nat → Nat → Bool}
theorem PiS.up (h : PiS w B R gp T W r) (hb : Below W.heap.size W W') : PiS w B R gp T W' r :=
  ⟨h.zr.up hb, h.z2.up hb, fun k t ht => (hb.cell (p := ⟨gp, k, none⟩) (Nat.lt_trans h.lt h.z2.lt)).trans (h.zp k t ht), h.lt, h.lt2, h.be.trans (hb.mono (by have := h.zr.lt; omega))⟩
theorem PiS.put (h : PiS w B R gp T W r) {k : Nat} (hk : k < 5) (p : Nat → Bool) : PiS w B R gp T (W.setCells R (k * 60) (fldA p).toList) (fun m => if m = k then p else r m) := by
  have l1 := h.lt
  have l2 := h.lt2
  exact ⟨(heap_setCells (by omega) _ _ _).trans h.zr, h.z2.setSub hk p, fun k t ht => (World.cell?_of_block (a := ⟨gp, k, none⟩) (heap_setCells (b := gp) (g := R) (by omega) _ _ _)).trans (h.zp k t ht), h.lt, h.lt2, below_setCells (by omega) _ _ _ h.be⟩
end
set_option maxRecDepth 10000 in
set_option maxHeartbeats 4000000 in
theorem implParse_any (s : ByteArray) (w : World) (hs : s.size ≤ 1048576) (hg : RchIs w) (hm : MaxIs w) (hsp : SpaceIs w) : Calls Tryd.prog 15 #[.string s] w (PcI s w) := by
  have HG : Hid (∀ W, Below w.heap.size w W → RchIs W) := fun W hb => hg.up hb
  have HM : Hid (∀ W, Below w.heap.size w W → MaxIs W) := fun W hb => hm.up hb
  have HPA : Hid (∀ W, Below w.heap.size w W → Calls Tryd.prog 40 #[.string s] W fun e w' => PartsEnd s W e w') := fun W hb => parts_any s W hs (hsp.below hb)
  clear hg hm hsp
  go_enter Tryd.func15, Tryd.ntmps15
  go_wp2_with fail
  refine (HPA.out _ (ba (Below.refl _ _) _)).mono ?_
  rintro e w1 ⟨vp, rfl, hop, hb1⟩
  have ZR : B5 26 w1 w.heap.size (.slice none 0 0) (.slice none 0 0) (.slice none 0 0) (.slice none 0 0) (.slice none 0 0) := (B5.new 26 w (.slice none 0 0) (.slice none 0 0) (.slice none 0 0) (.slice none 0 0) (.slice none 0 0)).up hb1
  have B1 : Below w.heap.size w w1 := below_new hb1
  have hz : w.heap.size < w1.heap.size := ZR.lt
  obtain ⟨ao, cap, rfl⟩ := ownsS_slice hop
  have HOP : Hid (ownsS w1 (w.heap.size + 1) 9 (.slice ao (texts (partsR s).1).length cap) (texts (partsR s).1)) := by show ownsS _ _ _ _ _; simpa using hop
  clear hop hb1 HPA
  have r0 := ZR.c0
  have r1 := ZR.c1
  have r2 := ZR.c2
  have r3 := ZR.c3
  have r4 := ZR.c4
  have rf := ZR.fr
  have HZR : Hid (B5 26 w1 w.heap.size (.slice none 0 0) (.slice none 0 0) (.slice none 0 0) (.slice none 0 0) (.slice none 0 0)) := ZR
  clear ZR
  cases hok : (partsR s).2 with
  | false =>
    have HN : Hid (pcO s = none) := by show _ = _; unfold pcO; rw [hok]; rfl
    clear HOP hok
    generalize (texts (partsR s).1).length = n
    go_wp2
    refine bodyPost_ret (ret_c2 rfl rfl rfl (HZR.out.set (.slice none 0 0) (.slice none 0 0) (.slice none 0 0) (.slice none 0 0) (.slice none 0 0))) rfl ?_
    exact pci_no HN.out (below_set5 B1 (Nat.le_refl _) _ _ _ _ _)
  | true =>
    by_cases h5 : (texts (partsR s).1).length = 5
    · obtain ⟨t0, t1, t2, t3, t4, hT⟩ := five h5
      obtain ⟨T, HT⟩ : ∃ T, Hid (T = [t0, t1, t2, t3, t4]) := ⟨_, rfl⟩
      have HPE : Hid (pcO s = pcT T) := by show _ = _; unfold pcO; rw [hok, hT, HT.out]; rfl
      clear r0 r1 r2 r3 r4 rf hok h5
      have z0 : t0.size ≤ 1048576 := parts_sz (s := s) (by rw [hT]; simp)
      have HR0 : Hid (∀ W, Below w.heap.size w W → Calls Tryd.prog 41 #[.string t0, .agg #[.int .i64 0, .int .i64 59]] W fun x w'' => x = .returned (.tuple #[.agg (fldA (flF T 0)), .bool (okF T 0)]) ∧ Below W.heap.size W w'') := fun W hb => by
        rw [HT.out]
        exact readField_any t0 0 59 W z0 (by decide) (by decide) (HM.out W hb)
      have z1 : t1.size ≤ 1048576 := parts_sz (s := s) (by rw [hT]; simp)
      have HR1 : Hid (∀ W, Below w.heap.size w W → Calls Tryd.prog 41 #[.string t1, .agg #[.int .i64 0, .int .i64 23]] W fun x w'' => x = .returned (.tuple #[.agg (fldA (flF T 1)), .bool (okF T 1)]) ∧ Below W.heap.size W w'') := fun W hb => by
        rw [HT.out]
        exact readField_any t1 0 23 W z1 (by decide) (by decide) (HM.out W hb)
      have z2 : t2.size ≤ 1048576 := parts_sz (s := s) (by rw [hT]; simp)
      have HR2 : Hid (∀ W, Below w.heap.size w W → Calls Tryd.prog 41 #[.string t2, .agg #[.int .i64 1, .int .i64 31]] W fun x w'' => x = .returned (.tuple #[.agg (fldA (flF T 2)), .bool (okF T 2)]) ∧ Below W.heap.size W w'') := fun W hb => by
        rw [HT.out]
        exact readField_any t2 1 31 W z2 (by decide) (by decide) (HM.out W hb)
      have z3 : t3.size ≤ 1048576 := parts_sz (s := s) (by rw [hT]; simp)
      have HR3 : Hid (∀ W, Below w.heap.size w W → Calls Tryd.prog 41 #[.string t3, .agg #[.int .i64 1, .int .i64 12]] W fun x w'' => x = .returned (.tuple #[.agg (fldA (flF T 3)), .bool (okF T 3)]) ∧ Below W.heap.size W w'') := fun W hb => by
        rw [HT.out]
        exact readField_any t3 1 12 W z3 (by decide) (by decide) (HM.out W hb)
      have z4 : t4.size ≤ 1048576 := parts_sz (s := s) (by rw [hT]; simp)
      have HR4 : Hid (∀ W, Below w.heap.size w W → Calls Tryd.prog 41 #[.string t4, .agg #[.int .i64 0, .int .i64 6]] W fun x w'' => x = .returned (.tuple #[.agg (fldA (flF T 4)), .bool (okF T 4)]) ∧ Below W.heap.size W w'') := fun W hb => by
        rw [HT.out]
        exact readField_any t4 0 6 W z4 (by decide) (by decide) (HM.out W hb)
      rw [hT] at HOP
      obtain ⟨gp, cp, hv, hgp, hcp⟩ := ownsS_read HOP.out (by simp)
      obtain ⟨rfl, -⟩ : ao = some ⟨gp, 0, none⟩ ∧ True := ⟨by injection hv, trivial⟩
      rw [hT]
      obtain ⟨V, HV⟩ : ∃ V, Hid (w1.alloc (.cells (rulA fun _ _ => false) 57) = V) := ⟨_, rfl⟩
      have HZ : Hid (PiS w w.heap.size w1.heap.size gp T V fun _ _ => false) := by
        show PiS _ _ _ _ _ _ _
        rw [← HV.out, HT.out]
        exact ⟨HZR.out.alloc _, Rb.new _ _ 57 rfl, fun k t ht => cell_up (ba (Below.refl _ _) _) (hcp k t ht), hgp, hz, ba B1 _⟩
      clear hcp hv HOP hgp hT z0 z1 z2 z3 z4 HM HZR B1
      go_wp2_with (refine wpr_alloc rfl rfl ?_; rw [HV.out])
      clear HV
      generalize w1.heap.size = R at *
      generalize hB : w.heap.size = B at *
      go_loopw [26] (fun i wr => ∃ (k : Nat) (r : Nat → Nat → Bool), k ≤ 5 ∧ i = .int .i64 k ∧ Hid ((∀ j, j < k → okF T j = true) ∧ ∀ j, j < k → r j = flF T j) ∧ Hid (PiS w B R gp T wr r)) (fun i _ => 5 - (intOf i).toNat)
      case atStart => exact ⟨0, _, Nat.zero_le _, rfl, ⟨fun j hj => by omega, fun j hj => by omega⟩, HZ⟩
      case round =>
        obtain ⟨k, r, hk, rfl, HE, HS⟩ := hrel
        clear HZ
        obtain rfl | rfl | rfl | rfl | rfl | rfl : k = 0 ∨ k = 1 ∨ k = 2 ∨ k = 3 ∨ k = 4 ∨ k = 5 := by omega
        · have g0 := (HG.out _ HS.out.be).at (2 * 0) _ rfl
          have g1 := (HG.out _ HS.out.be).at (2 * 0 + 1) _ rfl
          have c0 := HS.out.zp 0 t0 (by rw [HT.out]; rfl)
          go_wp2_with fail
          refine (HR0.out _ HS.out.be).mono ?_
          rintro x w3 ⟨rfl, hb3⟩
          obtain ⟨Q, HQ⟩ : ∃ Q, Hid (flF T 0 = Q) := ⟨_, rfl⟩
          rw [HQ.out]
          have HS2 : Hid (PiS w B R gp T (w3.alloc (.cells (fldA Q) 55)) r) := (HS.out.up hb3).up (ba (Below.refl _ _) _)
          have HFB : Hid (Fb 55 (w3.alloc (.cells (fldA Q) 55)) w3.heap.size Q) := Fb.new 55 _ _ rfl
          clear hb3 g0 g1 c0 HS
          cases hq : okF T 0 with
          | false =>
            have HN : Hid (pcO s = none) := HPE.out.trans (pcT_no HT.out 0 (by decide) hq)
            have HZ2 : Hid (B5 26 (w3.alloc (.cells (fldA Q) 55)) B (.slice none 0 0) (.slice none 0 0) (.slice none 0 0) (.slice none 0 0) (.slice none 0 0)) := HS2.out.zr
            have r0 := HZ2.out.c0
            have r1 := HZ2.out.c1
            have r2 := HZ2.out.c2
            have r3 := HZ2.out.c3
            have r4 := HZ2.out.c4
            have rf := HZ2.out.fr
            clear hq HE
            go_wp2_with (first | (refine wpl_alloc rfl rfl ?_) | (refine wpl_store_new Q (.tmp 9) (.tmp 37) rfl rfl rfl rfl ?_))
            refine bodyPost_ret (ret_c2 rfl rfl rfl (HZ2.out.set (.slice none 0 0) (.slice none 0 0) (.slice none 0 0) (.slice none 0 0) (.slice none 0 0))) rfl ?_
            subst hB
            exact pci_no HN.out (below_set5 HS2.out.be (Nat.le_refl _) _ _ _ _ _)
          | true =>
            have HTT : Hid (PiS w B R gp T ((w3.alloc (.cells (fldA Q) 55)).setCells R (0 * 60) (fldA Q).toList) (fun m => if m = 0 then Q else r m)) := HS2.out.put (by decide) _
            have HN : Hid ((∀ j, j < 0 + 1 → okF T j = true) ∧ ∀ j, j < 0 + 1 → (if j = 0 then Q else r j) = flF T j) := by
              refine ⟨fun j hj => ?_, fun j hj => ?_⟩
              · by_cases hjk : j = 0
                · subst hjk; exact hq
                · exact HE.out.1 j (by omega)
              · by_cases hjk : j = 0
                · rw [if_pos hjk, hjk]; exact HQ.out.symm
                · rw [if_neg hjk]; exact HE.out.2 j (by omega)
            clear hq HE
            go_wp2_with (first | (refine wpl_alloc rfl rfl ?_) | (refine wpl_store_new Q (.tmp 9) (.tmp 37) rfl rfl rfl rfl ?_) | (refine wpl_load HFB.out (.tmp 9) rfl rfl rfl ?_) | (refine wpr_storeSub HS2.out.z2 0 (by decide) Q (.tmp 44) (.tmp 43) rfl rfl rfl rfl ?_))
            go_roundw
            case rel => exact ⟨0 + 1, _, by decide, by go_num, HN, HTT⟩
            case measure => simp [intOf]
        · have g0 := (HG.out _ HS.out.be).at (2 * 1) _ rfl
          have g1 := (HG.out _ HS.out.be).at (2 * 1 + 1) _ rfl
          have c0 := HS.out.zp 1 t1 (by rw [HT.out]; rfl)
          go_wp2_with fail
          refine (HR1.out _ HS.out.be).mono ?_
          rintro x w3 ⟨rfl, hb3⟩
          obtain ⟨Q, HQ⟩ : ∃ Q, Hid (flF T 1 = Q) := ⟨_, rfl⟩
          rw [HQ.out]
          have HS2 : Hid (PiS w B R gp T (w3.alloc (.cells (fldA Q) 55)) r) := (HS.out.up hb3).up (ba (Below.refl _ _) _)
          have HFB : Hid (Fb 55 (w3.alloc (.cells (fldA Q) 55)) w3.heap.size Q) := Fb.new 55 _ _ rfl
          clear hb3 g0 g1 c0 HS
          cases hq : okF T 1 with
          | false =>
            have HN : Hid (pcO s = none) := HPE.out.trans (pcT_no HT.out 1 (by decide) hq)
            have HZ2 : Hid (B5 26 (w3.alloc (.cells (fldA Q) 55)) B (.slice none 0 0) (.slice none 0 0) (.slice none 0 0) (.slice none 0 0) (.slice none 0 0)) := HS2.out.zr
            have r0 := HZ2.out.c0
            have r1 := HZ2.out.c1
            have r2 := HZ2.out.c2
            have r3 := HZ2.out.c3
            have r4 := HZ2.out.c4
            have rf := HZ2.out.fr
            clear hq HE
            go_wp2_with (first | (refine wpl_alloc rfl rfl ?_) | (refine wpl_store_new Q (.tmp 9) (.tmp 37) rfl rfl rfl rfl ?_))
            refine bodyPost_ret (ret_c2 rfl rfl rfl (HZ2.out.set (.slice none 0 0) (.slice none 0 0) (.slice none 0 0) (.slice none 0 0) (.slice none 0 0))) rfl ?_
            subst hB
            exact pci_no HN.out (below_set5 HS2.out.be (Nat.le_refl _) _ _ _ _ _)
          | true =>
            have HTT : Hid (PiS w B R gp T ((w3.alloc (.cells (fldA Q) 55)).setCells R (1 * 60) (fldA Q).toList) (fun m => if m = 1 then Q else r m)) := HS2.out.put (by decide) _
            have HN : Hid ((∀ j, j < 1 + 1 → okF T j = true) ∧ ∀ j, j < 1 + 1 → (if j = 1 then Q else r j) = flF T j) := by
              refine ⟨fun j hj => ?_, fun j hj => ?_⟩
              · by_cases hjk : j = 1
                · subst hjk; exact hq
                · exact HE.out.1 j (by omega)
              · by_cases hjk : j = 1
                · rw [if_pos hjk, hjk]; exact HQ.out.symm
                · rw [if_neg hjk]; exact HE.out.2 j (by omega)
            clear hq HE
            go_wp2_with (first | (refine wpl_alloc rfl rfl ?_) | (refine wpl_store_new Q (.tmp 9) (.tmp 37) rfl rfl rfl rfl ?_) | (refine wpl_load HFB.out (.tmp 9) rfl rfl rfl ?_) | (refine wpr_storeSub HS2.out.z2 1 (by decide) Q (.tmp 44) (.tmp 43) rfl rfl rfl rfl ?_))
            go_roundw
            case rel => exact ⟨1 + 1, _, by decide, by go_num, HN, HTT⟩
            case measure => simp [intOf]
        · have g0 := (HG.out _ HS.out.be).at (2 * 2) _ rfl
          have g1 := (HG.out _ HS.out.be).at (2 * 2 + 1) _ rfl
          have c0 := HS.out.zp 2 t2 (by rw [HT.out]; rfl)
          go_wp2_with fail
          refine (HR2.out _ HS.out.be).mono ?_
          rintro x w3 ⟨rfl, hb3⟩
          obtain ⟨Q, HQ⟩ : ∃ Q, Hid (flF T 2 = Q) := ⟨_, rfl⟩
          rw [HQ.out]
          have HS2 : Hid (PiS w B R gp T (w3.alloc (.cells (fldA Q) 55)) r) := (HS.out.up hb3).up (ba (Below.refl _ _) _)
          have HFB : Hid (Fb 55 (w3.alloc (.cells (fldA Q) 55)) w3.heap.size Q) := Fb.new 55 _ _ rfl
          clear hb3 g0 g1 c0 HS
          cases hq : okF T 2 with
          | false =>
            have HN : Hid (pcO s = none) := HPE.out.trans (pcT_no HT.out 2 (by decide) hq)
            have HZ2 : Hid (B5 26 (w3.alloc (.cells (fldA Q) 55)) B (.slice none 0 0) (.slice none 0 0) (.slice none 0 0) (.slice none 0 0) (.slice none 0 0)) := HS2.out.zr
            have r0 := HZ2.out.c0
            have r1 := HZ2.out.c1
            have r2 := HZ2.out.c2
            have r3 := HZ2.out.c3
            have r4 := HZ2.out.c4
            have rf := HZ2.out.fr
            clear hq HE
            go_wp2_with (first | (refine wpl_alloc rfl rfl ?_) | (refine wpl_store_new Q (.tmp 9) (.tmp 37) rfl rfl rfl rfl ?_))
            refine bodyPost_ret (ret_c2 rfl rfl rfl (HZ2.out.set (.slice none 0 0) (.slice none 0 0) (.slice none 0 0) (.slice none 0 0) (.slice none 0 0))) rfl ?_
            subst hB
            exact pci_no HN.out (below_set5 HS2.out.be (Nat.le_refl _) _ _ _ _ _)
          | true =>
            have HTT : Hid (PiS w B R gp T ((w3.alloc (.cells (fldA Q) 55)).setCells R (2 * 60) (fldA Q).toList) (fun m => if m = 2 then Q else r m)) := HS2.out.put (by decide) _
            have HN : Hid ((∀ j, j < 2 + 1 → okF T j = true) ∧ ∀ j, j < 2 + 1 → (if j = 2 then Q else r j) = flF T j) := by
              refine ⟨fun j hj => ?_, fun j hj => ?_⟩
              · by_cases hjk : j = 2
                · subst hjk; exact hq
                · exact HE.out.1 j (by omega)
              · by_cases hjk : j = 2
                · rw [if_pos hjk, hjk]; exact HQ.out.symm
                · rw [if_neg hjk]; exact HE.out.2 j (by omega)
            clear hq HE
            go_wp2_with (first | (refine wpl_alloc rfl rfl ?_) | (refine wpl_store_new Q (.tmp 9) (.tmp 37) rfl rfl rfl rfl ?_) | (refine wpl_load HFB.out (.tmp 9) rfl rfl rfl ?_) | (refine wpr_storeSub HS2.out.z2 2 (by decide) Q (.tmp 44) (.tmp 43) rfl rfl rfl rfl ?_))
            go_roundw
            case rel => exact ⟨2 + 1, _, by decide, by go_num, HN, HTT⟩
            case measure => simp [intOf]
        · have g0 := (HG.out _ HS.out.be).at (2 * 3) _ rfl
          have g1 := (HG.out _ HS.out.be).at (2 * 3 + 1) _ rfl
          have c0 := HS.out.zp 3 t3 (by rw [HT.out]; rfl)
          go_wp2_with fail
          refine (HR3.out _ HS.out.be).mono ?_
          rintro x w3 ⟨rfl, hb3⟩
          obtain ⟨Q, HQ⟩ : ∃ Q, Hid (flF T 3 = Q) := ⟨_, rfl⟩
          rw [HQ.out]
          have HS2 : Hid (PiS w B R gp T (w3.alloc (.cells (fldA Q) 55)) r) := (HS.out.up hb3).up (ba (Below.refl _ _) _)
          have HFB : Hid (Fb 55 (w3.alloc (.cells (fldA Q) 55)) w3.heap.size Q) := Fb.new 55 _ _ rfl
          clear hb3 g0 g1 c0 HS
          cases hq : okF T 3 with
          | false =>
            have HN : Hid (pcO s = none) := HPE.out.trans (pcT_no HT.out 3 (by decide) hq)
            have HZ2 : Hid (B5 26 (w3.alloc (.cells (fldA Q) 55)) B (.slice none 0 0) (.slice none 0 0) (.slice none 0 0) (.slice none 0 0) (.slice none 0 0)) := HS2.out.zr
            have r0 := HZ2.out.c0
            have r1 := HZ2.out.c1
            have r2 := HZ2.out.c2
            have r3 := HZ2.out.c3
            have r4 := HZ2.out.c4
            have rf := HZ2.out.fr
            clear hq HE
            go_wp2_with (first | (refine wpl_alloc rfl rfl ?_) | (refine wpl_store_new Q (.tmp 9) (.tmp 37) rfl rfl rfl rfl ?_))
            refine bodyPost_ret (ret_c2 rfl rfl rfl (HZ2.out.set (.slice none 0 0) (.slice none 0 0) (.slice none 0 0) (.slice none 0 0) (.slice none 0 0))) rfl ?_
            subst hB
            exact pci_no HN.out (below_set5 HS2.out.be (Nat.le_refl _) _ _ _ _ _)
          | true =>
            have HTT : Hid (PiS w B R gp T ((w3.alloc (.cells (fldA Q) 55)).setCells R (3 * 60) (fldA Q).toList) (fun m => if m = 3 then Q else r m)) := HS2.out.put (by decide) _
            have HN : Hid ((∀ j, j < 3 + 1 → okF T j = true) ∧ ∀ j, j < 3 + 1 → (if j = 3 then Q else r j) = flF T j) := by
              refine ⟨fun j hj => ?_, fun j hj => ?_⟩
              · by_cases hjk : j = 3
                · subst hjk; exact hq
                · exact HE.out.1 j (by omega)
              · by_cases hjk : j = 3
                · rw [if_pos hjk, hjk]; exact HQ.out.symm
                · rw [if_neg hjk]; exact HE.out.2 j (by omega)
            clear hq HE
            go_wp2_with (first | (refine wpl_alloc rfl rfl ?_) | (refine wpl_store_new Q (.tmp 9) (.tmp 37) rfl rfl rfl rfl ?_) | (refine wpl_load HFB.out (.tmp 9) rfl rfl rfl ?_) | (refine wpr_storeSub HS2.out.z2 3 (by decide) Q (.tmp 44) (.tmp 43) rfl rfl rfl rfl ?_))
            go_roundw
            case rel => exact ⟨3 + 1, _, by decide, by go_num, HN, HTT⟩
            case measure => simp [intOf]
        · have g0 := (HG.out _ HS.out.be).at (2 * 4) _ rfl
          have g1 := (HG.out _ HS.out.be).at (2 * 4 + 1) _ rfl
          have c0 := HS.out.zp 4 t4 (by rw [HT.out]; rfl)
          go_wp2_with fail
          refine (HR4.out _ HS.out.be).mono ?_
          rintro x w3 ⟨rfl, hb3⟩
          obtain ⟨Q, HQ⟩ : ∃ Q, Hid (flF T 4 = Q) := ⟨_, rfl⟩
          rw [HQ.out]
          have HS2 : Hid (PiS w B R gp T (w3.alloc (.cells (fldA Q) 55)) r) := (HS.out.up hb3).up (ba (Below.refl _ _) _)
          have HFB : Hid (Fb 55 (w3.alloc (.cells (fldA Q) 55)) w3.heap.size Q) := Fb.new 55 _ _ rfl
          clear hb3 g0 g1 c0 HS
          cases hq : okF T 4 with
          | false =>
            have HN : Hid (pcO s = none) := HPE.out.trans (pcT_no HT.out 4 (by decide) hq)
            have HZ2 : Hid (B5 26 (w3.alloc (.cells (fldA Q) 55)) B (.slice none 0 0) (.slice none 0 0) (.slice none 0 0) (.slice none 0 0) (.slice none 0 0)) := HS2.out.zr
            have r0 := HZ2.out.c0
            have r1 := HZ2.out.c1
            have r2 := HZ2.out.c2
            have r3 := HZ2.out.c3
            have r4 := HZ2.out.c4
            have rf := HZ2.out.fr
            clear hq HE
            go_wp2_with (first | (refine wpl_alloc rfl rfl ?_) | (refine wpl_store_new Q (.tmp 9) (.tmp 37) rfl rfl rfl rfl ?_))
            refine bodyPost_ret (ret_c2 rfl rfl rfl (HZ2.out.set (.slice none 0 0) (.slice none 0 0) (.slice none 0 0) (.slice none 0 0) (.slice none 0 0))) rfl ?_
            subst hB
            exact pci_no HN.out (below_set5 HS2.out.be (Nat.le_refl _) _ _ _ _ _)
          | true =>
            have HTT : Hid (PiS w B R gp T ((w3.alloc (.cells (fldA Q) 55)).setCells R (4 * 60) (fldA Q).toList) (fun m => if m = 4 then Q else r m)) := HS2.out.put (by decide) _
            have HN : Hid ((∀ j, j < 4 + 1 → okF T j = true) ∧ ∀ j, j < 4 + 1 → (if j = 4 then Q else r j) = flF T j) := by
              refine ⟨fun j hj => ?_, fun j hj => ?_⟩
              · by_cases hjk : j = 4
                · subst hjk; exact hq
                · exact HE.out.1 j (by omega)
              · by_cases hjk : j = 4
                · rw [if_pos hjk, hjk]; exact HQ.out.symm
                · rw [if_neg hjk]; exact HE.out.2 j (by omega)
            clear hq HE
            go_wp2_with (first | (refine wpl_alloc rfl rfl ?_) | (refine wpl_store_new Q (.tmp 9) (.tmp 37) rfl rfl rfl rfl ?_) | (refine wpl_load HFB.out (.tmp 9) rfl rfl rfl ?_) | (refine wpr_storeSub HS2.out.z2 4 (by decide) Q (.tmp 44) (.tmp 43) rfl rfl rfl rfl ?_))
            go_roundw
            case rel => exact ⟨4 + 1, _, by decide, by go_num, HN, HTT⟩
            case measure => simp [intOf]
        · obtain ⟨L0, L1, L2, L3, L4, HL⟩ : ∃ L0 L1 L2 L3 L4, Hid (flL T 0 = L0 ∧ flL T 1 = L1 ∧ flL T 2 = L2 ∧ flL T 3 = L3 ∧ flL T 4 = L4) := ⟨_, _, _, _, _, rfl, rfl, rfl, rfl, rfl⟩
          have HY : Hid (pcO s = some [L0, L1, L2, L3, L4]) := by
            show _ = _
            rw [HPE.out, pcT_yes HT.out HE.out.1, HL.out.1, HL.out.2.1, HL.out.2.2.1, HL.out.2.2.2.1, HL.out.2.2.2.2]
          have HN0 : Hid (∀ W, Calls Tryd.prog 42 #[.agg (fldA (r 0))] W fun x w' => ∃ v, x = .returned v ∧ ownsR w' W.heap.size 3 v L0 ∧ Below W.heap.size W w') := fun W => by
            rw [← HL.out.1]
            exact nums_flags (by decide) (HE.out.2 0 (by decide)) W
          have HN1 : Hid (∀ W, Calls Tryd.prog 42 #[.agg (fldA (r 1))] W fun x w' => ∃ v, x = .returned v ∧ ownsR w' W.heap.size 3 v L1 ∧ Below W.heap.size W w') := fun W => by
            rw [← HL.out.2.1]
            exact nums_flags (by decide) (HE.out.2 1 (by decide)) W
          have HN2 : Hid (∀ W, Calls Tryd.prog 42 #[.agg (fldA (r 2))] W fun x w' => ∃ v, x = .returned v ∧ ownsR w' W.heap.size 3 v L2 ∧ Below W.heap.size W w') := fun W => by
            rw [← HL.out.2.2.1]
            exact nums_flags (by decide) (HE.out.2 2 (by decide)) W
          have HN3 : Hid (∀ W, Calls Tryd.prog 42 #[.agg (fldA (r 3))] W fun x w' => ∃ v, x = .returned v ∧ ownsR w' W.heap.size 3 v L3 ∧ Below W.heap.size W w') := fun W => by
            rw [← HL.out.2.2.2.1]
            exact nums_flags (by decide) (HE.out.2 3 (by decide)) W
          have HN4 : Hid (∀ W, Calls Tryd.prog 42 #[.agg (fldA (r 4))] W fun x w' => ∃ v, x = .returned v ∧ ownsR w' W.heap.size 3 v L4 ∧ Below W.heap.size W w') := fun W => by
            rw [← HL.out.2.2.2.2]
            exact nums_flags (by decide) (HE.out.2 4 (by decide)) W
          clear HE HL HR0 HR1 HR2 HR3 HR4 HG HT HPE
          have HRR : Hid (Rb wr.drew R r) := HS.out.z2
          have HZR : Hid (B5 26 wr.drew B (.slice none 0 0) (.slice none 0 0) (.slice none 0 0) (.slice none 0 0) (.slice none 0 0)) := HS.out.zr
          have HBE : Hid (Below B w wr.drew) := HS.out.be.drew
          have HRL : Hid (B < R) := HS.out.lt2
          clear HS
          haveI : Nonempty (Rrw R r) := ⟨⟨_, HRR.out⟩⟩
          go_wp2_with fail
          refine wp_region_pick (fun w' => ∃ x : Rrw R r, w' = x.at') [0, 1, 3, 4, 6, 7, 9, 10, 12, 13] 17 7 (by kernel_rfl) (by decide) (by decide) (by kernel_rfl) (fun _ _ d _ _ h => by cases d <;> exact h) ⟨⟨_, HRR.out⟩, rfl⟩ ?_
          refine wpTakes_l rfl (fun x h => by cases h) ?_
          go_big_quiet_step (fail)
          refine wpQuiet_nil ?_
          refine wpTakes_l rfl (fun x h => by cases h) (wpq_loadSub (fun _ ⟨x, hx⟩ => by rw [hx]; exact x.ok) 0 (by decide) (.tmp 46) rfl rfl rfl ?_)
          refine wpQuiet_nil ?_
          simp only [Act.put, List.setIfInBounds_toArray, List.set_cons_succ, List.set_cons_zero]
          refine wpTakes_l rfl (fun x h => by cases h) ?_
          go_big_quiet_step (fail)
          refine wpQuiet_nil ?_
          refine wpTakes_l rfl (fun x h => by cases h) (wpq_loadSub (fun _ ⟨x, hx⟩ => by rw [hx]; exact x.ok) 1 (by decide) (.tmp 49) rfl rfl rfl ?_)
          refine wpQuiet_nil ?_
          simp only [Act.put, List.setIfInBounds_toArray, List.set_cons_succ, List.set_cons_zero]
          refine wpTakes_l rfl (fun x h => by cases h) ?_
          go_big_quiet_step (fail)
          refine wpQuiet_nil ?_
          refine wpTakes_l rfl (fun x h => by cases h) (wpq_loadSub (fun _ ⟨x, hx⟩ => by rw [hx]; exact x.ok) 2 (by decide) (.tmp 52) rfl rfl rfl ?_)
          refine wpQuiet_nil ?_
          simp only [Act.put, List.setIfInBounds_toArray, List.set_cons_succ, List.set_cons_zero]
          refine wpTakes_l rfl (fun x h => by cases h) ?_
          go_big_quiet_step (fail)
          refine wpQuiet_nil ?_
          refine wpTakes_l rfl (fun x h => by cases h) (wpq_loadSub (fun _ ⟨x, hx⟩ => by rw [hx]; exact x.ok) 3 (by decide) (.tmp 55) rfl rfl rfl ?_)
          refine wpQuiet_nil ?_
          simp only [Act.put, List.setIfInBounds_toArray, List.set_cons_succ, List.set_cons_zero]
          refine wpTakes_l rfl (fun x h => by cases h) ?_
          go_big_quiet_step (fail)
          refine wpQuiet_nil ?_
          refine wpTakes_l rfl (fun x h => by cases h) (wpq_loadSub (fun _ ⟨x, hx⟩ => by rw [hx]; exact x.ok) 4 (by decide) (.tmp 58) rfl rfl rfl ?_)
          refine wpQuiet_nil ?_
          simp only [Act.put, List.setIfInBounds_toArray, List.set_cons_succ, List.set_cons_zero]
          refine takes_nil ?_
          refine any_one (fuel := 6) (i := 2) (by kernel_rfl) rfl rfl ?_
          intro K hK
          go_wp2_with fail
          refine (HN0.out _).mono ?_
          rintro z y0 ⟨v0, rfl, ho, hb⟩
          obtain ⟨a0, n0, d0, rfl⟩ := ho.slice3
          have HRR0 : Hid (Rb y0 R r) := HRR.out.up hb
          have HZR0 : Hid (B5 26 y0 B (.slice none 0 0) (.slice none 0 0) (.slice none 0 0) (.slice none 0 0) (.slice none 0 0)) := HZR.out.up hb
          have HBE0 : Hid (Below B w y0) := HBE.out.trans (hb.mono (by have := HZR.out.lt; omega))
          have O0_0 : Hid (ownsR y0 (B + 1) 3 (.slice a0 n0 d0) L0) := ho.mono HZR.out.lt
          clear ho hb
          go_wp2
          refine hK.out _ _ ⟨⟨_, HRR0.out⟩, rfl⟩ ?_
          clear hK K
          refine any_one (fuel := 5) (i := 5) (by kernel_rfl) rfl rfl ?_
          intro K hK
          go_wp2_with fail
          refine (HN1.out _).mono ?_
          rintro z y1 ⟨v1, rfl, ho, hb⟩
          obtain ⟨a1, n1, d1, rfl⟩ := ho.slice3
          have HRR1 : Hid (Rb y1 R r) := HRR0.out.up hb
          have HZR1 : Hid (B5 26 y1 B (.slice none 0 0) (.slice none 0 0) (.slice none 0 0) (.slice none 0 0) (.slice none 0 0)) := HZR0.out.up hb
          have HBE1 : Hid (Below B w y1) := HBE0.out.trans (hb.mono (by have := HZR0.out.lt; omega))
          have O0_1 : Hid (ownsR y1 (B + 1) 3 (.slice a0 n0 d0) L0) := O0_0.out.all hb
          have O1_1 : Hid (ownsR y1 (B + 1) 3 (.slice a1 n1 d1) L1) := ho.mono HZR0.out.lt
          have A01 : Hid (Apt (.slice a0 n0 d0) (.slice a1 n1 d1)) := apart_new O0_0.out ho
          clear ho hb
          go_wp2
          refine hK.out _ _ ⟨⟨_, HRR1.out⟩, rfl⟩ ?_
          clear hK K
          refine any_one (fuel := 4) (i := 8) (by kernel_rfl) rfl rfl ?_
          intro K hK
          go_wp2_with fail
          refine (HN2.out _).mono ?_
          rintro z y2 ⟨v2, rfl, ho, hb⟩
          obtain ⟨a2, n2, d2, rfl⟩ := ho.slice3
          have HRR2 : Hid (Rb y2 R r) := HRR1.out.up hb
          have HZR2 : Hid (B5 26 y2 B (.slice none 0 0) (.slice none 0 0) (.slice none 0 0) (.slice none 0 0) (.slice none 0 0)) := HZR1.out.up hb
          have HBE2 : Hid (Below B w y2) := HBE1.out.trans (hb.mono (by have := HZR1.out.lt; omega))
          have O0_2 : Hid (ownsR y2 (B + 1) 3 (.slice a0 n0 d0) L0) := O0_1.out.all hb
          have O1_2 : Hid (ownsR y2 (B + 1) 3 (.slice a1 n1 d1) L1) := O1_1.out.all hb
          have O2_2 : Hid (ownsR y2 (B + 1) 3 (.slice a2 n2 d2) L2) := ho.mono HZR1.out.lt
          have A02 : Hid (Apt (.slice a0 n0 d0) (.slice a2 n2 d2)) := apart_new O0_1.out ho
          have A12 : Hid (Apt (.slice a1 n1 d1) (.slice a2 n2 d2)) := apart_new O1_1.out ho
          clear ho hb
          go_wp2
          refine hK.out _ _ ⟨⟨_, HRR2.out⟩, rfl⟩ ?_
          clear hK K
          refine any_one (fuel := 3) (i := 11) (by kernel_rfl) rfl rfl ?_
          intro K hK
          go_wp2_with fail
          refine (HN3.out _).mono ?_
          rintro z y3 ⟨v3, rfl, ho, hb⟩
          obtain ⟨a3, n3, d3, rfl⟩ := ho.slice3
          have HRR3 : Hid (Rb y3 R r) := HRR2.out.up hb
          have HZR3 : Hid (B5 26 y3 B (.slice none 0 0) (.slice none 0 0) (.slice none 0 0) (.slice none 0 0) (.slice none 0 0)) := HZR2.out.up hb
          have HBE3 : Hid (Below B w y3) := HBE2.out.trans (hb.mono (by have := HZR2.out.lt; omega))
          have O0_3 : Hid (ownsR y3 (B + 1) 3 (.slice a0 n0 d0) L0) := O0_2.out.all hb
          have O1_3 : Hid (ownsR y3 (B + 1) 3 (.slice a1 n1 d1) L1) := O1_2.out.all hb
          have O2_3 : Hid (ownsR y3 (B + 1) 3 (.slice a2 n2 d2) L2) := O2_2.out.all hb
          have O3_3 : Hid (ownsR y3 (B + 1) 3 (.slice a3 n3 d3) L3) := ho.mono HZR2.out.lt
          have A03 : Hid (Apt (.slice a0 n0 d0) (.slice a3 n3 d3)) := apart_new O0_2.out ho
          have A13 : Hid (Apt (.slice a1 n1 d1) (.slice a3 n3 d3)) := apart_new O1_2.out ho
          have A23 : Hid (Apt (.slice a2 n2 d2) (.slice a3 n3 d3)) := apart_new O2_2.out ho
          clear ho hb
          go_wp2
          refine hK.out _ _ ⟨⟨_, HRR3.out⟩, rfl⟩ ?_
          clear hK K
          refine any_one (fuel := 2) (i := 14) (by kernel_rfl) rfl rfl ?_
          intro K hK
          go_wp2_with fail
          refine (HN4.out _).mono ?_
          rintro z y4 ⟨v4, rfl, ho, hb⟩
          obtain ⟨a4, n4, d4, rfl⟩ := ho.slice3
          have HRR4 : Hid (Rb y4 R r) := HRR3.out.up hb
          have HZR4 : Hid (B5 26 y4 B (.slice none 0 0) (.slice none 0 0) (.slice none 0 0) (.slice none 0 0) (.slice none 0 0)) := HZR3.out.up hb
          have HBE4 : Hid (Below B w y4) := HBE3.out.trans (hb.mono (by have := HZR3.out.lt; omega))
          have O0_4 : Hid (ownsR y4 (B + 1) 3 (.slice a0 n0 d0) L0) := O0_3.out.all hb
          have O1_4 : Hid (ownsR y4 (B + 1) 3 (.slice a1 n1 d1) L1) := O1_3.out.all hb
          have O2_4 : Hid (ownsR y4 (B + 1) 3 (.slice a2 n2 d2) L2) := O2_3.out.all hb
          have O3_4 : Hid (ownsR y4 (B + 1) 3 (.slice a3 n3 d3) L3) := O3_3.out.all hb
          have O4_4 : Hid (ownsR y4 (B + 1) 3 (.slice a4 n4 d4) L4) := ho.mono HZR3.out.lt
          have A04 : Hid (Apt (.slice a0 n0 d0) (.slice a4 n4 d4)) := apart_new O0_3.out ho
          have A14 : Hid (Apt (.slice a1 n1 d1) (.slice a4 n4 d4)) := apart_new O1_3.out ho
          have A24 : Hid (Apt (.slice a2 n2 d2) (.slice a4 n4 d4)) := apart_new O2_3.out ho
          have A34 : Hid (Apt (.slice a3 n3 d3) (.slice a4 n4 d4)) := apart_new O3_3.out ho
          clear ho hb
          go_wp2
          refine hK.out _ _ ⟨⟨_, HRR4.out⟩, rfl⟩ ?_
          clear hK K
          refine any_one (fuel := 1) (i := 15) (by kernel_rfl) rfl rfl ?_
          intro K hK
          go_wp2
          refine hK.out _ _ ⟨⟨_, HRR4.out⟩, rfl⟩ ?_
          clear hK K
          refine any_one (fuel := 0) (i := 16) (by kernel_rfl) rfl rfl ?_
          intro K hK
          have r0 := HZR4.out.c0
          have r1 := HZR4.out.c1
          have r2 := HZR4.out.c2
          have r3 := HZR4.out.c3
          have r4 := HZR4.out.c4
          have rf := HZR4.out.fr
          go_wp2
          refine hK.out _ _ ⟨⟨_, HRR4.out.set5 (fun e => by have := HRL.out; omega) _ _ _ _ _⟩, rfl⟩ ?_
          clear hK K r0 r1 r2 r3 r4 rf
          refine any_done (by kernel_rfl) ?_
          simp only [List.drop_succ_cons, List.drop_zero]
          go_wp2
          refine bodyPost_ret (ret_c2 rfl rfl rfl (HZR4.out.set (.slice a0 n0 d0) (.slice a1 n1 d1) (.slice a2 n2 d2) (.slice a3 n3 d3) (.slice a4 n4 d4))) rfl ?_
          subst hB
          refine ⟨_, _, _, _, _, by rw [HY.out]; rfl, ?_, ?_, ?_, ?_, ?_, below_set5 HBE4.out (Nat.le_refl _) _ _ _ _ _, ⟨A01.out, A02.out, A03.out, A04.out, A12.out, A13.out, A14.out, A23.out, A24.out, A34.out⟩⟩
          · rw [HY.out]; exact (ownsR_set5 O0_4.out (Nat.lt_succ_self _) _ _ _ _ _).mono (Nat.le_succ _)
          · rw [HY.out]; exact (ownsR_set5 O1_4.out (Nat.lt_succ_self _) _ _ _ _ _).mono (Nat.le_succ _)
          · rw [HY.out]; exact (ownsR_set5 O2_4.out (Nat.lt_succ_self _) _ _ _ _ _).mono (Nat.le_succ _)
          · rw [HY.out]; exact (ownsR_set5 O3_4.out (Nat.lt_succ_self _) _ _ _ _ _).mono (Nat.le_succ _)
          · rw [HY.out]; exact (ownsR_set5 O4_4.out (Nat.lt_succ_self _) _ _ _ _ _).mono (Nat.le_succ _)
    · have HN : Hid (pcO s = none) := by show _ = _; unfold pcO; rw [hok, pcT_len h5]; rfl
      clear HOP hok
      generalize (texts (partsR s).1).length = n at h5
      have h5' : ¬ ((n : Int) = 5) := by omega
      go_wp2
      refine bodyPost_ret (ret_c2 rfl rfl rfl (HZR.out.set (.slice none 0 0) (.slice none 0 0) (.slice none 0 0) (.slice none 0 0) (.slice none 0 0))) rfl ?_
      exact pci_no HN.out (below_set5 B1 (Nat.le_refl _) _ _ _ _ _)
end Go.Proofs.YtgeimliibddhmaaDoor

namespace Go.Proofs.YtgeimliibddhmaaDoor
open Go Go.RowKit
set_option linter.unusedVariables false

set_option maxHeartbeats 1000000 in
theorem markFrom_some (g n c B : Nat) (x : Int) (l : List Int) (w : World) (ho : ownsR w B 3 (.slice (some ⟨g, 0, none⟩) n c) l) (hn : n ≤ 1048577) (hx0 : 0 ≤ x) (hx : x ≤ 1073741824) :
    Calls Tryd.prog 62 #[.slice (some ⟨g, 0, none⟩) n c, .int .i64 x] w fun e w' => e = .returned (.int .i64 (x + (n : Int))) ∧ ownsR w' B 3 (.slice (some ⟨g, 0, none⟩) n c) (marksR id 1 x l.length) ∧ w.grownBy w' (some g) := by
  have HN : Hid (n = l.length) := ho.reads.len
  have HO : Hid (ownsR w B 3 (.slice (some ⟨g, 0, none⟩) n c) (markedR id 1 x l 0)) := markedR_zero ho
  clear ho
  go_enter Tryd.func62, Tryd.ntmps62
  go_wp2
  go_loopw [1, 5] (fun q i wr => ∃ k : Nat, k ≤ n ∧ i = .int .i64 k ∧ q = .int .i64 (x + (k : Int)) ∧ Hid (ownsR wr B 3 (.slice (some ⟨g, 0, none⟩) n c) (markedR id 1 x l k)) ∧ w.grownBy wr (some g)) (fun _ i _ => n - (intOf i).toNat)
  case atStart => exact ⟨0, Nat.zero_le _, rfl, by simp, HO, grown_refl _ _⟩
  case round =>
    obtain ⟨k, hk, rfl, rfl, HL, hbel⟩ := hrel
    by_cases hlt : k < n
    · obtain ⟨y, hy⟩ : ∃ y, l[k]? = some y := ⟨_, List.getElem?_eq_getElem (by rw [← HN.out]; exact hlt)⟩
      obtain ⟨hgs, d0, f0⟩ := int_own HL.out (markedR_at hy)
      have R := int_put HL.out (x + (k : Int)) (markedR_at hy)
      have e := markedR_set (mk := id) (s := 1) (x := x) hy
      rw [show id (x + 1 * (k : Int)) = x + (k : Int) by simp] at e
      rw [e] at R
      have HR : Hid (ownsR (wr.setCell ⟨g, k, none⟩ (.int .i64 (x + (k : Int)))) B 3 (.slice (some ⟨g, 0, none⟩) n c) (markedR id 1 x l (k + 1))) := R
      clear R e hy
      go_wp2
      go_roundw
      case rel => exact ⟨k + 1, by omega, by go_num, by go_num, HR, grown_trans hbel (grown_set _ _ _ _)⟩
      case measure => simp [intOf]; omega
    · have hkn : k = l.length := by rw [← HN.out]; omega
      have R : ownsR wr B 3 (.slice (some ⟨g, 0, none⟩) n c) (marksR id 1 x l.length) := by
        have := HL.out
        rw [hkn, markedR_all] at this
        exact this
      have e : (k : Int) = n := by rw [HN.out, hkn]
      clear hkn
      go_wp2
      go_ret
      exact ⟨by rw [← e]; rfl, R, hbel⟩
theorem ownsR_nil' (w : World) (B : Nat) : ownsR w B 3 (.slice none 0 0) ([] : List Int) := ownsR_none w B 3
theorem markFrom_any {w : World} {B : Nat} {x : Int} {v : Value} {l : List Int} (ho : ownsR w B 3 v l) (hn : l.length ≤ 1048577) (hx0 : 0 ≤ x) (hx : x ≤ 1073741824) :
    Calls Tryd.prog 62 #[v, .int .i64 x] w fun e w' => e = .returned (.int .i64 (x + (l.length : Int))) ∧ ownsR w' B 3 v (marksR id 1 x l.length) ∧ w.grownBy w' v.ownBlock := by
  rcases ho.2 with ⟨rfl, h0⟩ | ⟨g, cap, cur, rfl, _⟩
  · rw [h0]
    have h := markIntS_none none 0 x.toNat w
    rw [Int.toNat_of_nonneg hx0] at h
    exact h.mono fun e w' ⟨he, hb⟩ => ⟨by rw [he]; simp, ownsR_nil' _ _, grown_of_below hb _⟩
  · exact markFrom_some g l.length cap B x l w ho hn hx0 hx

set_option maxHeartbeats 1000000 in
theorem heldFrom_try (ao : Option Addr) (n c : Nat) (x : Int) (w : World) (hr : Reads w (.slice ao n c) (marksR (id : Int → Int) 1 x n)) (hn : n ≤ 1048577) (hx0 : 0 ≤ x) (hx : x ≤ 1073741824) :
    Calls Tryd.prog 63 #[.slice ao n c, .int .i64 x] w fun e w' => e = .returned (.int .i64 (x + (n : Int))) ∧ w' = w := by
  have HR : Hid (Reads w (.slice ao n c) (marksR (id : Int → Int) 1 x n)) := hr
  clear hr
  go_enter Tryd.func63, Tryd.ntmps63
  go_wp2
  go_loopw [1, 5] (fun q i wr => ∃ k : Nat, k ≤ n ∧ i = .int .i64 k ∧ q = .int .i64 (x + (k : Int)) ∧ wr = w) (fun _ i _ => n - (intOf i).toNat)
  case atStart => exact ⟨0, Nat.zero_le _, rfl, by simp, rfl⟩
  case round =>
    obtain ⟨k, hk, rfl, rfl, rfl⟩ := hrel
    by_cases hlt : k < n
    · have hy := marksR_at (mk := (id : Int → Int)) (s := 1) (x := x) hlt
      rw [show id (x + 1 * (k : Int)) = x + (k : Int) by simp] at hy
      obtain ⟨b, o, rfl, hb, c0⟩ := int_at HR.out hy
      clear hy
      go_wp2
      go_roundw
      case rel => exact ⟨k + 1, by omega, by go_num, by go_num, trivial⟩
      case measure => simp [intOf]; omega
    · have hkn : k = n := by omega
      subst hkn
      go_wp2
      go_ret
      exact ⟨rfl, rfl⟩
theorem heldFrom_any {w : World} {v : Value} {n : Nat} {x : Int} (hr : Reads w v (marksR (id : Int → Int) 1 x n)) (hn : n ≤ 1048577) (hx0 : 0 ≤ x) (hx : x ≤ 1073741824) :
    Calls Tryd.prog 63 #[v, .int .i64 x] w fun e w' => e = .returned (.int .i64 (x + (n : Int))) ∧ w' = w := by
  obtain ⟨ao, c, rfl, _⟩ := id hr
  rw [marksR_length] at hr ⊢
  exact heldFrom_try ao n c x w hr hn hx0 hx
/-- The rows bear their marks. -/
structure Mk5 (W : World) (G : Nat) (v0 v1 v2 v3 v4 : Value) (l0 l1 l2 l3 l4 : List Int) (m0 m1 m2 m3 m4 : Int) : Prop where
  o0 : ownsR W G 3 v0 (marksR (id : Int → Int) 1 (1) l0.length)
  o1 : ownsR W G 3 v1 (marksR (id : Int → Int) 1 (1 + m0) l1.length)
  o2 : ownsR W G 3 v2 (marksR (id : Int → Int) 1 (1 + m0 + m1) l2.length)
  o3 : ownsR W G 3 v3 (marksR (id : Int → Int) 1 (1 + m0 + m1 + m2) l3.length)
  o4 : ownsR W G 3 v4 (marksR (id : Int → Int) 1 (1 + m0 + m1 + m2 + m3) l4.length)
theorem Mk5.up {W W' : World} {G : Nat} {v0 v1 v2 v3 v4 : Value} {l0 l1 l2 l3 l4 : List Int} {m0 m1 m2 m3 m4 : Int} (h : Mk5 W G v0 v1 v2 v3 v4 l0 l1 l2 l3 l4 m0 m1 m2 m3 m4) (hb : Below W.heap.size W W') : Mk5 W' G v0 v1 v2 v3 v4 l0 l1 l2 l3 l4 m0 m1 m2 m3 m4 :=
  ⟨h.o0.all hb, h.o1.all hb, h.o2.all hb, h.o3.all hb, h.o4.all hb⟩
/-- The blocks that are none of five rows' are as they were. -/
def Kp5 (W W' : World) (v0 v1 v2 v3 v4 : Value) : Prop := ∀ b, b < W.heap.size → some b ≠ v0.ownBlock → some b ≠ v1.ownBlock → some b ≠ v2.ownBlock → some b ≠ v3.ownBlock → some b ≠ v4.ownBlock → W'.heap[b]? = W.heap[b]?
set_option maxRecDepth 10000 in
set_option maxHeartbeats 4000000 in
theorem markCron_any (a0 : Option Addr) (n0 c0 : Nat) (l0 : List Int) (a1 : Option Addr) (n1 c1 : Nat) (l1 : List Int) (a2 : Option Addr) (n2 c2 : Nat) (l2 : List Int) (a3 : Option Addr) (n3 c3 : Nat) (l3 : List Int) (a4 : Option Addr) (n4 c4 : Nat) (l4 : List Int) (m0 m1 m2 m3 m4 : Int) (G : Nat) (w : World) (hG : G ≤ w.heap.size) (h0 : ownsR w G 3 (Value.slice a0 n0 c0) l0) (e0 : (l0.length : Int) = m0) (x0 : m0 ≤ 1000) (h1 : ownsR w G 3 (Value.slice a1 n1 c1) l1) (e1 : (l1.length : Int) = m1) (x1 : m1 ≤ 1000) (h2 : ownsR w G 3 (Value.slice a2 n2 c2) l2) (e2 : (l2.length : Int) = m2) (x2 : m2 ≤ 1000) (h3 : ownsR w G 3 (Value.slice a3 n3 c3) l3) (e3 : (l3.length : Int) = m3) (x3 : m3 ≤ 1000) (h4 : ownsR w G 3 (Value.slice a4 n4 c4) l4) (e4 : (l4.length : Int) = m4) (x4 : m4 ≤ 1000) (hA : Ap5 (Value.slice a0 n0 c0) (Value.slice a1 n1 c1) (Value.slice a2 n2 c2) (Value.slice a3 n3 c3) (Value.slice a4 n4 c4)) :
    Calls Tryd.prog 31 #[.agg #[Value.slice a0 n0 c0, Value.slice a1 n1 c1, Value.slice a2 n2 c2, Value.slice a3 n3 c3, Value.slice a4 n4 c4], .int .i64 1] w fun e w' => e = .returned (.int .i64 (1 + m0 + m1 + m2 + m3 + m4)) ∧ Mk5 w' G (Value.slice a0 n0 c0) (Value.slice a1 n1 c1) (Value.slice a2 n2 c2) (Value.slice a3 n3 c3) (Value.slice a4 n4 c4) l0 l1 l2 l3 l4 m0 m1 m2 m3 m4 ∧ Below G w w' ∧ Kp5 w w' (Value.slice a0 n0 c0) (Value.slice a1 n1 c1) (Value.slice a2 n2 c2) (Value.slice a3 n3 c3) (Value.slice a4 n4 c4) := by
  have g0 : 0 ≤ m0 := by omega
  have HC0 : Hid (∀ (x : Int) (W : World), ownsR W G 3 (Value.slice a0 n0 c0) l0 → 0 ≤ x → x ≤ 100000 → Calls Tryd.prog 62 #[Value.slice a0 n0 c0, .int .i64 x] W fun e w' => e = .returned (.int .i64 (x + m0)) ∧ ownsR w' G 3 (Value.slice a0 n0 c0) (marksR id 1 x l0.length) ∧ W.grownBy w' (Value.slice a0 n0 c0).ownBlock) := fun x W ho hx0 hx => by
    rw [← e0]
    exact markFrom_any ho (by omega) hx0 (by omega)
  have HE0 : Hid (some w.heap.size ≠ (Value.slice a0 n0 c0).ownBlock) := fun e => absurd (h0.lt _ e.symm).2 (Nat.lt_irrefl _)
  have HB0 : Hid (∀ W, ownsR W G 3 (Value.slice a0 n0 c0) l0 → ∀ j, (Value.slice a0 n0 c0).ownBlock = some j → G ≤ j) := fun W ho j hj => (ho.lt j hj).1
  have g1 : 0 ≤ m1 := by omega
  have HC1 : Hid (∀ (x : Int) (W : World), ownsR W G 3 (Value.slice a1 n1 c1) l1 → 0 ≤ x → x ≤ 100000 → Calls Tryd.prog 62 #[Value.slice a1 n1 c1, .int .i64 x] W fun e w' => e = .returned (.int .i64 (x + m1)) ∧ ownsR w' G 3 (Value.slice a1 n1 c1) (marksR id 1 x l1.length) ∧ W.grownBy w' (Value.slice a1 n1 c1).ownBlock) := fun x W ho hx0 hx => by
    rw [← e1]
    exact markFrom_any ho (by omega) hx0 (by omega)
  have HE1 : Hid (some w.heap.size ≠ (Value.slice a1 n1 c1).ownBlock) := fun e => absurd (h1.lt _ e.symm).2 (Nat.lt_irrefl _)
  have HB1 : Hid (∀ W, ownsR W G 3 (Value.slice a1 n1 c1) l1 → ∀ j, (Value.slice a1 n1 c1).ownBlock = some j → G ≤ j) := fun W ho j hj => (ho.lt j hj).1
  have g2 : 0 ≤ m2 := by omega
  have HC2 : Hid (∀ (x : Int) (W : World), ownsR W G 3 (Value.slice a2 n2 c2) l2 → 0 ≤ x → x ≤ 100000 → Calls Tryd.prog 62 #[Value.slice a2 n2 c2, .int .i64 x] W fun e w' => e = .returned (.int .i64 (x + m2)) ∧ ownsR w' G 3 (Value.slice a2 n2 c2) (marksR id 1 x l2.length) ∧ W.grownBy w' (Value.slice a2 n2 c2).ownBlock) := fun x W ho hx0 hx => by
    rw [← e2]
    exact markFrom_any ho (by omega) hx0 (by omega)
  have HE2 : Hid (some w.heap.size ≠ (Value.slice a2 n2 c2).ownBlock) := fun e => absurd (h2.lt _ e.symm).2 (Nat.lt_irrefl _)
  have HB2 : Hid (∀ W, ownsR W G 3 (Value.slice a2 n2 c2) l2 → ∀ j, (Value.slice a2 n2 c2).ownBlock = some j → G ≤ j) := fun W ho j hj => (ho.lt j hj).1
  have g3 : 0 ≤ m3 := by omega
  have HC3 : Hid (∀ (x : Int) (W : World), ownsR W G 3 (Value.slice a3 n3 c3) l3 → 0 ≤ x → x ≤ 100000 → Calls Tryd.prog 62 #[Value.slice a3 n3 c3, .int .i64 x] W fun e w' => e = .returned (.int .i64 (x + m3)) ∧ ownsR w' G 3 (Value.slice a3 n3 c3) (marksR id 1 x l3.length) ∧ W.grownBy w' (Value.slice a3 n3 c3).ownBlock) := fun x W ho hx0 hx => by
    rw [← e3]
    exact markFrom_any ho (by omega) hx0 (by omega)
  have HE3 : Hid (some w.heap.size ≠ (Value.slice a3 n3 c3).ownBlock) := fun e => absurd (h3.lt _ e.symm).2 (Nat.lt_irrefl _)
  have HB3 : Hid (∀ W, ownsR W G 3 (Value.slice a3 n3 c3) l3 → ∀ j, (Value.slice a3 n3 c3).ownBlock = some j → G ≤ j) := fun W ho j hj => (ho.lt j hj).1
  have g4 : 0 ≤ m4 := by omega
  have HC4 : Hid (∀ (x : Int) (W : World), ownsR W G 3 (Value.slice a4 n4 c4) l4 → 0 ≤ x → x ≤ 100000 → Calls Tryd.prog 62 #[Value.slice a4 n4 c4, .int .i64 x] W fun e w' => e = .returned (.int .i64 (x + m4)) ∧ ownsR w' G 3 (Value.slice a4 n4 c4) (marksR id 1 x l4.length) ∧ W.grownBy w' (Value.slice a4 n4 c4).ownBlock) := fun x W ho hx0 hx => by
    rw [← e4]
    exact markFrom_any ho (by omega) hx0 (by omega)
  have HE4 : Hid (some w.heap.size ≠ (Value.slice a4 n4 c4).ownBlock) := fun e => absurd (h4.lt _ e.symm).2 (Nat.lt_irrefl _)
  have HB4 : Hid (∀ W, ownsR W G 3 (Value.slice a4 n4 c4) l4 → ∀ j, (Value.slice a4 n4 c4).ownBlock = some j → G ≤ j) := fun W ho j hj => (ho.lt j hj).1
  have HA : Hid (Ap5 (Value.slice a0 n0 c0) (Value.slice a1 n1 c1) (Value.slice a2 n2 c2) (Value.slice a3 n3 c3) (Value.slice a4 n4 c4)) := hA
  obtain ⟨V0, HV⟩ : ∃ V, Hid (w.alloc (.cells #[Value.slice a0 n0 c0, Value.slice a1 n1 c1, Value.slice a2 n2 c2, Value.slice a3 n3 c3, Value.slice a4 n4 c4] 26) = V) := ⟨_, rfl⟩
  have HZ0 : Hid (B5 26 V0 w.heap.size (Value.slice a0 n0 c0) (Value.slice a1 n1 c1) (Value.slice a2 n2 c2) (Value.slice a3 n3 c3) (Value.slice a4 n4 c4)) := by show B5 _ _ _ _ _ _ _ _; rw [← HV.out]; exact B5.new 26 w (Value.slice a0 n0 c0) (Value.slice a1 n1 c1) (Value.slice a2 n2 c2) (Value.slice a3 n3 c3) (Value.slice a4 n4 c4)
  have HBB0 : Hid (Below G w V0) := by show Below _ _ _; rw [← HV.out]; exact (Below.refl _ _).alloc hG _
  have HK0 : Hid (Kp5 w V0 (Value.slice a0 n0 c0) (Value.slice a1 n1 c1) (Value.slice a2 n2 c2) (Value.slice a3 n3 c3) (Value.slice a4 n4 c4)) := by
    show Kp5 _ _ _ _ _ _ _
    rw [← HV.out]
    intro b hb _ _ _ _ _
    exact (ba (Below.refl _ _) _ : Below w.heap.size w (w.alloc (.cells #[Value.slice a0 n0 c0, Value.slice a1 n1 c1, Value.slice a2 n2 c2, Value.slice a3 n3 c3, Value.slice a4 n4 c4] 26))).block b hb
  have HWS : Hid (w.heap.size ≤ V0.heap.size) := by show _ ≤ _; rw [← HV.out]; simp
  have HG0 : Hid (G ≤ V0.heap.size) := Nat.le_trans hG HWS.out
  have O0_0 : Hid (ownsR V0 G 3 (Value.slice a0 n0 c0) l0) := by show ownsR _ _ _ _ _; rw [← HV.out]; exact h0.alloc _
  have O1_0 : Hid (ownsR V0 G 3 (Value.slice a1 n1 c1) l1) := by show ownsR _ _ _ _ _; rw [← HV.out]; exact h1.alloc _
  have O2_0 : Hid (ownsR V0 G 3 (Value.slice a2 n2 c2) l2) := by show ownsR _ _ _ _ _; rw [← HV.out]; exact h2.alloc _
  have O3_0 : Hid (ownsR V0 G 3 (Value.slice a3 n3 c3) l3) := by show ownsR _ _ _ _ _; rw [← HV.out]; exact h3.alloc _
  have O4_0 : Hid (ownsR V0 G 3 (Value.slice a4 n4 c4) l4) := by show ownsR _ _ _ _ _; rw [← HV.out]; exact h4.alloc _
  clear h0 h1 h2 h3 h4 hA e0 e1 e2 e3 e4
  go_enter Tryd.func31, Tryd.ntmps31
  have q0 := HZ0.out.c0
  go_wp2_with (rw [HV.out])
  clear HV
  refine (HC0.out _ _ O0_0.out (by omega) (by omega)).mono ?_
  rintro e y1 ⟨rfl, hm, hg⟩
  have HZ1 : Hid (B5 26 y1 w.heap.size (Value.slice a0 n0 c0) (Value.slice a1 n1 c1) (Value.slice a2 n2 c2) (Value.slice a3 n3 c3) (Value.slice a4 n4 c4)) := HZ0.out.grown hg HE0.out
  have HBB1 : Hid (Below G w y1) := HBB0.out.grown hg HG0.out (HB0.out _ O0_0.out)
  have HG1 : Hid (G ≤ y1.heap.size) := Nat.le_trans HG0.out hg.size
  have HK1 : Hid (Kp5 w y1 (Value.slice a0 n0 c0) (Value.slice a1 n1 c1) (Value.slice a2 n2 c2) (Value.slice a3 n3 c3) (Value.slice a4 n4 c4)) := fun b hb r0 r1 r2 r3 r4 => (hg.block b (Nat.lt_of_lt_of_le hb HWS.out) r0).trans (HK0.out b hb r0 r1 r2 r3 r4)
  have HW1 : Hid (w.heap.size ≤ y1.heap.size) := Nat.le_trans HWS.out hg.size
  have O1_1 : Hid (ownsR y1 G 3 (Value.slice a1 n1 c1) l1) := O1_0.out.other hg (HA.out.a01).symm
  have O2_1 : Hid (ownsR y1 G 3 (Value.slice a2 n2 c2) l2) := O2_0.out.other hg (HA.out.a02).symm
  have O3_1 : Hid (ownsR y1 G 3 (Value.slice a3 n3 c3) l3) := O3_0.out.other hg (HA.out.a03).symm
  have O4_1 : Hid (ownsR y1 G 3 (Value.slice a4 n4 c4) l4) := O4_0.out.other hg (HA.out.a04).symm
  have P0_1 : Hid (ownsR y1 G 3 (Value.slice a0 n0 c0) (marksR (id : Int → Int) 1 (1) l0.length)) := hm
  clear hm hg q0 HZ0
  have q0 := HZ1.out.c1
  go_wp2_with fail
  refine (HC1.out _ _ O1_1.out (by omega) (by omega)).mono ?_
  rintro e y2 ⟨rfl, hm, hg⟩
  have HZ2 : Hid (B5 26 y2 w.heap.size (Value.slice a0 n0 c0) (Value.slice a1 n1 c1) (Value.slice a2 n2 c2) (Value.slice a3 n3 c3) (Value.slice a4 n4 c4)) := HZ1.out.grown hg HE1.out
  have HBB2 : Hid (Below G w y2) := HBB1.out.grown hg HG1.out (HB1.out _ O1_1.out)
  have HG2 : Hid (G ≤ y2.heap.size) := Nat.le_trans HG1.out hg.size
  have HK2 : Hid (Kp5 w y2 (Value.slice a0 n0 c0) (Value.slice a1 n1 c1) (Value.slice a2 n2 c2) (Value.slice a3 n3 c3) (Value.slice a4 n4 c4)) := fun b hb r0 r1 r2 r3 r4 => (hg.block b (Nat.lt_of_lt_of_le hb HW1.out) r1).trans (HK1.out b hb r0 r1 r2 r3 r4)
  have HW2 : Hid (w.heap.size ≤ y2.heap.size) := Nat.le_trans HW1.out hg.size
  have O2_2 : Hid (ownsR y2 G 3 (Value.slice a2 n2 c2) l2) := O2_1.out.other hg (HA.out.a12).symm
  have O3_2 : Hid (ownsR y2 G 3 (Value.slice a3 n3 c3) l3) := O3_1.out.other hg (HA.out.a13).symm
  have O4_2 : Hid (ownsR y2 G 3 (Value.slice a4 n4 c4) l4) := O4_1.out.other hg (HA.out.a14).symm
  have P0_2 : Hid (ownsR y2 G 3 (Value.slice a0 n0 c0) (marksR (id : Int → Int) 1 (1) l0.length)) := P0_1.out.other hg HA.out.a01
  have P1_2 : Hid (ownsR y2 G 3 (Value.slice a1 n1 c1) (marksR (id : Int → Int) 1 (1 + m0) l1.length)) := hm
  clear hm hg q0 HZ1
  have q0 := HZ2.out.c2
  go_wp2_with fail
  refine (HC2.out _ _ O2_2.out (by omega) (by omega)).mono ?_
  rintro e y3 ⟨rfl, hm, hg⟩
  have HZ3 : Hid (B5 26 y3 w.heap.size (Value.slice a0 n0 c0) (Value.slice a1 n1 c1) (Value.slice a2 n2 c2) (Value.slice a3 n3 c3) (Value.slice a4 n4 c4)) := HZ2.out.grown hg HE2.out
  have HBB3 : Hid (Below G w y3) := HBB2.out.grown hg HG2.out (HB2.out _ O2_2.out)
  have HG3 : Hid (G ≤ y3.heap.size) := Nat.le_trans HG2.out hg.size
  have HK3 : Hid (Kp5 w y3 (Value.slice a0 n0 c0) (Value.slice a1 n1 c1) (Value.slice a2 n2 c2) (Value.slice a3 n3 c3) (Value.slice a4 n4 c4)) := fun b hb r0 r1 r2 r3 r4 => (hg.block b (Nat.lt_of_lt_of_le hb HW2.out) r2).trans (HK2.out b hb r0 r1 r2 r3 r4)
  have HW3 : Hid (w.heap.size ≤ y3.heap.size) := Nat.le_trans HW2.out hg.size
  have O3_3 : Hid (ownsR y3 G 3 (Value.slice a3 n3 c3) l3) := O3_2.out.other hg (HA.out.a23).symm
  have O4_3 : Hid (ownsR y3 G 3 (Value.slice a4 n4 c4) l4) := O4_2.out.other hg (HA.out.a24).symm
  have P0_3 : Hid (ownsR y3 G 3 (Value.slice a0 n0 c0) (marksR (id : Int → Int) 1 (1) l0.length)) := P0_2.out.other hg HA.out.a02
  have P1_3 : Hid (ownsR y3 G 3 (Value.slice a1 n1 c1) (marksR (id : Int → Int) 1 (1 + m0) l1.length)) := P1_2.out.other hg HA.out.a12
  have P2_3 : Hid (ownsR y3 G 3 (Value.slice a2 n2 c2) (marksR (id : Int → Int) 1 (1 + m0 + m1) l2.length)) := hm
  clear hm hg q0 HZ2
  have q0 := HZ3.out.c3
  go_wp2_with fail
  refine (HC3.out _ _ O3_3.out (by omega) (by omega)).mono ?_
  rintro e y4 ⟨rfl, hm, hg⟩
  have HZ4 : Hid (B5 26 y4 w.heap.size (Value.slice a0 n0 c0) (Value.slice a1 n1 c1) (Value.slice a2 n2 c2) (Value.slice a3 n3 c3) (Value.slice a4 n4 c4)) := HZ3.out.grown hg HE3.out
  have HBB4 : Hid (Below G w y4) := HBB3.out.grown hg HG3.out (HB3.out _ O3_3.out)
  have HG4 : Hid (G ≤ y4.heap.size) := Nat.le_trans HG3.out hg.size
  have HK4 : Hid (Kp5 w y4 (Value.slice a0 n0 c0) (Value.slice a1 n1 c1) (Value.slice a2 n2 c2) (Value.slice a3 n3 c3) (Value.slice a4 n4 c4)) := fun b hb r0 r1 r2 r3 r4 => (hg.block b (Nat.lt_of_lt_of_le hb HW3.out) r3).trans (HK3.out b hb r0 r1 r2 r3 r4)
  have HW4 : Hid (w.heap.size ≤ y4.heap.size) := Nat.le_trans HW3.out hg.size
  have O4_4 : Hid (ownsR y4 G 3 (Value.slice a4 n4 c4) l4) := O4_3.out.other hg (HA.out.a34).symm
  have P0_4 : Hid (ownsR y4 G 3 (Value.slice a0 n0 c0) (marksR (id : Int → Int) 1 (1) l0.length)) := P0_3.out.other hg HA.out.a03
  have P1_4 : Hid (ownsR y4 G 3 (Value.slice a1 n1 c1) (marksR (id : Int → Int) 1 (1 + m0) l1.length)) := P1_3.out.other hg HA.out.a13
  have P2_4 : Hid (ownsR y4 G 3 (Value.slice a2 n2 c2) (marksR (id : Int → Int) 1 (1 + m0 + m1) l2.length)) := P2_3.out.other hg HA.out.a23
  have P3_4 : Hid (ownsR y4 G 3 (Value.slice a3 n3 c3) (marksR (id : Int → Int) 1 (1 + m0 + m1 + m2) l3.length)) := hm
  clear hm hg q0 HZ3
  have q0 := HZ4.out.c4
  go_wp2_with fail
  refine (HC4.out _ _ O4_4.out (by omega) (by omega)).mono ?_
  rintro e y5 ⟨rfl, hm, hg⟩
  have HZ5 : Hid (B5 26 y5 w.heap.size (Value.slice a0 n0 c0) (Value.slice a1 n1 c1) (Value.slice a2 n2 c2) (Value.slice a3 n3 c3) (Value.slice a4 n4 c4)) := HZ4.out.grown hg HE4.out
  have HBB5 : Hid (Below G w y5) := HBB4.out.grown hg HG4.out (HB4.out _ O4_4.out)
  have HG5 : Hid (G ≤ y5.heap.size) := Nat.le_trans HG4.out hg.size
  have HK5 : Hid (Kp5 w y5 (Value.slice a0 n0 c0) (Value.slice a1 n1 c1) (Value.slice a2 n2 c2) (Value.slice a3 n3 c3) (Value.slice a4 n4 c4)) := fun b hb r0 r1 r2 r3 r4 => (hg.block b (Nat.lt_of_lt_of_le hb HW4.out) r4).trans (HK4.out b hb r0 r1 r2 r3 r4)
  have HW5 : Hid (w.heap.size ≤ y5.heap.size) := Nat.le_trans HW4.out hg.size
  have P0_5 : Hid (ownsR y5 G 3 (Value.slice a0 n0 c0) (marksR (id : Int → Int) 1 (1) l0.length)) := P0_4.out.other hg HA.out.a04
  have P1_5 : Hid (ownsR y5 G 3 (Value.slice a1 n1 c1) (marksR (id : Int → Int) 1 (1 + m0) l1.length)) := P1_4.out.other hg HA.out.a14
  have P2_5 : Hid (ownsR y5 G 3 (Value.slice a2 n2 c2) (marksR (id : Int → Int) 1 (1 + m0 + m1) l2.length)) := P2_4.out.other hg HA.out.a24
  have P3_5 : Hid (ownsR y5 G 3 (Value.slice a3 n3 c3) (marksR (id : Int → Int) 1 (1 + m0 + m1 + m2) l3.length)) := P3_4.out.other hg HA.out.a34
  have P4_5 : Hid (ownsR y5 G 3 (Value.slice a4 n4 c4) (marksR (id : Int → Int) 1 (1 + m0 + m1 + m2 + m3) l4.length)) := hm
  clear hm hg q0 HZ4
  go_wp2
  go_ret
  exact ⟨rfl, ⟨P0_5.out, P1_5.out, P2_5.out, P3_5.out, P4_5.out⟩, HBB5.out, HK5.out⟩
set_option maxRecDepth 10000 in
set_option maxHeartbeats 4000000 in
theorem heldCron_any (a0 : Option Addr) (n0 c0 : Nat) (l0 : List Int) (a1 : Option Addr) (n1 c1 : Nat) (l1 : List Int) (a2 : Option Addr) (n2 c2 : Nat) (l2 : List Int) (a3 : Option Addr) (n3 c3 : Nat) (l3 : List Int) (a4 : Option Addr) (n4 c4 : Nat) (l4 : List Int) (m0 m1 m2 m3 m4 : Int) (G : Nat) (w : World) (hM : Mk5 w G (Value.slice a0 n0 c0) (Value.slice a1 n1 c1) (Value.slice a2 n2 c2) (Value.slice a3 n3 c3) (Value.slice a4 n4 c4) l0 l1 l2 l3 l4 m0 m1 m2 m3 m4) (e0 : (l0.length : Int) = m0) (x0 : m0 ≤ 1000) (e1 : (l1.length : Int) = m1) (x1 : m1 ≤ 1000) (e2 : (l2.length : Int) = m2) (x2 : m2 ≤ 1000) (e3 : (l3.length : Int) = m3) (x3 : m3 ≤ 1000) (e4 : (l4.length : Int) = m4) (x4 : m4 ≤ 1000) :
    Calls Tryd.prog 32 #[.agg #[Value.slice a0 n0 c0, Value.slice a1 n1 c1, Value.slice a2 n2 c2, Value.slice a3 n3 c3, Value.slice a4 n4 c4], .int .i64 1] w fun e w' => e = .returned (.int .i64 (1 + m0 + m1 + m2 + m3 + m4)) ∧ Below w.heap.size w w' := by
  have g0 : 0 ≤ m0 := by omega
  have g1 : 0 ≤ m1 := by omega
  have g2 : 0 ≤ m2 := by omega
  have g3 : 0 ≤ m3 := by omega
  have g4 : 0 ≤ m4 := by omega
  obtain ⟨V0, HV⟩ : ∃ V, Hid (w.alloc (.cells #[Value.slice a0 n0 c0, Value.slice a1 n1 c1, Value.slice a2 n2 c2, Value.slice a3 n3 c3, Value.slice a4 n4 c4] 26) = V) := ⟨_, rfl⟩
  have HB0 : Hid (Below w.heap.size w V0) := by show Below _ _ _; rw [← HV.out]; exact ba (Below.refl _ _) _
  have HC0 : Hid (Calls Tryd.prog 63 #[Value.slice a0 n0 c0, .int .i64 (1)] V0 fun e w' => e = .returned (.int .i64 (1 + m0)) ∧ w' = V0) := by
    show Calls _ _ _ _ _
    have hr : Reads V0 (Value.slice a0 n0 c0) (marksR (id : Int → Int) 1 (1) l0.length) := hM.o0.reads.below HB0.out
    have := heldFrom_any hr (by omega) (by omega) (by omega)
    rw [e0] at this
    exact this
  have HC1 : Hid (Calls Tryd.prog 63 #[Value.slice a1 n1 c1, .int .i64 (1 + m0)] V0 fun e w' => e = .returned (.int .i64 (1 + m0 + m1)) ∧ w' = V0) := by
    show Calls _ _ _ _ _
    have hr : Reads V0 (Value.slice a1 n1 c1) (marksR (id : Int → Int) 1 (1 + m0) l1.length) := hM.o1.reads.below HB0.out
    have := heldFrom_any hr (by omega) (by omega) (by omega)
    rw [e1] at this
    exact this
  have HC2 : Hid (Calls Tryd.prog 63 #[Value.slice a2 n2 c2, .int .i64 (1 + m0 + m1)] V0 fun e w' => e = .returned (.int .i64 (1 + m0 + m1 + m2)) ∧ w' = V0) := by
    show Calls _ _ _ _ _
    have hr : Reads V0 (Value.slice a2 n2 c2) (marksR (id : Int → Int) 1 (1 + m0 + m1) l2.length) := hM.o2.reads.below HB0.out
    have := heldFrom_any hr (by omega) (by omega) (by omega)
    rw [e2] at this
    exact this
  have HC3 : Hid (Calls Tryd.prog 63 #[Value.slice a3 n3 c3, .int .i64 (1 + m0 + m1 + m2)] V0 fun e w' => e = .returned (.int .i64 (1 + m0 + m1 + m2 + m3)) ∧ w' = V0) := by
    show Calls _ _ _ _ _
    have hr : Reads V0 (Value.slice a3 n3 c3) (marksR (id : Int → Int) 1 (1 + m0 + m1 + m2) l3.length) := hM.o3.reads.below HB0.out
    have := heldFrom_any hr (by omega) (by omega) (by omega)
    rw [e3] at this
    exact this
  have HC4 : Hid (Calls Tryd.prog 63 #[Value.slice a4 n4 c4, .int .i64 (1 + m0 + m1 + m2 + m3)] V0 fun e w' => e = .returned (.int .i64 (1 + m0 + m1 + m2 + m3 + m4)) ∧ w' = V0) := by
    show Calls _ _ _ _ _
    have hr : Reads V0 (Value.slice a4 n4 c4) (marksR (id : Int → Int) 1 (1 + m0 + m1 + m2 + m3) l4.length) := hM.o4.reads.below HB0.out
    have := heldFrom_any hr (by omega) (by omega) (by omega)
    rw [e4] at this
    exact this
  have HZ0 : Hid (B5 26 V0 w.heap.size (Value.slice a0 n0 c0) (Value.slice a1 n1 c1) (Value.slice a2 n2 c2) (Value.slice a3 n3 c3) (Value.slice a4 n4 c4)) := by show B5 _ _ _ _ _ _ _ _; rw [← HV.out]; exact B5.new 26 w (Value.slice a0 n0 c0) (Value.slice a1 n1 c1) (Value.slice a2 n2 c2) (Value.slice a3 n3 c3) (Value.slice a4 n4 c4)
  have q0 := HZ0.out.c0
  have q1 := HZ0.out.c1
  have q2 := HZ0.out.c2
  have q3 := HZ0.out.c3
  have q4 := HZ0.out.c4
  clear hM e0 e1 e2 e3 e4 HZ0
  go_enter Tryd.func32, Tryd.ntmps32
  go_wp2_with (rw [HV.out])
  refine HC0.out.mono ?_
  rintro e y ⟨rfl, hw⟩
  have hw2 := hw.symm
  subst hw2
  clear hw
  go_wp2_with (fail)
  refine HC1.out.mono ?_
  rintro e y ⟨rfl, hw⟩
  have hw2 := hw.symm
  subst hw2
  clear hw
  go_wp2_with (fail)
  refine HC2.out.mono ?_
  rintro e y ⟨rfl, hw⟩
  have hw2 := hw.symm
  subst hw2
  clear hw
  go_wp2_with (fail)
  refine HC3.out.mono ?_
  rintro e y ⟨rfl, hw⟩
  have hw2 := hw.symm
  subst hw2
  clear hw
  go_wp2_with (fail)
  refine HC4.out.mono ?_
  rintro e y ⟨rfl, hw⟩
  have hw2 := hw.symm
  subst hw2
  clear hw
  go_wp2
  go_ret
  exact ⟨rfl, HB0.out⟩
end Go.Proofs.YtgeimliibddhmaaDoor

namespace Go.Proofs.YtgeimliibddhmaaDoor
open Go Go.RowKit

theorem set_keep {H : List Bool} {i x : Nat} (h : H.getD x false = true) : (H.set i true).getD x false = true := by
  by_cases hi : i < H.length
  · rw [getD_set _ _ _ hi, h, Bool.or_true]
  · rw [List.set_eq_of_length_le (by omega)]; exact h
theorem stamp_keep {H : List Bool} {a t x : Nat} (h : H.getD x false = true) : ∀ j, (stamp H a t j).getD x false = true
  | 0 => h
  | j + 1 => set_keep (stamp_keep h j)
theorem stamp_first {H : List Bool} {a t : Nat} (ha : a < H.length) : ∀ j, (stamp H a t (j + 1)).getD a false = true
  | 0 => by
    rw [stamp, stamp, Nat.zero_mul, Nat.add_zero, getD_set _ _ _ ha, decide_eq_true rfl]
    rfl
  | j + 1 => set_keep (stamp_first ha j)
theorem fieldGo_keep {lo hi : Int} {x : Nat} : ∀ (l : List ByteArray) (H H' : List Bool), H.getD x false = true → fieldGo lo hi l H = some H' → H'.getD x false = true
  | [], H, H', h, e => by cases e; exact h
  | p :: r, H, H', h, e => by
    rw [fieldGo] at e
    split at e
    · exact fieldGo_keep r _ H' (stamp_keep h _) e
    · cases e
theorem fieldGo_first {lo hi : Int} (h0 : 0 ≤ lo) (hlh : lo ≤ hi) : ∀ (l : List ByteArray) (H H' : List Bool), H.length = (hi + 1).toNat → 0 < l.length → fieldGo lo hi l H = some H' → ∃ x : Int, lo ≤ x ∧ x ≤ hi ∧ H'.getD x.toNat false = true
  | [], _, _, _, hl, _ => by simp at hl
  | p :: r, H, H', hH, _, e => by
    rw [fieldGo] at e
    split at e
    · rename_i hp
      have hb := piece_bd hlh hp
      refine ⟨(piece p lo hi).1, hb.1, by omega, fieldGo_keep r _ H' ?_ e⟩
      exact stamp_first (by rw [hH]; omega) _
    · cases e
theorem field_right {s : ByteArray} {lo hi : Int} {H : List Bool} (h0 : 0 ≤ lo) (hlh : lo ≤ hi) (h : fieldO s lo hi = some H) : listB lo hi (fieldL s lo hi) = true := by
  unfold fieldL
  rw [h]
  show listB lo hi (picks H lo (hi - lo + 1).toNat) = true
  obtain ⟨x, hx0, hx1, hx⟩ := fieldGo_first h0 hlh _ _ H (by rw [List.length_replicate]) (cutsN_some s 44) h
  unfold listB
  rw [rise_of _ none (picks_rise _) (fun y hy => ?_) (fun y hy => by cases hy), Bool.and_true]
  · have hm : x ∈ picks H lo (hi - lo + 1).toNat := (mem_picks _).2 ⟨(x - lo).toNat, by omega, by omega, by rw [show lo + ((x - lo).toNat : Int) = x by omega]; exact hx⟩
    cases hq : picks H lo (hi - lo + 1).toNat with
    | nil => rw [hq] at hm; cases hm
    | cons y r => rfl
  · obtain ⟨i, h1, rfl, _⟩ := (mem_picks _).1 hy
    omega
/-- Words that are a rule make a right one. -/
theorem rule_right {s : ByteArray} {l : List (List Int)} (h : pcO s = some l) : ∃ a b c d e, l = [a, b, c, d, e] ∧ cronB a b c d e = true := by
  unfold pcO at h
  split at h
  · unfold pcT at h
    split at h
    · split at h
      · rename_i hq
        simp only [Bool.and_eq_true, Option.isSome_iff_exists] at hq
        obtain ⟨⟨H1, e1⟩, ⟨H2, e2⟩, ⟨H3, e3⟩, ⟨H4, e4⟩, ⟨H5, e5⟩⟩ := hq
        refine ⟨_, _, _, _, _, (Option.some.inj h).symm, ?_⟩
        unfold cronB
        rw [field_right (by decide) (by decide) e1, field_right (by decide) (by decide) e2, field_right (by decide) (by decide) e3, field_right (by decide) (by decide) e4, field_right (by decide) (by decide) e5]
        rfl
      · cases h
    · cases h
  · cases h
end Go.Proofs.YtgeimliibddhmaaDoor

namespace Go.Proofs.YtgeimliibddhmaaDoor
open Go Go.RowKit
set_option linter.unusedVariables false

theorem pcN_len (s : ByteArray) (k : Nat) : (pcN (pcO s) k).length ≤ 60 := by
  unfold pcN
  cases h : pcO s with
  | none => simp
  | some l =>
    obtain ⟨a, b, c, d, e, rfl, hB⟩ := rule_right h
    unfold cronB at hB
    simp only [Bool.and_eq_true] at hB
    obtain ⟨b0, b1, b2, b3, b4⟩ := hB
    have n0 := list_len b0
    have n1 := list_len b1
    have n2 := list_len b2
    have n3 := list_len b3
    have n4 := list_len b4
    show ((([a, b, c, d, e] : List (List Int))[k]?).getD []).length ≤ 60
    rcases k with _ | _ | _ | _ | _ | k
    · show a.length ≤ 60; omega
    · show b.length ≤ 60; omega
    · show c.length ≤ 60; omega
    · show d.length ≤ 60; omega
    · show e.length ≤ 60; omega
    · simp

set_option maxRecDepth 10000 in
set_option maxHeartbeats 4000000 in
theorem law_ParseCron (s : ByteArray) (w : World) (hs0 : s.size ≤ maxLen) (hg : RchIs w) (hm : MaxIs w) (hsp : SpaceIs w) :
    Calls Tryd.prog 7 #[.string s] w fun e w' => e = .returned (.bool true) ∧ Below w.heap.size w w' := by
  unfold maxLen at hs0
  by_cases hbig : (1048576 : Int) < (s.size : Int)
  · go_enter Tryd.func7, Tryd.ntmps7
    go_wp2
    go_ret
    exact ⟨rfl, Below.refl _ _⟩
  · have hs : s.size ≤ 1048576 := by omega
    obtain ⟨q, hq⟩ : ∃ q, (pcO s).isSome = q := ⟨_, rfl⟩
    obtain ⟨L0, hL0⟩ : ∃ L, pcN (pcO s) 0 = L := ⟨_, rfl⟩
    have z0 : L0.length ≤ 60 := by rw [← hL0]; exact pcN_len s 0
    obtain ⟨m0, e0⟩ : ∃ m : Int, (L0.length : Int) = m := ⟨_, rfl⟩
    have x0 : m0 ≤ 1000 := by omega
    have g0 : 0 ≤ m0 := by omega
    obtain ⟨L1, hL1⟩ : ∃ L, pcN (pcO s) 1 = L := ⟨_, rfl⟩
    have z1 : L1.length ≤ 60 := by rw [← hL1]; exact pcN_len s 1
    obtain ⟨m1, e1⟩ : ∃ m : Int, (L1.length : Int) = m := ⟨_, rfl⟩
    have x1 : m1 ≤ 1000 := by omega
    have g1 : 0 ≤ m1 := by omega
    obtain ⟨L2, hL2⟩ : ∃ L, pcN (pcO s) 2 = L := ⟨_, rfl⟩
    have z2 : L2.length ≤ 60 := by rw [← hL2]; exact pcN_len s 2
    obtain ⟨m2, e2⟩ : ∃ m : Int, (L2.length : Int) = m := ⟨_, rfl⟩
    have x2 : m2 ≤ 1000 := by omega
    have g2 : 0 ≤ m2 := by omega
    obtain ⟨L3, hL3⟩ : ∃ L, pcN (pcO s) 3 = L := ⟨_, rfl⟩
    have z3 : L3.length ≤ 60 := by rw [← hL3]; exact pcN_len s 3
    obtain ⟨m3, e3⟩ : ∃ m : Int, (L3.length : Int) = m := ⟨_, rfl⟩
    have x3 : m3 ≤ 1000 := by omega
    have g3 : 0 ≤ m3 := by omega
    obtain ⟨L4, hL4⟩ : ∃ L, pcN (pcO s) 4 = L := ⟨_, rfl⟩
    have z4 : L4.length ≤ 60 := by rw [← hL4]; exact pcN_len s 4
    obtain ⟨m4, e4⟩ : ∃ m : Int, (L4.length : Int) = m := ⟨_, rfl⟩
    have x4 : m4 ≤ 1000 := by omega
    have g4 : 0 ≤ m4 := by omega
    have HS : Hid (∀ W, Calls Tryd.prog 19 #[.string s] W fun e w' => ∃ v0 v1 v2 v3 v4, e = .returned (.tuple #[.agg #[v0, v1, v2, v3, v4], .bool q]) ∧ ownsR w' W.heap.size 3 v0 L0 ∧ ownsR w' W.heap.size 3 v1 L1 ∧ ownsR w' W.heap.size 3 v2 L2 ∧ ownsR w' W.heap.size 3 v3 L3 ∧ ownsR w' W.heap.size 3 v4 L4 ∧ Below W.heap.size W w') := fun W => by
      rw [← hq, ← hL0, ← hL1, ← hL2, ← hL3, ← hL4]
      exact parseCron_any s W hs
    have HI : Hid (∀ W, Below w.heap.size w W → Calls Tryd.prog 15 #[.string s] W fun e w' => ∃ v0 v1 v2 v3 v4, e = .returned (.tuple #[.agg #[v0, v1, v2, v3, v4], .bool q]) ∧ ownsR w' W.heap.size 3 v0 L0 ∧ ownsR w' W.heap.size 3 v1 L1 ∧ ownsR w' W.heap.size 3 v2 L2 ∧ ownsR w' W.heap.size 3 v3 L3 ∧ ownsR w' W.heap.size 3 v4 L4 ∧ Below W.heap.size W w' ∧ Ap5 v0 v1 v2 v3 v4) := fun W hb => by
      rw [← hq, ← hL0, ← hL1, ← hL2, ← hL3, ← hL4]
      exact implParse_any s W hs (hg.up hb) (hm.up hb) (hsp.below hb)
    have HEQ : Hid (∀ (va vb vc vd ve ua ub uc ud ue : Value) (W : World), Reads W va L0 → Reads W vb L1 → Reads W vc L2 → Reads W vd L3 → Reads W ve L4 → Reads W ua L0 → Reads W ub L1 → Reads W uc L2 → Reads W ud L3 → Reads W ue L4 → Calls Tryd.prog 30 #[.agg #[va, vb, vc, vd, ve], .agg #[ua, ub, uc, ud, ue]] W fun x w' => x = .returned (.bool true) ∧ Below W.heap.size W w') := fun va vb vc vd ve ua ub uc ud ue W r0 r1 r2 r3 r4 t0 t1 t2 t3 t4 => eqCron_any va vb vc vd ve ua ub uc ud ue L0 L1 L2 L3 L4 W r0 r1 r2 r3 r4 t0 t1 t2 t3 t4 (by omega) (by omega) (by omega) (by omega) (by omega)
    have HLN : Hid ((L0.length : Int) = m0 ∧ (L1.length : Int) = m1 ∧ (L2.length : Int) = m2 ∧ (L3.length : Int) = m3 ∧ (L4.length : Int) = m4) := ⟨e0, e1, e2, e3, e4⟩
    clear hq hL0 hL1 hL2 hL3 hL4 e0 e1 e2 e3 e4 z0 z1 z2 z3 z4 hg hm hsp
    go_enter Tryd.func7, Tryd.ntmps7
    go_wp2_with fail
    refine (HS.out _).mono ?_
    rintro e w1 ⟨v0, v1, v2, v3, v4, rfl, o0, o1, o2, o3, o4, hb1⟩
    obtain ⟨ua0, un0, uc0, rfl⟩ := o0.slice3
    obtain ⟨ua1, un1, uc1, rfl⟩ := o1.slice3
    obtain ⟨ua2, un2, uc2, rfl⟩ := o2.slice3
    obtain ⟨ua3, un3, uc3, rfl⟩ := o3.slice3
    obtain ⟨ua4, un4, uc4, rfl⟩ := o4.slice3
    have HU : Hid (∀ W, Below w1.heap.size w1 W → Reads W (Value.slice ua0 un0 uc0) L0 ∧ Reads W (Value.slice ua1 un1 uc1) L1 ∧ Reads W (Value.slice ua2 un2 uc2) L2 ∧ Reads W (Value.slice ua3 un3 uc3) L3 ∧ Reads W (Value.slice ua4 un4 uc4) L4) := fun W hb => ⟨o0.reads.below hb, o1.reads.below hb, o2.reads.below hb, o3.reads.below hb, o4.reads.below hb⟩
    obtain ⟨W1, HW1⟩ : ∃ W, Hid (w1.alloc (.cells #[Value.slice ua0 un0 uc0, Value.slice ua1 un1 uc1, Value.slice ua2 un2 uc2, Value.slice ua3 un3 uc3, Value.slice ua4 un4 uc4] 26) = W) := ⟨_, rfl⟩
    have HZ1 : Hid (B5 26 W1 w1.heap.size (Value.slice ua0 un0 uc0) (Value.slice ua1 un1 uc1) (Value.slice ua2 un2 uc2) (Value.slice ua3 un3 uc3) (Value.slice ua4 un4 uc4)) := by show B5 _ _ _ _ _ _ _ _; rw [← HW1.out]; exact B5.new 26 w1 (Value.slice ua0 un0 uc0) (Value.slice ua1 un1 uc1) (Value.slice ua2 un2 uc2) (Value.slice ua3 un3 uc3) (Value.slice ua4 un4 uc4)
    have HB1 : Hid (Below w1.heap.size w1 W1) := by show Below _ _ _; rw [← HW1.out]; exact ba (Below.refl _ _) _
    have HC1 : Hid (Below w.heap.size w w1) := hb1
    have HS1 : Hid (W1.heap.size = w1.heap.size + 1) := by show _ = _; rw [← HW1.out]; simp
    clear o0 o1 o2 o3 o4 hb1 HS
    go_wp2_with (rw [HW1.out])
    clear HW1
    refine (HI.out _ (Below.on HC1.out HB1.out)).mono ?_
    rintro e w2 ⟨v0, v1, v2, v3, v4, rfl, o0, o1, o2, o3, o4, hb2, hA⟩
    obtain ⟨va0, vn0, vc0, rfl⟩ := o0.slice3
    obtain ⟨va1, vn1, vc1, rfl⟩ := o1.slice3
    obtain ⟨va2, vn2, vc2, rfl⟩ := o2.slice3
    obtain ⟨va3, vn3, vc3, rfl⟩ := o3.slice3
    obtain ⟨va4, vn4, vc4, rfl⟩ := o4.slice3
    have HA : Hid (Ap5 (Value.slice va0 vn0 vc0) (Value.slice va1 vn1 vc1) (Value.slice va2 vn2 vc2) (Value.slice va3 vn3 vc3) (Value.slice va4 vn4 vc4)) := hA
    obtain ⟨W2, HW2⟩ : ∃ W, Hid (w2.alloc (.cells #[Value.slice va0 vn0 vc0, Value.slice va1 vn1 vc1, Value.slice va2 vn2 vc2, Value.slice va3 vn3 vc3, Value.slice va4 vn4 vc4] 26) = W) := ⟨_, rfl⟩
    have HX2 : Hid (B5 26 W2 w2.heap.size (Value.slice va0 vn0 vc0) (Value.slice va1 vn1 vc1) (Value.slice va2 vn2 vc2) (Value.slice va3 vn3 vc3) (Value.slice va4 vn4 vc4)) := by show B5 _ _ _ _ _ _ _ _; rw [← HW2.out]; exact B5.new 26 w2 (Value.slice va0 vn0 vc0) (Value.slice va1 vn1 vc1) (Value.slice va2 vn2 vc2) (Value.slice va3 vn3 vc3) (Value.slice va4 vn4 vc4)
    have HZ2 : Hid (B5 26 W2 w1.heap.size (Value.slice ua0 un0 uc0) (Value.slice ua1 un1 uc1) (Value.slice ua2 un2 uc2) (Value.slice ua3 un3 uc3) (Value.slice ua4 un4 uc4)) := by show B5 _ _ _ _ _ _ _ _; rw [← HW2.out]; exact (HZ1.out.up hb2).alloc _
    have HB2 : Hid (Below w1.heap.size w1 W2) := by show Below _ _ _; rw [← HW2.out]; exact ba (Below.on HB1.out hb2) _
    have HL2 : Hid (W1.heap.size ≤ w2.heap.size) := hb2.size
    have HO0 : Hid (ownsR W2 W1.heap.size 3 (Value.slice va0 vn0 vc0) L0) := by show ownsR _ _ _ _ _; rw [← HW2.out]; exact o0.alloc _
    have HN0 : Hid (∀ b, b < W1.heap.size ∨ b = w2.heap.size → some b ≠ (Value.slice va0 vn0 vc0).ownBlock) := fun b hb e => by have := o0.lt b e.symm; omega
    have HO1 : Hid (ownsR W2 W1.heap.size 3 (Value.slice va1 vn1 vc1) L1) := by show ownsR _ _ _ _ _; rw [← HW2.out]; exact o1.alloc _
    have HN1 : Hid (∀ b, b < W1.heap.size ∨ b = w2.heap.size → some b ≠ (Value.slice va1 vn1 vc1).ownBlock) := fun b hb e => by have := o1.lt b e.symm; omega
    have HO2 : Hid (ownsR W2 W1.heap.size 3 (Value.slice va2 vn2 vc2) L2) := by show ownsR _ _ _ _ _; rw [← HW2.out]; exact o2.alloc _
    have HN2 : Hid (∀ b, b < W1.heap.size ∨ b = w2.heap.size → some b ≠ (Value.slice va2 vn2 vc2).ownBlock) := fun b hb e => by have := o2.lt b e.symm; omega
    have HO3 : Hid (ownsR W2 W1.heap.size 3 (Value.slice va3 vn3 vc3) L3) := by show ownsR _ _ _ _ _; rw [← HW2.out]; exact o3.alloc _
    have HN3 : Hid (∀ b, b < W1.heap.size ∨ b = w2.heap.size → some b ≠ (Value.slice va3 vn3 vc3).ownBlock) := fun b hb e => by have := o3.lt b e.symm; omega
    have HO4 : Hid (ownsR W2 W1.heap.size 3 (Value.slice va4 vn4 vc4) L4) := by show ownsR _ _ _ _ _; rw [← HW2.out]; exact o4.alloc _
    have HN4 : Hid (∀ b, b < W1.heap.size ∨ b = w2.heap.size → some b ≠ (Value.slice va4 vn4 vc4).ownBlock) := fun b hb e => by have := o4.lt b e.symm; omega
    clear o0 o1 o2 o3 o4 hb2 hA HZ1 HB1
    have p0 := HX2.out.c0
    have r0 := HZ2.out.c0
    have p1 := HX2.out.c1
    have r1 := HZ2.out.c1
    have p2 := HX2.out.c2
    have r2 := HZ2.out.c2
    have p3 := HX2.out.c3
    have r3 := HZ2.out.c3
    have p4 := HX2.out.c4
    have r4 := HZ2.out.c4
    go_wp2_with (rw [HW2.out])
    clear HW2
    have HU2 := HU.out _ HB2.out
    refine (HEQ.out _ _ _ _ _ _ _ _ _ _ _ HO0.out.reads HO1.out.reads HO2.out.reads HO3.out.reads HO4.out.reads HU2.1 HU2.2.1 HU2.2.2.1 HU2.2.2.2.1 HU2.2.2.2.2).mono ?_
    rintro e w3 ⟨rfl, hb3⟩
    have HX3 : Hid (B5 26 w3 w2.heap.size (Value.slice va0 vn0 vc0) (Value.slice va1 vn1 vc1) (Value.slice va2 vn2 vc2) (Value.slice va3 vn3 vc3) (Value.slice va4 vn4 vc4)) := HX2.out.up hb3
    have HZ3 : Hid (B5 26 w3 w1.heap.size (Value.slice ua0 un0 uc0) (Value.slice ua1 un1 uc1) (Value.slice ua2 un2 uc2) (Value.slice ua3 un3 uc3) (Value.slice ua4 un4 uc4)) := HZ2.out.up hb3
    have HB3 : Hid (Below w1.heap.size w1 w3) := Below.on HB2.out hb3
    have HO0' : Hid (ownsR w3 W1.heap.size 3 (Value.slice va0 vn0 vc0) L0) := HO0.out.all hb3
    have HO1' : Hid (ownsR w3 W1.heap.size 3 (Value.slice va1 vn1 vc1) L1) := HO1.out.all hb3
    have HO2' : Hid (ownsR w3 W1.heap.size 3 (Value.slice va2 vn2 vc2) L2) := HO2.out.all hb3
    have HO3' : Hid (ownsR w3 W1.heap.size 3 (Value.slice va3 vn3 vc3) L3) := HO3.out.all hb3
    have HO4' : Hid (ownsR w3 W1.heap.size 3 (Value.slice va4 vn4 vc4) L4) := HO4.out.all hb3
    have HL3 : Hid (W1.heap.size ≤ w3.heap.size) := by have := HX3.out.lt; have := HL2.out; show _ ≤ _; omega
    clear hb3 HU2 HX2 HZ2 HB2 HO0 HO1 HO2 HO3 HO4 p0 p1 p2 p3 p4 r0 r1 r2 r3 r4
    have p0 := HX3.out.c0
    have p1 := HX3.out.c1
    have p2 := HX3.out.c2
    have p3 := HX3.out.c3
    have p4 := HX3.out.c4
    have HMC : Hid (Calls Tryd.prog 31 #[.agg #[Value.slice va0 vn0 vc0, Value.slice va1 vn1 vc1, Value.slice va2 vn2 vc2, Value.slice va3 vn3 vc3, Value.slice va4 vn4 vc4], .int .i64 1] w3 fun e w' => e = .returned (.int .i64 (1 + m0 + m1 + m2 + m3 + m4)) ∧ Mk5 w' W1.heap.size (Value.slice va0 vn0 vc0) (Value.slice va1 vn1 vc1) (Value.slice va2 vn2 vc2) (Value.slice va3 vn3 vc3) (Value.slice va4 vn4 vc4) L0 L1 L2 L3 L4 m0 m1 m2 m3 m4 ∧ Below W1.heap.size w3 w' ∧ Kp5 w3 w' (Value.slice va0 vn0 vc0) (Value.slice va1 vn1 vc1) (Value.slice va2 vn2 vc2) (Value.slice va3 vn3 vc3) (Value.slice va4 vn4 vc4)) := markCron_any va0 vn0 vc0 L0 va1 vn1 vc1 L1 va2 vn2 vc2 L2 va3 vn3 vc3 L3 va4 vn4 vc4 L4 m0 m1 m2 m3 m4 W1.heap.size w3 HL3.out HO0'.out HLN.out.1 x0 HO1'.out HLN.out.2.1 x1 HO2'.out HLN.out.2.2.1 x2 HO3'.out HLN.out.2.2.2.1 x3 HO4'.out HLN.out.2.2.2.2 x4 HA.out
    go_wp2_with fail
    refine HMC.out.mono ?_
    rintro e w4 ⟨rfl, hM4, hb4, hK4⟩
    have HX4 : Hid (B5 26 w4 w2.heap.size (Value.slice va0 vn0 vc0) (Value.slice va1 vn1 vc1) (Value.slice va2 vn2 vc2) (Value.slice va3 vn3 vc3) (Value.slice va4 vn4 vc4)) := (hK4 _ HX3.out.lt (HN0.out _ (.inr rfl)) (HN1.out _ (.inr rfl)) (HN2.out _ (.inr rfl)) (HN3.out _ (.inr rfl)) (HN4.out _ (.inr rfl))).trans HX3.out
    have HZ4 : Hid (B5 26 w4 w1.heap.size (Value.slice ua0 un0 uc0) (Value.slice ua1 un1 uc1) (Value.slice ua2 un2 uc2) (Value.slice ua3 un3 uc3) (Value.slice ua4 un4 uc4)) := (hK4 _ HZ3.out.lt (HN0.out _ (.inl (by have := HS1.out; omega))) (HN1.out _ (.inl (by have := HS1.out; omega))) (HN2.out _ (.inl (by have := HS1.out; omega))) (HN3.out _ (.inl (by have := HS1.out; omega))) (HN4.out _ (.inl (by have := HS1.out; omega)))).trans HZ3.out
    have HB4 : Hid (Below w1.heap.size w1 w4) := HB3.out.trans (hb4.mono (by have := HS1.out; omega))
    have HM4 : Hid (Mk5 w4 W1.heap.size (Value.slice va0 vn0 vc0) (Value.slice va1 vn1 vc1) (Value.slice va2 vn2 vc2) (Value.slice va3 vn3 vc3) (Value.slice va4 vn4 vc4) L0 L1 L2 L3 L4 m0 m1 m2 m3 m4) := hM4
    clear hM4 hb4 hK4 HX3 HZ3 HB3 HO0' HO1' HO2' HO3' HO4' p0 p1 p2 p3 p4 HMC
    have HHE : Hid (∀ W, Mk5 W W1.heap.size (Value.slice va0 vn0 vc0) (Value.slice va1 vn1 vc1) (Value.slice va2 vn2 vc2) (Value.slice va3 vn3 vc3) (Value.slice va4 vn4 vc4) L0 L1 L2 L3 L4 m0 m1 m2 m3 m4 → Calls Tryd.prog 32 #[.agg #[Value.slice va0 vn0 vc0, Value.slice va1 vn1 vc1, Value.slice va2 vn2 vc2, Value.slice va3 vn3 vc3, Value.slice va4 vn4 vc4], .int .i64 1] W fun e w' => e = .returned (.int .i64 (1 + m0 + m1 + m2 + m3 + m4)) ∧ Below W.heap.size W w') := fun W hM => heldCron_any va0 vn0 vc0 L0 va1 vn1 vc1 L1 va2 vn2 vc2 L2 va3 vn3 vc3 L3 va4 vn4 vc4 L4 m0 m1 m2 m3 m4 W1.heap.size W hM HLN.out.1 x0 HLN.out.2.1 x1 HLN.out.2.2.1 x2 HLN.out.2.2.2.1 x3 HLN.out.2.2.2.2 x4
    have p0 := HX4.out.c0
    have p1 := HX4.out.c1
    have p2 := HX4.out.c2
    have p3 := HX4.out.c3
    have p4 := HX4.out.c4
    go_wp2_with fail
    refine (HHE.out _ HM4.out).mono ?_
    rintro e w5 ⟨rfl, hb5⟩
    have HX5 : Hid (B5 26 w5 w2.heap.size (Value.slice va0 vn0 vc0) (Value.slice va1 vn1 vc1) (Value.slice va2 vn2 vc2) (Value.slice va3 vn3 vc3) (Value.slice va4 vn4 vc4)) := HX4.out.up hb5
    have HZ5 : Hid (B5 26 w5 w1.heap.size (Value.slice ua0 un0 uc0) (Value.slice ua1 un1 uc1) (Value.slice ua2 un2 uc2) (Value.slice ua3 un3 uc3) (Value.slice ua4 un4 uc4)) := HZ4.out.up hb5
    have HB5 : Hid (Below w1.heap.size w1 w5) := Below.on HB4.out hb5
    have HM5 : Hid (Mk5 w5 W1.heap.size (Value.slice va0 vn0 vc0) (Value.slice va1 vn1 vc1) (Value.slice va2 vn2 vc2) (Value.slice va3 vn3 vc3) (Value.slice va4 vn4 vc4) L0 L1 L2 L3 L4 m0 m1 m2 m3 m4) := HM4.out.up hb5
    clear hb5 HX4 HZ4 HB4 HM4 p0 p1 p2 p3 p4
    go_wp2_with fail
    refine (HI.out _ (HC1.out.trans (HB5.out.mono HC1.out.size))).mono ?_
    rintro e w6 ⟨v0, v1, v2, v3, v4, rfl, o0, o1, o2, o3, o4, hb6, -⟩
    obtain ⟨ya0, yn0, yc0, rfl⟩ := o0.slice3
    obtain ⟨ya1, yn1, yc1, rfl⟩ := o1.slice3
    obtain ⟨ya2, yn2, yc2, rfl⟩ := o2.slice3
    obtain ⟨ya3, yn3, yc3, rfl⟩ := o3.slice3
    obtain ⟨ya4, yn4, yc4, rfl⟩ := o4.slice3
    obtain ⟨W6, HW6⟩ : ∃ W, Hid (w6.alloc (.cells #[Value.slice ya0 yn0 yc0, Value.slice ya1 yn1 yc1, Value.slice ya2 yn2 yc2, Value.slice ya3 yn3 yc3, Value.slice ya4 yn4 yc4] 26) = W) := ⟨_, rfl⟩
    have HY6 : Hid (B5 26 W6 w6.heap.size (Value.slice ya0 yn0 yc0) (Value.slice ya1 yn1 yc1) (Value.slice ya2 yn2 yc2) (Value.slice ya3 yn3 yc3) (Value.slice ya4 yn4 yc4)) := by show B5 _ _ _ _ _ _ _ _; rw [← HW6.out]; exact B5.new 26 w6 (Value.slice ya0 yn0 yc0) (Value.slice ya1 yn1 yc1) (Value.slice ya2 yn2 yc2) (Value.slice ya3 yn3 yc3) (Value.slice ya4 yn4 yc4)
    have HX6 : Hid (B5 26 W6 w2.heap.size (Value.slice va0 vn0 vc0) (Value.slice va1 vn1 vc1) (Value.slice va2 vn2 vc2) (Value.slice va3 vn3 vc3) (Value.slice va4 vn4 vc4)) := by show B5 _ _ _ _ _ _ _ _; rw [← HW6.out]; exact (HX5.out.up hb6).alloc _
    have HZ6 : Hid (B5 26 W6 w1.heap.size (Value.slice ua0 un0 uc0) (Value.slice ua1 un1 uc1) (Value.slice ua2 un2 uc2) (Value.slice ua3 un3 uc3) (Value.slice ua4 un4 uc4)) := by show B5 _ _ _ _ _ _ _ _; rw [← HW6.out]; exact (HZ5.out.up hb6).alloc _
    have HB6 : Hid (Below w1.heap.size w1 W6) := by show Below _ _ _; rw [← HW6.out]; exact ba (Below.on HB5.out hb6) _
    have HM6 : Hid (Mk5 W6 W1.heap.size (Value.slice va0 vn0 vc0) (Value.slice va1 vn1 vc1) (Value.slice va2 vn2 vc2) (Value.slice va3 vn3 vc3) (Value.slice va4 vn4 vc4) L0 L1 L2 L3 L4 m0 m1 m2 m3 m4) := by show Mk5 _ _ _ _ _ _ _ _ _ _ _ _ _ _ _ _ _; rw [← HW6.out]; exact (HM5.out.up hb6).up (ba (Below.refl _ _) _)
    have HO6 : Hid (Reads W6 (Value.slice ya0 yn0 yc0) L0 ∧ Reads W6 (Value.slice ya1 yn1 yc1) L1 ∧ Reads W6 (Value.slice ya2 yn2 yc2) L2 ∧ Reads W6 (Value.slice ya3 yn3 yc3) L3 ∧ Reads W6 (Value.slice ya4 yn4 yc4) L4) := by
      show Reads _ _ _ ∧ _
      rw [← HW6.out]
      exact ⟨o0.reads.alloc _, o1.reads.alloc _, o2.reads.alloc _, o3.reads.alloc _, o4.reads.alloc _⟩
    clear o0 o1 o2 o3 o4 hb6 HX5 HZ5 HB5 HM5
    have p0 := HY6.out.c0
    have r0 := HZ6.out.c0
    have p1 := HY6.out.c1
    have r1 := HZ6.out.c1
    have p2 := HY6.out.c2
    have r2 := HZ6.out.c2
    have p3 := HY6.out.c3
    have r3 := HZ6.out.c3
    have p4 := HY6.out.c4
    have r4 := HZ6.out.c4
    go_wp2_with (rw [HW6.out])
    clear HW6
    have HU6 := HU.out _ HB6.out
    refine (HEQ.out _ _ _ _ _ _ _ _ _ _ _ HO6.out.1 HO6.out.2.1 HO6.out.2.2.1 HO6.out.2.2.2.1 HO6.out.2.2.2.2 HU6.1 HU6.2.1 HU6.2.2.1 HU6.2.2.2.1 HU6.2.2.2.2).mono ?_
    rintro e w7 ⟨rfl, hb7⟩
    have HX7 : Hid (B5 26 w7 w2.heap.size (Value.slice va0 vn0 vc0) (Value.slice va1 vn1 vc1) (Value.slice va2 vn2 vc2) (Value.slice va3 vn3 vc3) (Value.slice va4 vn4 vc4)) := HX6.out.up hb7
    have HB7 : Hid (Below w1.heap.size w1 w7) := Below.on HB6.out hb7
    have HM7 : Hid (Mk5 w7 W1.heap.size (Value.slice va0 vn0 vc0) (Value.slice va1 vn1 vc1) (Value.slice va2 vn2 vc2) (Value.slice va3 vn3 vc3) (Value.slice va4 vn4 vc4) L0 L1 L2 L3 L4 m0 m1 m2 m3 m4) := HM6.out.up hb7
    clear hb7 HU6 HY6 HX6 HZ6 HB6 HM6 HO6 p0 p1 p2 p3 p4 r0 r1 r2 r3 r4
    have p0 := HX7.out.c0
    have p1 := HX7.out.c1
    have p2 := HX7.out.c2
    have p3 := HX7.out.c3
    have p4 := HX7.out.c4
    go_wp2_with fail
    refine (HHE.out _ HM7.out).mono ?_
    rintro e w8 ⟨rfl, hb8⟩
    have HB8 : Hid (Below w1.heap.size w1 w8) := Below.on HB7.out hb8
    clear hb8 HX7 HB7 HM7 p0 p1 p2 p3 p4
    go_wp2
    go_ret
    exact ⟨rfl, HC1.out.trans (HB8.out.mono HC1.out.size)⟩
end Go.Proofs.YtgeimliibddhmaaDoor

namespace Go.Proofs.YtgeimliibddhmaaDoor
open Go Go.RowKit Go.ChangeShapes Go.WideShapes
set_option linter.unusedVariables false

theorem gRch : Tryd.prog.globalNamed "loop.example/g00188/impl.fieldReaches" = some 0 := by kernel_rfl
theorem tRch : (Tryd.prog.globals[0]?).map (·.type) = some 64 := by kernel_rfl
theorem cells63 : Tryd.prog.cellsOf 63 = 2 := by kernel_rfl
theorem cells64 : Tryd.prog.cellsOf 64 = 10 := by kernel_rfl
theorem under64 : Tryd.prog.underlying 64 = some (.array 5 63) := by kernel_rfl
theorem rch_of_reads {W : World} (h : Lib.VarReads Tryd.prog W "loop.example/g00188/impl.fieldReaches" (Rows.laid_loop_example_g00188_impl_fieldReaches (H := Unit))) : RchIs W := by
  obtain ⟨g, t, cs, fuel, p, hg, hty, hvar, hd⟩ := h
  obtain rfl := Option.some.inj (gRch.symm.trans hg)
  obtain rfl := Option.some.inj (tRch.symm.trans hty)
  have hc := fun j => World.var?_cell hg hvar j
  have two : ∀ (i : Nat) (lo hi : Int), i < 5 → ([.agg [.lit (.int .i64 0), .lit (.int .i64 59)], .agg [.lit (.int .i64 0), .lit (.int .i64 23)], .agg [.lit (.int .i64 1), .lit (.int .i64 31)], .agg [.lit (.int .i64 1), .lit (.int .i64 12)], .agg [.lit (.int .i64 0), .lit (.int .i64 6)]] : List (DataW Unit))[i]? = some (.agg [.lit (.int .i64 lo), .lit (.int .i64 hi)]) → cs[i * 2]? = some (.int .i64 lo) ∧ cs[i * 2 + 1]? = some (.int .i64 hi) := by
    intro i lo hi h5 hi5
    obtain ⟨f', d, q, hds, ht⟩ := Lib.array_elem under64 hd i h5
    rw [hi5] at hds
    obtain rfl := Option.some.inj hds
    rw [cells63] at ht
    have := Lib.ints_of_struct (zs := [lo, hi]) Tryd.underlying63 (by
      intro j f hj
      match j, hj with
      | 0, hj => simp at hj; subst hj; exact ⟨Tryd.underlying3, rfl, by kernel_rfl⟩
      | 1, hj => simp at hj; subst hj; exact ⟨Tryd.underlying3, rfl, by kernel_rfl⟩
      | j + 2, hj => simp at hj) (by kernel_rfl) ht
    have e0 := congrArg (fun l => l[0]?) this
    have e1 := congrArg (fun l => l[1]?) this
    simp at e0 e1
    exact ⟨by simpa using e0, by simpa using e1⟩
  have t0 := two 0 0 59 (by decide) rfl
  have t1 := two 1 0 23 (by decide) rfl
  have t2 := two 2 1 31 (by decide) rfl
  have t3 := two 3 1 12 (by decide) rfl
  have t4 := two 4 0 6 (by decide) rfl
  have hc0 : W.cell? ⟨0, 0, none⟩ = some (.int .i64 0) := (hc 0).trans t0.1
  refine ⟨World.block_lt_of_cell? W _ hc0, fun j v hv => ?_⟩
  rw [hc j]
  unfold reachL at hv
  match j, hv with
  | 0, hv => obtain rfl := Option.some.inj hv; exact t0.1
  | 1, hv => obtain rfl := Option.some.inj hv; exact t0.2
  | 2, hv => obtain rfl := Option.some.inj hv; exact t1.1
  | 3, hv => obtain rfl := Option.some.inj hv; exact t1.2
  | 4, hv => obtain rfl := Option.some.inj hv; exact t2.1
  | 5, hv => obtain rfl := Option.some.inj hv; exact t2.2
  | 6, hv => obtain rfl := Option.some.inj hv; exact t3.1
  | 7, hv => obtain rfl := Option.some.inj hv; exact t3.2
  | 8, hv => obtain rfl := Option.some.inj hv; exact t4.1
  | 9, hv => obtain rfl := Option.some.inj hv; exact t4.2
  | j + 10, hv => simp at hv
theorem len5 {α : Type} {l : List α} (h : l.length = 5) : ∃ a b c d e, l = [a, b, c, d, e] := by
  match l, h with
  | [a, b, c, d, e], _ => exact ⟨a, b, c, d, e, rfl⟩
theorem trod_struct5 {H : Type} {enc : TypeId × Value → H} {P : Program} {w : World} {base : Nat} {spare : Nat → Bool} {held : Bool} {t : TypeId} {f0 f1 f2 f3 f4 : Field} {fuel : Nat} {cs : List Value} {x : DataW H × List MemPlace} (ht : P.underlying t = some (.struct #[f0, f1, f2, f3, f4])) (h : DataW.trod enc P w base spare held fuel t cs = some x) :
    ∃ y0 y1 y2 y3 y4 n, cs.length = P.cellsOf t ∧ DataW.trod enc P w base spare held n f0.type ((cs.drop f0.offset).take (P.cellsOf f0.type)) = some y0 ∧
      DataW.trod enc P w base spare held n f1.type ((cs.drop f1.offset).take (P.cellsOf f1.type)) = some y1 ∧ DataW.trod enc P w base spare held n f2.type ((cs.drop f2.offset).take (P.cellsOf f2.type)) = some y2 ∧
      DataW.trod enc P w base spare held n f3.type ((cs.drop f3.offset).take (P.cellsOf f3.type)) = some y3 ∧ DataW.trod enc P w base spare held n f4.type ((cs.drop f4.offset).take (P.cellsOf f4.type)) = some y4 := by
  obtain ⟨xs, n, _, rfl, hl, hlen, hf⟩ := DataW.trod_struct ht h
  match xs, hlen with
  | [y0, y1, y2, y3, y4], _ => exact ⟨y0, y1, y2, y3, y4, n, hl, by simpa using hf 0 f0 rfl, by simpa using hf 1 f1 rfl, by simpa using hf 2 f2 rfl, by simpa using hf 3 f3 rfl, by simpa using hf 4 f4 rfl⟩
theorem cells41 : Tryd.prog.cellsOf 41 = 5 := by kernel_rfl
theorem cells24 : Tryd.prog.cellsOf 24 = 1 := by kernel_rfl
theorem slice_of {H : Type} {enc : TypeId × Value → H} {W : World} {fuel : Nat} {v : Value} {x : DataW H × List MemPlace} (h : DataW.trod enc Tryd.prog W 0 (fun _ => true) true fuel 24 [v] = some x) : ∃ (a : Option Addr) (n c : Nat) (l : List Int), v = .slice a n c ∧ Reads W (.slice a n c) l ∧ n ≤ 9223372036854775807 := by
  obtain ⟨a, n, c, rfl⟩ : ∃ a n c, v = .slice a n c := by
    rcases Deep.open_slice Tryd.underlying24 h with ⟨hcs, _⟩ | ⟨b, len', cap', m, n, D, Pl, hcs, _⟩
    · simp only [List.cons.injEq, and_true] at hcs
      exact ⟨_, _, _, hcs⟩
    · simp only [List.cons.injEq, and_true] at hcs
      exact ⟨_, _, _, hcs⟩
  obtain ⟨l, hr, _, hm⟩ := open_rows (fun _ : Int => True) Tryd.underlying24 cells3' (fun n cs y h => by
    obtain ⟨k, rfl, _, _⟩ := DataW.trod_int Tryd.underlying3 h
    exact ⟨k, rfl, trivial⟩) h
  exact ⟨a, n, c, l, rfl, hr, hm⟩
/-- A rule, opened. -/
theorem open_cron {H : Type} {enc : TypeId × Value → H} {W : World} {v : Value} {d : DataW H} {p : List MemPlace} (hv : ∃ cs, v = .agg cs ∧ cs.size = Tryd.prog.cellsOf 41) (h : DataW.Trod enc Tryd.prog W 0 (fun _ => true) true 41 v d p) :
    ∃ (ao bo co d0 eo : Option Addr) (l0 l1 l2 l3 l4 ac bc cc dc ec : Nat) (a b c d e : List Int), v = .agg #[.slice ao l0 ac, .slice bo l1 bc, .slice co l2 cc, .slice d0 l3 dc, .slice eo l4 ec] ∧ (Reads W (.slice ao l0 ac) a ∧ Reads W (.slice bo l1 bc) b ∧ Reads W (.slice co l2 cc) c ∧ Reads W (.slice d0 l3 dc) d ∧ Reads W (.slice eo l4 ec) e) ∧ (l0 ≤ 9223372036854775807 ∧ l1 ≤ 9223372036854775807 ∧ l2 ≤ 9223372036854775807 ∧ l3 ≤ 9223372036854775807 ∧ l4 ≤ 9223372036854775807) := by
  obtain ⟨cs, rfl, _⟩ := hv
  obtain ⟨fuel, hf⟩ := h
  obtain ⟨x0, x1, x2, x3, x4, m, hl, e0, e1, e2, e3, e4⟩ := trod_struct5 Tryd.underlying41 hf
  rw [cells41] at hl
  obtain ⟨c0, c1, c2, c3, c4, hcs⟩ := len5 hl
  simp only [cells24, hcs, List.drop_zero, List.drop_succ_cons, List.take_succ_cons, List.take_zero] at e0 e1 e2 e3 e4
  obtain ⟨ao, l0, ac, a, rfl, r0, n0⟩ := slice_of e0
  obtain ⟨bo, l1, bc, b, rfl, r1, n1⟩ := slice_of e1
  obtain ⟨co, l2, cc, c, rfl, r2, n2⟩ := slice_of e2
  obtain ⟨d0, l3, dc, d, rfl, r3, n3⟩ := slice_of e3
  obtain ⟨eo, l4, ec, e, rfl, r4, n4⟩ := slice_of e4
  refine ⟨ao, bo, co, d0, eo, l0, l1, l2, l3, l4, ac, bc, cc, dc, ec, a, b, c, d, e, ?_, ⟨r0, r1, r2, r3, r4⟩, n0, n1, n2, n3, n4⟩
  congr 1
  exact Array.toList_inj.1 hcs
end Go.Proofs.YtgeimliibddhmaaDoor

namespace Go.Proofs.YtgeimliibddhmaaDoor
open Go Go.RowKit
set_option linter.unusedVariables false

theorem handed_shaped_and {H : Type} {enc : TypeId × Value → H} {C : Checked} {os : Os} {f : FuncId} {fn : Func} {s : ChangeSpec} {X : World → Array Value → Prop}
    (hX : ∀ (w w' : World) (args : Array Value), w.heap = w'.heap → X w args → X w' args)
    (own : ownKnob C.prog.godebug = none) (started : os.Started) (noInit : C.prog.inits.idxOf? f = none) (hfn : C.prog.funcs[f]? = some fn)
    (witness : ∃ (w : World) (tape : Tape) (i : Input), w.os = os ∧ (w.forCall tape i).Shaped C.prog ∧ i.vars = [] ∧ Input.okWide C.prog (w.forCall tape i) .any w.heap.size f i ∧
      ((s.pre enc C.prog fn [] false (w.forCall tape i).memory i.args ∧ X (w.forCall tape i).memory i.args) ∧ sizedMet enc C.prog fn (OpenSpec.ofChange s) false (w.forCall tape i).memory i.args) ∧ ({} : Assume).holds C.prog (lone (Frame.enter C.prog f i.args .normal) [] (w.forCall tape i)))
    (contract : ∀ (W : World) (base : Nat) (args : Array Value) (ds gs : List (DataW H)) (before : List MemPlace),
      (∀ (j : Nat) t v, fn.params[j]? = some t → args[j]? = some v → Value.okWide C.prog W .any base t v) →
      DataW.Whole enc C.prog fn.params.toList s.vars false W args.toList ds gs before → X W args → W.ShapedOpen C.prog →
      Calls C.prog f args W fun e W' => ∃ v, e = .returned v ∧ s.post enc C.prog fn false true false false W args v W') :
    ReturnsInHanded {} C os f .any (fun w args => (s.pre enc C.prog fn [] false w args ∧ X w args) ∧ sizedMet enc C.prog fn (OpenSpec.ofChange s) false w args) (s.post enc C.prog fn false true false false) := by
  refine returnsInHanded_of_calls own started noInit witness ?_
  intro w tape i _ hsh _ hok hpre _
  obtain ⟨_, _, _, fn', hfn', _, _, _, _, hval⟩ := hok
  obtain rfl : fn' = fn := Option.some.inj (hfn'.symm.trans hfn)
  obtain ⟨⟨⟨ds, gs, before, hw, _⟩, hx⟩, _⟩ := hpre
  refine (contract (w.forCall tape i) w.heap.size i.args ds gs before hval (DataW.Whole.of_heap (w' := w.forCall tape i) (by rfl) hw) (hX _ _ _ (by rfl) hx) hsh).mono fun e W' ⟨v, he, hp⟩ => ?_
  subst he
  exact ChangeSpec.post_blind hp
theorem max_of_shaped {W : World} (h : W.ShapedOpen Tryd.prog) : MaxIs W :=
  cell_of_shapedOpen_int (g := 3) (t := 3) (zero := #[.int .i64 0]) h (of_decide_eq_true (by kernel_rfl)) (by kernel_rfl) rfl (by kernel_rfl) (by kernel_rfl) Tryd.underlying3
end Go.Proofs.YtgeimliibddhmaaDoor
