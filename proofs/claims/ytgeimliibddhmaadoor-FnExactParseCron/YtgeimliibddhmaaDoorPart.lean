/-
  The words of a line: the walk of the model's PartsOf.
-/
import Derived.Test.YtgeimliibddhmaaDoorRows
import Derived.Test.YtgeimliibddhmaaDoorStr
import Derived.Test.YtgeimliibddhmaaDoorInf
import Derived.Lib.Fields
import Derived.WalkKit
import Derived.WalkSpells
import Derived.WalkLawsBesides
import Derived.Handy
namespace Go.Proofs.YtgeimliibddhmaaDoor
open Go.RowKit

theorem Tryd.info9 : (Tryd.prog.info? 9).map (fun i => (i.zero, i.size, i.bytes)) = some (some (.string ByteArray.empty), 1, 16) := by kernel_rfl

/-- Bytes of a plain line. -/
def plainTo (s : ByteArray) (i : Nat) : Prop := ∀ j (h : j < s.size), j < i → 32 ≤ s[j].toNat ∧ s[j].toNat ≤ 126
def texts (l : List (List UInt8)) : List ByteArray := l.map fun t => ⟨t.toArray⟩

theorem drop_cons (s : ByteArray) (i : Nat) (h : i < s.size) : s.data.toList.drop i = s[i] :: s.data.toList.drop (i + 1) := by
  have h2 : i < s.data.toList.length := by simpa using h
  rw [List.drop_eq_getElem_cons h2]
  rfl
theorem isSp_plain {b : UInt8} (h1 : 32 ≤ b.toNat) : Lib.isSp b = decide (b.toNat = 32) := by
  have e : ∀ k : UInt8, (b == k) = decide (b.toNat = k.toNat) := by
    intro k
    by_cases h : b = k
    · subst h; simp
    · rw [beq_eq_false_iff_ne.2 h, decide_eq_false]
      intro h'
      exact h (UInt8.toNat_inj.1 h')
  unfold Lib.isSp
  rw [e, e, e, e, e, e]
  simp
  omega

/-- The scan up to i: what is told, and the word begun at b. -/
structure Scan (s : ByteArray) (b i : Nat) (out : List (List UInt8)) : Prop where
  le : b ≤ i
  is : i ≤ s.size
  eq : Lib.fields s.data.toList = out ++ Lib.fieldsGo ((s.data.toList.drop b).take (i - b)) (s.data.toList.drop i)
  plain : plainTo s i
  len : out.length ≤ i
/-- The scan is through. -/
structure Scanned (s : ByteArray) (out : List (List UInt8)) : Prop where
  eq : Lib.fields s.data.toList = out
  plain : plainTo s s.size
  len : out.length ≤ s.size + 1

theorem scan_start (s : ByteArray) : Scan s 0 0 [] := ⟨Nat.le_refl _, Nat.zero_le _, by simp [Lib.fields], fun j h hj => by omega, by simp⟩
theorem take_word (s : ByteArray) (b i : Nat) (h : b ≤ i) (hi : i < s.size) : (s.data.toList.drop b).take (i + 1 - b) = (s.data.toList.drop b).take (i - b) ++ [s[i]] := by
  have h2 : i - b < (s.data.toList.drop b).length := by simp; have : s.data.size = s.size := rfl; omega
  rw [show i + 1 - b = (i - b) + 1 by omega, List.take_succ_eq_append_getElem h2]
  congr 2
  have e : b + (i - b) = i := by omega
  rw [List.getElem_drop]
  simp only [e]
  rfl
theorem word_empty (s : ByteArray) (b i : Nat) (h : b ≤ i) (hi : i ≤ s.size) : (s.data.toList.drop b).take (i - b) = [] ↔ b = i := by
  have : ((s.data.toList.drop b).take (i - b)).length = i - b := by simp; have : s.data.size = s.size := rfl; omega
  constructor
  · intro e; rw [e] at this; simp at this; omega
  · intro e; subst e; simp

theorem scan_letter {s : ByteArray} {b i : Nat} {out : List (List UInt8)} (h : Scan s b i out) (hi : i < s.size) (h1 : 32 ≤ s[i].toNat) (h2 : s[i].toNat ≤ 126) (hne : s[i].toNat ≠ 32) : Scan s b (i + 1) out := by
  refine ⟨by have := h.le; omega, by omega, ?_, ?_, by have := h.len; omega⟩
  · rw [h.eq, drop_cons s i hi, Lib.fieldsGo_more _ _ _ (by rw [isSp_plain h1]; simpa using hne), take_word s b i h.le hi]
  · intro j hj hlt
    by_cases e : j < i
    · exact h.plain j hj e
    · have : j = i := by omega
      subst this
      exact ⟨h1, h2⟩
theorem plain_next {s : ByteArray} {i : Nat} (h : plainTo s i) (hi : i < s.size) (hz : s[i].toNat = 32) : plainTo s (i + 1) := by
  intro j hj hlt
  by_cases e : j < i
  · exact h j hj e
  · have : j = i := by omega
    subst this
    omega
theorem scan_blank {s : ByteArray} {i : Nat} {out : List (List UInt8)} (h : Scan s i i out) (hi : i < s.size) (hz : s[i].toNat = 32) : Scan s (i + 1) (i + 1) out := by
  refine ⟨Nat.le_refl _, by omega, ?_, plain_next h.plain hi hz, by have := h.len; omega⟩
  rw [h.eq, (word_empty s i i (Nat.le_refl _) (by omega)).2 rfl, drop_cons s i hi, Lib.fieldsGo_sp _ _ (by rw [isSp_plain (by omega)]; simpa using hz)]
  simp
theorem scan_word {s : ByteArray} {b i : Nat} {out : List (List UInt8)} (h : Scan s b i out) (hb : b < i) (hi : i < s.size) (hz : s[i].toNat = 32) : Scan s (i + 1) (i + 1) (out ++ [(s.data.toList.drop b).take (i - b)]) := by
  refine ⟨Nat.le_refl _, by omega, ?_, plain_next h.plain hi hz, by have := h.len; simp; omega⟩
  rw [h.eq, drop_cons s i hi, Lib.fieldsGo_end _ _ _ (by rw [isSp_plain (by omega)]; simpa using hz) (by rw [Ne, word_empty s b i h.le (by omega)]; omega)]
  simp
theorem scan_done_blank {s : ByteArray} {out : List (List UInt8)} (h : Scan s s.size s.size out) : Scanned s out := by
  refine ⟨?_, h.plain, by have := h.len; omega⟩
  rw [h.eq]
  have hd : s.data.toList.drop s.size = [] := List.drop_eq_nil_of_le (by rw [Array.length_toList]; exact Nat.le_refl _)
  rw [hd]
  simp [Lib.fieldsGo]
theorem scan_done_word {s : ByteArray} {b : Nat} {out : List (List UInt8)} (h : Scan s b s.size out) (hb : b < s.size) : Scanned s (out ++ [(s.data.toList.drop b).take (s.size - b)]) := by
  refine ⟨?_, h.plain, by have := h.len; simp; omega⟩
  rw [h.eq]
  have hne : ((s.data.toList.drop b).take (s.size - b)) ≠ [] := by rw [Ne, word_empty s b s.size h.le (Nat.le_refl _)]; omega
  have hd : s.data.toList.drop s.size = [] := List.drop_eq_nil_of_le (by rw [Array.length_toList]; exact Nat.le_refl _)
  rw [hd, Lib.fieldsGo]
  simp [hne]

theorem extract_word (s : ByteArray) (b i : Nat) : s.extract b i = ⟨((s.data.toList.drop b).take (i - b)).toArray⟩ := by
  apply ByteArray.ext
  apply Array.toList_inj.1
  rw [Lib.extract_data]

/-- What PartsOf answers. -/
def partsR (s : ByteArray) : List (List UInt8) × Bool :=
  if 600 < s.size then ([], false)
  else if ∀ b ∈ s.data.toList, 32 ≤ b.toNat ∧ b.toNat ≤ 126 then
    if 10 < (Lib.fields s.data.toList).length then ([], false) else (Lib.fields s.data.toList, true)
  else ([], false)
theorem partsR_long {s : ByteArray} (h : 600 < s.size) : partsR s = ([], false) := by unfold partsR; rw [if_pos h]
theorem plain_all {s : ByteArray} : plainTo s s.size ↔ ∀ b ∈ s.data.toList, 32 ≤ b.toNat ∧ b.toNat ≤ 126 := by
  constructor
  · intro h b hb
    obtain ⟨j, hj, rfl⟩ := List.mem_iff_getElem.1 hb
    have hj' : j < s.size := by simpa using hj
    exact h j hj' hj'
  · intro h j hj _
    have e : s[j] = s.data.toList[j]'(by simpa using hj) := rfl
    rw [e]
    exact h _ (List.getElem_mem _)
theorem partsR_bad {s : ByteArray} {j : Nat} (hj : j < s.size) (hb : s[j].toNat < 32 ∨ 126 < s[j].toNat) : partsR s = ([], false) := by
  unfold partsR
  by_cases h : 600 < s.size
  · rw [if_pos h]
  · rw [if_neg h, if_neg]
    intro h2
    have := plain_all.2 h2 j hj hj
    omega
theorem partsR_many {s : ByteArray} (hs : ¬ 600 < s.size) (h : plainTo s s.size) (hm : 10 < (Lib.fields s.data.toList).length) : partsR s = ([], false) := by
  unfold partsR; rw [if_neg hs, if_pos (plain_all.1 h), if_pos hm]
theorem partsR_ok {s : ByteArray} (hs : ¬ 600 < s.size) (h : plainTo s s.size) (hm : ¬ 10 < (Lib.fields s.data.toList).length) : partsR s = (Lib.fields s.data.toList, true) := by
  unfold partsR; rw [if_neg hs, if_pos (plain_all.1 h), if_neg hm]

/-- The end of a call of PartsOf. -/
def PartsEnd (s : ByteArray) (w : World) (e : Ending) (w' : World) : Prop :=
  ∃ v, e = .returned (.tuple #[v, .bool (partsR s).2]) ∧ ownsS w' w.heap.size 9 v (texts (partsR s).1) ∧ Below w.heap.size w w'

theorem texts_snoc (l : List (List UInt8)) (t : List UInt8) : texts l ++ [⟨t.toArray⟩] = texts (l ++ [t]) := by simp [texts]
theorem texts_length (l : List (List UInt8)) : (texts l).length = l.length := by simp [texts]

theorem end_false {s : ByteArray} {w wx : World} (h : partsR s = ([], false)) (hb : Below w.heap.size w wx) :
    PartsEnd s w (.returned (.tuple #[.slice (some ⟨wx.heap.size, 0, none⟩) 0 0, .bool false])) (wx.alloc (.cells #[] 9)) := by
  refine ⟨_, by rw [h], ?_, hb.alloc hb.size _⟩
  rw [h]
  exact ownsS_made wx _ 0 9 #[] hb.size (by decide) rfl

set_option maxHeartbeats 400000 in
theorem specParts_long (s : ByteArray) (w : World) (hs0 : s.size ≤ 9223372036854775807) (hs : 600 < s.size) :
    Calls Tryd.prog 46 #[.string s] w fun e w' => PartsEnd s w e w' := by
  have H := end_false (partsR_long hs) (Below.refl w.heap.size w)
  have HH : Hid (PartsEnd s w (.returned (.tuple #[.slice (some ⟨w.heap.size, 0, none⟩) 0 0, .bool false])) (w.alloc (.cells #[] 9))) := H
  clear H
  go_enter Tryd.func46, Tryd.ntmps46
  go_wp2
  go_ret2
  exact HH.out

end Go.Proofs.YtgeimliibddhmaaDoor
