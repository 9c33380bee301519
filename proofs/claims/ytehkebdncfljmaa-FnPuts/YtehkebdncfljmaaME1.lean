/-
  The words of a line: the walk of the model's PartsOf. The words of a line: the walk of the model's PartsOf, its loop. Names with commas between, as the specification reads them: the walk. A region that draws its order: its first operations only read (their callees turn nothing that lay there before), its last ones can come up in one order alone: one walk serves every order. Over any program. A region that draws its order: its first operations only read; the next ones come up one behind the other and keep what is read; its last ones wait for all: one walk serves every order. Over any program.
-/
import Derived.Test.YtehkebdncfljmaaRows
import Derived.Test.YtehkebdncfljmaaStr
import Derived.Test.YtehkebdncfljmaaInf
import Derived.Lib.Fields
import Derived.WalkKit
import Derived.WalkSpells
import Derived.WalkLawsBesides
import Derived.Handy
import Derived.Test.YtehkebdncfljmaaTsk
import Derived.Test.YtehkebdncfljmaaPi
import Derived.Test.YtehkebdncfljmaaWd
import Derived.OrdersHeld
namespace Go.Proofs.Ytehkebdncfljmaa
open Go.RowKit

theorem Try.info9 : (Try.prog.info? 9).map (fun i => (i.zero, i.size, i.bytes)) = some (some (.string ByteArray.empty), 1, 16) := by kernel_rfl

/-- Bytes of a plain line. -/
def plainTo (s : ByteArray) (i : Nat) : Prop := ∀ j (h : j < s.size), j < i → 32 ≤ s[j].toNat ∧ s[j].toNat ≤ 126
def texts (l : List (List UInt8)) : List ByteArray := l.map fun t => ⟨t.toArray⟩

theorem drop_cons (s : ByteArray) (i : Nat) (h : i < s.size) : s.data.toList.drop i = s[i] :: s.data.toList.drop (i + 1) := by
  have h2 : i < s.data.toList.length := by simpa using h
  rw [List.drop_eq_getElem_cons h2]
  rfl
theorem isSp_plain {b : UInt8} (h1 : 32 ≤ b.toNat) : Lib.isSp b = decide (b.toNat = 32) := by
  have e : ∀ k : UInt8, (b == k) = decide (b.toNat = k.toNat) := by
    intro k
    by_cases h : b = k
    · subst h; simp
    · rw [beq_eq_false_iff_ne.2 h, decide_eq_false]
      intro h'
      exact h (UInt8.toNat_inj.1 h')
  unfold Lib.isSp
  rw [e, e, e, e, e, e]
  simp
  omega

/-- The scan up to i: what is told, and the word begun at b. -/
structure Scan (s : ByteArray) (b i : Nat) (out : List (List UInt8)) : Prop where
  le : b ≤ i
  is : i ≤ s.size
  eq : Lib.fields s.data.toList = out ++ Lib.fieldsGo ((s.data.toList.drop b).take (i - b)) (s.data.toList.drop i)
  plain : plainTo s i
  len : out.length ≤ i
/-- The scan is through. -/
structure Scanned (s : ByteArray) (out : List (List UInt8)) : Prop where
  eq : Lib.fields s.data.toList = out
  plain : plainTo s s.size
  len : out.length ≤ s.size + 1

theorem scan_start (s : ByteArray) : Scan s 0 0 [] := ⟨Nat.le_refl _, Nat.zero_le _, by simp [Lib.fields], fun j h hj => by omega, by simp⟩
theorem take_word (s : ByteArray) (b i : Nat) (h : b ≤ i) (hi : i < s.size) : (s.data.toList.drop b).take (i + 1 - b) = (s.data.toList.drop b).take (i - b) ++ [s[i]] := by
  have h2 : i - b < (s.data.toList.drop b).length := by simp; have : s.data.size = s.size := rfl; omega
  rw [show i + 1 - b = (i - b) + 1 by omega, List.take_succ_eq_append_getElem h2]
  congr 2
  have e : b + (i - b) = i := by omega
  rw [List.getElem_drop]
  simp only [e]
  rfl
theorem word_empty (s : ByteArray) (b i : Nat) (h : b ≤ i) (hi : i ≤ s.size) : (s.data.toList.drop b).take (i - b) = [] ↔ b = i := by
  have : ((s.data.toList.drop b).take (i - b)).length = i - b := by simp; have : s.data.size = s.size := rfl; omega
  constructor
  · intro e; rw [e] at this; simp at this; omega
  · intro e; subst e; simp

theorem scan_letter {s : ByteArray} {b i : Nat} {out : List (List UInt8)} (h : Scan s b i out) (hi : i < s.size) (h1 : 32 ≤ s[i].toNat) (h2 : s[i].toNat ≤ 126) (hne : s[i].toNat ≠ 32) : Scan s b (i + 1) out := by
  refine ⟨by have := h.le; omega, by omega, ?_, ?_, by have := h.len; omega⟩
  · rw [h.eq, drop_cons s i hi, Lib.fieldsGo_more _ _ _ (by rw [isSp_plain h1]; simpa using hne), take_word s b i h.le hi]
  · intro j hj hlt
    by_cases e : j < i
    · exact h.plain j hj e
    · have : j = i := by omega
      subst this
      exact ⟨h1, h2⟩
theorem plain_next {s : ByteArray} {i : Nat} (h : plainTo s i) (hi : i < s.size) (hz : s[i].toNat = 32) : plainTo s (i + 1) := by
  intro j hj hlt
  by_cases e : j < i
  · exact h j hj e
  · have : j = i := by omega
    subst this
    omega
theorem scan_blank {s : ByteArray} {i : Nat} {out : List (List UInt8)} (h : Scan s i i out) (hi : i < s.size) (hz : s[i].toNat = 32) : Scan s (i + 1) (i + 1) out := by
  refine ⟨Nat.le_refl _, by omega, ?_, plain_next h.plain hi hz, by have := h.len; omega⟩
  rw [h.eq, (word_empty s i i (Nat.le_refl _) (by omega)).2 rfl, drop_cons s i hi, Lib.fieldsGo_sp _ _ (by rw [isSp_plain (by omega)]; simpa using hz)]
  simp
theorem scan_word {s : ByteArray} {b i : Nat} {out : List (List UInt8)} (h : Scan s b i out) (hb : b < i) (hi : i < s.size) (hz : s[i].toNat = 32) : Scan s (i + 1) (i + 1) (out ++ [(s.data.toList.drop b).take (i - b)]) := by
  refine ⟨Nat.le_refl _, by omega, ?_, plain_next h.plain hi hz, by have := h.len; simp; omega⟩
  rw [h.eq, drop_cons s i hi, Lib.fieldsGo_end _ _ _ (by rw [isSp_plain (by omega)]; simpa using hz) (by rw [Ne, word_empty s b i h.le (by omega)]; omega)]
  simp
theorem scan_done_blank {s : ByteArray} {out : List (List UInt8)} (h : Scan s s.size s.size out) : Scanned s out := by
  refine ⟨?_, h.plain, by have := h.len; omega⟩
  rw [h.eq]
  have hd : s.data.toList.drop s.size = [] := List.drop_eq_nil_of_le (by rw [Array.length_toList]; exact Nat.le_refl _)
  rw [hd]
  simp [Lib.fieldsGo]
theorem scan_done_word {s : ByteArray} {b : Nat} {out : List (List UInt8)} (h : Scan s b s.size out) (hb : b < s.size) : Scanned s (out ++ [(s.data.toList.drop b).take (s.size - b)]) := by
  refine ⟨?_, h.plain, by have := h.len; simp; omega⟩
  rw [h.eq]
  have hne : ((s.data.toList.drop b).take (s.size - b)) ≠ [] := by rw [Ne, word_empty s b s.size h.le (Nat.le_refl _)]; omega
  have hd : s.data.toList.drop s.size = [] := List.drop_eq_nil_of_le (by rw [Array.length_toList]; exact Nat.le_refl _)
  rw [hd, Lib.fieldsGo]
  simp [hne]

theorem extract_word (s : ByteArray) (b i : Nat) : s.extract b i = ⟨((s.data.toList.drop b).take (i - b)).toArray⟩ := by
  apply ByteArray.ext
  apply Array.toList_inj.1
  rw [Lib.extract_data]

/-- What PartsOf answers. -/
def partsR (s : ByteArray) : List (List UInt8) × Bool :=
  if 600 < s.size then ([], false)
  else if ∀ b ∈ s.data.toList, 32 ≤ b.toNat ∧ b.toNat ≤ 126 then
    if 10 < (Lib.fields s.data.toList).length then ([], false) else (Lib.fields s.data.toList, true)
  else ([], false)
theorem partsR_long {s : ByteArray} (h : 600 < s.size) : partsR s = ([], false) := by unfold partsR; rw [if_pos h]
theorem plain_all {s : ByteArray} : plainTo s s.size ↔ ∀ b ∈ s.data.toList, 32 ≤ b.toNat ∧ b.toNat ≤ 126 := by
  constructor
  · intro h b hb
    obtain ⟨j, hj, rfl⟩ := List.mem_iff_getElem.1 hb
    have hj' : j < s.size := by simpa using hj
    exact h j hj' hj'
  · intro h j hj _
    have e : s[j] = s.data.toList[j]'(by simpa using hj) := rfl
    rw [e]
    exact h _ (List.getElem_mem _)
theorem partsR_bad {s : ByteArray} {j : Nat} (hj : j < s.size) (hb : s[j].toNat < 32 ∨ 126 < s[j].toNat) : partsR s = ([], false) := by
  unfold partsR
  by_cases h : 600 < s.size
  · rw [if_pos h]
  · rw [if_neg h, if_neg]
    intro h2
    have := plain_all.2 h2 j hj hj
    omega
theorem partsR_many {s : ByteArray} (hs : ¬ 600 < s.size) (h : plainTo s s.size) (hm : 10 < (Lib.fields s.data.toList).length) : partsR s = ([], false) := by
  unfold partsR; rw [if_neg hs, if_pos (plain_all.1 h), if_pos hm]
theorem partsR_ok {s : ByteArray} (hs : ¬ 600 < s.size) (h : plainTo s s.size) (hm : ¬ 10 < (Lib.fields s.data.toList).length) : partsR s = (Lib.fields s.data.toList, true) := by
  unfold partsR; rw [if_neg hs, if_pos (plain_all.1 h), if_neg hm]

/-- The end of a call of PartsOf. -/
def PartsEnd (s : ByteArray) (w : World) (e : Ending) (w' : World) : Prop :=
  ∃ v, e = .returned (.tuple #[v, .bool (partsR s).2]) ∧ ownsS w' w.heap.size 9 v (texts (partsR s).1) ∧ Below w.heap.size w w'

theorem texts_snoc (l : List (List UInt8)) (t : List UInt8) : texts l ++ [⟨t.toArray⟩] = texts (l ++ [t]) := by simp [texts]
theorem texts_length (l : List (List UInt8)) : (texts l).length = l.length := by simp [texts]

theorem end_false {s : ByteArray} {w wx : World} (h : partsR s = ([], false)) (hb : Below w.heap.size w wx) :
    PartsEnd s w (.returned (.tuple #[.slice (some ⟨wx.heap.size, 0, none⟩) 0 0, .bool false])) (wx.alloc (.cells #[] 9)) := by
  refine ⟨_, by rw [h], ?_, hb.alloc hb.size _⟩
  rw [h]
  exact ownsS_made wx _ 0 9 #[] hb.size (by decide) rfl

set_option maxHeartbeats 400000 in
theorem specParts_long (s : ByteArray) (w : World) (hs0 : s.size ≤ 9223372036854775807) (hs : 600 < s.size) :
    Calls Try.prog 88 #[.string s] w fun e w' => PartsEnd s w e w' := by
  have H := end_false (partsR_long hs) (Below.refl w.heap.size w)
  have HH : Hid (PartsEnd s w (.returned (.tuple #[.slice (some ⟨w.heap.size, 0, none⟩) 0 0, .bool false])) (w.alloc (.cells #[] 9))) := H
  clear H
  go_enter Try.func88, Try.ntmps88
  go_wp2
  go_ret2
  exact HH.out

end Go.Proofs.Ytehkebdncfljmaa

namespace Go.Proofs.Ytehkebdncfljmaa
open Go.RowKit

theorem ownsS_slice {w : World} {B : Nat} {e : TypeId} {v : Value} {l : List ByteArray} (h : ownsS w B e v l) : ∃ ao cap, v = .slice ao l.length cap := by
  rcases h.2 with ⟨rfl, hn⟩ | ⟨g, cap, cur, rfl, _⟩
  · exact ⟨none, 0, by rw [hn]⟩
  · exact ⟨_, _, rfl⟩

def ScanAt (s : ByteArray) (b n : Nat) (l : List (List UInt8)) : Prop := (n ≤ s.size → Scan s b n l) ∧ (n = s.size + 1 → Scanned s l)

theorem scanAt_len {s : ByteArray} {b n : Nat} {l : List (List UInt8)} (h : Hid (ScanAt s b n l)) (hn : n ≤ s.size + 1) : (texts l).length ≤ s.size + 1 := by
  rw [texts_length]
  by_cases h1 : n ≤ s.size
  · have := (h.out.1 h1).len; omega
  · exact (h.out.2 (by omega)).len
theorem scanAt_le {s : ByteArray} {b n : Nat} {l : List (List UInt8)} (h : Hid (ScanAt s b n l)) (hn : n ≤ s.size) : b ≤ n := (h.out.1 hn).le

theorem end_true {s : ByteArray} {w wx : World} {l : List (List UInt8)} {v : Value} (h : partsR s = (l, true)) (ho : ownsS wx w.heap.size 9 v (texts l)) (hb : Below w.heap.size w wx) :
    PartsEnd s w (.returned (.tuple #[v, .bool true])) wx := ⟨v, by rw [h], by rw [h]; exact ho, hb⟩
theorem scan_blank' {s : ByteArray} {b i : Nat} {out : List (List UInt8)} (h : Scan s b i out) (hb : b = i) (hi : i < s.size) (hz : s[i].toNat = 32) : Scan s (i + 1) (i + 1) out := by
  subst hb; exact scan_blank h hi hz
theorem scan_done_blank' {s : ByteArray} {b n : Nat} {out : List (List UInt8)} (h : Scan s b n out) (hb : b = n) (hn : n = s.size) : Scanned s out := by
  subst hb; subst hn; exact scan_done_blank h
theorem scan_done_word' {s : ByteArray} {b n : Nat} {out : List (List UInt8)} (h : Scan s b n out) (hn : n = s.size) (hb : b < n) : Scanned s (out ++ [(s.data.toList.drop b).take (n - b)]) := by
  subst hn; exact scan_done_word h hb

set_option maxHeartbeats 1600000 in
set_option maxRecDepth 100000 in
theorem specParts_in (s : ByteArray) (w : World) (hs : s.size ≤ 600) :
    Calls Try.prog 88 #[.string s] w fun e w' => PartsEnd s w e w' := by
  go_enter Try.func88, Try.ntmps88
  go_wp2
  go_loopw [4, 5, 6] (fun out b i wr => ∃ (bn n : Nat) (l : List (List UInt8)), b = .int .i64 bn ∧ i = .int .i64 n ∧ n ≤ s.size + 1 ∧ ownsS wr w.heap.size 9 out (texts l) ∧ Below w.heap.size w wr ∧ Hid (ScanAt s bn n l)) (fun _ _ i _ => s.size + 1 - (intOf i).toNat)
  case atStart => exact ⟨0, 0, [], rfl, rfl, by omega, ownsS_made _ _ _ _ _ (Nat.le_refl _) (by decide) rfl, (Below.refl _ _).alloc (Nat.le_refl _) _, ⟨fun _ => scan_start s, fun h => by omega⟩⟩
  case round =>
    obtain ⟨bn, n, l, rfl, rfl, hn, hown, hbel, HS⟩ := hrel
    have hsz := hbel.size
    have hll := scanAt_len HS hn
    obtain ⟨ao, cap, rfl⟩ := ownsS_slice hown
    by_cases hn1 : n ≤ s.size
    · have hbn := scanAt_le HS hn1
      by_cases hlt : n < s.size
      · have h256 := s[n].toNat_lt
        by_cases h1 : s[n].toNat < 32
        · have HH : Hid (PartsEnd s w _ _) := end_false (partsR_bad hlt (Or.inl h1)) hbel
          go_wp2
          go_ret2
          exact HH.out
        · by_cases h2 : 126 < s[n].toNat
          · have HH : Hid (PartsEnd s w _ _) := end_false (partsR_bad hlt (Or.inr h2)) hbel
            go_wp2
            go_ret2
            exact HH.out
          · by_cases h3 : s[n].toNat = 32
            · have h3' : ((s[n].toNat : Int) != 32) = false := by rw [bne_eq_false_iff_eq]; omega
              have H3 : Hid (s[n].toNat = 32) := h3
              clear h3
              by_cases h4 : bn < n
              · go_wp2_with (at_builtin; refine wpList_append_text _ w rfl (.tmp 48) (.tmp 53) 128 rfl w.heap.size 9 Try.underlying128 info9 _ (texts l) rfl (hown.alloc _) (hbel.alloc hsz _) ⟨wr.heap.size, 0, none⟩ 1 (s.extract bn n) rfl ?c1 ?c2 ?c3 ?_)
                case c1 => simp
                case c2 => omega
                case c3 => simp; omega
                intro v2 w2 hown2 hbel2
                clear hown hbel
                go_wp2
                go_roundw
                case rel => exact ⟨n + 1, n + 1, _, by go_num, by go_num, by omega, (by rw [extract_word, texts_snoc] at hown2; exact hown2), hbel2, ⟨fun _ => scan_word (HS.out.1 hn1) h4 hlt H3.out, fun h => by omega⟩⟩
                case measure => simp [intOf]; omega
              · go_wp2
                go_roundw
                case rel => exact ⟨n + 1, n + 1, l, by go_num, by go_num, by omega, hown, hbel, ⟨fun _ => scan_blank' (HS.out.1 hn1) (by omega) hlt H3.out, fun h => by omega⟩⟩
                case measure => simp [intOf]; omega
            · have h3' : ((s[n].toNat : Int) != 32) = true := by rw [bne_iff_ne]; omega
              go_wp2
              go_roundw
              case rel => exact ⟨bn, n + 1, l, rfl, by go_num, by omega, hown, hbel, ⟨fun _ => scan_letter (HS.out.1 hn1) hlt (by omega) (by omega) h3, fun h => by omega⟩⟩
              case measure => simp [intOf]; omega
      · by_cases h4 : bn < n
        · go_wp2_with (at_builtin; refine wpList_append_text _ w rfl (.tmp 48) (.tmp 53) 128 rfl w.heap.size 9 Try.underlying128 info9 _ (texts l) rfl (hown.alloc _) (hbel.alloc hsz _) ⟨wr.heap.size, 0, none⟩ 1 (s.extract bn n) rfl ?d1 ?d2 ?d3 ?_)
          case d1 => simp
          case d2 => omega
          case d3 => simp; omega
          intro v2 w2 hown2 hbel2
          clear hown hbel
          go_wp2
          go_roundw
          case rel => exact ⟨n + 1, n + 1, _, by go_num, by go_num, by omega, (by rw [extract_word, texts_snoc] at hown2; exact hown2), hbel2, ⟨fun h => by omega, fun _ => scan_done_word' (HS.out.1 hn1) (by omega) h4⟩⟩
          case measure => simp [intOf]; omega
        · go_wp2
          go_roundw
          case rel => exact ⟨n + 1, n + 1, l, by go_num, by go_num, by omega, hown, hbel, ⟨fun h => by omega, fun _ => scan_done_blank' (HS.out.1 hn1) (by omega) (by omega)⟩⟩
          case measure => simp [intOf]; omega
    · have hd := HS.out.2 (by omega)
      have hl10 := texts_length l
      have HL : Hid ((texts l).length = l.length) := hl10
      clear hl10
      by_cases h10 : 10 < (texts l).length
      · have HH : Hid (PartsEnd s w _ _) := end_false (partsR_many (by omega) hd.plain (by rw [hd.eq]; have := HL.out; omega)) hbel
        clear hd
        go_wp2
        go_ret2
        exact HH.out
      · have HH : Hid (PartsEnd s w _ _) := end_true (by have h := partsR_ok (s := s) (by omega) hd.plain (by rw [hd.eq]; have := HL.out; omega); rw [hd.eq] at h; exact h) hown hbel
        clear hd
        go_wp2
        go_ret2
        exact HH.out

theorem specParts_any (s : ByteArray) (w : World) (hs : s.size ≤ 1048576) : Calls Try.prog 88 #[.string s] w fun e w' => PartsEnd s w e w' := by
  by_cases h : 600 < s.size
  · exact specParts_long s w (by omega) h
  · exact specParts_in s w (by omega)

end Go.Proofs.Ytehkebdncfljmaa

namespace Go.Proofs.Ytehkebdncfljmaa
open Go Go.RowKit

theorem ownsS_reads {w : World} {B : Nat} {e : TypeId} {v : Value} {l : List ByteArray} (h : ownsS w B e v l) : Reads w v l := by
  by_cases hne : l = []
  · subst hne
    obtain ⟨ao, c, rfl⟩ := ownsS_empty h
    exact reads_none w ao c
  · obtain ⟨g, c, rfl, _, hg, _, hc, _⟩ := ownsS_form h hne
    refine ⟨_, c, rfl, fun _ => ⟨g, 0, rfl, hg, fun i x hx j u hu => ?_⟩⟩
    obtain ⟨hi, rfl⟩ := List.getElem?_eq_some_iff.1 hx
    match j, hu with
    | 0, hu =>
      simp only [Rec.cells, List.getElem?_cons_zero, Option.some.injEq] at hu
      subst hu
      rw [show 0 + i * Rec.width ByteArray + 0 = i by show 0 + i * 1 + 0 = i; omega]
      exact hc i hi
    | j + 1, hu => simp [Rec.cells] at hu
/-- One text behind another. -/
def moreB (a b : ByteArray) : Bool := !(Op.bytesLess a.toList b.toList || a.toList == b.toList)
theorem ownsS_drewN {w : World} {B : Nat} {e : TypeId} {v : Value} {l : List ByteArray} (h : ownsS w B e v l) (m : Nat) : ownsS (w.drewN m) B e v l := h
theorem made_cell (w : World) (m : Nat) (v : Value) (t : TypeId) : ((w.drewN m).alloc (.cells #[v] t)).cell? ⟨w.heap.size, 0, none⟩ = some v := by
  obtain ⟨u, hu⟩ : ∃ u, w.drewN m = u := ⟨_, rfl⟩
  have h : w.heap.size = u.heap.size := by rw [← hu]; rfl
  rw [h, hu]
  simp
/-- A name put into a rising list. -/
def insN (l : List ByteArray) (s : ByteArray) : List ByteArray := l.filter (fun x => lessB x s) ++ [s] ++ l.filter (fun x => moreB x s)
def namesGo : List ByteArray → List ByteArray → Option (List ByteArray)
  | [], l => some l
  | s :: r, l => if (nameB s && l.all fun x => !decide (x = s)) = true then namesGo r (insN l s) else none
/-- Names with commas between. -/
def namesO (s : ByteArray) : Option (List ByteArray) := namesGo (splitB s 44) []
theorem namesGo_at {p l : List ByteArray} {k : Nat} {s : ByteArray} (h : p[k]? = some s) : namesGo (p.drop k) l = if (nameB s && l.all fun x => !decide (x = s)) = true then namesGo (p.drop (k + 1)) (insN l s) else none := by
  obtain ⟨hk, rfl⟩ := List.getElem?_eq_some_iff.1 h
  rw [List.drop_eq_getElem_cons hk]
  rfl
theorem namesGo_end {p l : List ByteArray} {k : Nat} (h : k = p.length) : namesGo (p.drop k) l = some l := by
  subst h; rw [List.drop_length]; rfl
theorem filter_take {l : List ByteArray} {k : Nat} {x : ByteArray} (f : ByteArray → Bool) (h : l[k]? = some x) : (l.take (k + 1)).filter f = (l.take k).filter f ++ (if f x then [x] else []) := by
  rw [List.take_add_one, h, List.filter_append]
  congr 1
  cases hf : f x <;> simp [hf]
theorem filter_len {l : List ByteArray} (k : Nat) (f : ByteArray → Bool) : ((l.take k).filter f).length ≤ k := by
  have h1 := List.length_filter_le f (l.take k)
  have h2 := List.length_take_le k l
  omega
theorem insN_len {l : List ByteArray} (s : ByteArray) : (insN l s).length ≤ 2 * l.length + 1 := by
  have h1 := List.length_filter_le (fun x => lessB x s) l
  have h2 := List.length_filter_le (fun x => moreB x s) l
  unfold insN
  simp only [List.length_append, List.length_cons, List.length_nil]
  omega
theorem less_not {s : ByteArray} : ∀ l : List ByteArray, (∀ x ∈ l, lessB x s = true → moreB x s = false) → (l.filter (fun x => lessB x s)).length + (l.filter (fun x => moreB x s)).length ≤ l.length
  | [], _ => Nat.le_refl _
  | x :: r, h => by
    have ih := less_not r fun y hy => h y (List.mem_cons_of_mem _ hy)
    have hx := h x (List.mem_cons_self ..)
    simp only [List.filter_cons, List.length_cons]
    cases h1 : lessB x s with
    | true => rw [hx h1]; simp; omega
    | false => cases h2 : moreB x s <;> simp <;> omega
theorem insN_len1 {l : List ByteArray} (s : ByteArray) : (insN l s).length ≤ l.length + 1 := by
  have := less_not (s := s) l fun x _ h => by unfold moreB; unfold lessB at h; rw [h]; rfl
  unfold insN
  simp only [List.length_append, List.length_cons, List.length_nil]
  omega
theorem all_take {l : List ByteArray} {k : Nat} {x : ByteArray} (f : ByteArray → Bool) (h : l[k]? = some x) : (l.take (k + 1)).all f = ((l.take k).all f && f x) := by
  rw [List.take_add_one, h]
  simp
theorem all_no {l : List ByteArray} {k : Nat} {x : ByteArray} (f : ByteArray → Bool) (h : l[k]? = some x) (hf : f x = false) : l.all f = false := by
  rw [List.all_eq_false]
  exact ⟨x, List.mem_of_getElem? h, by simp [hf]⟩
def NamP (s : ByteArray) (w : World) (e : Ending) (w' : World) : Prop :=
  ∃ v, e = .returned (.tuple #[v, .bool (namesO s).isSome]) ∧ ownsS w' w.heap.size 9 v ((namesO s).getD []) ∧ Below w.heap.size w w'
theorem nam_no {s : ByteArray} {w W : World} (h : namesO s = none) (hb : Below w.heap.size w W) : NamP s w (.returned (.tuple #[.slice (some ⟨W.heap.size, 0, none⟩) 0 0, .bool false])) (W.alloc (.cells #[] 9)) := by
  refine ⟨_, by rw [h]; rfl, ?_, ba hb _⟩
  rw [h]
  exact ownsS_made _ _ _ _ _ hb.size (by decide) rfl

set_option maxRecDepth 10000 in
set_option maxHeartbeats 4000000 in
theorem l12Names_any (s : ByteArray) (w : World) (hs : s.size ≤ 100000) : Calls Try.prog 102 #[.string s] w (NamP s w) := by
  have HNO : Hid (namesO s = namesGo (splitB s 44) []) := rfl
  have HSP : Hid (∀ w, Calls Try.prog 109 #[.string s, .int .u8 44] w fun e w' => ∃ v, e = .returned v ∧ ownsS w' w.heap.size 9 v (splitB s 44) ∧ Below w.heap.size w w') := fun w => l10Split_any s 44 w (by omega)
  obtain ⟨P, HP⟩ : ∃ P, Hid (splitB s 44 = P) := ⟨_, rfl⟩
  have HPZ : Hid (∀ t ∈ P, t.size ≤ 9223372036854775807) := fun t ht => by have := splitB_sz s 44 t (by rw [HP.out]; exact ht); omega
  have hpl : P.length ≤ 100001 := by rw [← HP.out]; unfold splitB; have := (cutsN_bd s 44 (s.size + 1)).2; omega
  rw [HP.out] at HNO HSP
  clear HP
  go_enter Try.func102, Try.ntmps102
  go_wp2_with fail
  refine (HSP.out _).mono ?_
  rintro e w1 ⟨v1, rfl, ho1, B1⟩
  have HPR0 : Hid (Reads w1 v1 P) := ownsS_reads ho1
  obtain ⟨po, pc, rfl, -⟩ := id HPR0.out
  clear ho1
  obtain ⟨np, HNP⟩ : ∃ n, Hid (P.length = n) := ⟨_, rfl⟩
  rw [HNP.out] at hpl HPR0 ⊢
  go_wp2
  go_loopw [5, 6] (fun ov iv wr => ∃ (i : Nat) (l : List ByteArray), i ≤ np ∧ iv = .int .i64 i ∧ l.length ≤ i ∧ Hid (namesO s = namesGo (P.drop i) l) ∧ ownsS wr w.heap.size 9 ov l ∧ Below w1.heap.size w1 wr) (fun _ iv _ => np - (intOf iv).toNat)
  case atStart => exact ⟨0, [], Nat.zero_le _, rfl, Nat.le_refl _, (by rw [List.drop_zero]; exact HNO), ownsS_made _ _ _ _ _ B1.size (by decide) rfl, ba (Below.refl _ _) _⟩
  case round =>
    obtain ⟨i, l, hi, rfl, hl, HE, hown, hbel⟩ := hrel
    obtain ⟨W, rfl⟩ : ∃ W, W = wr := ⟨_, rfl⟩
    have BR := Below.on B1 hbel
    have HPR : Hid (Reads W (.slice po np pc) P) := HPR0.out.below hbel
    by_cases hin : i < np
    · obtain ⟨t, ht⟩ : ∃ t, P[i]? = some t := ⟨_, List.getElem?_eq_getElem (by rw [HNP.out]; exact hin)⟩
      have HE2 : Hid (namesO s = if (nameB t && l.all fun x => !decide (x = t)) = true then namesGo (P.drop (i + 1)) (insN l t) else none) := HE.out.trans (namesGo_at ht)
      have HNA := nameOk_any t W (HPZ.out t (List.mem_of_getElem? ht))
      obtain ⟨pb, pp, rfl, hpb, ct⟩ := text_at HPR.out ht
      clear ht
      cases hq : nameB t with
      | false =>
        rw [hq] at HNA HE2
        have HF : Hid (namesO s = none) := HE2.out
        clear hq
        go_wp2_with (go_at_call 79; refine HNA.mono ?_; rintro e w2 ⟨rfl, hw⟩; have hw2 := hw.symm; subst hw2)
        go_ret2
        exact nam_no HF.out BR
      | true =>
        rw [hq, Bool.true_and] at HE2
        rw [hq] at HNA
        clear hq
        obtain ⟨oo, oc, rfl⟩ := ownsS_slice hown
        have HLR : Hid (Reads W (.slice oo l.length oc) l) := ownsS_reads hown
        obtain ⟨n, HN⟩ : ∃ n, Hid (l.length = n) := ⟨_, rfl⟩
        rw [HN.out] at hl HLR
        have hown2 := hown
        rw [HN.out]
        go_wp2_with (go_at_call 79; refine HNA.mono ?_; rintro e w2 ⟨rfl, hw⟩; have hw2 := hw.symm; subst hw2)
        clear HNA hown
        go_loopw [7, 8] (fun nv kv wx => ∃ k : Nat, k ≤ n ∧ kv = .int .i64 k ∧ ownsS wx W.heap.size 9 nv ((l.take k).filter fun x => lessB x t) ∧ Hid ((l.take k).all (fun x => !decide (x = t)) = true) ∧ Below W.heap.size W wx) (fun _ kv _ => n - (intOf kv).toNat)
        case atStart => exact ⟨0, Nat.zero_le _, rfl, ownsS_made _ _ _ _ _ (Nat.le_refl _) (by decide) rfl, rfl, ba (Below.refl _ _) _⟩
        case round =>
          obtain ⟨k, hk, rfl, ho, HAL, hbx⟩ := hrel
          have ct2 := (hbx.cell hpb).trans ct
          by_cases hkn : k < n
          · obtain ⟨x, hx⟩ : ∃ x, l[k]? = some x := ⟨_, List.getElem?_eq_getElem (by rw [HN.out]; exact hkn)⟩
            have HFT : Hid ((l.take (k + 1)).filter (fun x => lessB x t) = (l.take k).filter (fun x => lessB x t) ++ (if lessB x t then [x] else [])) := filter_take _ hx
            have HAT : Hid ((l.take (k + 1)).all (fun x => !decide (x = t)) = ((l.take k).all (fun x => !decide (x = t)) && !decide (x = t))) := all_take _ hx
            have HNO2 : Hid (x = t → (l.all fun x => !decide (x = t)) = false) := fun e => all_no _ hx (by simp [e])
            have hfl := filter_len (l := l) k (fun x => lessB x t)
            obtain ⟨ob, op, rfl, hob, cx⟩ := text_at (HLR.out.below hbx) hx
            clear hx
            by_cases hxt : x = t
            · have HF : Hid (namesO s = none) := HE2.out.trans (by rw [HNO2.out hxt]; rfl)
              subst hxt
              go_wp2
              go_quiet (fail)
              go_wp2
              go_ret2
              exact nam_no HF.out (bdrewN (Below.on BR hbx) _)
            · have e1 := ne_list hxt
              have HA2 : Hid ((l.take (k + 1)).all (fun x => !decide (x = t)) = true) := by show _ = true; rw [HAT.out, HAL.out, decide_eq_false hxt]; rfl
              have hsx := hbx.size
              cases hlb : Op.bytesLess x.toList t.toList with
              | false =>
                have HF2 : Hid ((l.take (k + 1)).filter (fun x => lessB x t) = (l.take k).filter (fun x => lessB x t)) := by show _ = _; rw [HFT.out]; simp [lessB, hlb]
                go_wp2
                go_quiet (fail)
                go_wp2
                go_quiet (fail)
                go_wp2
                go_roundw
                case rel => exact ⟨k + 1, by omega, by go_num, by rw [HF2.out]; exact ho, HA2, bdrewN hbx _⟩
                case measure => simp [intOf]; omega
              | true =>
                have HF2 : Hid ((l.take (k + 1)).filter (fun x => lessB x t) = (l.take k).filter (fun x => lessB x t) ++ [x]) := by show _ = _; rw [HFT.out]; simp [lessB, hlb]
                go_wp2
                go_quiet (fail)
                go_wp2
                go_quiet (fail)
                go_wp2_with (at_builtin; refine wpList_append_text _ W rfl (.tmp 52) (.tmp 57) 128 rfl W.heap.size 9 Try.underlying128 info9 _ ((l.take k).filter fun x => lessB x t) rfl ((ownsS_drewN ho _).alloc _) ((bdrewN hbx _).alloc hsx _) ⟨wr.heap.size, 0, none⟩ 1 x rfl ?c1 ?c2 ?c3 ?_)
                case c1 => exact made_cell _ _ _ _
                case c2 => omega
                case c3 => simp; omega
                intro v' w4 ho4 hb4
                rw [← HF2.out] at ho4
                go_wp2
                go_roundw
                case rel => exact ⟨k + 1, by omega, by go_num, ho4, HA2, hb4⟩
                case measure => simp [intOf]; omega
          · have HK : Hid (l.take k = l) := by show _ = _; exact List.take_of_length_le (by rw [HN.out]; omega)
            rw [HK.out] at ho HAL
            have HE3 : Hid (namesO s = namesGo (P.drop (i + 1)) (insN l t)) := HE2.out.trans (by rw [if_pos HAL.out])
            have hfl := List.length_filter_le (fun x => lessB x t) l
            rw [HN.out] at hfl
            have hsx := hbx.size
            clear HE2 HAL HK
            go_wp2_with (at_builtin; refine wpList_append_text _ W rfl (.tmp 59) (.tmp 64) 128 rfl W.heap.size 9 Try.underlying128 info9 _ (l.filter fun x => lessB x t) rfl (ho.alloc _) (hbx.alloc hsx _) ⟨wr.heap.size, 0, none⟩ 1 t rfl ?c1 ?c2 ?c3 ?_)
            case c1 => simp
            case c2 => omega
            case c3 => simp; omega
            intro v' w4 ho4 hb4
            clear ho hbx ct2 hsx
            go_wp2
            go_loopw [7, 9] (fun nv kv wx => ∃ k : Nat, k ≤ n ∧ kv = .int .i64 k ∧ ownsS wx W.heap.size 9 nv ((l.filter fun x => lessB x t) ++ [t] ++ ((l.take k).filter fun x => moreB x t)) ∧ Below W.heap.size W wx) (fun _ kv _ => n - (intOf kv).toNat)
            case atStart => exact ⟨0, Nat.zero_le _, rfl, (by rw [List.take_zero, List.filter_nil, List.append_nil]; exact ho4), hb4⟩
            case round =>
              clear ho4 hb4
              obtain ⟨k, hk, rfl, ho, hbx⟩ := hrel
              have ct2 := (hbx.cell hpb).trans ct
              by_cases hkn : k < n
              · obtain ⟨x, hx⟩ : ∃ x, l[k]? = some x := ⟨_, List.getElem?_eq_getElem (by rw [HN.out]; exact hkn)⟩
                have HFT : Hid ((l.take (k + 1)).filter (fun x => moreB x t) = (l.take k).filter (fun x => moreB x t) ++ (if moreB x t then [x] else [])) := filter_take _ hx
                have hfl2 := filter_len (l := l) k (fun x => moreB x t)
                obtain ⟨ob, op, rfl, hob, cx⟩ := text_at (HLR.out.below hbx) hx
                clear hx
                have hsx := hbx.size
                cases hlb : Op.bytesLess x.toList t.toList with
                | true =>
                  have HF2 : Hid ((l.take (k + 1)).filter (fun x => moreB x t) = (l.take k).filter (fun x => moreB x t)) := by show _ = _; rw [HFT.out]; simp [moreB, hlb]
                  go_wp2
                  go_quiet (fail)
                  go_wp2
                  go_roundw
                  case rel => exact ⟨k + 1, by omega, by go_num, by rw [HF2.out]; exact ho, bdrewN hbx _⟩
                  case measure => simp [intOf]; omega
                | false =>
                  by_cases hxt : x = t
                  · have e1 := eq_list hxt
                    have HF2 : Hid ((l.take (k + 1)).filter (fun x => moreB x t) = (l.take k).filter (fun x => moreB x t)) := by show _ = _; rw [HFT.out]; simp [moreB, e1]
                    go_wp2
                    go_quiet (fail)
                    go_wp2
                    go_roundw
                    case rel => exact ⟨k + 1, by omega, by go_num, by rw [HF2.out]; exact ho, bdrewN hbx _⟩
                    case measure => simp [intOf]; omega
                  · have e1 := ne_list hxt
                    have HF2 : Hid ((l.take (k + 1)).filter (fun x => moreB x t) = (l.take k).filter (fun x => moreB x t) ++ [x]) := by show _ = _; rw [HFT.out]; simp [moreB, hlb, e1]
                    go_wp2
                    go_quiet (fail)
                    go_wp2_with (at_builtin; refine wpList_append_text _ W rfl (.tmp 81) (.tmp 86) 128 rfl W.heap.size 9 Try.underlying128 info9 _ ((l.filter fun x => lessB x t) ++ [t] ++ ((l.take k).filter fun x => moreB x t)) rfl ((ownsS_drewN ho _).alloc _) ((bdrewN hbx _).alloc hsx _) ⟨wr.heap.size, 0, none⟩ 1 x rfl ?c1 ?c2 ?c3 ?_)
                    case c1 => exact made_cell _ _ _ _
                    case c2 => simp only [List.length_append, List.length_cons, List.length_nil]; omega
                    case c3 => simp; omega
                    intro v' w4 ho4 hb4
                    go_wp2
                    go_roundw
                    case rel => exact ⟨k + 1, by omega, by go_num, by rw [HF2.out]; simpa using ho4, hb4⟩
                    case measure => simp [intOf]; omega
              · have HK : Hid (l.take k = l) := by show _ = _; exact List.take_of_length_le (by rw [HN.out]; omega)
                rw [HK.out] at ho
                have hil := insN_len1 (l := l) t
                rw [HN.out] at hil
                go_wp2
                go_roundw
                case rel => exact ⟨i + 1, insN l t, by omega, by go_num, by omega, HE3, ownsS.mono ho BR.size, Below.on hbel hbx⟩
                case measure => simp [intOf]; omega
    · have HF : Hid (namesO s = some l) := HE.out.trans (namesGo_end (by rw [HNP.out]; omega))
      go_wp2
      go_ret2
      exact ⟨_, by rw [HF.out]; rfl, by rw [HF.out]; exact hown, BR⟩
end Go.Proofs.Ytehkebdncfljmaa

namespace Go.Proofs.Ytehkebdncfljmaa
open Go Go.RowKit

section
variable {P : Program} {ops : Array Oper} {md : Region.Mode} {C : World → Prop}

/-- Whatever order is picked, as long as 'fuel' operations come up; then all that are listed are L, and R. -/
def wpAnyT (P : Program) (md : Region.Mode) (ops : Array Oper) (C : World → Prop) (L : Array Bool) (R : Act → Prop) : Nat → Array Bool → Act → Prop
  | 0, listed, a => listed = L ∧ R a
  | fuel + 1, listed, a => Region.ready md ops listed ≠ [] ∧ ∀ i ∈ Region.ready md ops listed, qOp P ops C i (wpAnyT P md ops C L R fuel (listed.setIfInBounds i true)) a

theorem wpAnyT_first {R : Act → Prop} {L : Array Bool} {m i : Nat} {oi : Oper} {v : Value} (hi : ops[i]? = some oi) (hsel : ∀ (j : Nat) (o : Oper) cs b, ops[j]? = some o → o.op ≠ .select cs b)
    (hL : ∀ j ∈ Region.ready md ops L, j = m) (hwait : ∀ om, ops[m]? = some om → ∃ e ∈ om.after, Region.binds md e = true ∧ e.on = i) :
    ∀ (fuel : Nat) (listed : Array Bool) (a : Act),
      (∀ j oj, ops[j]? = some oj → j ≠ i → listed.getD j true = false → (∀ e ∈ oj.after, Region.binds md e = true → e.on ≠ i) → oi.apart ops oj = true) →
      i ∈ Region.ready md ops listed → YieldsIn P ops C oi v a →
      wpAnyT P md ops C L R fuel (listed.setIfInBounds i true) (a.put oi.dst v) → wpAnyT P md ops C L R (fuel + 1) listed a := by
  intro fuel
  induction fuel with
  | zero =>
    intro listed a _ hr hy H
    refine ⟨fun h => (by rw [h] at hr; cases hr), fun j hj => ?_⟩
    by_cases hji : j = i
    · subst hji; exact hy.qOp hi H
    · have h1 := ready_mono hj hji
      rw [H.1] at h1
      have hjm := hL j h1
      subst hjm
      obtain ⟨hjun, oj, hoj, hall⟩ := mem_ready.1 hj
      obtain ⟨e, he, hb, heq⟩ := hwait oj hoj
      have h2 := hall e he hb
      have h0 := (mem_ready.1 hr).1
      rw [heq] at h2
      rcases Nat.lt_or_ge i listed.size with h' | h'
      · simp [h'] at h0 h2; rw [h0] at h2; cases h2
      · simp [Array.getElem?_eq_none h'] at h2
  | succ fuel ih =>
    intro listed a hfree hr hy H
    refine ⟨fun h => (by rw [h] at hr; cases hr), fun j hj => ?_⟩
    by_cases hji : j = i
    · subst hji; exact hy.qOp hi H
    · have h1 := H.2 j (ready_mono hj hji)
      obtain ⟨hjun, oj, hoj, hall⟩ := mem_ready.1 hj
      have hnot : ∀ e ∈ oj.after, Region.binds md e = true → e.on ≠ i := fun e he hb heq => by
        have h1 := hall e he hb
        have h0 := (mem_ready.1 hr).1
        rw [heq] at h1
        rcases Nat.lt_or_ge i listed.size with h' | h'
        · simp [h'] at h0 h1; rw [h0] at h1; cases h1
        · simp [Array.getElem?_eq_none h'] at h1
      have h2 := qOp_put hoj (hfree j oj hoj hji hjun hnot) (fun cs b => hsel i oi cs b hi) (fun cs b => hsel j oj cs b hoj) hy h1
      have hfree' : ∀ k ok, ops[k]? = some ok → k ≠ i → (listed.setIfInBounds j true).getD k true = false →
          (∀ e ∈ ok.after, Region.binds md e = true → e.on ≠ i) → oi.apart ops ok = true := fun k ok hk hki hun hno => by
        refine hfree k ok hk hki ?_ hno
        by_cases hjk : j = k
        · subst hjk; exact hjun
        · rw [getD_set_ne true hjk] at hun; exact hun
      refine qOp_mono (fun a' h3 => ih (listed.setIfInBounds j true) a' hfree' (ready_mono hr (Ne.symm hji)) h3.1 ?_) h2
      rw [Array.setIfInBounds_comm _ _ hji]
      exact h3.2

/-- The first operations in the order of the text: each may come up, and is free; behind them the listing is L. -/
def lexTo (md : Region.Mode) (ops : Array Oper) (L : Array Bool) : Nat → Nat → Array Bool → Bool
  | 0, _, listed => decide (listed = L)
  | fuel + 1, k, listed => (Region.ready md ops listed).contains k && Region.free md ops listed k && lexTo md ops L fuel (k + 1) (listed.setIfInBounds k true)
/-- Operation m waits for each of the first ones. -/
def waitsAll (md : Region.Mode) (ops : Array Oper) (m : Nat) : Bool :=
  (List.range m).all fun i => match ops[m]? with
    | none => true
    | some om => om.after.any fun e => Region.binds md e && e.on == i

theorem wpAnyT_lex {R : Act → Prop} {L : Array Bool} {m : Nat} (hs : Region.noSelect ops = true) (hL : ∀ j ∈ Region.ready md ops L, j = m) (hw : waitsAll md ops m = true) : ∀ (l : List Oper) (k : Nat) (listed : Array Bool) (a : Act), k + l.length = m → (∀ j, j < l.length → l[j]? = ops[k + j]?) →
    lexTo md ops L l.length k listed = true → wpQuiet P ops C R l a → wpAnyT P md ops C L R l.length listed a
  | [], _, _, _, _, _, hB, h => ⟨by simpa [lexTo] using hB, h⟩
  | o :: l, k, listed, a, hk, hl, hB, h => by
    have h0 : ops[k]? = some o := by simpa using (hl 0 (by simp)).symm
    simp only [List.length_cons, lexTo, Bool.and_eq_true] at hB
    obtain ⟨⟨hr, hf⟩, hB'⟩ := hB
    have hst : qOp P ops C k (wpQuiet P ops C R l) a := by unfold qOp; simp only [h0]; exact h
    obtain ⟨v, hy, hK⟩ := yieldsIn_of_qOp h0 hst
    refine wpAnyT_first h0 (Region.noSelect_spec hs) hL (fun om hom => ?_) l.length listed a (Region.free_spec h0 hf) (by simpa using hr) hy
      (wpAnyT_lex hs hL hw l (k + 1) _ _ (by simp at hk; omega) (fun j hj => by have := hl (j + 1) (by simpa using hj); simpa [Nat.add_assoc, Nat.add_comm 1 j] using this) hB' hK)
    unfold waitsAll at hw
    rw [List.all_eq_true] at hw
    have := hw k (List.mem_range.2 (by simp at hk; omega))
    rw [hom] at this
    simp only [Array.any_eq_true', Bool.and_eq_true, beq_iff_eq] at this
    obtain ⟨e, he, hb, heq⟩ := this
    exact ⟨e, he, hb, heq⟩

theorem wpAny_of_T {R : Act → Prop} {L : Array Bool} {Q' : Exit → Act → World → Prop} {f : Nat} (hR : ∀ a w, C w → R a → wpAny P md ops Q' f L a w) : ∀ (fuel : Nat) (listed : Array Bool) (a : Act) (w : World), C w →
    wpAnyT P md ops C L R fuel listed a → wpAny P md ops Q' (f + fuel) listed a w
  | 0, _, _, _, hw, h => by obtain ⟨rfl, h⟩ := h; exact hR _ _ hw h
  | fuel + 1, _, _, _, hw, h => ⟨fun h0 => absurd h0 h.1, fun i hi => wpOp_of_qOp hw (fun a' w' hw' => wpAny_of_T hR fuel _ a' w' hw') (h.2 i hi)⟩

/-- The last operations can come up in one order alone. -/
def forcedB (md : Region.Mode) (ops : Array Oper) : Nat → Nat → Array Bool → Bool
  | 0, _, listed => decide (Region.ready md ops listed = [])
  | fuel + 1, k, listed => decide (Region.ready md ops listed = [k]) && forcedB md ops fuel (k + 1) (listed.setIfInBounds k true)

theorem wpAny_forced {Q : Exit → Act → World → Prop} : ∀ (l : List Oper) (k : Nat) (listed : Array Bool) (a : Act) (w : World), (∀ j, j < l.length → l[j]? = ops[k + j]?) →
    forcedB md ops l.length k listed = true → wpList P ops Q l a w → wpAny P md ops Q l.length listed a w
  | [], _, _, _, _, _, hB, h => ⟨by simpa [forcedB] using hB, h⟩
  | o :: l, k, listed, a, w, hl, hB, h => by
    have h0 : ops[k]? = some o := by simpa using (hl 0 (by simp)).symm
    simp only [List.length_cons, forcedB, Bool.and_eq_true, decide_eq_true_eq] at hB
    refine wpAny_all hB.1 (by simp) fun i hi => ?_
    simp only [List.mem_singleton] at hi
    subst hi
    have h1 : wpOp P ops Q i (wpList P ops Q l) a w := by unfold wpOp; simp only [h0]; exact h
    exact wpOp_mono (fun a' w' h' => wpAny_forced l (i + 1) _ a' w' (fun j hj => by have := hl (j + 1) (by simpa using hj); simpa [Nat.add_assoc, Nat.add_comm 1 j] using this) hB.2 h') h1

/-- The kernel's look at a region that is parted behind its first m operations. -/
def tailB (md : Region.Mode) (ops : Array Oper) (m : Nat) : Bool :=
  let L := (Array.range ops.size).map fun i => decide (i < m)
  Region.noSelect ops && (Region.ready md ops L).all (· == m) && waitsAll md ops m && lexTo md ops L m 0 (Array.replicate ops.size false) && forcedB md ops (ops.size - m) m L

theorem wp_region_tail {id : Nat} {Q : Exit → Act → World → Prop} {a : Act} {w : World} {l : List Oper} (m : Nat) (hm : P.follows .mixedOrders = true) (hml : m ≤ l.length) (hB : tailB .any l.toArray m = true)
    (h : wpQuiet P l.toArray (fun w' => ∃ x : Wd w, w' = x.at') (fun a' => ∀ w', (∃ x : Wd w, w' = x.at') → wpList P l.toArray Q (l.drop m) a' w') (l.take m) a) : (Code.region id l.toArray true).wp P Q a w := by
  simp only [tailB, Bool.and_eq_true] at hB
  obtain ⟨⟨⟨⟨h1, h2⟩, h3⟩, h4⟩, h5⟩ := hB
  refine wp_region_any hm ?_
  have hlen : (l.take m).length = m := by simp; omega
  have hdrop : (l.drop m).length = l.length - m := by simp
  have hT := wpAnyT_lex (P := P) (C := fun w' => ∃ x : Wd w, w' = x.at') (md := .any) h1 (fun j hj => by
    rw [List.all_eq_true] at h2
    simpa using h2 j hj) h3 (l.take m) 0 (Array.replicate l.toArray.size false) a (by omega) (fun j hj => by
      rw [List.getElem?_take]
      have : j < m := by omega
      simp [this]) (by rw [hlen]; exact h4) h
  have := wpAny_of_T (Q' := Q) (f := (l.drop m).length) (fun a' w' hw' hR => wpAny_forced (md := .any) (l.drop m) m _ a' w' (fun j hj => by simp) (by rw [hdrop]; simpa using h5) (hR w' hw')) (l.take m).length _ a { w with drawn := w.drawn + 1 } ⟨⟨_, (Below.refl _ w).drew⟩, rfl⟩ hT
  have e : (l.drop m).length + (l.take m).length = l.toArray.size := by simp; omega
  rw [e] at this
  exact this
end
end Go.Proofs.Ytehkebdncfljmaa

namespace Go.Proofs.Ytehkebdncfljmaa
open Go Go.RowKit

/-- Operations that yield a value, or halt. -/
def valueOp : Op → Bool
  | .move _ | .assign _ | .pick .. | .build .. | .load .. | .binOp .. | .unOp .. | .convert .. | .slice .. | .fieldAddr .. | .field .. | .indexAddr .. | .index .. | .lookup .. | .extract .. => true
  | _ => false

theorem andThen_value {s : Result Value} {n : Next} {w' : World} (h : (s.andThen fun a w => Result.ok (Next.value a) w) = .ok n w') : ∃ v, n = .value v := by
  cases s with
  | ok v w => simp only [Result.andThen, Result.ok.injEq] at h; exact ⟨v, h.1.symm⟩
  | halt x w => simp [Result.andThen] at h

theorem value_only {P : Program} {o : Oper} (h : valueOp o.op = true) {ρ : Operand → Value} {w w' : World} {n : Next} (hr : (execOp ρ o).run P w = .ok n w') : ∃ v, n = .value v := by
  unfold execOp at hr
  cases ho : o.op <;> rw [ho] at h hr <;> first
    | (simp [valueOp] at h; done)
    | (simp only [Sem.run_pure, Result.ok.injEq] at hr; exact ⟨_, hr.1.symm⟩)
    | (simp only [Sem.run_bind, Sem.run_pure] at hr; exact andThen_value hr)
    | (simp only [Sem.run_bind, Sem.run_pure] at hr
       generalize hs : (asBool _).run P w = s at hr
       cases s with
       | ok v w => simp only [Result.andThen, Result.ok.injEq] at hr; exact ⟨_, hr.1.symm⟩
       | halt x w => simp [Result.andThen] at hr)

section
variable {P : Program} {ops : Array Oper} {md : Region.Mode} {C : World → Prop} {Q : Exit → Act → World → Prop}

theorem yieldsIf_of_in {o : Oper} {v : Value} {a : Act} (h : valueOp o.op = true) (hy : YieldsIn P ops C o v a) : YieldsIf P ops C o v a := by
  rcases hy with ⟨hw, hq⟩ | h2
  · refine .inl ⟨hw, fun w hC => ?_⟩
    have h3 := hq w hC
    unfold Oper.quietAt at h3
    cases hr : (execOp a.eval o).run P w with
    | ok n w' =>
      obtain ⟨u, rfl⟩ := value_only h hr
      rw [hr] at h3
      simp only [Oper.quietUpon] at h3
      rw [h3.1, h3.2]
    | halt x w' => rw [hr] at h3; simp only [Oper.quietUpon] at h3
  · exact .inr h2

/-- Whatever order is picked, as long as 'fuel' operations come up, C holding behind each; then all that are listed are L, and R. -/
def wpAnyU (P : Program) (md : Region.Mode) (ops : Array Oper) (Q : Exit → Act → World → Prop) (C : World → Prop) (L : Array Bool) (R : Act → World → Prop) : Nat → Array Bool → Act → World → Prop
  | 0, listed, a, w => listed = L ∧ R a w
  | fuel + 1, listed, a, w => Region.ready md ops listed ≠ [] ∧ ∀ i ∈ Region.ready md ops listed, wpOp P ops Q i (fun a' w' => C w' ∧ wpAnyU P md ops Q C L R fuel (listed.setIfInBounds i true) a' w') a w

theorem wpAny_of_U {R : Act → World → Prop} {L : Array Bool} {f : Nat} (hR : ∀ a w, R a w → wpAny P md ops Q f L a w) : ∀ (fuel : Nat) (listed : Array Bool) (a : Act) (w : World),
    wpAnyU P md ops Q C L R fuel listed a w → wpAny P md ops Q (f + fuel) listed a w
  | 0, _, _, _, h => by obtain ⟨rfl, h⟩ := h; exact hR _ _ h
  | fuel + 1, _, _, _, h => ⟨fun h0 => absurd h0 h.1, fun i hi => wpOp_mono (fun a' w' h' => wpAny_of_U hR fuel _ a' w' h'.2) (h.2 i hi)⟩

theorem wpAnyU_first {R : Act → World → Prop} {L : Array Bool} {m i : Nat} {oi : Oper} {v : Value} (hi : ops[i]? = some oi) (hsel : ∀ (j : Nat) (o : Oper) cs b, ops[j]? = some o → o.op ≠ .select cs b)
    (hQ : ∀ c a w, Q (.panic c) (a.put oi.dst v) w → Q (.panic c) a w)
    (hL : ∀ j ∈ Region.ready md ops L, j = m) (hwait : ∀ om, ops[m]? = some om → ∃ e ∈ om.after, Region.binds md e = true ∧ e.on = i) :
    ∀ (fuel : Nat) (listed : Array Bool) (a : Act) (w : World),
      (∀ j oj, ops[j]? = some oj → j ≠ i → listed.getD j true = false → (∀ e ∈ oj.after, Region.binds md e = true → e.on ≠ i) → oi.apart ops oj = true) →
      i ∈ Region.ready md ops listed → YieldsIf P ops C oi v a → C w →
      wpAnyU P md ops Q C L R fuel (listed.setIfInBounds i true) (a.put oi.dst v) w → wpAnyU P md ops Q C L R (fuel + 1) listed a w := by
  intro fuel
  induction fuel with
  | zero =>
    intro listed a w _ hr hy hS H
    refine ⟨fun h => (by rw [h] at hr; cases hr), fun j hj => ?_⟩
    by_cases hji : j = i
    · subst hji; exact hy.wpOp hi hS ⟨hS, H⟩
    · have h1 := ready_mono hj hji
      rw [H.1] at h1
      have hjm := hL j h1
      subst hjm
      obtain ⟨hjun, oj, hoj, hall⟩ := mem_ready.1 hj
      obtain ⟨e, he, hb, heq⟩ := hwait oj hoj
      have h2 := hall e he hb
      have h0 := (mem_ready.1 hr).1
      rw [heq] at h2
      rcases Nat.lt_or_ge i listed.size with h' | h'
      · simp [h'] at h0 h2; rw [h0] at h2; cases h2
      · simp [Array.getElem?_eq_none h'] at h2
  | succ fuel ih =>
    intro listed a w hfree hr hy hS H
    refine ⟨fun h => (by rw [h] at hr; cases hr), fun j hj => ?_⟩
    by_cases hji : j = i
    · subst hji; exact hy.wpOp hi hS ⟨hS, H⟩
    · have h1 := H.2 j (ready_mono hj hji)
      obtain ⟨hjun, oj, hoj, hall⟩ := mem_ready.1 hj
      have hnot : ∀ e ∈ oj.after, Region.binds md e = true → e.on ≠ i := fun e he hb heq => by
        have h1 := hall e he hb
        have h0 := (mem_ready.1 hr).1
        rw [heq] at h1
        rcases Nat.lt_or_ge i listed.size with h' | h'
        · simp [h'] at h0 h1; rw [h0] at h1; cases h1
        · simp [Array.getElem?_eq_none h'] at h1
      have h2 := wpOp_putIf hoj (hfree j oj hoj hji hjun hnot) (fun cs b => hsel i oi cs b hi) (fun cs b => hsel j oj cs b hoj) hQ hy h1
      have hfree' : ∀ k ok, ops[k]? = some ok → k ≠ i → (listed.setIfInBounds j true).getD k true = false →
          (∀ e ∈ ok.after, Region.binds md e = true → e.on ≠ i) → oi.apart ops ok = true := fun k ok hk hki hun hno => by
        refine hfree k ok hk hki ?_ hno
        by_cases hjk : j = k
        · subst hjk; exact hjun
        · rw [getD_set_ne true hjk] at hun; exact hun
      refine wpOp_mono (fun a' w' h3 => ⟨h3.2.1, ih (listed.setIfInBounds j true) a' w' hfree' (ready_mono hr (Ne.symm hji)) h3.1 h3.2.1 ?_⟩) h2
      rw [Array.setIfInBounds_comm _ _ hji]
      exact h3.2.2

/-- Operations one behind the other, C holding behind each. -/
def wpForced (P : Program) (ops : Array Oper) (Q : Exit → Act → World → Prop) (C : World → Prop) (R : Act → World → Prop) : List Oper → Act → World → Prop
  | [], a, w => R a w
  | o :: l, a, w => if Region.wanted o (yielded ops a.tmps) then o.wp P a w (fun a' w' => C w' ∧ wpForced P ops Q C R l a' w') Q ∨ (o.asks P a w ∧ LetsOut Q) else C w ∧ wpForced P ops Q C R l (a.put o.dst undef) w

theorem wpForced_nil {R : Act → World → Prop} {a : Act} {w : World} (h : R a w) : wpForced P ops Q C R [] a w := h
theorem wpForced_cons {R : Act → World → Prop} {o : Oper} {l : List Oper} {a : Act} {w : World} (hg : o.guard = none)
    (h : ∀ K : Act → World → Prop, Hid (∀ a' w', C w' → wpForced P ops Q C R l a' w' → K a' w') → wpList P ops (Exit.then K Q) [o] a w) : wpForced P ops Q C R (o :: l) a w := by
  have h1 := h (fun a' w' => C w' ∧ wpForced P ops Q C R l a' w') (fun a' w' h1 h2 => ⟨h1, h2⟩)
  have hw : Region.wanted o (yielded ops a.tmps) = true := by simp [Region.wanted, hg]
  unfold wpForced
  unfold wpList at h1
  rw [if_pos hw] at h1 ⊢
  exact h1

def forcedTo (md : Region.Mode) (ops : Array Oper) (L : Array Bool) : Nat → Nat → Array Bool → Bool
  | 0, _, listed => decide (listed = L)
  | fuel + 1, k, listed => decide (Region.ready md ops listed = [k]) && forcedTo md ops L fuel (k + 1) (listed.setIfInBounds k true)
def lexMix (md : Region.Mode) (ops : Array Oper) (L : Array Bool) (m2 : Nat) : Nat → Nat → Array Bool → Bool
  | 0, k, listed => forcedTo md ops L (m2 - k) k listed
  | fuel + 1, k, listed => (Region.ready md ops listed).contains k && Region.free md ops listed k && ((ops[k]?).map fun o => valueOp o.op).getD false && lexMix md ops L m2 fuel (k + 1) (listed.setIfInBounds k true)

theorem wpAnyU_forced {R : Act → World → Prop} {L : Array Bool} : ∀ (l : List Oper) (k : Nat) (listed : Array Bool) (a : Act) (w : World), (∀ j, j < l.length → l[j]? = ops[k + j]?) →
    forcedTo md ops L l.length k listed = true → wpForced P ops Q C R l a w → wpAnyU P md ops Q C L R l.length listed a w
  | [], _, _, _, _, _, hB, h => ⟨by simpa [forcedTo] using hB, h⟩
  | o :: l, k, listed, a, w, hl, hB, h => by
    have h0 : ops[k]? = some o := by simpa using (hl 0 (by simp)).symm
    simp only [List.length_cons, forcedTo, Bool.and_eq_true, decide_eq_true_eq] at hB
    refine ⟨by rw [hB.1]; simp, fun i hi => ?_⟩
    rw [hB.1] at hi
    simp only [List.mem_singleton] at hi
    subst hi
    have h1 : wpOp P ops Q i (fun a' w' => C w' ∧ wpForced P ops Q C R l a' w') a w := by unfold wpOp; simp only [h0]; exact h
    exact wpOp_mono (fun a' w' h' => ⟨h'.1, wpAnyU_forced l (i + 1) _ a' w' (fun j hj => by have := hl (j + 1) (by simpa using hj); simpa [Nat.add_assoc, Nat.add_comm 1 j] using this) hB.2 h'.2⟩) h1

theorem wpAnyU_lex {R : Act → World → Prop} {L : Array Bool} {m m2 : Nat} {w : World} (hw : C w) (hs : Region.noSelect ops = true) (hQ : ∀ c a d v w, Q (.panic c) (Act.put a d v) w → Q (.panic c) a w) (hL : ∀ j ∈ Region.ready md ops L, j = m) (hwt : waitsAll md ops m = true)
    (l2 : List Oper) (hm2 : m2 ≤ m) (k2 : Nat) (hk2 : ∀ j, j < l2.length → l2[j]? = ops[k2 + j]?) (hl2 : l2.length = m2 - k2) : ∀ (l : List Oper) (k : Nat) (listed : Array Bool) (a : Act), k + l.length = k2 → k2 ≤ m2 → (∀ j, j < l.length → l[j]? = ops[k + j]?) →
    lexMix md ops L m2 l.length k listed = true → wpQuiet P ops C (fun a' => wpForced P ops Q C R l2 a' w) l a → wpAnyU P md ops Q C L R (l2.length + l.length) listed a w
  | [], k, listed, a, hk, _, _, hB, h => by
    simp only [List.length_nil, Nat.add_zero] at hk ⊢
    subst hk
    simp only [List.length_nil, lexMix] at hB
    rw [← hl2] at hB
    exact wpAnyU_forced l2 k listed a w hk2 hB h
  | o :: l, k, listed, a, hk, hkm, hl, hB, h => by
    have h0 : ops[k]? = some o := by simpa using (hl 0 (by simp)).symm
    simp only [List.length_cons, lexMix, Bool.and_eq_true] at hB
    obtain ⟨⟨⟨hr, hf⟩, hv⟩, hB'⟩ := hB
    rw [h0] at hv
    simp only [Option.map_some, Option.getD_some] at hv
    have hst : qOp P ops C k (wpQuiet P ops C (fun a' => wpForced P ops Q C R l2 a' w) l) a := by unfold qOp; simp only [h0]; exact h
    obtain ⟨v, hy, hK⟩ := yieldsIn_of_qOp h0 hst
    refine wpAnyU_first h0 (Region.noSelect_spec hs) (fun c a w => hQ c a _ _ w) hL (fun om hom => ?_) (l2.length + l.length) listed a w (Region.free_spec h0 hf) (by simpa using hr) (yieldsIf_of_in hv hy) hw
      (wpAnyU_lex hw hs hQ hL hwt l2 hm2 k2 hk2 hl2 l (k + 1) _ _ (by simp at hk; omega) hkm (fun j hj => by have := hl (j + 1) (by simpa using hj); simpa [Nat.add_assoc, Nat.add_comm 1 j] using this) hB' hK)
    unfold waitsAll at hwt
    rw [List.all_eq_true] at hwt
    have := hwt k (List.mem_range.2 (by simp at hk; omega))
    rw [hom] at this
    simp only [Array.any_eq_true', Bool.and_eq_true, beq_iff_eq] at this
    obtain ⟨e, he, hb, heq⟩ := this
    exact ⟨e, he, hb, heq⟩

/-- The kernel's look at a region that is parted behind its first m1 and its first m2 operations. -/
def mixB (md : Region.Mode) (ops : Array Oper) (m1 m2 : Nat) : Bool :=
  let L := (Array.range ops.size).map fun i => decide (i < m2)
  Region.noSelect ops && (Region.ready md ops L).all (· == m2) && waitsAll md ops m2 && lexMix md ops L m2 m1 0 (Array.replicate ops.size false) && forcedB md ops (ops.size - m2) m2 L

theorem wp_region_mix {id : Nat} {a : Act} {w : World} {l : List Oper} (C : World → Prop) (m1 m2 : Nat) (hm : P.follows .mixedOrders = true) (h12 : m1 ≤ m2) (hml : m2 ≤ l.length) (hB : mixB .any l.toArray m1 m2 = true) (hQ : ∀ c a d v w, Q (.panic c) (Act.put a d v) w → Q (.panic c) a w) (hC : C w.drew)
    (h : wpQuiet P l.toArray C (fun a' => wpForced P l.toArray Q C (fun a'' w'' => wpList P l.toArray Q (l.drop m2) a'' w'') ((l.drop m1).take (m2 - m1)) a' w.drew) (l.take m1) a) : (Code.region id l.toArray true).wp P Q a w := by
  simp only [mixB, Bool.and_eq_true] at hB
  obtain ⟨⟨⟨⟨h1, h2⟩, h3⟩, h4⟩, h5⟩ := hB
  refine wp_region_any hm ?_
  have hlen : (l.take m1).length = m1 := by simp; omega
  have hmid : ((l.drop m1).take (m2 - m1)).length = m2 - m1 := by simp; omega
  have hdrop : (l.drop m2).length = l.length - m2 := by simp
  have hT := wpAnyU_lex (P := P) (Q := Q) (C := C) (md := .any) hC h1 hQ (fun j hj => by
    rw [List.all_eq_true] at h2
    simpa using h2 j hj) h3 ((l.drop m1).take (m2 - m1)) (Nat.le_refl _) m1 (fun j hj => by
      rw [List.getElem?_take]
      have : j < m2 - m1 := by omega
      simp [this]) hmid (l.take m1) 0 (Array.replicate l.toArray.size false) a (by omega) h12 (fun j hj => by
      rw [List.getElem?_take]
      have : j < m1 := by omega
      simp [this]) (by rw [hlen]; exact h4) h
  have := wpAny_of_U (Q := Q) (f := (l.drop m2).length) (fun a' w' hR => wpAny_forced (md := .any) (l.drop m2) m2 _ a' w' (fun j hj => by simp) (by rw [hdrop]; simpa using h5) hR) _ _ a _ hT
  have e : (l.drop m2).length + (((l.drop m1).take (m2 - m1)).length + (l.take m1).length) = l.toArray.size := by simp; omega
  rw [e] at this
  exact this
end

/-- A world that meets S. -/
structure Sw (S : World → Prop) where
  at' : World
  ok : S at'
theorem wp_region_sw {P : Program} {Q : Exit → Act → World → Prop} {id : Nat} {a : Act} {w : World} {l : List Oper} (S : World → Prop) (m1 m2 : Nat) (hm : P.follows .mixedOrders = true) (h12 : m1 ≤ m2) (hml : m2 ≤ l.length) (hB : mixB .any l.toArray m1 m2 = true) (hQ : ∀ c a d v w, Q (.panic c) (Act.put a d v) w → Q (.panic c) a w) (hS : S w.drew)
    (h : wpQuiet P l.toArray (fun w' => ∃ x : Sw S, w' = x.at') (fun a' => wpForced P l.toArray Q (fun w' => ∃ x : Sw S, w' = x.at') (fun a'' w'' => wpList P l.toArray Q (l.drop m2) a'' w'') ((l.drop m1).take (m2 - m1)) a' w.drew) (l.take m1) a) : (Code.region id l.toArray true).wp P Q a w :=
  wp_region_mix (fun w' => ∃ x : Sw S, w' = x.at') m1 m2 hm h12 hml hB hQ ⟨⟨w.drew, hS⟩, rfl⟩ h
theorem sw_ok {S : World → Prop} {w : World} (h : S w) : ∃ x : Sw S, w = x.at' := ⟨⟨w, h⟩, rfl⟩
end Go.Proofs.Ytehkebdncfljmaa
