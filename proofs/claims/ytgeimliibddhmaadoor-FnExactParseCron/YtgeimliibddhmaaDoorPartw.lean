/-
  The words of a line: the walk of the model's PartsOf, its loop.
-/
import Derived.Test.YtgeimliibddhmaaDoorPart
namespace Go.Proofs.YtgeimliibddhmaaDoor
open Go.RowKit

theorem ownsS_slice {w : World} {B : Nat} {e : TypeId} {v : Value} {l : List ByteArray} (h : ownsS w B e v l) : ∃ ao cap, v = .slice ao l.length cap := by
  rcases h.2 with ⟨rfl, hn⟩ | ⟨g, cap, cur, rfl, _⟩
  · exact ⟨none, 0, by rw [hn]⟩
  · exact ⟨_, _, rfl⟩

def ScanAt (s : ByteArray) (b n : Nat) (l : List (List UInt8)) : Prop := (n ≤ s.size → Scan s b n l) ∧ (n = s.size + 1 → Scanned s l)

theorem scanAt_len {s : ByteArray} {b n : Nat} {l : List (List UInt8)} (h : Hid (ScanAt s b n l)) (hn : n ≤ s.size + 1) : (texts l).length ≤ s.size + 1 := by
  rw [texts_length]
  by_cases h1 : n ≤ s.size
  · have := (h.out.1 h1).len; omega
  · exact (h.out.2 (by omega)).len
theorem scanAt_le {s : ByteArray} {b n : Nat} {l : List (List UInt8)} (h : Hid (ScanAt s b n l)) (hn : n ≤ s.size) : b ≤ n := (h.out.1 hn).le

theorem end_true {s : ByteArray} {w wx : World} {l : List (List UInt8)} {v : Value} (h : partsR s = (l, true)) (ho : ownsS wx w.heap.size 9 v (texts l)) (hb : Below w.heap.size w wx) :
    PartsEnd s w (.returned (.tuple #[v, .bool true])) wx := ⟨v, by rw [h], by rw [h]; exact ho, hb⟩
theorem scan_blank' {s : ByteArray} {b i : Nat} {out : List (List UInt8)} (h : Scan s b i out) (hb : b = i) (hi : i < s.size) (hz : s[i].toNat = 32) : Scan s (i + 1) (i + 1) out := by
  subst hb; exact scan_blank h hi hz
theorem scan_done_blank' {s : ByteArray} {b n : Nat} {out : List (List UInt8)} (h : Scan s b n out) (hb : b = n) (hn : n = s.size) : Scanned s out := by
  subst hb; subst hn; exact scan_done_blank h
theorem scan_done_word' {s : ByteArray} {b n : Nat} {out : List (List UInt8)} (h : Scan s b n out) (hn : n = s.size) (hb : b < n) : Scanned s (out ++ [(s.data.toList.drop b).take (n - b)]) := by
  subst hn; exact scan_done_word h hb

set_option maxHeartbeats 1600000 in
set_option maxRecDepth 100000 in
theorem specParts_in (s : ByteArray) (w : World) (hs : s.size ≤ 600) :
    Calls Tryd.prog 46 #[.string s] w fun e w' => PartsEnd s w e w' := by
  go_enter Tryd.func46, Tryd.ntmps46
  go_wp2
  go_loopw [4, 5, 6] (fun out b i wr => ∃ (bn n : Nat) (l : List (List UInt8)), b = .int .i64 bn ∧ i = .int .i64 n ∧ n ≤ s.size + 1 ∧ ownsS wr w.heap.size 9 out (texts l) ∧ Below w.heap.size w wr ∧ Hid (ScanAt s bn n l)) (fun _ _ i _ => s.size + 1 - (intOf i).toNat)
  case atStart => exact ⟨0, 0, [], rfl, rfl, by omega, ownsS_made _ _ _ _ _ (Nat.le_refl _) (by decide) rfl, (Below.refl _ _).alloc (Nat.le_refl _) _, ⟨fun _ => scan_start s, fun h => by omega⟩⟩
  case round =>
    obtain ⟨bn, n, l, rfl, rfl, hn, hown, hbel, HS⟩ := hrel
    have hsz := hbel.size
    have hll := scanAt_len HS hn
    obtain ⟨ao, cap, rfl⟩ := ownsS_slice hown
    by_cases hn1 : n ≤ s.size
    · have hbn := scanAt_le HS hn1
      by_cases hlt : n < s.size
      · have h256 := s[n].toNat_lt
        by_cases h1 : s[n].toNat < 32
        · have HH : Hid (PartsEnd s w _ _) := end_false (partsR_bad hlt (Or.inl h1)) hbel
          go_wp2
          go_ret2
          exact HH.out
        · by_cases h2 : 126 < s[n].toNat
          · have HH : Hid (PartsEnd s w _ _) := end_false (partsR_bad hlt (Or.inr h2)) hbel
            go_wp2
            go_ret2
            exact HH.out
          · by_cases h3 : s[n].toNat = 32
            · have h3' : ((s[n].toNat : Int) != 32) = false := by rw [bne_eq_false_iff_eq]; omega
              have H3 : Hid (s[n].toNat = 32) := h3
              clear h3
              by_cases h4 : bn < n
              · go_wp2_with (at_builtin; refine wpList_append_text _ w rfl (.tmp 48) (.tmp 53) 60 rfl w.heap.size 9 Tryd.underlying60 info9 _ (texts l) rfl (hown.alloc _) (hbel.alloc hsz _) ⟨wr.heap.size, 0, none⟩ 1 (s.extract bn n) rfl ?c1 ?c2 ?c3 ?_)
                case c1 => simp
                case c2 => omega
                case c3 => simp; omega
                intro v2 w2 hown2 hbel2
                clear hown hbel
                go_wp2
                go_roundw
                case rel => exact ⟨n + 1, n + 1, _, by go_num, by go_num, by omega, (by rw [extract_word, texts_snoc] at hown2; exact hown2), hbel2, ⟨fun _ => scan_word (HS.out.1 hn1) h4 hlt H3.out, fun h => by omega⟩⟩
                case measure => simp [intOf]; omega
              · go_wp2
                go_roundw
                case rel => exact ⟨n + 1, n + 1, l, by go_num, by go_num, by omega, hown, hbel, ⟨fun _ => scan_blank' (HS.out.1 hn1) (by omega) hlt H3.out, fun h => by omega⟩⟩
                case measure => simp [intOf]; omega
            · have h3' : ((s[n].toNat : Int) != 32) = true := by rw [bne_iff_ne]; omega
              go_wp2
              go_roundw
              case rel => exact ⟨bn, n + 1, l, rfl, by go_num, by omega, hown, hbel, ⟨fun _ => scan_letter (HS.out.1 hn1) hlt (by omega) (by omega) h3, fun h => by omega⟩⟩
              case measure => simp [intOf]; omega
      · by_cases h4 : bn < n
        · go_wp2_with (at_builtin; refine wpList_append_text _ w rfl (.tmp 48) (.tmp 53) 60 rfl w.heap.size 9 Tryd.underlying60 info9 _ (texts l) rfl (hown.alloc _) (hbel.alloc hsz _) ⟨wr.heap.size, 0, none⟩ 1 (s.extract bn n) rfl ?d1 ?d2 ?d3 ?_)
          case d1 => simp
          case d2 => omega
          case d3 => simp; omega
          intro v2 w2 hown2 hbel2
          clear hown hbel
          go_wp2
          go_roundw
          case rel => exact ⟨n + 1, n + 1, _, by go_num, by go_num, by omega, (by rw [extract_word, texts_snoc] at hown2; exact hown2), hbel2, ⟨fun h => by omega, fun _ => scan_done_word' (HS.out.1 hn1) (by omega) h4⟩⟩
          case measure => simp [intOf]; omega
        · go_wp2
          go_roundw
          case rel => exact ⟨n + 1, n + 1, l, by go_num, by go_num, by omega, hown, hbel, ⟨fun h => by omega, fun _ => scan_done_blank' (HS.out.1 hn1) (by omega) (by omega)⟩⟩
          case measure => simp [intOf]; omega
    · have hd := HS.out.2 (by omega)
      have hl10 := texts_length l
      have HL : Hid ((texts l).length = l.length) := hl10
      clear hl10
      by_cases h10 : 10 < (texts l).length
      · have HH : Hid (PartsEnd s w _ _) := end_false (partsR_many (by omega) hd.plain (by rw [hd.eq]; have := HL.out; omega)) hbel
        clear hd
        go_wp2
        go_ret2
        exact HH.out
      · have HH : Hid (PartsEnd s w _ _) := end_true (by have h := partsR_ok (s := s) (by omega) hd.plain (by rw [hd.eq]; have := HL.out; omega); rw [hd.eq] at h; exact h) hown hbel
        clear hd
        go_wp2
        go_ret2
        exact HH.out

theorem specParts_any (s : ByteArray) (w : World) (hs : s.size ≤ 1048576) : Calls Tryd.prog 46 #[.string s] w fun e w' => PartsEnd s w e w' := by
  by_cases h : 600 < s.size
  · exact specParts_long s w (by omega) h
  · exact specParts_in s w (by omega)

end Go.Proofs.YtgeimliibddhmaaDoor
