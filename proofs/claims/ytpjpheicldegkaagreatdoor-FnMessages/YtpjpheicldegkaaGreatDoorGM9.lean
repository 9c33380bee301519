/- Partw,Draw -/
import Derived.Test.YtpjpheicldegkaaGreatDoorGM1
import Derived.Test.YtpjpheicldegkaaGreatDoorRows
import Derived.WalkKit
import Derived.WalkSpells
import Derived.WalkLawsBesides
import Derived.Handy
import Derived.Below
import Derived.Laws.BitsAllLaws
import Derived.Deep.QuietTactic
import Derived.BigQuiet
import Derived.Deep.RegionWith
import Derived.Deep.RegionHeld
namespace Go.Proofs.YtpjpheicldegkaaGreatDoor
open Go.RowKit

theorem ownsS_slice {w : World} {B : Nat} {e : TypeId} {v : Value} {l : List ByteArray} (h : ownsS w B e v l) : ∃ ao cap, v = .slice ao l.length cap := by
  rcases h.2 with ⟨rfl, hn⟩ | ⟨g, cap, cur, rfl, _⟩
  · exact ⟨none, 0, by rw [hn]⟩
  · exact ⟨_, _, rfl⟩

def ScanAt (s : ByteArray) (b n : Nat) (l : List (List UInt8)) : Prop := (n ≤ s.size → Scan s b n l) ∧ (n = s.size + 1 → Scanned s l)

theorem scanAt_len {s : ByteArray} {b n : Nat} {l : List (List UInt8)} (h : Hid (ScanAt s b n l)) (hn : n ≤ s.size + 1) : (texts l).length ≤ s.size + 1 := by
  rw [texts_length]
  by_cases h1 : n ≤ s.size
  · have := (h.out.1 h1).len; omega
  · exact (h.out.2 (by omega)).len
theorem scanAt_le {s : ByteArray} {b n : Nat} {l : List (List UInt8)} (h : Hid (ScanAt s b n l)) (hn : n ≤ s.size) : b ≤ n := (h.out.1 hn).le

theorem end_true {s : ByteArray} {w wx : World} {l : List (List UInt8)} {v : Value} (h : qfb s = (l, true)) (ho : ownsS wx w.heap.size 9 v (texts l)) (hb : Below w.heap.size w wx) :
    qqc s w (.returned (.tuple #[v, .bool true])) wx := ⟨v, by rw [h], by rw [h]; exact ho, hb⟩
theorem scan_blank' {s : ByteArray} {b i : Nat} {out : List (List UInt8)} (h : Scan s b i out) (hb : b = i) (hi : i < s.size) (hz : s[i].toNat = 32) : Scan s (i + 1) (i + 1) out := by
  subst hb; exact scan_blank h hi hz
theorem scan_done_blank' {s : ByteArray} {b n : Nat} {out : List (List UInt8)} (h : Scan s b n out) (hb : b = n) (hn : n = s.size) : Scanned s out := by
  subst hb; subst hn; exact scan_done_blank h
theorem scan_done_word' {s : ByteArray} {b n : Nat} {out : List (List UInt8)} (h : Scan s b n out) (hn : n = s.size) (hb : b < n) : Scanned s (out ++ [(s.data.toList.drop b).take (n - b)]) := by
  subst hn; exact scan_done_word h hb

set_option maxHeartbeats 1600000 in
set_option maxRecDepth 100000 in
theorem specParts_in (s : ByteArray) (w : World) (hs : s.size ≤ 600) :
    Calls Tryz.prog 111 #[.string s] w fun e w' => qqc s w e w' := by
  go_enter Tryz.func111, Tryz.ntmps111
  go_wp2
  go_loopw [4, 5, 6] (fun out b i wr => ∃ (bn n : Nat) (l : List (List UInt8)), b = .int .i64 bn ∧ i = .int .i64 n ∧ n ≤ s.size + 1 ∧ ownsS wr w.heap.size 9 out (texts l) ∧ Below w.heap.size w wr ∧ Hid (ScanAt s bn n l)) (fun _ _ i _ => s.size + 1 - (intOf i).toNat)
  case atStart => exact ⟨0, 0, [], rfl, rfl, by omega, qmd _ _ _ _ _ (Nat.le_refl _) (by decide) rfl, (Below.refl _ _).alloc (Nat.le_refl _) _, ⟨fun _ => scan_start s, fun h => by omega⟩⟩
  case round =>
    obtain ⟨bn, n, l, rfl, rfl, hn, hown, hbel, HS⟩ := hrel
    have hsz := hbel.size
    have hll := scanAt_len HS hn
    obtain ⟨ao, cap, rfl⟩ := ownsS_slice hown
    by_cases hn1 : n ≤ s.size
    · have hbn := scanAt_le HS hn1
      by_cases hlt : n < s.size
      · have h256 := s[n].toNat_lt
        by_cases h1 : s[n].toNat < 32
        · have HH : Hid (qqc s w _ _) := end_false (partsR_bad hlt (Or.inl h1)) hbel
          go_wp2
          go_ret2
          exact HH.out
        · by_cases h2 : 126 < s[n].toNat
          · have HH : Hid (qqc s w _ _) := end_false (partsR_bad hlt (Or.inr h2)) hbel
            go_wp2
            go_ret2
            exact HH.out
          · by_cases h3 : s[n].toNat = 32
            · have h3' : ((s[n].toNat : Int) != 32) = false := by rw [bne_eq_false_iff_eq]; omega
              have H3 : Hid (s[n].toNat = 32) := h3
              clear h3
              by_cases h4 : bn < n
              · go_wp2_with (at_builtin; refine wpList_append_text _ w rfl (.tmp 48) (.tmp 53) 103 rfl w.heap.size 9 Tryz.underlying103 info9 _ (texts l) rfl (hown.alloc _) (hbel.alloc hsz _) ⟨wr.heap.size, 0, none⟩ 1 (s.extract bn n) rfl ?c1 ?c2 ?c3 ?_)
                case c1 => simp
                case c2 => omega
                case c3 => simp; omega
                intro v2 w2 hown2 hbel2
                clear hown hbel
                go_wp2
                go_roundw
                case rel => exact ⟨n + 1, n + 1, _, by go_num, by go_num, by omega, (by rw [extract_word, texts_snoc] at hown2; exact hown2), hbel2, ⟨fun _ => scan_word (HS.out.1 hn1) h4 hlt H3.out, fun h => by omega⟩⟩
                case measure => simp [intOf]; omega
              · go_wp2
                go_roundw
                case rel => exact ⟨n + 1, n + 1, l, by go_num, by go_num, by omega, hown, hbel, ⟨fun _ => scan_blank' (HS.out.1 hn1) (by omega) hlt H3.out, fun h => by omega⟩⟩
                case measure => simp [intOf]; omega
            · have h3' : ((s[n].toNat : Int) != 32) = true := by rw [bne_iff_ne]; omega
              go_wp2
              go_roundw
              case rel => exact ⟨bn, n + 1, l, rfl, by go_num, by omega, hown, hbel, ⟨fun _ => scan_letter (HS.out.1 hn1) hlt (by omega) (by omega) h3, fun h => by omega⟩⟩
              case measure => simp [intOf]; omega
      · by_cases h4 : bn < n
        · go_wp2_with (at_builtin; refine wpList_append_text _ w rfl (.tmp 48) (.tmp 53) 103 rfl w.heap.size 9 Tryz.underlying103 info9 _ (texts l) rfl (hown.alloc _) (hbel.alloc hsz _) ⟨wr.heap.size, 0, none⟩ 1 (s.extract bn n) rfl ?d1 ?d2 ?d3 ?_)
          case d1 => simp
          case d2 => omega
          case d3 => simp; omega
          intro v2 w2 hown2 hbel2
          clear hown hbel
          go_wp2
          go_roundw
          case rel => exact ⟨n + 1, n + 1, _, by go_num, by go_num, by omega, (by rw [extract_word, texts_snoc] at hown2; exact hown2), hbel2, ⟨fun h => by omega, fun _ => scan_done_word' (HS.out.1 hn1) (by omega) h4⟩⟩
          case measure => simp [intOf]; omega
        · go_wp2
          go_roundw
          case rel => exact ⟨n + 1, n + 1, l, by go_num, by go_num, by omega, hown, hbel, ⟨fun h => by omega, fun _ => scan_done_blank' (HS.out.1 hn1) (by omega) (by omega)⟩⟩
          case measure => simp [intOf]; omega
    · have hd := HS.out.2 (by omega)
      have hl10 := texts_length l
      have HL : Hid ((texts l).length = l.length) := hl10
      clear hl10
      by_cases h10 : 10 < (texts l).length
      · have HH : Hid (qqc s w _ _) := end_false (partsR_many (by omega) hd.plain (by rw [hd.eq]; have := HL.out; omega)) hbel
        clear hd
        go_wp2
        go_ret2
        exact HH.out
      · have HH : Hid (qqc s w _ _) := end_true (by have h := partsR_ok (s := s) (by omega) hd.plain (by rw [hd.eq]; have := HL.out; omega); rw [hd.eq] at h; exact h) hown hbel
        clear hd
        go_wp2
        go_ret2
        exact HH.out

theorem specParts_any (s : ByteArray) (w : World) (hs : s.size ≤ 1048576) : Calls Tryz.prog 111 #[.string s] w fun e w' => qqc s w e w' := by
  by_cases h : 600 < s.size
  · exact specParts_long s w (by omega) h
  · exact specParts_in s w (by omega)

end Go.Proofs.YtpjpheicldegkaaGreatDoor

namespace Go.Proofs.YtpjpheicldegkaaGreatDoor
open Go.RowKit

theorem ownsB.save {g : Nat} {w w' : World} {B : Nat} {e : TypeId} {v : Value} {l : List Int} (h : ownsB w B e v l) (hs : Save g w w') (hB : g < B) : ownsB w' B e v l := by
  obtain ⟨h1, h2⟩ := h
  refine ⟨h1, ?_⟩
  rcases h2 with h | ⟨r, cap, cur, hv, hb, hg, hr⟩
  · exact .inl h
  · exact .inr ⟨r, cap, cur, hv, hb, by rw [hs.block r (by have := (Array.getElem?_eq_some_iff.1 hg).1; exact this) (by omega)]; exact hg, hr⟩

def quc (w : World) (g : Nat) (v : Value) (n : Nat) : Prop :=
  ∃ (a : Option Addr) (cap : Nat), v = .slice a n cap ∧ ∀ j, j < n → ∃ (x : Addr) (z : Int), a = some x ∧ x.block < g ∧ 0 ≤ z ∧ z < 256 ∧ w.cell? (x.add j) = some (.int .u8 z)
theorem add_block (x : Addr) (j : Nat) : (x.add j).block = x.block := by
  unfold Addr.add; split <;> rfl
theorem quc.keep {w w' : World} {g : Nat} {v : Value} {n : Nat} (h : quc w g v n) (hs : ∀ k, k < g → w'.heap[k]? = w.heap[k]?) : quc w' g v n := by
  obtain ⟨a, cap, hv, hc⟩ := h
  refine ⟨a, cap, hv, fun j hj => ?_⟩
  obtain ⟨x, z, ha, hb, h0, h1, hz⟩ := hc j hj
  refine ⟨x, z, ha, hb, h0, h1, ?_⟩
  rw [cell_block (w := w)]
  · exact hz
  · rw [add_block]
    exact hs _ hb
theorem Save.ahead {w w' : World} {g : Nat} (hs : Save g w w') (hg : g < w.heap.size) : ∀ k, k < g → w'.heap[k]? = w.heap[k]? := fun k hk => hs.block k (by omega) (by omega)

def Drw (w : World) (g : Nat) : Prop :=
  ∃ (v : Value) (n : Nat) (i h : Int), n ≤ 1048576 ∧ 0 ≤ i ∧ i ≤ n ∧ -9223372036854775808 ≤ h ∧ h ≤ 9223372036854775807 ∧
    w.heap[g]? = some (.cells #[v, .int .i64 i, .int .i64 h] 94) ∧ quc w g v n
theorem Drw.keep {w w' : World} {g : Nat} (h : Drw w g) (hs : Below (g + 1) w w') : Drw w' g := by
  obtain ⟨v, n, i, x, h1, h2, h3, h4, h5, h6, h7⟩ := h
  exact ⟨v, n, i, x, h1, h2, h3, h4, h5, (hs.block g (by omega)).trans h6, h7.keep fun k hk => hs.block k (by omega)⟩
theorem Drw.lt {w : World} {g : Nat} (h : Drw w g) : g < w.heap.size := by
  obtain ⟨v, n, i, x, h1, h2, h3, h4, h5, h6, h7⟩ := h
  exact (Array.getElem?_eq_some_iff.1 h6).1
theorem i64_and255 (n : Int) : bits .and .i64 n 255 = n % 256 := by
  have h255 : (BitVec.ofInt 64 255).toNat = 2 ^ 8 - 1 := by decide
  have key : (BitVec.ofInt 64 n &&& BitVec.ofInt 64 255).toNat = (n % ((2 ^ 64 : Nat) : Int)).toNat % 2 ^ 8 := by
    rw [BitVec.toNat_and, BitVec.toNat_ofInt, h255, Nat.and_two_pow_sub_one_eq_mod]
  show IntKind.i64.wrap ((BitVec.ofInt 64 n &&& BitVec.ofInt 64 255).toNat : Nat) = n % 256
  rw [key, IntKind.wrap_i64]
  omega
theorem i64_and30 (n : Int) : bits .and .i64 n 1073741823 = n % 1073741824 := by
  have h255 : (BitVec.ofInt 64 1073741823).toNat = 2 ^ 30 - 1 := by decide
  have key : (BitVec.ofInt 64 n &&& BitVec.ofInt 64 1073741823).toNat = (n % ((2 ^ 64 : Nat) : Int)).toNat % 2 ^ 30 := by
    rw [BitVec.toNat_and, BitVec.toNat_ofInt, h255, Nat.and_two_pow_sub_one_eq_mod]
  show IntKind.i64.wrap ((BitVec.ofInt 64 n &&& BitVec.ofInt 64 1073741823).toNat : Nat) = n % 1073741824
  rw [key, IntKind.wrap_i64]
  omega
theorem wrap64_range (n : Int) : -9223372036854775808 ≤ wrap64 n ∧ wrap64 n ≤ 9223372036854775807 := by unfold wrap64; omega

theorem turned2 {w : World} {g n : Nat} {v : Value} {i h : Int} {t : TypeId} (hg : w.heap[g]? = some (.cells #[v, .int .i64 i, .int .i64 h] t)) (hc : quc w g v n) (u : Int) :
    ∃ w2, w.setCell ⟨g, 2, none⟩ (.int .i64 u) = w2 ∧ w2.heap[g]? = some (.cells #[v, .int .i64 i, .int .i64 u] t) ∧ quc w2 g v n ∧ Save g w w2 :=
  ⟨_, rfl, qmc hg _, hc.keep (((Save.refl g w).setCell rfl _).ahead (Array.getElem?_eq_some_iff.1 hg).1), (Save.refl g w).setCell rfl _⟩

theorem turned1 {w : World} {g n : Nat} {v : Value} {i h : Int} {t : TypeId} (hg : w.heap[g]? = some (.cells #[v, .int .i64 i, .int .i64 h] t)) (hc : quc w g v n) (u : Int) :
    (w.setCell ⟨g, 1, none⟩ (.int .i64 u)).heap[g]? = some (.cells #[v, .int .i64 u, .int .i64 h] t) ∧ quc (w.setCell ⟨g, 1, none⟩ (.int .i64 u)) g v n ∧ Save g w (w.setCell ⟨g, 1, none⟩ (.int .i64 u)) :=
  ⟨qid hg _, hc.keep (((Save.refl g w).setCell rfl _).ahead (Array.getElem?_eq_some_iff.1 hg).1), (Save.refl g w).setCell rfl _⟩

set_option maxHeartbeats 1000000 in
theorem byte_end (g : Nat) (v : Value) (n : Nat) (h : Int) (w : World) (hn : n ≤ 1048576)
    (hg : w.heap[g]? = some (.cells #[v, .int .i64 (n : Int), .int .i64 h] 94)) (hc : quc w g v n) :
    Calls Tryz.prog 72 #[.pointer (some ⟨g, 0, none⟩)] w fun e w' => ∃ x : Int, e = .returned (.int .i64 x) ∧ 0 ≤ x ∧ x < 256 ∧ Drw w' g ∧ Save g w w' := by
  obtain ⟨c0, c1, c2, hf⟩ := qpa hg
  have hr := wrap64_range (wrap64 (h * 6364136223846793005) + 1442695040888963407)
  go_enter Tryz.func72, Tryz.ntmps72
  go_wp2
  generalize wrap64 (wrap64 (h * 6364136223846793005) + 1442695040888963407) = u at hr ⊢
  obtain ⟨w2, e2, hg2, hc2, hs2⟩ := turned2 hg hc u
  rw [e2]
  clear c0 c1 c2 hf hg hc e2
  obtain ⟨c0, c1, c2, hf⟩ := qpa hg2
  have hc3 := hc2
  obtain ⟨a, cap, rfl, hcell⟩ := hc2
  have hy := i64_and255 (bits .xor .i64 (u / 8589934592) (u / 35184372088832))
  have hy1 : 0 ≤ bits .and .i64 (bits .xor .i64 (u / 8589934592) (u / 35184372088832)) 255 ∧ bits .and .i64 (bits .xor .i64 (u / 8589934592) (u / 35184372088832)) 255 < 256 := by omega
  clear hy
  go_quiet (fail)
  generalize bits .and .i64 (bits .xor .i64 (u / 8589934592) (u / 35184372088832)) 255 = y at hy1 ⊢
  go_wp2
  go_quiet (fail)
  go_wp2
  go_ret
  exact ⟨y, rfl, hy1.1, hy1.2, ⟨_, n, n, u, hn, by omega, by omega, hr.1, hr.2, hg2, hc3⟩, (hs2.drewN _).drewN _⟩

set_option maxHeartbeats 1000000 in
theorem byte_more (g : Nat) (v : Value) (n i : Nat) (h : Int) (w : World) (hn : n ≤ 1048576) (hi : i < n)
    (hg : w.heap[g]? = some (.cells #[v, .int .i64 (i : Int), .int .i64 h] 94)) (hc : quc w g v n) :
    Calls Tryz.prog 72 #[.pointer (some ⟨g, 0, none⟩)] w fun e w' => ∃ x : Int, e = .returned (.int .i64 x) ∧ 0 ≤ x ∧ x < 256 ∧ Drw w' g ∧ Save g w w' := by
  obtain ⟨c0, c1, c2, hf⟩ := qpa hg
  have hr := wrap64_range (wrap64 (h * 6364136223846793005) + 1442695040888963407)
  go_enter Tryz.func72, Tryz.ntmps72
  go_wp2
  generalize wrap64 (wrap64 (h * 6364136223846793005) + 1442695040888963407) = u at hr ⊢
  obtain ⟨w2, e2, hg2, hc2, hs2⟩ := turned2 hg hc u
  rw [e2]
  clear c0 c1 c2 hf hg hc e2
  obtain ⟨c0, c1, c2, hf⟩ := qpa hg2
  have hc3 := hc2
  obtain ⟨a, cap, rfl, hcell⟩ := hc2
  obtain ⟨x, z, rfl, hb, hz0, hz1, hz⟩ := hcell i hi
  clear hcell
  have hy := i64_and255 (bits .xor .i64 (u / 8589934592) (u / 35184372088832))
  have hy1 : 0 ≤ bits .and .i64 (bits .xor .i64 (u / 8589934592) (u / 35184372088832)) 255 ∧ bits .and .i64 (bits .xor .i64 (u / 8589934592) (u / 35184372088832)) 255 < 256 := by omega
  clear hy
  go_quiet (fail)
  generalize bits .and .i64 (bits .xor .i64 (u / 8589934592) (u / 35184372088832)) 255 = y at hy1 ⊢
  go_wp2
  go_quiet (fail)
  go_wp2
  go_quiet (fail)
  go_wp2
  obtain ⟨hg3, hc4, hs3⟩ := turned1 (w := w2.drewN _) hg2 hc3 ((i : Int) + 1)
  go_ret
  exact ⟨_, rfl, by rw [i64_and255]; omega, by rw [i64_and255]; omega, ⟨_, n, (i : Int) + 1, u, hn, by omega, by omega, hr.1, hr.2, hg3, hc4⟩, (hs2.drewN _).trans hs3⟩

theorem byte_any (g : Nat) (w : World) (hd : Drw w g) :
    Calls Tryz.prog 72 #[.pointer (some ⟨g, 0, none⟩)] w fun e w' => ∃ x : Int, e = .returned (.int .i64 x) ∧ 0 ≤ x ∧ x < 256 ∧ Drw w' g ∧ Save g w w' := by
  obtain ⟨v, n, i, h, hn, hi0, hi1, _, _, hg, hc⟩ := hd
  obtain ⟨k, rfl⟩ := Int.eq_ofNat_of_zero_le hi0
  by_cases hk : k < n
  · exact byte_more g v n k h w hn hk hg hc
  · obtain rfl : k = n := by omega
    exact byte_end g v k h w hn hg hc

theorem byte_from (g : Nat) (w0 w : World) (hd : Drw w g) (hs : Save g w0 w) :
    Calls Tryz.prog 72 #[.pointer (some ⟨g, 0, none⟩)] w fun e w' => ∃ x : Int, e = .returned (.int .i64 x) ∧ 0 ≤ x ∧ x < 256 ∧ Drw w' g ∧ Save g w0 w' :=
  (byte_any g w hd).mono fun _ _ ⟨x, h1, h2, h3, h4, h5⟩ => ⟨x, h1, h2, h3, h4, hs.trans h5⟩

set_option maxHeartbeats 1000000 in
theorem qga (g : Nat) (n : Int) (w : World) (hd : Drw w g) (h0 : 0 < n) (h1 : n ≤ 9223372036854775807) :
    Calls Tryz.prog 41 #[.pointer (some ⟨g, 0, none⟩), .int .i64 n] w fun e w' => ∃ x : Int, e = .returned (.int .i64 x) ∧ 0 ≤ x ∧ x < n ∧ Drw w' g ∧ Save g w w' := by
  by_cases h2 : n ≤ 256
  · go_enter Tryz.func41, Tryz.ntmps41
    go_wp2_with (go_at_call 72; refine (byte_any g _ hd).mono ?_; rintro e w1 ⟨x, rfl, hx0, hx1, hd1, hs1⟩)
    go_ret
    exact ⟨x % n, rfl, Int.emod_nonneg _ (by omega), Int.emod_lt_of_pos _ h0, hd1, hs1⟩
  · have hs := Save.refl g w
    go_enter Tryz.func41, Tryz.ntmps41
    go_wp2_with (go_at_call 72; refine (byte_from g w _ hd hs).mono ?_; clear hd hs; rintro e w1 ⟨x, rfl, hx0, hx1, hd, hs⟩)
    go_ret
    exact ⟨_, rfl, Int.emod_nonneg _ (by omega), Int.emod_lt_of_pos _ h0, hd, hs⟩
theorem qhe (g : Nat) (n : Int) (w0 w : World) (hd : Drw w g) (hs : Save g w0 w) (h0 : 0 < n) (h1 : n ≤ 9223372036854775807) :
    Calls Tryz.prog 41 #[.pointer (some ⟨g, 0, none⟩), .int .i64 n] w fun e w' => ∃ x : Int, e = .returned (.int .i64 x) ∧ 0 ≤ x ∧ x < n ∧ Drw w' g ∧ Save g w0 w' :=
  (qga g n w hd h0 h1).mono fun _ _ ⟨x, h1, h2, h3, h4, h5⟩ => ⟨x, h1, h2, h3, h4, hs.trans h5⟩

theorem Save.qua {g B : Nat} {w0 w w' : World} (h : Save g w0 w) (hb : Below B w w') (hB : w0.heap.size ≤ B) : Save g w0 w' :=
  ⟨hb.os.trans h.os, hb.tape.trans h.tape, hb.output.trans h.output, Nat.le_trans h.size hb.size, fun k hk hg => (hb.block k (by omega)).trans (h.block k hk hg)⟩

set_option maxHeartbeats 1000000 in
theorem dtext_any (g n : Nat) (w : World) (hd : Drw w g) (hn : n ≤ 5000) :
    Calls Tryz.prog 67 #[.pointer (some ⟨g, 0, none⟩), .int .i64 n] w fun e w' => ∃ t : ByteArray, e = .returned (.string t) ∧ t.size = n ∧ Drw w' g ∧ Save g w w' := by
  have hlt := hd.lt
  go_enter Tryz.func67, Tryz.ntmps67
  go_wp2
  go_loopw [5, 6] (fun out i wr => ∃ (k : Nat) (l : List Int), k ≤ n ∧ i = .int .i64 k ∧ l.length = k ∧ ownsB wr w.heap.size 5 out l ∧ Drw wr g ∧ Save g w wr) (fun _ i _ => n - (intOf i).toNat)
  case atStart => exact ⟨0, [], Nat.zero_le _, rfl, rfl, ownsB_made _ _ _ _ _ (Nat.le_refl _) (by decide) rfl, hd.keep ((Below.refl _ _).alloc (by omega) _), (Save.refl g w).alloc _⟩
  case round =>
    obtain ⟨k, l, hk, rfl, hl, hown, hdr, hs⟩ := hrel
    clear hd
    have hsz := hs.size
    by_cases hlt2 : k < n
    · go_wp2_with (first | (go_at_call 72; refine (byte_any g _ hdr).mono ?_; rintro e w1 ⟨x, rfl, hx0, hx1, hdr1, hs1⟩) | (at_builtin; refine wpList_append_byte _ _ rfl (.tmp 15) (.tmp 19) 22 rfl w.heap.size 5 Tryz.underlying22 info5 _ l rfl ((hown.save hs1 hlt).alloc _) (Below.refl _ _) ⟨w1.heap.size, 0, none⟩ 1 x rfl ?c1 ?c2 ?c3 ?_))
      case c1 => simp
      case c2 => omega
      case c3 => have := hs1.size; simp; omega
      intro v' w2 hown2 hbel2
      have hs2 : Save g w w2 := ((hs.trans hs1).alloc _).qua hbel2 (Nat.le_refl _)
      have hdr2 : Drw w2 g := (hdr1.keep ((Below.refl _ _).alloc (by have := hs1.size; omega) _)).keep (hbel2.mono (by omega))
      clear hown hdr hs hdr1 hs1 hbel2
      go_wp2
      go_roundw
      case rel => exact ⟨k + 1, l ++ [x], by omega, by go_num, by simp [hl], hown2, hdr2, hs2⟩
      case measure => simp [intOf]; omega
    · have hkn : k = n := by omega
      subst hkn
      have hcv := qdb (P := Tryz.prog) 22 9 hown Tryz.underlying22 Tryz.underlying5 Tryz.underlying9
      clear hown
      go_wp2
      go_ret
      exact ⟨_, rfl, by rw [show (bstr l).size = l.length by simp [bstr, ByteArray.size]]; exact hl, hdr, hs⟩

theorem drw_made {w : World} {v : Value} {n : Nat} {x : Int} (hn : n ≤ 1048576) (hc : quc w w.heap.size v n) (h0 : 0 ≤ x) (h1 : x ≤ 2000000000) :
    Drw (w.alloc (.cells #[v, .int .i64 0, .int .i64 x] 94)) w.heap.size :=
  ⟨v, n, 0, x, hn, by omega, by omega, by omega, by omega, (by show (w.heap.push _)[w.heap.size]? = _; rw [Array.getElem?_push, if_pos rfl]), hc.keep fun k hk => Below.heap_alloc _ _ _ hk⟩

set_option maxHeartbeats 1000000 in
set_option maxRecDepth 100000 in
theorem new_any (v : Value) (n : Nat) (w : World) (hn : n ≤ 1048576) (hc : quc w w.heap.size v n) :
    Calls Tryz.prog 14 #[v] w fun e w' => ∃ g : Nat, e = .returned (.pointer (some ⟨g, 0, none⟩)) ∧ w.heap.size ≤ g ∧ Drw w' g ∧ Below w.heap.size w w' := by
  have hc0 := hc
  obtain ⟨a, cap, rfl, hcell⟩ := hc
  go_enter Tryz.func14, Tryz.ntmps14
  go_wp2
  go_loopw [3, 4] (fun h i wr => ∃ (k : Nat) (x : Int), k ≤ n ∧ i = .int .i64 k ∧ h = .int .i64 x ∧ 0 ≤ x ∧ x ≤ 2000000000 ∧ wr = w) (fun _ i _ => n - (intOf i).toNat)
  case atStart => exact ⟨0, 27701 + n, Nat.zero_le _, rfl, by go_num, by omega, by omega, rfl⟩
  case round =>
    obtain ⟨k, x, hk, rfl, rfl, hx0, hx1, rfl⟩ := hrel
    by_cases hlt : k < n
    · obtain ⟨y, z, rfl, hb, hz0, hz1, hz⟩ := hcell k hlt
      by_cases h4 : k < 4000
      · have HA : Hid (bits .and .i64 (x * 131 + z + 7) 1073741823 = (x * 131 + z + 7) % 1073741824) := i64_and30 (x * 131 + z + 7)
        clear hcell hc0
        go_wp2
        go_roundw
        case rel => exact ⟨k + 1, (x * 131 + z + 7) % 1073741824, by omega, by go_num, by rw [HA.out], by omega, by omega, trivial⟩
        case measure => simp [intOf]; omega
      · clear hcell
        go_wp2
        go_ret
        exact ⟨_, rfl, Nat.le_refl _, drw_made hn hc0 hx0 hx1, (Below.refl _ _).alloc (Nat.le_refl _) _⟩
    · clear hcell
      go_wp2
      go_ret
      exact ⟨_, rfl, Nat.le_refl _, drw_made hn hc0 hx0 hx1, (Below.refl _ _).alloc (Nat.le_refl _) _⟩

def ownsI (w : World) (B : Nat) (e : TypeId) (v : Value) (l : List Int) : Prop := w.ownsRow B e 1 v l.length (l.map (Value.int .i64))
theorem ownsI.alloc {w : World} {B : Nat} {e : TypeId} {v : Value} {l : List Int} (h : ownsI w B e v l) (o : Obj) : ownsI (w.alloc o) B e v l := World.ownsRow.alloc h o
theorem ownsI.save {g : Nat} {w w' : World} {B : Nat} {e : TypeId} {v : Value} {l : List Int} (h : ownsI w B e v l) (hs : Save g w w') (hB : g < B) : ownsI w' B e v l := by
  obtain ⟨h1, h2⟩ := h
  refine ⟨h1, ?_⟩
  rcases h2 with h | ⟨r, cap, cur, hv, hb, hg, hr⟩
  · exact .inl h
  · exact .inr ⟨r, cap, cur, hv, hb, by rw [hs.block r (by have := (Array.getElem?_eq_some_iff.1 hg).1; exact this) (by omega)]; exact hg, hr⟩
theorem ownsI.cells {w : World} {B : Nat} {e : TypeId} {v : Value} {l : List Int} (h : ownsI w B e v l) (hl : l ≠ []) :
    ∃ r cap, v = .slice (some ⟨r, 0, none⟩) l.length cap ∧ B ≤ r ∧ r < w.heap.size ∧ ∀ j (hj : j < l.length), w.cell? ⟨r, j, none⟩ = some (.int .i64 l[j]) := by
  obtain ⟨h1, h2⟩ := h
  rcases h2 with ⟨rfl, hn⟩ | ⟨r, cap, cur, rfl, hb, hg, hc1, hc2, hc3, hc4⟩
  · exact absurd (by simpa using hn) hl
  · refine ⟨r, cap, rfl, hb, (Array.getElem?_eq_some_iff.1 hg).1, fun j hj => ?_⟩
    have h5 : (cur.toList.take l.length)[j]? = some (.int .i64 l[j]) := by
      have e1 : l.length * 1 = l.length := Nat.mul_one _
      rw [e1] at hc4
      rw [hc4]; simp [hj]
    rw [List.getElem?_take_of_lt hj] at h5
    simp only [World.cell?, hg]
    simpa using h5

theorem ownsI.mono {w : World} {B B' : Nat} {e : TypeId} {v : Value} {l : List Int} (h : ownsI w B e v l) (hB : B' ≤ B) : ownsI w B' e v l := by
  obtain ⟨h1, h2⟩ := h
  refine ⟨h1, ?_⟩
  rcases h2 with h | ⟨r, cap, cur, hv, hb, hr⟩
  · exact .inl h
  · exact .inr ⟨r, cap, cur, hv, Nat.le_trans hB hb, hr⟩

def IsRow (k : IntKind) (w : World) (a : Option Addr) (len cap : Nat) (zs : List Int) : Prop :=
  (a = none ∧ len = 0 ∧ cap = 0 ∧ zs = []) ∨
  ∃ x, a = some x ∧ len ≤ cap ∧ cap ≤ maxLen ∧ zs.length = cap ∧ (∀ i, i < zs.length → w.cell? (x.add i) = some (.int k (zs.getD i 0))) ∧ ∀ n ∈ zs, (Lit.int k n).wf = true
theorem IsRow.code {w : World} {a : Option Addr} {len cap : Nat} {zs : List Int} (h : IsRow .u8 w a len cap zs) : len ≤ 9223372036854775807 ∧ quc w w.heap.size (.slice a len cap) len := by
  rcases h with ⟨rfl, rfl, rfl, rfl⟩ | ⟨x, rfl, h1, h2, h3, h4, h5⟩
  · exact ⟨by decide, none, 0, rfl, fun j hj => by omega⟩
  · refine ⟨by unfold maxLen at h2; omega, some x, cap, rfl, fun j hj => ?_⟩
    have hj2 : j < zs.length := by omega
    have hc := h4 j hj2
    have hw := h5 (zs.getD j 0) (by rw [List.getD_eq_getElem?_getD, List.getElem?_eq_getElem hj2]; exact List.getElem_mem hj2)
    have hr : 0 ≤ zs.getD j 0 ∧ zs.getD j 0 ≤ 255 := by simpa [Lit.wf, IntKind.min, IntKind.max, IntKind.signed, IntKind.bits] using hw
    refine ⟨x, zs.getD j 0, rfl, ?_, hr.1, by omega, hc⟩
    have := World.block_lt_of_cell? w _ hc
    rw [add_block] at this
    exact this

end Go.Proofs.YtpjpheicldegkaaGreatDoor
