/-
  The cursor that inputs are drawn with: what stays as it was, and the walks of its four functions. More of what inputs are drawn with: once in n times, one of a list, a long text. What is drawn for the laws on files: a name, a right disk: the walks. The law on what is kept: its helpers: the walks; and what is left of a disk, in plain words. A right disk that is drawn: the walk.
-/
import Derived.Test.YtekflgecfcjjiaaRows
import Derived.Test.YtekflgecfcjjiaaAid
import Derived.Test.YtekflgecfcjjiaaInf
import Derived.WalkKit
import Derived.WalkSpells
import Derived.WalkLawsBesides
import Derived.Handy
import Derived.Below
import Derived.Laws.BitsAllLaws
import Derived.Deep.QuietTactic
import Derived.BigQuiet
import Derived.Deep.RegionWith
import Derived.Deep.RegionHeld
import Derived.Test.YtekflgecfcjjiaaPp
import Derived.Test.YtekflgecfcjjiaaPt
import Derived.Test.YtekflgecfcjjiaaMf
import Derived.Test.YtekflgecfcjjiaaLld
namespace Go.Proofs.Ytekflgecfcjjiaa
open Go.RowKit

/-- But for block g all that was there is as it was. -/
structure Save (g : Nat) (w w' : World) : Prop where
  os : w'.os = w.os
  tape : w'.tape = w.tape
  output : w'.output = w.output
  size : w.heap.size ≤ w'.heap.size
  block : ∀ k, k < w.heap.size → k ≠ g → w'.heap[k]? = w.heap[k]?
theorem Save.refl (g : Nat) (w : World) : Save g w w := ⟨rfl, rfl, rfl, Nat.le_refl _, fun _ _ _ => rfl⟩
theorem Save.trans {g : Nat} {a b c : World} (h : Save g a b) (k : Save g b c) : Save g a c :=
  ⟨k.os.trans h.os, k.tape.trans h.tape, k.output.trans h.output, Nat.le_trans h.size k.size, fun i hi hg => (k.block i (Nat.lt_of_lt_of_le hi h.size) hg).trans (h.block i hi hg)⟩
theorem Save.drew {g : Nat} {a w : World} (h : Save g a w) : Save g a w.drew := ⟨h.os, h.tape, h.output, h.size, h.block⟩
theorem Save.drewN {g : Nat} {a w : World} (h : Save g a w) (n : Nat) : Save g a (w.drewN n) := ⟨h.os, h.tape, h.output, h.size, h.block⟩
theorem Save.setCell {g : Nat} {a w : World} (h : Save g a w) {p : Addr} (hp : p.block = g) (u : Value) : Save g a (w.setCell p u) :=
  h.trans ⟨rfl, rfl, rfl, by simp [World.setCell], fun k _ hg => Below.heap_setCell _ _ _ _ (by omega)⟩
theorem Save.alloc {g : Nat} {a w : World} (h : Save g a w) (o : Obj) : Save g a (w.alloc o) :=
  h.trans ⟨rfl, rfl, rfl, by simp, fun k hk _ => Below.heap_alloc _ _ _ hk⟩
theorem Save.of_below {g : Nat} {w w' : World} (h : Below w.heap.size w w') : Save g w w' := ⟨h.os, h.tape, h.output, h.size, fun k hk _ => h.block k hk⟩
theorem Save.below {g B : Nat} {w w' : World} (h : Save g w w') (h1 : B ≤ g) (h2 : B ≤ w.heap.size) : Below B w w' :=
  ⟨h.os, h.tape, h.output, h.size, fun k hk => h.block k (by omega) (by omega)⟩
theorem ownsB.save {g : Nat} {w w' : World} {B : Nat} {e : TypeId} {v : Value} {l : List Int} (h : ownsB w B e v l) (hs : Save g w w') (hB : g < B) : ownsB w' B e v l := by
  obtain ⟨h1, h2⟩ := h
  refine ⟨h1, ?_⟩
  rcases h2 with h | ⟨r, cap, cur, hv, hb, hg, hr⟩
  · exact .inl h
  · exact .inr ⟨r, cap, cur, hv, hb, by rw [hs.block r (by have := (Array.getElem?_eq_some_iff.1 hg).1; exact this) (by omega)]; exact hg, hr⟩

/-- The drawn bytes: n of them, all ahead of block g. -/
def CodeAt (w : World) (g : Nat) (v : Value) (n : Nat) : Prop :=
  ∃ (a : Option Addr) (cap : Nat), v = .slice a n cap ∧ ∀ j, j < n → ∃ (x : Addr) (z : Int), a = some x ∧ x.block < g ∧ 0 ≤ z ∧ z < 256 ∧ w.cell? (x.add j) = some (.int .u8 z)
theorem cell_block {w w' : World} {a : Addr} (h : w'.heap[a.block]? = w.heap[a.block]?) : w'.cell? a = w.cell? a := by
  unfold World.cell?
  rw [h]
theorem add_block (x : Addr) (j : Nat) : (x.add j).block = x.block := by
  unfold Addr.add; split <;> rfl
theorem CodeAt.keep {w w' : World} {g : Nat} {v : Value} {n : Nat} (h : CodeAt w g v n) (hs : ∀ k, k < g → w'.heap[k]? = w.heap[k]?) : CodeAt w' g v n := by
  obtain ⟨a, cap, hv, hc⟩ := h
  refine ⟨a, cap, hv, fun j hj => ?_⟩
  obtain ⟨x, z, ha, hb, h0, h1, hz⟩ := hc j hj
  refine ⟨x, z, ha, hb, h0, h1, ?_⟩
  rw [cell_block (w := w)]
  · exact hz
  · rw [add_block]
    exact hs _ hb
theorem Save.ahead {w w' : World} {g : Nat} (hs : Save g w w') (hg : g < w.heap.size) : ∀ k, k < g → w'.heap[k]? = w.heap[k]? := fun k hk => hs.block k (by omega) (by omega)

/-- Block g is a cursor over drawn bytes. -/
def Drw (w : World) (g : Nat) : Prop :=
  ∃ (v : Value) (n : Nat) (i h : Int), n ≤ 1048576 ∧ 0 ≤ i ∧ i ≤ n ∧ -9223372036854775808 ≤ h ∧ h ≤ 9223372036854775807 ∧
    w.heap[g]? = some (.cells #[v, .int .i64 i, .int .i64 h] 100) ∧ CodeAt w g v n
theorem Drw.keep {w w' : World} {g : Nat} (h : Drw w g) (hs : Below (g + 1) w w') : Drw w' g := by
  obtain ⟨v, n, i, x, h1, h2, h3, h4, h5, h6, h7⟩ := h
  exact ⟨v, n, i, x, h1, h2, h3, h4, h5, (hs.block g (by omega)).trans h6, h7.keep fun k hk => hs.block k (by omega)⟩
theorem Drw.lt {w : World} {g : Nat} (h : Drw w g) : g < w.heap.size := by
  obtain ⟨v, n, i, x, h1, h2, h3, h4, h5, h6, h7⟩ := h
  exact (Array.getElem?_eq_some_iff.1 h6).1
theorem cur_cells {w : World} {g : Nat} {a b c : Value} {t : TypeId} (h : w.heap[g]? = some (.cells #[a, b, c] t)) :
    w.cell? ⟨g, 0, none⟩ = some a ∧ w.cell? ⟨g, 1, none⟩ = some b ∧ w.cell? ⟨g, 2, none⟩ = some c ∧ (∀ o, w.frozen? ⟨g, o, none⟩ = false) := by
  refine ⟨?_, ?_, ?_, ?_⟩
  · simp [World.cell?, h]
  · simp [World.cell?, h]
  · simp [World.cell?, h]
  · intro o; simp [World.frozen?, h]
theorem cur_set2 {w : World} {g : Nat} {a b c : Value} {t : TypeId} (h : w.heap[g]? = some (.cells #[a, b, c] t)) (u : Value) :
    (w.setCell ⟨g, 2, none⟩ u).heap[g]? = some (.cells #[a, b, u] t) := by
  simp [World.setCell, Array.getElem?_modify, h]
theorem cur_set1 {w : World} {g : Nat} {a b c : Value} {t : TypeId} (h : w.heap[g]? = some (.cells #[a, b, c] t)) (u : Value) :
    (w.setCell ⟨g, 1, none⟩ u).heap[g]? = some (.cells #[a, u, c] t) := by
  simp [World.setCell, Array.getElem?_modify, h]

theorem i64_and255 (n : Int) : bits .and .i64 n 255 = n % 256 := by
  have h255 : (BitVec.ofInt 64 255).toNat = 2 ^ 8 - 1 := by decide
  have key : (BitVec.ofInt 64 n &&& BitVec.ofInt 64 255).toNat = (n % ((2 ^ 64 : Nat) : Int)).toNat % 2 ^ 8 := by
    rw [BitVec.toNat_and, BitVec.toNat_ofInt, h255, Nat.and_two_pow_sub_one_eq_mod]
  show IntKind.i64.wrap ((BitVec.ofInt 64 n &&& BitVec.ofInt 64 255).toNat : Nat) = n % 256
  rw [key, IntKind.wrap_i64]
  omega
theorem i64_and30 (n : Int) : bits .and .i64 n 1073741823 = n % 1073741824 := by
  have h255 : (BitVec.ofInt 64 1073741823).toNat = 2 ^ 30 - 1 := by decide
  have key : (BitVec.ofInt 64 n &&& BitVec.ofInt 64 1073741823).toNat = (n % ((2 ^ 64 : Nat) : Int)).toNat % 2 ^ 30 := by
    rw [BitVec.toNat_and, BitVec.toNat_ofInt, h255, Nat.and_two_pow_sub_one_eq_mod]
  show IntKind.i64.wrap ((BitVec.ofInt 64 n &&& BitVec.ofInt 64 1073741823).toNat : Nat) = n % 1073741824
  rw [key, IntKind.wrap_i64]
  omega
theorem wrap64_range (n : Int) : -9223372036854775808 ≤ wrap64 n ∧ wrap64 n ≤ 9223372036854775807 := by unfold wrap64; omega

/-- The cursor with another number in it. -/
theorem turned2 {w : World} {g n : Nat} {v : Value} {i h : Int} {t : TypeId} (hg : w.heap[g]? = some (.cells #[v, .int .i64 i, .int .i64 h] t)) (hc : CodeAt w g v n) (u : Int) :
    ∃ w2, w.setCell ⟨g, 2, none⟩ (.int .i64 u) = w2 ∧ w2.heap[g]? = some (.cells #[v, .int .i64 i, .int .i64 u] t) ∧ CodeAt w2 g v n ∧ Save g w w2 :=
  ⟨_, rfl, cur_set2 hg _, hc.keep (((Save.refl g w).setCell rfl _).ahead (Array.getElem?_eq_some_iff.1 hg).1), (Save.refl g w).setCell rfl _⟩

theorem turned1 {w : World} {g n : Nat} {v : Value} {i h : Int} {t : TypeId} (hg : w.heap[g]? = some (.cells #[v, .int .i64 i, .int .i64 h] t)) (hc : CodeAt w g v n) (u : Int) :
    (w.setCell ⟨g, 1, none⟩ (.int .i64 u)).heap[g]? = some (.cells #[v, .int .i64 u, .int .i64 h] t) ∧ CodeAt (w.setCell ⟨g, 1, none⟩ (.int .i64 u)) g v n ∧ Save g w (w.setCell ⟨g, 1, none⟩ (.int .i64 u)) :=
  ⟨cur_set1 hg _, hc.keep (((Save.refl g w).setCell rfl _).ahead (Array.getElem?_eq_some_iff.1 hg).1), (Save.refl g w).setCell rfl _⟩

set_option maxHeartbeats 1000000 in
theorem byte_end (g : Nat) (v : Value) (n : Nat) (h : Int) (w : World) (hn : n ≤ 1048576)
    (hg : w.heap[g]? = some (.cells #[v, .int .i64 (n : Int), .int .i64 h] 100)) (hc : CodeAt w g v n) :
    Calls Try.prog 52 #[.pointer (some ⟨g, 0, none⟩)] w fun e w' => ∃ x : Int, e = .returned (.int .i64 x) ∧ 0 ≤ x ∧ x < 256 ∧ Drw w' g ∧ Save g w w' := by
  obtain ⟨c0, c1, c2, hf⟩ := cur_cells hg
  have hr := wrap64_range (wrap64 (h * 6364136223846793005) + 1442695040888963407)
  go_enter Try.func52, Try.ntmps52
  go_wp2
  generalize wrap64 (wrap64 (h * 6364136223846793005) + 1442695040888963407) = u at hr ⊢
  obtain ⟨w2, e2, hg2, hc2, hs2⟩ := turned2 hg hc u
  rw [e2]
  clear c0 c1 c2 hf hg hc e2
  obtain ⟨c0, c1, c2, hf⟩ := cur_cells hg2
  have hc3 := hc2
  obtain ⟨a, cap, rfl, hcell⟩ := hc2
  have hy := i64_and255 (bits .xor .i64 (u / 8589934592) (u / 35184372088832))
  have hy1 : 0 ≤ bits .and .i64 (bits .xor .i64 (u / 8589934592) (u / 35184372088832)) 255 ∧ bits .and .i64 (bits .xor .i64 (u / 8589934592) (u / 35184372088832)) 255 < 256 := by omega
  clear hy
  go_quiet (fail)
  generalize bits .and .i64 (bits .xor .i64 (u / 8589934592) (u / 35184372088832)) 255 = y at hy1 ⊢
  go_wp2
  go_quiet (fail)
  go_wp2
  go_ret
  exact ⟨y, rfl, hy1.1, hy1.2, ⟨_, n, n, u, hn, by omega, by omega, hr.1, hr.2, hg2, hc3⟩, (hs2.drewN _).drewN _⟩

set_option maxHeartbeats 1000000 in
theorem byte_more (g : Nat) (v : Value) (n i : Nat) (h : Int) (w : World) (hn : n ≤ 1048576) (hi : i < n)
    (hg : w.heap[g]? = some (.cells #[v, .int .i64 (i : Int), .int .i64 h] 100)) (hc : CodeAt w g v n) :
    Calls Try.prog 52 #[.pointer (some ⟨g, 0, none⟩)] w fun e w' => ∃ x : Int, e = .returned (.int .i64 x) ∧ 0 ≤ x ∧ x < 256 ∧ Drw w' g ∧ Save g w w' := by
  obtain ⟨c0, c1, c2, hf⟩ := cur_cells hg
  have hr := wrap64_range (wrap64 (h * 6364136223846793005) + 1442695040888963407)
  go_enter Try.func52, Try.ntmps52
  go_wp2
  generalize wrap64 (wrap64 (h * 6364136223846793005) + 1442695040888963407) = u at hr ⊢
  obtain ⟨w2, e2, hg2, hc2, hs2⟩ := turned2 hg hc u
  rw [e2]
  clear c0 c1 c2 hf hg hc e2
  obtain ⟨c0, c1, c2, hf⟩ := cur_cells hg2
  have hc3 := hc2
  obtain ⟨a, cap, rfl, hcell⟩ := hc2
  obtain ⟨x, z, rfl, hb, hz0, hz1, hz⟩ := hcell i hi
  clear hcell
  have hy := i64_and255 (bits .xor .i64 (u / 8589934592) (u / 35184372088832))
  have hy1 : 0 ≤ bits .and .i64 (bits .xor .i64 (u / 8589934592) (u / 35184372088832)) 255 ∧ bits .and .i64 (bits .xor .i64 (u / 8589934592) (u / 35184372088832)) 255 < 256 := by omega
  clear hy
  go_quiet (fail)
  generalize bits .and .i64 (bits .xor .i64 (u / 8589934592) (u / 35184372088832)) 255 = y at hy1 ⊢
  go_wp2
  go_quiet (fail)
  go_wp2
  go_quiet (fail)
  go_wp2
  obtain ⟨hg3, hc4, hs3⟩ := turned1 (w := w2.drewN _) hg2 hc3 ((i : Int) + 1)
  go_ret
  exact ⟨_, rfl, by rw [i64_and255]; omega, by rw [i64_and255]; omega, ⟨_, n, (i : Int) + 1, u, hn, by omega, by omega, hr.1, hr.2, hg3, hc4⟩, (hs2.drewN _).trans hs3⟩

/-- One byte more is drawn. -/
theorem byte_any (g : Nat) (w : World) (hd : Drw w g) :
    Calls Try.prog 52 #[.pointer (some ⟨g, 0, none⟩)] w fun e w' => ∃ x : Int, e = .returned (.int .i64 x) ∧ 0 ≤ x ∧ x < 256 ∧ Drw w' g ∧ Save g w w' := by
  obtain ⟨v, n, i, h, hn, hi0, hi1, _, _, hg, hc⟩ := hd
  obtain ⟨k, rfl⟩ := Int.eq_ofNat_of_zero_le hi0
  by_cases hk : k < n
  · exact byte_more g v n k h w hn hk hg hc
  · obtain rfl : k = n := by omega
    exact byte_end g v k h w hn hg hc

theorem byte_from (g : Nat) (w0 w : World) (hd : Drw w g) (hs : Save g w0 w) :
    Calls Try.prog 52 #[.pointer (some ⟨g, 0, none⟩)] w fun e w' => ∃ x : Int, e = .returned (.int .i64 x) ∧ 0 ≤ x ∧ x < 256 ∧ Drw w' g ∧ Save g w0 w' :=
  (byte_any g w hd).mono fun _ _ ⟨x, h1, h2, h3, h4, h5⟩ => ⟨x, h1, h2, h3, h4, hs.trans h5⟩

set_option maxHeartbeats 1000000 in
/-- A number below n is drawn. -/
theorem below_any (g : Nat) (n : Int) (w : World) (hd : Drw w g) (h0 : 0 < n) (h1 : n ≤ 9223372036854775807) :
    Calls Try.prog 48 #[.pointer (some ⟨g, 0, none⟩), .int .i64 n] w fun e w' => ∃ x : Int, e = .returned (.int .i64 x) ∧ 0 ≤ x ∧ x < n ∧ Drw w' g ∧ Save g w w' := by
  by_cases h2 : n ≤ 256
  · go_enter Try.func48, Try.ntmps48
    go_wp2_with (go_at_call 52; refine (byte_any g _ hd).mono ?_; rintro e w1 ⟨x, rfl, hx0, hx1, hd1, hs1⟩)
    go_ret
    exact ⟨x % n, rfl, Int.emod_nonneg _ (by omega), Int.emod_lt_of_pos _ h0, hd1, hs1⟩
  · have hs := Save.refl g w
    go_enter Try.func48, Try.ntmps48
    go_wp2_with (go_at_call 52; refine (byte_from g w _ hd hs).mono ?_; clear hd hs; rintro e w1 ⟨x, rfl, hx0, hx1, hd, hs⟩)
    go_ret
    exact ⟨_, rfl, Int.emod_nonneg _ (by omega), Int.emod_lt_of_pos _ h0, hd, hs⟩
theorem below_from (g : Nat) (n : Int) (w0 w : World) (hd : Drw w g) (hs : Save g w0 w) (h0 : 0 < n) (h1 : n ≤ 9223372036854775807) :
    Calls Try.prog 48 #[.pointer (some ⟨g, 0, none⟩), .int .i64 n] w fun e w' => ∃ x : Int, e = .returned (.int .i64 x) ∧ 0 ≤ x ∧ x < n ∧ Drw w' g ∧ Save g w0 w' :=
  (below_any g n w hd h0 h1).mono fun _ _ ⟨x, h1, h2, h3, h4, h5⟩ => ⟨x, h1, h2, h3, h4, hs.trans h5⟩

theorem Save.below_on {g B : Nat} {w0 w w' : World} (h : Save g w0 w) (hb : Below B w w') (hB : w0.heap.size ≤ B) : Save g w0 w' :=
  ⟨hb.os.trans h.os, hb.tape.trans h.tape, hb.output.trans h.output, Nat.le_trans h.size hb.size, fun k hk hg => (hb.block k (by omega)).trans (h.block k hk hg)⟩

set_option maxHeartbeats 1000000 in
/-- A text of n bytes is drawn. -/
theorem dtext_any (g n : Nat) (w : World) (hd : Drw w g) (hn : n ≤ 5000) :
    Calls Try.prog 49 #[.pointer (some ⟨g, 0, none⟩), .int .i64 n] w fun e w' => ∃ t : ByteArray, e = .returned (.string t) ∧ t.size = n ∧ Drw w' g ∧ Save g w w' := by
  have hlt := hd.lt
  go_enter Try.func49, Try.ntmps49
  go_wp2
  go_loopw [5, 6] (fun out i wr => ∃ (k : Nat) (l : List Int), k ≤ n ∧ i = .int .i64 k ∧ l.length = k ∧ ownsB wr w.heap.size 5 out l ∧ Drw wr g ∧ Save g w wr) (fun _ i _ => n - (intOf i).toNat)
  case atStart => exact ⟨0, [], Nat.zero_le _, rfl, rfl, ownsB_made _ _ _ _ _ (Nat.le_refl _) (by decide) rfl, hd.keep ((Below.refl _ _).alloc (by omega) _), (Save.refl g w).alloc _⟩
  case round =>
    obtain ⟨k, l, hk, rfl, hl, hown, hdr, hs⟩ := hrel
    clear hd
    have hsz := hs.size
    by_cases hlt2 : k < n
    · go_wp2_with (first | (go_at_call 52; refine (byte_any g _ hdr).mono ?_; rintro e w1 ⟨x, rfl, hx0, hx1, hdr1, hs1⟩) | (at_builtin; refine wpList_append_byte _ _ rfl (.tmp 15) (.tmp 19) 22 rfl w.heap.size 5 Try.underlying22 info5 _ l rfl ((hown.save hs1 hlt).alloc _) (Below.refl _ _) ⟨w1.heap.size, 0, none⟩ 1 x rfl ?c1 ?c2 ?c3 ?_))
      case c1 => simp
      case c2 => omega
      case c3 => have := hs1.size; simp; omega
      intro v' w2 hown2 hbel2
      have hs2 : Save g w w2 := ((hs.trans hs1).alloc _).below_on hbel2 (Nat.le_refl _)
      have hdr2 : Drw w2 g := (hdr1.keep ((Below.refl _ _).alloc (by have := hs1.size; omega) _)).keep (hbel2.mono (by omega))
      clear hown hdr hs hdr1 hs1 hbel2
      go_wp2
      go_roundw
      case rel => exact ⟨k + 1, l ++ [x], by omega, by go_num, by simp [hl], hown2, hdr2, hs2⟩
      case measure => simp [intOf]; omega
    · have hkn : k = n := by omega
      subst hkn
      have hcv := run_own_string (P := Try.prog) 22 9 hown Try.underlying22 Try.underlying5 Try.underlying9
      clear hown
      go_wp2
      go_ret
      exact ⟨_, rfl, by rw [show (bstr l).size = l.length by simp [bstr, ByteArray.size]]; exact hl, hdr, hs⟩

theorem drw_made {w : World} {v : Value} {n : Nat} {x : Int} (hn : n ≤ 1048576) (hc : CodeAt w w.heap.size v n) (h0 : 0 ≤ x) (h1 : x ≤ 2000000000) :
    Drw (w.alloc (.cells #[v, .int .i64 0, .int .i64 x] 100)) w.heap.size :=
  ⟨v, n, 0, x, hn, by omega, by omega, by omega, by omega, (by show (w.heap.push _)[w.heap.size]? = _; rw [Array.getElem?_push, if_pos rfl]), hc.keep fun k hk => Below.heap_alloc _ _ _ hk⟩

set_option maxHeartbeats 1000000 in
set_option maxRecDepth 100000 in
/-- A cursor is made. -/
theorem new_any (v : Value) (n : Nat) (w : World) (hn : n ≤ 1048576) (hc : CodeAt w w.heap.size v n) :
    Calls Try.prog 47 #[v] w fun e w' => ∃ g : Nat, e = .returned (.pointer (some ⟨g, 0, none⟩)) ∧ w.heap.size ≤ g ∧ Drw w' g ∧ Below w.heap.size w w' := by
  have hc0 := hc
  obtain ⟨a, cap, rfl, hcell⟩ := hc
  go_enter Try.func47, Try.ntmps47
  go_wp2
  go_loopw [3, 4] (fun h i wr => ∃ (k : Nat) (x : Int), k ≤ n ∧ i = .int .i64 k ∧ h = .int .i64 x ∧ 0 ≤ x ∧ x ≤ 2000000000 ∧ wr = w) (fun _ i _ => n - (intOf i).toNat)
  case atStart => exact ⟨0, 27701 + n, Nat.zero_le _, rfl, by go_num, by omega, by omega, rfl⟩
  case round =>
    obtain ⟨k, x, hk, rfl, rfl, hx0, hx1, rfl⟩ := hrel
    by_cases hlt : k < n
    · obtain ⟨y, z, rfl, hb, hz0, hz1, hz⟩ := hcell k hlt
      by_cases h4 : k < 4000
      · have HA : Hid (bits .and .i64 (x * 131 + z + 7) 1073741823 = (x * 131 + z + 7) % 1073741824) := i64_and30 (x * 131 + z + 7)
        clear hcell hc0
        go_wp2
        go_roundw
        case rel => exact ⟨k + 1, (x * 131 + z + 7) % 1073741824, by omega, by go_num, by rw [HA.out], by omega, by omega, trivial⟩
        case measure => simp [intOf]; omega
      · clear hcell
        go_wp2
        go_ret
        exact ⟨_, rfl, Nat.le_refl _, drw_made hn hc0 hx0 hx1, (Below.refl _ _).alloc (Nat.le_refl _) _⟩
    · clear hcell
      go_wp2
      go_ret
      exact ⟨_, rfl, Nat.le_refl _, drw_made hn hc0 hx0 hx1, (Below.refl _ _).alloc (Nat.le_refl _) _⟩

/-- A row of integers that the call owns. -/
def ownsI (w : World) (B : Nat) (e : TypeId) (v : Value) (l : List Int) : Prop := w.ownsRow B e 1 v l.length (l.map (Value.int .i64))
theorem ownsI_made (w : World) (B cap : Nat) (e : TypeId) (cur : Array Value) (hb : B ≤ w.heap.size) (hm : cap ≤ maxLen) (hs : cur.size = cap) :
    ownsI (w.alloc (.cells cur e)) B e (.slice (some ⟨w.heap.size, 0, none⟩) 0 cap) [] :=
  World.ownsRow_made w cur cap hb hm (by omega)
theorem ownsI.alloc {w : World} {B : Nat} {e : TypeId} {v : Value} {l : List Int} (h : ownsI w B e v l) (o : Obj) : ownsI (w.alloc o) B e v l := World.ownsRow.alloc h o
theorem ownsI.save {g : Nat} {w w' : World} {B : Nat} {e : TypeId} {v : Value} {l : List Int} (h : ownsI w B e v l) (hs : Save g w w') (hB : g < B) : ownsI w' B e v l := by
  obtain ⟨h1, h2⟩ := h
  refine ⟨h1, ?_⟩
  rcases h2 with h | ⟨r, cap, cur, hv, hb, hg, hr⟩
  · exact .inl h
  · exact .inr ⟨r, cap, cur, hv, hb, by rw [hs.block r (by have := (Array.getElem?_eq_some_iff.1 hg).1; exact this) (by omega)]; exact hg, hr⟩
theorem ownsI.cells {w : World} {B : Nat} {e : TypeId} {v : Value} {l : List Int} (h : ownsI w B e v l) (hl : l ≠ []) :
    ∃ r cap, v = .slice (some ⟨r, 0, none⟩) l.length cap ∧ B ≤ r ∧ r < w.heap.size ∧ ∀ j (hj : j < l.length), w.cell? ⟨r, j, none⟩ = some (.int .i64 l[j]) := by
  obtain ⟨h1, h2⟩ := h
  rcases h2 with ⟨rfl, hn⟩ | ⟨r, cap, cur, rfl, hb, hg, hc1, hc2, hc3, hc4⟩
  · exact absurd (by simpa using hn) hl
  · refine ⟨r, cap, rfl, hb, (Array.getElem?_eq_some_iff.1 hg).1, fun j hj => ?_⟩
    have h5 : (cur.toList.take l.length)[j]? = some (.int .i64 l[j]) := by
      have e1 : l.length * 1 = l.length := Nat.mul_one _
      rw [e1] at hc4
      rw [hc4]; simp [hj]
    rw [List.getElem?_take_of_lt hj] at h5
    simp only [World.cell?, hg]
    simpa using h5

theorem ownsI.mono {w : World} {B B' : Nat} {e : TypeId} {v : Value} {l : List Int} (h : ownsI w B e v l) (hB : B' ≤ B) : ownsI w B' e v l := by
  obtain ⟨h1, h2⟩ := h
  refine ⟨h1, ?_⟩
  rcases h2 with h | ⟨r, cap, cur, hv, hb, hr⟩
  · exact .inl h
  · exact .inr ⟨r, cap, cur, hv, Nat.le_trans hB hb, hr⟩

/-- One integer more behind a row of integers that the call owns. -/
theorem wpList_append_int {P : Program} (w w0 : World) {ops : Array Oper} {rest : List Oper} {o : Oper} {a : Act} {Q : Exit → Act → World → Prop} (hgd : o.guard = none) (s x : Operand) (t : TypeId)
    (ho : o.op = .call { callee := .builtin .append, args := #[s, x], argTypes := #[t, t] })
    (B : Nat) (e : TypeId) (ht : P.underlying t = some (.slice e)) (hi : (P.info? e).map (fun i => (i.zero, i.size, i.bytes)) = some (some (.int .i64 0), 1, 8))
    (v : Value) (l : List Int) (hs : a.eval s = v) (hown : ownsI w B e v l) (hbel : Below B w0 w)
    (ad : Addr) (c : Nat) (n : Int) (hx : a.eval x = .slice (some ad) 1 c) (hc : w.cell? ad = some (.int .i64 n))
    (hlen : l.length < 4398046511104) (hB : B ≤ w.heap.size)
    (h : ∀ v' w', ownsI w' B e v' (l ++ [n]) → Below B w0 w' → wpList P ops Q rest (a.put o.dst v') w') : wpList P ops Q (o :: rest) a w := by
  obtain ⟨i0, hi0, hz0, hz1, hz2⟩ := info_parts hi
  refine wpList_append_own w hgd s x t ho B e i0 (.int .i64 0) 1 8 ht hi0 hz0 hz1 hz2 rfl (by decide) v l.length _ hs hown ad 1 c [.int .i64 n] hx rfl ?_ ?_ (by unfold maxLen; omega) (by omega) hB ?_
  · intro j u hj
    match j, hj with
    | 0, hj => simp at hj; subst hj; simpa [Addr.add] using hc
  · intro u hu; simp at hu; subst hu; rfl
  · intro v' w' h1 h2 _
    refine h v' w' (by simpa [ownsI] using h1) (hbel.grown h2 hB fun k hk => (hown.lt k hk).1)

set_option maxHeartbeats 1000000 in
/-- Twelve numbers below 10000 are drawn. -/
theorem places_any (v : Value) (n : Nat) (w : World) (hn : n ≤ 1048576) (hc : CodeAt w w.heap.size v n) :
    Calls Try.prog 15 #[v] w fun e w' => ∃ (u : Value) (l : List Int), e = .returned u ∧ ownsI w' w.heap.size 3 u l ∧ l.length = 12 ∧ (∀ x ∈ l, 0 ≤ x ∧ x < 10000) ∧ Below w.heap.size w w' := by
  go_enter Try.func15, Try.ntmps15
  go_wp2_with (first | (go_at_call 47; refine (new_any v n _ hn hc).mono ?_; rintro e w1 ⟨g, rfl, hg0, hd1, hb1⟩) | (go_at_call 52; refine (byte_any g _ hd1).mono ?_; rintro e w2 ⟨x, rfl, hx0, hx1, hd2, hs2⟩))
  have hlt := hd2.lt
  have hb2 : Below w.heap.size w w2 := hb1.trans (hs2.below hg0 hb1.size)
  clear hd1 hb1 hs2 hx0 hx1
  go_loopw [4, 5] (fun out i wr => ∃ (k : Nat) (l : List Int), k ≤ 12 ∧ i = .int .i64 k ∧ l.length = k ∧ (∀ x ∈ l, 0 ≤ x ∧ x < 10000) ∧ ownsI wr w2.heap.size 3 out l ∧ Drw wr g ∧ Save g w2 wr) (fun _ i _ => 12 - (intOf i).toNat)
  case atStart => exact ⟨0, [], Nat.zero_le _, rfl, rfl, by simp, ownsI_made _ _ _ _ _ (Nat.le_refl _) (by decide) rfl, hd2.keep ((Below.refl _ _).alloc (by omega) _), (Save.refl g w2).alloc _⟩
  case round =>
    obtain ⟨k, l, hk, rfl, hl, hall, hown, hdr, hs⟩ := hrel
    clear hd2
    have hsz := hs.size
    by_cases hlt2 : k < 12
    · go_wp2_with (first | (go_at_call 48; refine (below_any g 10000 _ hdr (by decide) (by decide)).mono ?_; rintro e w3 ⟨x, rfl, hx0, hx1, hdr1, hs1⟩) | (at_builtin; refine wpList_append_int _ _ rfl (.tmp 15) (.tmp 18) 28 rfl w2.heap.size 3 Try.underlying28 info3 _ l rfl ((hown.save hs1 hlt).alloc _) (Below.refl _ _) ⟨w3.heap.size, 0, none⟩ 1 x rfl ?c1 ?c2 ?c3 ?_))
      case c1 => simp
      case c2 => omega
      case c3 => have := hs1.size; simp; omega
      intro v' w4 hown2 hbel2
      have hs2 : Save g w2 w4 := ((hs.trans hs1).alloc _).below_on hbel2 (Nat.le_refl _)
      have hdr2 : Drw w4 g := (hdr1.keep ((Below.refl _ _).alloc (by have := hs1.size; omega) _)).keep (hbel2.mono (by omega))
      clear hown hdr hs hdr1 hs1 hbel2
      go_wp2
      go_roundw
      case rel => exact ⟨k + 1, l ++ [x], by omega, by go_num, by simp [hl], (by intro y hy; rcases List.mem_append.1 hy with h | h; exact hall y h; simp at h; omega), hown2, hdr2, hs2⟩
      case measure => simp [intOf]; omega
    · have hkn : k = 12 := by omega
      subst hkn
      go_wp2
      go_ret
      exact ⟨_, l, rfl, ownsI.mono hown hb2.size, hl, hall, hb2.trans (hs.below hg0 (Nat.le_trans hb2.size (Nat.le_refl _)))⟩

/-- A row of bytes that came in: nil, or cells that hold numbers of the kind. -/
def IsRow (k : IntKind) (w : World) (a : Option Addr) (len cap : Nat) (zs : List Int) : Prop :=
  (a = none ∧ len = 0 ∧ cap = 0 ∧ zs = []) ∨
  ∃ x, a = some x ∧ len ≤ cap ∧ cap ≤ maxLen ∧ zs.length = cap ∧ (∀ i, i < zs.length → w.cell? (x.add i) = some (.int k (zs.getD i 0))) ∧ ∀ n ∈ zs, (Lit.int k n).wf = true
theorem IsRow.code {w : World} {a : Option Addr} {len cap : Nat} {zs : List Int} (h : IsRow .u8 w a len cap zs) : len ≤ 9223372036854775807 ∧ CodeAt w w.heap.size (.slice a len cap) len := by
  rcases h with ⟨rfl, rfl, rfl, rfl⟩ | ⟨x, rfl, h1, h2, h3, h4, h5⟩
  · exact ⟨by decide, none, 0, rfl, fun j hj => by omega⟩
  · refine ⟨by unfold maxLen at h2; omega, some x, cap, rfl, fun j hj => ?_⟩
    have hj2 : j < zs.length := by omega
    have hc := h4 j hj2
    have hw := h5 (zs.getD j 0) (by rw [List.getD_eq_getElem?_getD, List.getElem?_eq_getElem hj2]; exact List.getElem_mem hj2)
    have hr : 0 ≤ zs.getD j 0 ∧ zs.getD j 0 ≤ 255 := by simpa [Lit.wf, IntKind.min, IntKind.max, IntKind.signed, IntKind.bits] using hw
    refine ⟨x, zs.getD j 0, rfl, ?_, hr.1, by omega, hc⟩
    have := World.block_lt_of_cell? w _ hc
    rw [add_block] at this
    exact this

end Go.Proofs.Ytekflgecfcjjiaa

namespace Go.Proofs.Ytekflgecfcjjiaa
open Go.RowKit

set_option maxHeartbeats 400000 in
theorem once_any (g : Nat) (n : Int) (w : World) (hd : Drw w g) (h0 : 0 < n) (h1 : n ≤ 9223372036854775807) :
    Calls Try.prog 83 #[.pointer (some ⟨g, 0, none⟩), .int .i64 n] w fun e w' => ∃ b : Bool, e = .returned (.bool b) ∧ Drw w' g ∧ Save g w w' := by
  go_enter Try.func83, Try.ntmps83
  go_wp2_with (go_at_call 48; refine (below_any g n _ hd h0 h1).mono ?_; rintro e w1 ⟨x, rfl, hx0, hx1, hd1, hs1⟩)
  go_ret
  exact ⟨_, rfl, hd1, hs1⟩

/-- One of a row of integers. -/
def IntsAt (w : World) (g r n : Nat) : Prop := r ≠ g ∧ ∀ j, j < n → ∃ z : Int, -9223372036854775808 ≤ z ∧ z ≤ 9223372036854775807 ∧ w.cell? ⟨r, j, none⟩ = some (.int .i64 z)
set_option maxHeartbeats 400000 in
theorem pickInt_any (g r n cap : Nat) (w : World) (hd : Drw w g) (h0 : 0 < n) (h1 : n ≤ 1000000) (hr : IntsAt w g r n) (hlt : r < w.heap.size) :
    Calls Try.prog 79 #[.pointer (some ⟨g, 0, none⟩), .slice (some ⟨r, 0, none⟩) n cap] w fun e w' => ∃ z : Int, e = .returned (.int .i64 z) ∧ -9223372036854775808 ≤ z ∧ z ≤ 9223372036854775807 ∧ Drw w' g ∧ Save g w w' := by
  go_enter Try.func79, Try.ntmps79
  go_wp2_with (go_at_call 48; refine (below_any g n _ hd (by omega) (by omega)).mono ?_; rintro e w1 ⟨x, rfl, hx0, hx1, hd1, hs1⟩; obtain ⟨k, rfl⟩ := Int.eq_ofNat_of_zero_le hx0; obtain ⟨z, hz0, hz1, hz⟩ := hr.2 k (by omega); have hz2 : w1.cell? ⟨r, k, none⟩ = some (.int .i64 z) := (by rw [cell_block (w := w) (hs1.block r hlt hr.1)]; exact hz))
  go_ret
  exact ⟨z, rfl, hz0, hz1, hd1, hs1⟩

/-- One of a row just written out. -/
theorem pickLit_from (g : Nat) (zs : List Int) (w0 w : World) (hd : Drw w g) (hs : Save g w0 w) (h0 : 0 < zs.length) (h1 : zs.length ≤ 1000000) (hz : ∀ z ∈ zs, -9223372036854775808 ≤ z ∧ z ≤ 9223372036854775807) (cs : Array Value) (hcs : cs = (zs.map (Value.int .i64)).toArray) (n : Nat) (hn : n = zs.length) :
    Calls Try.prog 79 #[.pointer (some ⟨g, 0, none⟩), .slice (some ⟨w.heap.size, 0, none⟩) n n] (w.alloc (.cells cs 3)) fun e w' => ∃ z : Int, e = .returned (.int .i64 z) ∧ -9223372036854775808 ≤ z ∧ z ≤ 9223372036854775807 ∧ Drw w' g ∧ Save g w0 w' := by
  have hg := hd.lt
  subst hn hcs
  refine (pickInt_any g w.heap.size zs.length zs.length _ (hd.keep ((Below.refl _ _).alloc (by omega) _)) h0 h1 ⟨by omega, fun j hj => ?_⟩ (by simp)).mono fun _ _ ⟨x, h1, h2, h3, h4, h5⟩ => ⟨x, h1, h2, h3, h4, (hs.alloc _).trans h5⟩
  have := hz zs[j] (List.getElem_mem hj)
  exact ⟨zs[j], this.1, this.2, by simp [hj]⟩

theorem ownsB.slice {w : World} {B : Nat} {e : TypeId} {r n cap : Nat} {l : List Int} (h : ownsB w B e (.slice (some ⟨r, 0, none⟩) n cap) l) : n = l.length := by
  obtain ⟨_, h2⟩ := h
  rcases h2 with ⟨h, _⟩ | ⟨r', cap', cur, hv, _⟩
  · simp at h
  · simp only [Value.slice.injEq] at hv
    exact hv.2.1
set_option maxHeartbeats 1000000 in
/-- A text of n bytes of one kind. -/
theorem long_any (n : Nat) (x : Int) (w : World) (hn : n ≤ 1000000) (h0 : 0 < n) :
    Calls Try.prog 81 #[.int .i64 n, .int .u8 x] w fun e w' => ∃ t : ByteArray, e = .returned (.string t) ∧ t.size = n ∧ Below w.heap.size w w' := by
  obtain ⟨i0, hi0, hz0, hz1, hz2⟩ := info_parts info5
  go_enter Try.func81, Try.ntmps81
  go_wp2_with (at_make; refine wpList_make_full _ rfl _ _ 22 rfl w.heap.size 5 i0 (.int .u8 0) 1 Try.underlying22 hi0 hz0 hz1 _ _ _ _ n rfl rfl rfl rfl ?m1 ?m2 ?m3 ?_)
  case m1 => rw [hz2]; omega
  case m2 => unfold maxLen; omega
  case m3 => omega
  intro w1 hown0 hgr0
  have hown1 : ownsB w1 w.heap.size 5 (.slice (some ⟨w.heap.size, 0, none⟩) n n) (List.replicate n 0) := by
    unfold ownsB
    rw [List.length_replicate, List.map_replicate]
    have h2 : w1.ownsRow w.heap.size 5 1 (.slice (some ⟨w.heap.size, 0, none⟩) n n) n (madeCells #[Value.int IntKind.u8 0] n).toList := hown0
    rw [toList_madeCells_one] at h2
    exact h2
  have hbel0 : Below w.heap.size w w1 := (Below.refl _ _).grown hgr0 (Nat.le_refl _) (fun k hk => by cases hk)
  clear hown0 hgr0 hi0 hz0 hz1 hz2
  go_wp2
  go_loopw [6] (fun i wr => ∃ (k : Nat) (l : List Int), k ≤ n ∧ i = .int .i64 k ∧ l.length = n ∧ ownsB wr w.heap.size 5 (.slice (some ⟨w.heap.size, 0, none⟩) n n) l ∧ Below w.heap.size w wr) (fun i _ => n - (intOf i).toNat)
  case atStart => exact ⟨0, _, Nat.zero_le _, rfl, List.length_replicate, hown1, hbel0⟩
  case round =>
    obtain ⟨k, l, hk, rfl, hl, hown, hbel⟩ := hrel
    clear hown1 hbel0
    by_cases hlt : k < n
    · have ho : wr.ownsRow w.heap.size 5 1 (.slice (some ⟨w.heap.size, 0, none⟩) n n) n (l.map (Value.int .u8)) := by have h := hown; unfold ownsB at h; rw [hl] at h; exact h
      have hck : wr.cell? ⟨w.heap.size, k, none⟩ = some (.int .u8 (l[k]'(by omega))) := by
        rw [World.ownsRow.cellAt ho k (by omega)]
        simp [hl, hlt]
      have hfk := World.ownsRow.frozenAt ho k
      have hst := (World.ownsRow.stored ho k (.int .u8 x)).1
      rw [← List.map_set] at hst
      clear hown ho
      go_wp2
      go_roundw
      case rel => exact ⟨k + 1, l.set k x, by omega, by go_num, by simp [hl], (by unfold ownsB; rw [List.length_set, hl]; exact hst), hbel.setCell (Nat.le_refl _) _⟩
      case measure => simp [intOf]; omega
    · have hcv := run_own_string (P := Try.prog) 22 9 hown Try.underlying22 Try.underlying5 Try.underlying9
      clear hown
      go_wp2
      go_ret
      exact ⟨_, rfl, by rw [show (bstr l).size = l.length by simp [bstr, ByteArray.size]]; exact hl, hbel⟩

end Go.Proofs.Ytekflgecfcjjiaa

namespace Go.Proofs.Ytekflgecfcjjiaa
open Go Go.RowKit

/-- One of a row of texts, each of which is so. -/
def TextsAt (w : World) (g r n : Nat) (P : ByteArray → Prop) : Prop := r ≠ g ∧ ∀ j, j < n → ∃ t : ByteArray, P t ∧ w.cell? ⟨r, j, none⟩ = some (.string t)
set_option maxHeartbeats 400000 in
theorem pick_any (P : ByteArray → Prop) (g r n cap : Nat) (w : World) (hd : Drw w g) (h0 : 0 < n) (h1 : n ≤ 1000000) (hr : TextsAt w g r n P) (hlt : r < w.heap.size) :
    Calls Try.prog 76 #[.pointer (some ⟨g, 0, none⟩), .slice (some ⟨r, 0, none⟩) n cap] w fun e w' => ∃ t : ByteArray, e = .returned (.string t) ∧ P t ∧ Drw w' g ∧ Save g w w' := by
  go_enter Try.func76, Try.ntmps76
  go_wp2_with (go_at_call 48; refine (below_any g n _ hd (by omega) (by omega)).mono ?_; rintro e w1 ⟨x, rfl, hx0, hx1, hd1, hs1⟩; obtain ⟨k, rfl⟩ := Int.eq_ofNat_of_zero_le hx0; obtain ⟨t, ht, hz⟩ := hr.2 k (by omega); have hz2 : w1.cell? ⟨r, k, none⟩ = some (.string t) := (by rw [cell_block (w := w) (hs1.block r hlt hr.1)]; exact hz))
  go_ret
  exact ⟨t, rfl, ht, hd1, hs1⟩
theorem pickText_from (P : ByteArray → Prop) (g : Nat) (ts : List ByteArray) (w0 w : World) (hd : Drw w g) (hs : Save g w0 w) (h0 : 0 < ts.length) (h1 : ts.length ≤ 1000000) (hz : ∀ t ∈ ts, P t) (cs : Array Value) (hcs : cs = (ts.map Value.string).toArray) (n : Nat) (hn : n = ts.length) :
    Calls Try.prog 76 #[.pointer (some ⟨g, 0, none⟩), .slice (some ⟨w.heap.size, 0, none⟩) n n] (w.alloc (.cells cs 9)) fun e w' => ∃ t : ByteArray, e = .returned (.string t) ∧ P t ∧ Drw w' g ∧ Save g w0 w' := by
  have hg := hd.lt
  subst hn hcs
  refine (pick_any P g w.heap.size ts.length ts.length _ (hd.keep ((Below.refl _ _).alloc (by omega) _)) h0 h1 ⟨by omega, fun j hj => ⟨ts[j], hz _ (List.getElem_mem hj), ?_⟩⟩ (by simp)).mono ?_
  · have := World.ownsRow_lit (base := 0) (e := 9) (size := 1) w (ts.map Value.string).toArray ts.length (Nat.zero_le _) (by unfold maxLen; omega) (by simp)
    rw [World.ownsRow.cellAt this j (by omega)]
    simp [hj]
  · rintro e w' ⟨t, h1, h2, h3, h4⟩
    exact ⟨t, h1, h2, h3, (hs.alloc _).trans h4⟩

set_option maxHeartbeats 400000 in
theorem named_any (g : Nat) (w : World) (hd : Drw w g) :
    Calls Try.prog 51 #[.pointer (some ⟨g, 0, none⟩)] w fun e w' => ∃ t : ByteArray, e = .returned (.string t) ∧ nameR t = true ∧ Drw w' g ∧ Save g w w' := by
  go_enter Try.func51, Try.ntmps51
  go_wp2_with fail
  refine (pickText_from (fun t => nameR t = true) g [⟨#[97]⟩, ⟨#[98]⟩, ⟨#[99]⟩, ⟨#[106, 48]⟩, ⟨#[106, 49]⟩, ⟨#[106, 43]⟩, ⟨#[115, 48]⟩, ⟨#[115, 43]⟩] w w hd (Save.refl _ _) (by decide) (by decide) (by decide) _ (by rfl) _ (by rfl)).mono ?_
  rintro e w' ⟨t, rfl, h1, h2, h3⟩
  go_wp2
  go_ret
  exact ⟨t, rfl, h1, h2, h3⟩

theorem ownsR.save {α : Type} [Rec α] {g : Nat} {w w' : World} {B : Nat} {e : TypeId} {v : Value} {l : List α} (h : ownsR w B e v l) (hs : Save g w w') (hB : g < B) : ownsR w' B e v l := by
  obtain ⟨h1, h2⟩ := h
  refine ⟨h1, ?_⟩
  rcases h2 with h | ⟨r, cap, cur, hv, hb, hg, hr⟩
  · exact .inl h
  · exact .inr ⟨r, cap, cur, hv, hb, by rw [hs.block r (Array.getElem?_eq_some_iff.1 hg).1 (by omega)]; exact hg, hr⟩
theorem cell_save {g : Nat} {w w' : World} {p : Addr} {v : Value} (hs : Save g w w') (h : w.cell? p = some v) (hp : p.block ≠ g) : w'.cell? p = some v := by
  rw [cell_block (w := w) (hs.block p.block (World.block_lt_of_cell? w p h) hp)]; exact h
theorem frozen_save {g : Nat} {w w' : World} {p : Addr} {v : Value} {b : Bool} (hs : Save g w w') (h : w.cell? p = some v) (hf : w.frozen? p = b) (hp : p.block ≠ g) : w'.frozen? p = b := by
  rw [World.frozen?_of_block (hs.block p.block (World.block_lt_of_cell? w p h) hp)]; exact hf

theorem frozen_on2 {w w' : World} {p : Addr} {v : Value} {b : Bool} (hb : Below w.heap.size w w') (h : w.cell? p = some v) (hf : w.frozen? p = b) : w'.frozen? p = b := (hb.frozen (World.block_lt_of_cell? w p h)).trans hf

/-- What lies there while a disk is drawn. -/
structure Rd (w W : World) (g D : Nat) (v : Value) (L : List Fl) : Prop where
  drw : Drw W g
  ge : w.heap.size < g
  gD : g < D
  box : W.cell? ⟨D, 0, none⟩ = some v
  boxf : W.frozen? ⟨D, 0, none⟩ = false
  res : W.cell? ⟨w.heap.size, 0, none⟩ = some (.slice none 0 0)
  resf : W.frozen? ⟨w.heap.size, 0, none⟩ = false
  own : ownsR W (g + 1) 36 v L
  below : Below w.heap.size w W
theorem Rd.lt {w W : World} {g D : Nat} {v : Value} {L : List Fl} (h : Rd w W g D v L) : D < W.heap.size := World.block_lt_of_cell? W _ h.box
theorem Rd.save {w W W' : World} {g D : Nat} {v : Value} {L : List Fl} (h : Rd w W g D v L) (hs : Save g W W') (hd : Drw W' g) : Rd w W' g D v L := by
  have h1 := h.ge
  have h2 := h.gD
  exact ⟨hd, h.ge, h.gD, cell_save hs h.box (by simp; omega), frozen_save hs h.box h.boxf (by simp; omega), cell_save hs h.res (by simp; omega), frozen_save hs h.res h.resf (by simp; omega), h.own.save hs (by omega), h.below.trans (hs.below (by omega) h.below.size)⟩
theorem Rd.put {w W w7 : World} {g D : Nat} {v v7 : Value} {L L' : List Fl} (h : Rd w W g D v L) (ho : ownsR w7 W.heap.size 36 v7 L') (hb : Below W.heap.size W w7) : Rd w (w7.setCell ⟨D, 0, none⟩ v7) g D v7 L' := by
  have h1 := h.ge
  have h2 := h.gD
  have h3 := h.lt
  have c1 := cell_up hb h.box
  refine ⟨h.drw.keep ((hb.mono (by omega)).setCell (p := ⟨D, 0, none⟩) (by simp; omega) _), h1, h2, World.cell?_setCell_same' _ _ _ (by rw [c1]; rfl), by rw [World.frozen?_setCell]; exact frozen_on2 hb h.box h.boxf, ?_, by rw [World.frozen?_setCell]; exact frozen_on2 hb h.res h.resf, (ho.setBelow (a := ⟨D, 0, none⟩) h3 v7).mono (by omega), (h.below.trans (hb.mono h.below.size)).setCell (p := ⟨D, 0, none⟩) (by simp; omega) _⟩
  exact (grown_set w7 D 0 v7).cell (cell_up hb h.res) (by simp; omega)

/-- What the drawing tells of a disk. -/
structure RightTo (L : List Fl) (k : Nat) : Prop where
  right : diskR L = true
  len : L.length ≤ k
theorem RightTo.put {L : List Fl} {k : Nat} (h : RightTo L k) (hk : k < 30) {nm t : ByteArray} {kp : Int} (hn : nameR nm = true) (ht : t.size ≤ 20000) (h0 : 0 ≤ kp) (h1 : kp ≤ t.size) : RightTo (putL L ⟨nm, t, kp⟩) (k + 1) := by
  have hl : (putL L ⟨nm, t, kp⟩).length ≤ k + 1 := by
    have := length_put (key := Fl.key) (diskR_iff.1 h.right).2.2 (⟨nm, t, kp⟩ : Fl)
    have h2 := h.len
    show (putK Fl.key L ⟨nm, t, kp⟩).length ≤ k + 1
    rw [this]
    split <;> omega
  refine ⟨?_, hl⟩
  rw [diskR_put h.right, Bool.and_eq_true]
  refine ⟨?_, decide_eq_true (by omega)⟩
  simp only [Fl.right, hn, Bool.true_and, Bool.and_eq_true, decide_eq_true_eq]
  exact ⟨by omega, h0, h1⟩

end Go.Proofs.Ytekflgecfcjjiaa

namespace Go.Proofs.Ytekflgecfcjjiaa
open Go Go.RowKit

set_option maxHeartbeats 400000 in
theorem big_any (a : Option Addr) (n cap : Nat) (w : World) (hn : n ≤ 9223372036854775807) :
    Calls Try.prog 12 #[.slice a n cap] w fun e w' => e = .returned (.bool (decide (1048576 < n))) ∧ w' = w := by
  by_cases h : 1048576 < n
  · go_enter Try.func12, Try.ntmps12
    go_wp2
    go_ret
    exact ⟨by simp [h]; omega, rfl⟩
  · go_enter Try.func12, Try.ntmps12
    go_wp2
    go_ret
    exact ⟨by simp [h]; omega, rfl⟩
theorem CodeAt.on {w w' : World} {v : Value} {n : Nat} (h : CodeAt w w.heap.size v n) (hb : Below w.heap.size w w') : CodeAt w' w'.heap.size v n := by
  obtain ⟨a, cap, hv, hc⟩ := h.keep (w' := w') hb.block
  refine ⟨a, cap, hv, fun j hj => ?_⟩
  obtain ⟨x, z, ha, hlt, hr⟩ := hc j hj
  exact ⟨x, z, ha, Nat.lt_of_lt_of_le hlt hb.size, hr⟩
theorem Below.on {w w1 w2 : World} (h1 : Below w.heap.size w w1) (h2 : Below w1.heap.size w1 w2) : Below w.heap.size w w2 := h1.trans (h2.mono h1.size)

theorem flat_int : ∀ l : List Int, l.flatMap (Rec.cells (α := Int)) = l.map (Value.int .i64)
  | [] => rfl
  | x :: r => by rw [List.flatMap_cons, List.map_cons, flat_int r]; rfl
theorem ownsI.toR {w : World} {B : Nat} {v : Value} {l : List Int} (h : ownsI w B 3 v l) : ownsR w B 3 v l := by
  unfold ownsR
  rw [flat_int]
  exact h

set_option maxHeartbeats 1000000 in
/-- Six numbers out of twelve. -/
theorem lefts_any (r c : Nat) (l : List Int) (w : World) (hl : l.length = 12) (hr : ∀ j (hj : j < l.length), w.cell? ⟨r, j, none⟩ = some (.int .i64 l[j])) (hlt : r < w.heap.size) (hb : ∀ x ∈ l, 0 ≤ x ∧ x < 10000) :
    Calls Try.prog 14 #[.slice (some ⟨r, 0, none⟩) 12 c] w fun e w' => ∃ v q, e = .returned v ∧ ownsI w' w.heap.size 3 v q ∧ Below w.heap.size w w' := by
  have HR : Hid (∀ j (hj : j < l.length), w.cell? ⟨r, j, none⟩ = some (.int .i64 l[j])) := hr
  have HB : Hid (∀ x ∈ l, 0 ≤ x ∧ x < 10000) := hb
  have HL : Hid (l.length = 12) := hl
  clear hr hb hl
  go_enter Try.func14, Try.ntmps14
  go_wp2
  go_loopw [3, 4] (fun out i wr => ∃ (k : Nat) (q : List Int), k ≤ 6 ∧ i = .int .i64 k ∧ q.length = k ∧ ownsI wr w.heap.size 3 out q ∧ Below w.heap.size w wr) (fun _ i _ => 6 - (intOf i).toNat)
  case atStart => exact ⟨0, [], Nat.zero_le _, rfl, rfl, ownsI_made _ _ _ _ _ (Nat.le_refl _) (by decide) rfl, (Below.refl _ _).alloc (Nat.le_refl _) _⟩
  case round =>
    obtain ⟨k, q, hk, rfl, hq, hown, hbel⟩ := hrel
    have hsz := hbel.size
    by_cases hlt2 : k < 6
    · have hkl : k < l.length := by rw [HL.out]; omega
      have hc : wr.cell? ⟨r, k, none⟩ = some (.int .i64 l[k]) := (hbel.cell (p := ⟨r, k, none⟩) hlt).trans (HR.out k hkl)
      have hx := HB.out l[k] (List.getElem_mem hkl)
      generalize l[k] = x at hc hx
      obtain ⟨hx0, hx1⟩ := hx
      have hk12 : (k : Int) < 12 := by omega
      go_wp2_with (at_builtin; refine wpList_append_int _ w (by rfl) _ _ 28 (by rfl) w.heap.size 3 Try.underlying28 info3 _ q (by rfl) (hown.alloc _) (hbel.alloc hsz _) ⟨wr.heap.size, 0, none⟩ 1 (x % 300) (by rfl) ?c1 ?c2 ?c3 ?_)
      case c1 => simp
      case c2 => omega
      case c3 => simp; omega
      intro v' w1 hown1 hbel1
      clear hown hbel
      go_wp2
      go_roundw
      case rel => exact ⟨k + 1, q ++ [x % 300], by omega, by go_num, by simp; omega, hown1, hbel1⟩
      case measure => simp [intOf]; omega
    · go_wp2
      go_ret
      exact ⟨_, q, rfl, hown, hbel⟩

set_option maxHeartbeats 400000 in
/-- A text begins so. -/
theorem begins_any (a b : ByteArray) (w : World) (h1 : a.size ≤ b.size) (h2 : b.extract 0 a.size = a) :
    Calls Try.prog 20 #[.string a, .string b] w fun e w' => e = .returned (.bool true) ∧ w' = w := by
  have k1 : decide ((a.size : Int) ≤ (b.size : Int)) = true := decide_eq_true (by omega)
  have k2 : (a.size : Int) ≤ (b.size : Int) := by omega
  have hsl : ∀ wx, (Instr.slice 9 (.string b) none (some (.int .i64 (a.size : Int))) none).run Try.prog wx = .ok (.string a) wx := fun wx => by
    rw [run_slice_string_h (P := Try.prog) wx 9 b Try.underlying9 .i64 (a.size : Int) (by omega) (by omega), Int.toNat_natCast, h2]
  go_enter Try.func20, Try.ntmps20
  go_wp2
  go_ret
  exact ⟨by simp, rfl⟩

set_option maxHeartbeats 2000000 in
/-- Two disks of the same files. -/
theorem same_any (va vb : Value) (l : List Fl) (w : World) (ha : Reads w va l) (hb : Reads w vb l) (hn : l.length ≤ 1048577) :
    Calls Try.prog 17 #[.agg #[va], .agg #[vb]] w fun e w' => e = .returned (.bool true) ∧ Below w.heap.size w w' := by
  obtain ⟨ao, c, rfl, _⟩ := id ha
  obtain ⟨bo, d, rfl, _⟩ := id hb
  have HA : Hid (Reads w (.slice ao l.length c) l) := ha
  have HB : Hid (Reads w (.slice bo l.length d) l) := hb
  clear ha hb
  go_enter Try.func17, Try.ntmps17
  go_wp2
  obtain ⟨W, hW⟩ : ∃ W, (w.alloc (.cells #[.slice ao l.length c] 26)).alloc (.cells #[.slice bo l.length d] 26) = W := ⟨_, rfl⟩
  have BW : Below w.heap.size w W := by rw [← hW]; exact ba (ba (Below.refl _ _) _) _
  have q1 : W.cell? ⟨w.heap.size, 0, none⟩ = some (.slice ao l.length c) := by rw [← hW]; simp [go_sem]
  have q2 : W.cell? ⟨w.heap.size + 1, 0, none⟩ = some (.slice bo l.length d) := by rw [← hW]; simp [go_sem]
  rw [hW]
  clear hW
  go_loopw [5] (fun i wr => ∃ (k m : Nat), k ≤ l.length ∧ i = .int .i64 k ∧ wr = W.drewN m) (fun i _ => l.length - (intOf i).toNat)
  case atStart => exact ⟨0, 0, Nat.zero_le _, rfl, rfl⟩
  case round =>
    obtain ⟨k, m, hk, rfl, rfl⟩ := hrel
    by_cases hlt : k < l.length
    · obtain ⟨f, hf⟩ : ∃ f, l[k]? = some f := ⟨_, List.getElem?_eq_getElem hlt⟩
      obtain ⟨a, oa, rfl, hga, a0, a1, a2⟩ := fl_at (HA.out.below BW) hf
      obtain ⟨b, ob, rfl, hgb, b0, b1, b2⟩ := fl_at (HB.out.below BW) hf
      clear hf
      go_wp2
      go_quiet (fail)
      go_wp2
      go_roundw
      case rel => exact ⟨k + 1, _, by omega, by go_num, rfl⟩
      case measure => simp [intOf]; omega
    · go_wp2
      go_ret
      exact ⟨rfl, below_drewN BW _⟩
/-- Of a right file as much is left as is told, and it is all kept. -/
theorem stays_bd {f : Fl} (h : f.right = true) (x : Int) : 0 ≤ staysN x f.kept f.text.size ∧ f.kept ≤ staysN x f.kept f.text.size ∧ staysN x f.kept f.text.size ≤ f.text.size ∧ 0 ≤ f.kept := by
  simp only [Fl.right, Bool.and_eq_true, decide_eq_true_eq] at h
  unfold staysN
  omega
theorem begun_size {f : Fl} (h : f.right = true) (x : Int) : ((f.begun x).text.size : Int) = (f.begun x).kept := by
  have := stays_bd h x
  show ((f.text.extract 0 (staysN x f.kept f.text.size).toNat).size : Int) = staysN x f.kept f.text.size
  rw [ByteArray.size_extract]
  omega
theorem begun_right {f : Fl} (h : f.right = true) (x : Int) : (f.begun x).right = true := by
  have h1 := begun_size h x
  have h2 := stays_bd h x
  have h3 : (f.begun x).kept = staysN x f.kept f.text.size := rfl
  have h4 : (f.begun x).name = f.name := rfl
  simp only [Fl.right, Bool.and_eq_true, decide_eq_true_eq] at h ⊢
  rw [h4]
  refine ⟨h.1, by omega, by omega, by omega⟩
theorem loseL_get {l : List Fl} {left : List Int} {i : Nat} {g : Fl} (h : (loseL l left)[i]? = some g) : ∃ f, l[i]? = some f ∧ g = f.begun (leftAt left i) := by
  have hi : i < l.length := by have := (List.getElem?_eq_some_iff.1 h).1; rw [loseL_length] at this; exact this
  have e := loseL_at left (List.getElem?_eq_getElem hi)
  rw [h] at e
  exact ⟨l[i], List.getElem?_eq_getElem hi, Option.some.inj e⟩
theorem loseL_diskR {l : List Fl} (h : diskR l = true) (left : List Int) : diskR (loseL l left) = true := by
  obtain ⟨h1, h2, h3⟩ := diskR_iff.1 h
  refine diskR_iff.2 ⟨by rw [loseL_length]; exact h1, fun g hg => ?_, asc_of_next fun i p f hp hf => ?_⟩
  · obtain ⟨i, hi, rfl⟩ := List.getElem_of_mem hg
    obtain ⟨f, hf, e⟩ := loseL_get (List.getElem?_eq_getElem hi)
    rw [e]
    exact begun_right (h2 f (List.mem_of_getElem? hf)) _
  · obtain ⟨p', hp', rfl⟩ := loseL_get hp
    obtain ⟨f', hf', rfl⟩ := loseL_get hf
    show p'.key < f'.key
    obtain ⟨i1, e1⟩ := List.getElem?_eq_some_iff.1 hp'
    obtain ⟨i2, e2⟩ := List.getElem?_eq_some_iff.1 hf'
    have := List.pairwise_iff_getElem.1 h3 i (i + 1) i1 i2 (by omega)
    rw [e1, e2] at this
    exact this
theorem loseL_kept {l : List Fl} (h : diskR l = true) (left : List Int) : keptR (loseL l left) = true :=
  keptR_true fun i f _ hf => by
    obtain ⟨g, hg, rfl⟩ := loseL_get hf
    exact (begun_size ((diskR_iff.1 h).2.1 g (List.mem_of_getElem? hg)) _).symm
theorem loseL_again {l : List Fl} (h : diskR l = true) (left : List Int) : loseL (loseL l left) [] = loseL l left := by
  apply List.ext_getElem?
  intro i
  by_cases hi : i < l.length
  · have hf := List.getElem?_eq_getElem hi
    have hg := loseL_at left hf
    rw [loseL_at [] hg, hg]
    have hr := (diskR_iff.1 h).2.1 _ (List.mem_of_getElem? hf)
    have hz := begun_size hr (leftAt left i)
    have hb := stays_bd (begun_right hr (leftAt left i)) (leftAt [] i)
    generalize (l[i]).begun (leftAt left i) = g at hz hb
    have hs : staysN (leftAt [] i) g.kept g.text.size = g.kept := by omega
    show some (⟨g.name, g.text.extract 0 (staysN (leftAt [] i) g.kept g.text.size).toNat, staysN (leftAt [] i) g.kept g.text.size⟩ : Fl) = some g
    rw [hs]
    have e : g.text.extract 0 g.kept.toNat = g.text := by
      rw [show g.kept.toNat = g.text.size by omega, ByteArray.extract_zero_size]
    rw [e]
  · rw [List.getElem?_eq_none (by rw [loseL_length, loseL_length]; omega), List.getElem?_eq_none (by rw [loseL_length]; omega)]
end Go.Proofs.Ytekflgecfcjjiaa

namespace Go.Proofs.Ytekflgecfcjjiaa
open Go Go.RowKit

theorem slice_three {w : World} {B : Nat} {e : TypeId} {v : Value} {l : List Fl} (h : ownsR w B e v l) : ∃ a n c, v = .slice a n c := by
  obtain ⟨a, c, rfl⟩ := h.slice
  exact ⟨a, _, c, rfl⟩

/-- A name, a number and a row that a round of the drawing lays down. -/
structure Lay where
  nm : ByteArray
  kp : Int
  a : Option Addr
  n : Nat
  d : Nat

/-- The post of a region that goes on. -/
def nrm (R : Act → World → Prop) : Exit → Act → World → Prop
  | .normal, a, w => R a w
  | _, _, _ => False
theorem wp_puts' {P : Program} {c : Code} {Q : Exit → Act → World → Prop} {a : Act} {w : World} {α : Type} (f : α → List (Nat × Value)) (F : α → World → Prop)
    (h : c.wp P (nrm fun a' w' => ∃ x : α, a' = putAll a (f x) ∧ F x w') a w) (h2 : ∀ x w', F x w' → Q .normal (putAll a (f x)) w') : c.wp P Q a w :=
  Go.wp_mono h fun e a' w' hh => by
    cases e <;> first | exact hh.elim | (obtain ⟨x, rfl, hF⟩ := hh; exact h2 x w' hF)

set_option maxRecDepth 10000 in
set_option maxHeartbeats 4000000 in
theorem rightDisk_any (v : Value) (n : Nat) (w : World) (hn : n ≤ 1048576) (hc : CodeAt w w.heap.size v n) :
    Calls Try.prog 13 #[v] w fun e w' => ∃ v' L, e = .returned (.agg #[v']) ∧ diskR L = true ∧ ownsR w' w.heap.size 36 v' L ∧ Below w.heap.size w w' := by
  go_enter Try.func13, Try.ntmps13
  go_wp2_with fail
  refine (new_any v n _ hn (by
    have := hc.keep (w' := w.alloc (Obj.cells #[.slice none 0 0] 26)) (fun k hk => Below.heap_alloc _ _ _ hk)
    obtain ⟨a, cap, hv, hcc⟩ := this
    refine ⟨a, cap, hv, fun j hj => ?_⟩
    obtain ⟨x, z, ha, hlt, hr⟩ := hcc j hj
    exact ⟨x, z, ha, by simp; omega, hr⟩)).mono ?_
  rintro e w1 ⟨g, rfl, hg0, hd1, hb1⟩
  clear hc
  have hg1 : w.heap.size < g := by simp at hg0; omega
  have hgl := hd1.lt
  have hr0 : Rd w (w1.alloc (.cells #[.slice none 0 0] 26)) g w1.heap.size (.slice none 0 0) [] := by
    have k1 : w1.cell? ⟨w.heap.size, 0, none⟩ = some (.slice none 0 0) := (hb1.cell (by simp)).trans (by simp [go_sem])
    have k2 : w1.frozen? ⟨w.heap.size, 0, none⟩ = false := (hb1.frozen (by simp)).trans (by simp [go_sem])
    refine ⟨hd1.keep ((Below.refl _ _).alloc (by omega) _), hg1, hgl, by simp [go_sem], by simp [go_sem], cell_up (ba (Below.refl _ _) _) k1, frozen_on2 (ba (Below.refl _ _) _) k1 k2, ownsR_nil _ _ _, ?_⟩
    exact ba ((ba (Below.refl _ _) _).trans (hb1.mono (by simp))) _
  clear hb1 hd1 hg0 hg1
  go_wp2_with fail
  obtain ⟨W, hW⟩ : ∃ W, w1.alloc (.cells #[.slice none 0 0] 26) = W := ⟨_, rfl⟩
  rw [hW] at hr0 ⊢
  clear hW hgl
  generalize w1.heap.size = D at *
  have H0 : Hid (Rd w W g D (.slice none 0 0) []) := hr0
  clear hr0
  go_loopw [5] (fun i wr => ∃ (k : Nat) (v : Value) (L : List Fl), k ≤ 5 ∧ i = .int .i64 k ∧ Rd w wr g D v L ∧ Hid (RightTo L k)) (fun i _ => 5 - (intOf i).toNat)
  case atStart => exact ⟨0, _, [], Nat.zero_le _, rfl, H0.out, ⟨rfl, Nat.le_refl _⟩⟩
  case round =>
    clear H0
    obtain ⟨k, v, L, hk, rfl, hR, HL⟩ := hrel
    obtain ⟨va, vc, rfl⟩ := hR.own.slice
    go_wp2_with fail
    refine (below_any g 6 _ hR.drw (by decide) (by decide)).mono ?_
    rintro e w2 ⟨x, rfl, hx0, hx1, hd2, hs2⟩
    have R2 := hR.save hs2 hd2
    clear hR hs2 hd2
    by_cases hkx : (k : Int) < x
    · go_wp2_with fail
      refine (below_any g 30 _ R2.drw (by decide) (by decide)).mono ?_
      rintro e w3 ⟨y, rfl, hy0, hy1, hd3, hs3⟩
      obtain ⟨yn, rfl⟩ := Int.eq_ofNat_of_zero_le hy0
      have R3 := R2.save hs3 hd3
      clear R2 hs3 hd3
      go_wp2_with fail
      refine (dtext_any g yn _ R3.drw (by omega)).mono ?_
      rintro e w4 ⟨t, rfl, ht, hd4, hs4⟩
      have R4 := R3.save hs4 hd4
      have ht30 : t.size < 30 := by omega
      clear R3 hs4 hd4 ht
      have hgD := R4.gD
      have R4 : Rd w w4.drew g D (.slice va L.length vc) L := R4.save (W' := w4.drew) (Save.refl g w4).drew R4.drw
      have c4 := R4.box
      have hwr : IntKind.i64.wrap ((t.size : Int) + 1) = (t.size : Int) + 1 := by go_arith
      have hL1 := HL.out.len
      go_wp2_with fail
      refine wp_puts' (α := Lay) (fun x => [(20, .agg #[.slice va L.length vc]), (21, .pointer (some ⟨g, 0, none⟩)), (22, .string x.nm), (23, .string t), (24, .pointer (some ⟨g, 0, none⟩)), (25, .string t), (26, .int .i64 (t.size : Int)), (27, .int .i64 ((t.size : Int) + 1)), (28, .int .i64 x.kp), (29, .agg #[.string x.nm, .string t, .int .i64 x.kp]), (30, .agg #[.slice x.a x.n x.d])]) (fun x w' => (nameR x.nm = true ∧ 0 ≤ x.kp ∧ x.kp ≤ t.size) ∧ Rd w w' g D (.slice x.a x.n x.d) (putL L ⟨x.nm, t, x.kp⟩)) ?_ ?_
      · go_region_with (first | (go_at_call 51; refine (named_any g _ R4.drw).mono ?_; rintro e w5 ⟨nm, rfl, hnm, hd5, hs5⟩; have R5 := R4.save hs5 hd5; have c5 := R5.box) | (go_at_call 48; refine (below_any g _ _ R5.drw (by omega) (by omega)).mono ?_; rintro e w6 ⟨kp, rfl, hk0, hk1, hd6, hs6⟩; have R6 := R5.save hs6 hd6; have c6 := R6.box) | (go_at_call 50; refine (put_try _ _ _ L nm t kp _ R6.own.reads (by omega)).mono ?_; rintro e w7 ⟨v7, rfl, ho7, hb7⟩; obtain ⟨a7, n7, d7, rfl⟩ := slice_three ho7; have c7 := cell_up hb7 c6; have f7 := frozen_on2 hb7 c6 R6.boxf))
        all_goals
          dsimp only [nrm]
          refine ⟨⟨nm, kp, a7, n7, d7⟩, ?_, ⟨hnm, hk0, by show kp ≤ (t.size : Int); omega⟩, R6.put ho7 hb7⟩
          kernel_rfl
      clear c4 R4 hwr
      rintro ⟨nm, kp, a7, n7, d7⟩ w8 ⟨⟨hnm, hk0, hk1⟩, R8⟩
      simp only [putAll]
      dsimp only at hnm hk0 hk1 R8
      have HL8 : Hid (RightTo (putL L ⟨nm, t, kp⟩) (k + 1)) := HL.out.put (by omega) hnm (by omega) hk0 hk1
      go_wp2_with fail
      go_roundw
      case rel => exact ⟨k + 1, _, _, by omega, by go_num, R8, HL8⟩
      case measure => simp [intOf]; omega
    · have c2 := R2.box
      have c3 := R2.res
      have f3 := R2.resf
      have hge := R2.ge
      go_wp2_with fail
      refine bodyPost_ret (ret_disk rfl rfl (World.cell?_setCell_same' _ _ _ (by simp [c3]))) rfl ?_
      exact ⟨_, L, rfl, HL.out.right, (R2.own.setBelow (by show w.heap.size < _; omega) _).mono (by omega), R2.below.setCell (p := ⟨w.heap.size, 0, none⟩) (Nat.le_refl _) _⟩
end Go.Proofs.Ytekflgecfcjjiaa
