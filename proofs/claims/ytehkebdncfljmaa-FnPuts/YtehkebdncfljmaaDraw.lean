/-
  The cursor that inputs are drawn with: what stays as it was, and the walks of its four functions.
-/
import Derived.Test.YtehkebdncfljmaaRows
import Derived.Test.YtehkebdncfljmaaSv
import Derived.Test.YtehkebdncfljmaaAid
import Derived.Test.YtehkebdncfljmaaInf
import Derived.WalkKit
import Derived.WalkSpells
import Derived.WalkLawsBesides
import Derived.Handy
import Derived.Below
import Derived.Laws.BitsAllLaws
import Derived.Deep.QuietTactic
import Derived.BigQuiet
import Derived.Deep.RegionWith
import Derived.Deep.RegionHeld
namespace Go.Proofs.Ytehkebdncfljmaa
open Go.RowKit

theorem ownsB.save {g : Nat} {w w' : World} {B : Nat} {e : TypeId} {v : Value} {l : List Int} (h : ownsB w B e v l) (hs : Save g w w') (hB : g < B) : ownsB w' B e v l := by
  obtain ⟨h1, h2⟩ := h
  refine ⟨h1, ?_⟩
  rcases h2 with h | ⟨r, cap, cur, hv, hb, hg, hr⟩
  · exact .inl h
  · exact .inr ⟨r, cap, cur, hv, hb, by rw [hs.block r (by have := (Array.getElem?_eq_some_iff.1 hg).1; exact this) (by omega)]; exact hg, hr⟩

/-- The drawn bytes: n of them, all ahead of block g. -/
def CodeAt (w : World) (g : Nat) (v : Value) (n : Nat) : Prop :=
  ∃ (a : Option Addr) (cap : Nat), v = .slice a n cap ∧ ∀ j, j < n → ∃ (x : Addr) (z : Int), a = some x ∧ x.block < g ∧ 0 ≤ z ∧ z < 256 ∧ w.cell? (x.add j) = some (.int .u8 z)
theorem add_block (x : Addr) (j : Nat) : (x.add j).block = x.block := by
  unfold Addr.add; split <;> rfl
theorem CodeAt.keep {w w' : World} {g : Nat} {v : Value} {n : Nat} (h : CodeAt w g v n) (hs : ∀ k, k < g → w'.heap[k]? = w.heap[k]?) : CodeAt w' g v n := by
  obtain ⟨a, cap, hv, hc⟩ := h
  refine ⟨a, cap, hv, fun j hj => ?_⟩
  obtain ⟨x, z, ha, hb, h0, h1, hz⟩ := hc j hj
  refine ⟨x, z, ha, hb, h0, h1, ?_⟩
  rw [cell_block (w := w)]
  · exact hz
  · rw [add_block]
    exact hs _ hb
theorem Save.ahead {w w' : World} {g : Nat} (hs : Save g w w') (hg : g < w.heap.size) : ∀ k, k < g → w'.heap[k]? = w.heap[k]? := fun k hk => hs.block k (by omega) (by omega)

/-- Block g is a cursor over drawn bytes. -/
def Drw (w : World) (g : Nat) : Prop :=
  ∃ (v : Value) (n : Nat) (i h : Int), n ≤ 1048576 ∧ 0 ≤ i ∧ i ≤ n ∧ -9223372036854775808 ≤ h ∧ h ≤ 9223372036854775807 ∧
    w.heap[g]? = some (.cells #[v, .int .i64 i, .int .i64 h] 83) ∧ CodeAt w g v n
theorem Drw.keep {w w' : World} {g : Nat} (h : Drw w g) (hs : Below (g + 1) w w') : Drw w' g := by
  obtain ⟨v, n, i, x, h1, h2, h3, h4, h5, h6, h7⟩ := h
  exact ⟨v, n, i, x, h1, h2, h3, h4, h5, (hs.block g (by omega)).trans h6, h7.keep fun k hk => hs.block k (by omega)⟩
theorem Drw.lt {w : World} {g : Nat} (h : Drw w g) : g < w.heap.size := by
  obtain ⟨v, n, i, x, h1, h2, h3, h4, h5, h6, h7⟩ := h
  exact (Array.getElem?_eq_some_iff.1 h6).1
theorem i64_and255 (n : Int) : bits .and .i64 n 255 = n % 256 := by
  have h255 : (BitVec.ofInt 64 255).toNat = 2 ^ 8 - 1 := by decide
  have key : (BitVec.ofInt 64 n &&& BitVec.ofInt 64 255).toNat = (n % ((2 ^ 64 : Nat) : Int)).toNat % 2 ^ 8 := by
    rw [BitVec.toNat_and, BitVec.toNat_ofInt, h255, Nat.and_two_pow_sub_one_eq_mod]
  show IntKind.i64.wrap ((BitVec.ofInt 64 n &&& BitVec.ofInt 64 255).toNat : Nat) = n % 256
  rw [key, IntKind.wrap_i64]
  omega
theorem i64_and30 (n : Int) : bits .and .i64 n 1073741823 = n % 1073741824 := by
  have h255 : (BitVec.ofInt 64 1073741823).toNat = 2 ^ 30 - 1 := by decide
  have key : (BitVec.ofInt 64 n &&& BitVec.ofInt 64 1073741823).toNat = (n % ((2 ^ 64 : Nat) : Int)).toNat % 2 ^ 30 := by
    rw [BitVec.toNat_and, BitVec.toNat_ofInt, h255, Nat.and_two_pow_sub_one_eq_mod]
  show IntKind.i64.wrap ((BitVec.ofInt 64 n &&& BitVec.ofInt 64 1073741823).toNat : Nat) = n % 1073741824
  rw [key, IntKind.wrap_i64]
  omega
theorem wrap64_range (n : Int) : -9223372036854775808 ≤ wrap64 n ∧ wrap64 n ≤ 9223372036854775807 := by unfold wrap64; omega

/-- The cursor with another number in it. -/
theorem turned2 {w : World} {g n : Nat} {v : Value} {i h : Int} {t : TypeId} (hg : w.heap[g]? = some (.cells #[v, .int .i64 i, .int .i64 h] t)) (hc : CodeAt w g v n) (u : Int) :
    ∃ w2, w.setCell ⟨g, 2, none⟩ (.int .i64 u) = w2 ∧ w2.heap[g]? = some (.cells #[v, .int .i64 i, .int .i64 u] t) ∧ CodeAt w2 g v n ∧ Save g w w2 :=
  ⟨_, rfl, cur_set2 hg _, hc.keep (((Save.refl g w).setCell rfl _).ahead (Array.getElem?_eq_some_iff.1 hg).1), (Save.refl g w).setCell rfl _⟩

theorem turned1 {w : World} {g n : Nat} {v : Value} {i h : Int} {t : TypeId} (hg : w.heap[g]? = some (.cells #[v, .int .i64 i, .int .i64 h] t)) (hc : CodeAt w g v n) (u : Int) :
    (w.setCell ⟨g, 1, none⟩ (.int .i64 u)).heap[g]? = some (.cells #[v, .int .i64 u, .int .i64 h] t) ∧ CodeAt (w.setCell ⟨g, 1, none⟩ (.int .i64 u)) g v n ∧ Save g w (w.setCell ⟨g, 1, none⟩ (.int .i64 u)) :=
  ⟨cur_set1 hg _, hc.keep (((Save.refl g w).setCell rfl _).ahead (Array.getElem?_eq_some_iff.1 hg).1), (Save.refl g w).setCell rfl _⟩

set_option maxHeartbeats 1000000 in
theorem byte_end (g : Nat) (v : Value) (n : Nat) (h : Int) (w : World) (hn : n ≤ 1048576)
    (hg : w.heap[g]? = some (.cells #[v, .int .i64 (n : Int), .int .i64 h] 83)) (hc : CodeAt w g v n) :
    Calls Try.prog 47 #[.pointer (some ⟨g, 0, none⟩)] w fun e w' => ∃ x : Int, e = .returned (.int .i64 x) ∧ 0 ≤ x ∧ x < 256 ∧ Drw w' g ∧ Save g w w' := by
  obtain ⟨c0, c1, c2, hf⟩ := cur_cells hg
  have hr := wrap64_range (wrap64 (h * 6364136223846793005) + 1442695040888963407)
  go_enter Try.func47, Try.ntmps47
  go_wp2
  generalize wrap64 (wrap64 (h * 6364136223846793005) + 1442695040888963407) = u at hr ⊢
  obtain ⟨w2, e2, hg2, hc2, hs2⟩ := turned2 hg hc u
  rw [e2]
  clear c0 c1 c2 hf hg hc e2
  obtain ⟨c0, c1, c2, hf⟩ := cur_cells hg2
  have hc3 := hc2
  obtain ⟨a, cap, rfl, hcell⟩ := hc2
  have hy := i64_and255 (bits .xor .i64 (u / 8589934592) (u / 35184372088832))
  have hy1 : 0 ≤ bits .and .i64 (bits .xor .i64 (u / 8589934592) (u / 35184372088832)) 255 ∧ bits .and .i64 (bits .xor .i64 (u / 8589934592) (u / 35184372088832)) 255 < 256 := by omega
  clear hy
  go_quiet (fail)
  generalize bits .and .i64 (bits .xor .i64 (u / 8589934592) (u / 35184372088832)) 255 = y at hy1 ⊢
  go_wp2
  go_quiet (fail)
  go_wp2
  go_ret
  exact ⟨y, rfl, hy1.1, hy1.2, ⟨_, n, n, u, hn, by omega, by omega, hr.1, hr.2, hg2, hc3⟩, (hs2.drewN _).drewN _⟩

set_option maxHeartbeats 1000000 in
theorem byte_more (g : Nat) (v : Value) (n i : Nat) (h : Int) (w : World) (hn : n ≤ 1048576) (hi : i < n)
    (hg : w.heap[g]? = some (.cells #[v, .int .i64 (i : Int), .int .i64 h] 83)) (hc : CodeAt w g v n) :
    Calls Try.prog 47 #[.pointer (some ⟨g, 0, none⟩)] w fun e w' => ∃ x : Int, e = .returned (.int .i64 x) ∧ 0 ≤ x ∧ x < 256 ∧ Drw w' g ∧ Save g w w' := by
  obtain ⟨c0, c1, c2, hf⟩ := cur_cells hg
  have hr := wrap64_range (wrap64 (h * 6364136223846793005) + 1442695040888963407)
  go_enter Try.func47, Try.ntmps47
  go_wp2
  generalize wrap64 (wrap64 (h * 6364136223846793005) + 1442695040888963407) = u at hr ⊢
  obtain ⟨w2, e2, hg2, hc2, hs2⟩ := turned2 hg hc u
  rw [e2]
  clear c0 c1 c2 hf hg hc e2
  obtain ⟨c0, c1, c2, hf⟩ := cur_cells hg2
  have hc3 := hc2
  obtain ⟨a, cap, rfl, hcell⟩ := hc2
  obtain ⟨x, z, rfl, hb, hz0, hz1, hz⟩ := hcell i hi
  clear hcell
  have hy := i64_and255 (bits .xor .i64 (u / 8589934592) (u / 35184372088832))
  have hy1 : 0 ≤ bits .and .i64 (bits .xor .i64 (u / 8589934592) (u / 35184372088832)) 255 ∧ bits .and .i64 (bits .xor .i64 (u / 8589934592) (u / 35184372088832)) 255 < 256 := by omega
  clear hy
  go_quiet (fail)
  generalize bits .and .i64 (bits .xor .i64 (u / 8589934592) (u / 35184372088832)) 255 = y at hy1 ⊢
  go_wp2
  go_quiet (fail)
  go_wp2
  go_quiet (fail)
  go_wp2
  obtain ⟨hg3, hc4, hs3⟩ := turned1 (w := w2.drewN _) hg2 hc3 ((i : Int) + 1)
  go_ret
  exact ⟨_, rfl, by rw [i64_and255]; omega, by rw [i64_and255]; omega, ⟨_, n, (i : Int) + 1, u, hn, by omega, by omega, hr.1, hr.2, hg3, hc4⟩, (hs2.drewN _).trans hs3⟩

/-- One byte more is drawn. -/
theorem byte_any (g : Nat) (w : World) (hd : Drw w g) :
    Calls Try.prog 47 #[.pointer (some ⟨g, 0, none⟩)] w fun e w' => ∃ x : Int, e = .returned (.int .i64 x) ∧ 0 ≤ x ∧ x < 256 ∧ Drw w' g ∧ Save g w w' := by
  obtain ⟨v, n, i, h, hn, hi0, hi1, _, _, hg, hc⟩ := hd
  obtain ⟨k, rfl⟩ := Int.eq_ofNat_of_zero_le hi0
  by_cases hk : k < n
  · exact byte_more g v n k h w hn hk hg hc
  · obtain rfl : k = n := by omega
    exact byte_end g v k h w hn hg hc

theorem byte_from (g : Nat) (w0 w : World) (hd : Drw w g) (hs : Save g w0 w) :
    Calls Try.prog 47 #[.pointer (some ⟨g, 0, none⟩)] w fun e w' => ∃ x : Int, e = .returned (.int .i64 x) ∧ 0 ≤ x ∧ x < 256 ∧ Drw w' g ∧ Save g w0 w' :=
  (byte_any g w hd).mono fun _ _ ⟨x, h1, h2, h3, h4, h5⟩ => ⟨x, h1, h2, h3, h4, hs.trans h5⟩

set_option maxHeartbeats 1000000 in
/-- A number below n is drawn. -/
theorem below_any (g : Nat) (n : Int) (w : World) (hd : Drw w g) (h0 : 0 < n) (h1 : n ≤ 9223372036854775807) :
    Calls Try.prog 48 #[.pointer (some ⟨g, 0, none⟩), .int .i64 n] w fun e w' => ∃ x : Int, e = .returned (.int .i64 x) ∧ 0 ≤ x ∧ x < n ∧ Drw w' g ∧ Save g w w' := by
  by_cases h2 : n ≤ 256
  · go_enter Try.func48, Try.ntmps48
    go_wp2_with (go_at_call 47; refine (byte_any g _ hd).mono ?_; rintro e w1 ⟨x, rfl, hx0, hx1, hd1, hs1⟩)
    go_ret
    exact ⟨x % n, rfl, Int.emod_nonneg _ (by omega), Int.emod_lt_of_pos _ h0, hd1, hs1⟩
  · have hs := Save.refl g w
    go_enter Try.func48, Try.ntmps48
    go_wp2_with (go_at_call 47; refine (byte_from g w _ hd hs).mono ?_; clear hd hs; rintro e w1 ⟨x, rfl, hx0, hx1, hd, hs⟩)
    go_ret
    exact ⟨_, rfl, Int.emod_nonneg _ (by omega), Int.emod_lt_of_pos _ h0, hd, hs⟩
theorem below_from (g : Nat) (n : Int) (w0 w : World) (hd : Drw w g) (hs : Save g w0 w) (h0 : 0 < n) (h1 : n ≤ 9223372036854775807) :
    Calls Try.prog 48 #[.pointer (some ⟨g, 0, none⟩), .int .i64 n] w fun e w' => ∃ x : Int, e = .returned (.int .i64 x) ∧ 0 ≤ x ∧ x < n ∧ Drw w' g ∧ Save g w0 w' :=
  (below_any g n w hd h0 h1).mono fun _ _ ⟨x, h1, h2, h3, h4, h5⟩ => ⟨x, h1, h2, h3, h4, hs.trans h5⟩

theorem Save.below_on {g B : Nat} {w0 w w' : World} (h : Save g w0 w) (hb : Below B w w') (hB : w0.heap.size ≤ B) : Save g w0 w' :=
  ⟨hb.os.trans h.os, hb.tape.trans h.tape, hb.output.trans h.output, Nat.le_trans h.size hb.size, fun k hk hg => (hb.block k (by omega)).trans (h.block k hk hg)⟩

theorem drw_made {w : World} {v : Value} {n : Nat} {x : Int} (hn : n ≤ 1048576) (hc : CodeAt w w.heap.size v n) (h0 : 0 ≤ x) (h1 : x ≤ 2000000000) :
    Drw (w.alloc (.cells #[v, .int .i64 0, .int .i64 x] 83)) w.heap.size :=
  ⟨v, n, 0, x, hn, by omega, by omega, by omega, by omega, (by show (w.heap.push _)[w.heap.size]? = _; rw [Array.getElem?_push, if_pos rfl]), hc.keep fun k hk => Below.heap_alloc _ _ _ hk⟩

set_option maxHeartbeats 1000000 in
set_option maxRecDepth 100000 in
/-- A cursor is made. -/
theorem new_any (v : Value) (n : Nat) (w : World) (hn : n ≤ 1048576) (hc : CodeAt w w.heap.size v n) :
    Calls Try.prog 31 #[v] w fun e w' => ∃ g : Nat, e = .returned (.pointer (some ⟨g, 0, none⟩)) ∧ w.heap.size ≤ g ∧ Drw w' g ∧ Below w.heap.size w w' := by
  have hc0 := hc
  obtain ⟨a, cap, rfl, hcell⟩ := hc
  go_enter Try.func31, Try.ntmps31
  go_wp2
  go_loopw [3, 4] (fun h i wr => ∃ (k : Nat) (x : Int), k ≤ n ∧ i = .int .i64 k ∧ h = .int .i64 x ∧ 0 ≤ x ∧ x ≤ 2000000000 ∧ wr = w) (fun _ i _ => n - (intOf i).toNat)
  case atStart => exact ⟨0, 27701 + n, Nat.zero_le _, rfl, by go_num, by omega, by omega, rfl⟩
  case round =>
    obtain ⟨k, x, hk, rfl, rfl, hx0, hx1, rfl⟩ := hrel
    by_cases hlt : k < n
    · obtain ⟨y, z, rfl, hb, hz0, hz1, hz⟩ := hcell k hlt
      by_cases h4 : k < 4000
      · have HA : Hid (bits .and .i64 (x * 131 + z + 7) 1073741823 = (x * 131 + z + 7) % 1073741824) := i64_and30 (x * 131 + z + 7)
        clear hcell hc0
        go_wp2
        go_roundw
        case rel => exact ⟨k + 1, (x * 131 + z + 7) % 1073741824, by omega, by go_num, by rw [HA.out], by omega, by omega, trivial⟩
        case measure => simp [intOf]; omega
      · clear hcell
        go_wp2
        go_ret
        exact ⟨_, rfl, Nat.le_refl _, drw_made hn hc0 hx0 hx1, (Below.refl _ _).alloc (Nat.le_refl _) _⟩
    · clear hcell
      go_wp2
      go_ret
      exact ⟨_, rfl, Nat.le_refl _, drw_made hn hc0 hx0 hx1, (Below.refl _ _).alloc (Nat.le_refl _) _⟩

/-- A row of integers that the call owns. -/
def ownsI (w : World) (B : Nat) (e : TypeId) (v : Value) (l : List Int) : Prop := w.ownsRow B e 1 v l.length (l.map (Value.int .i64))
theorem ownsI_made (w : World) (B cap : Nat) (e : TypeId) (cur : Array Value) (hb : B ≤ w.heap.size) (hm : cap ≤ maxLen) (hs : cur.size = cap) :
    ownsI (w.alloc (.cells cur e)) B e (.slice (some ⟨w.heap.size, 0, none⟩) 0 cap) [] :=
  World.ownsRow_made w cur cap hb hm (by omega)
theorem ownsI.alloc {w : World} {B : Nat} {e : TypeId} {v : Value} {l : List Int} (h : ownsI w B e v l) (o : Obj) : ownsI (w.alloc o) B e v l := World.ownsRow.alloc h o
theorem ownsI.save {g : Nat} {w w' : World} {B : Nat} {e : TypeId} {v : Value} {l : List Int} (h : ownsI w B e v l) (hs : Save g w w') (hB : g < B) : ownsI w' B e v l := by
  obtain ⟨h1, h2⟩ := h
  refine ⟨h1, ?_⟩
  rcases h2 with h | ⟨r, cap, cur, hv, hb, hg, hr⟩
  · exact .inl h
  · exact .inr ⟨r, cap, cur, hv, hb, by rw [hs.block r (by have := (Array.getElem?_eq_some_iff.1 hg).1; exact this) (by omega)]; exact hg, hr⟩
theorem ownsI.cells {w : World} {B : Nat} {e : TypeId} {v : Value} {l : List Int} (h : ownsI w B e v l) (hl : l ≠ []) :
    ∃ r cap, v = .slice (some ⟨r, 0, none⟩) l.length cap ∧ B ≤ r ∧ r < w.heap.size ∧ ∀ j (hj : j < l.length), w.cell? ⟨r, j, none⟩ = some (.int .i64 l[j]) := by
  obtain ⟨h1, h2⟩ := h
  rcases h2 with ⟨rfl, hn⟩ | ⟨r, cap, cur, rfl, hb, hg, hc1, hc2, hc3, hc4⟩
  · exact absurd (by simpa using hn) hl
  · refine ⟨r, cap, rfl, hb, (Array.getElem?_eq_some_iff.1 hg).1, fun j hj => ?_⟩
    have h5 : (cur.toList.take l.length)[j]? = some (.int .i64 l[j]) := by
      have e1 : l.length * 1 = l.length := Nat.mul_one _
      rw [e1] at hc4
      rw [hc4]; simp [hj]
    rw [List.getElem?_take_of_lt hj] at h5
    simp only [World.cell?, hg]
    simpa using h5

theorem ownsI.mono {w : World} {B B' : Nat} {e : TypeId} {v : Value} {l : List Int} (h : ownsI w B e v l) (hB : B' ≤ B) : ownsI w B' e v l := by
  obtain ⟨h1, h2⟩ := h
  refine ⟨h1, ?_⟩
  rcases h2 with h | ⟨r, cap, cur, hv, hb, hr⟩
  · exact .inl h
  · exact .inr ⟨r, cap, cur, hv, Nat.le_trans hB hb, hr⟩

/-- One integer more behind a row of integers that the call owns. -/
theorem wpList_append_int {P : Program} (w w0 : World) {ops : Array Oper} {rest : List Oper} {o : Oper} {a : Act} {Q : Exit → Act → World → Prop} (hgd : o.guard = none) (s x : Operand) (t : TypeId)
    (ho : o.op = .call { callee := .builtin .append, args := #[s, x], argTypes := #[t, t] })
    (B : Nat) (e : TypeId) (ht : P.underlying t = some (.slice e)) (hi : (P.info? e).map (fun i => (i.zero, i.size, i.bytes)) = some (some (.int .i64 0), 1, 8))
    (v : Value) (l : List Int) (hs : a.eval s = v) (hown : ownsI w B e v l) (hbel : Below B w0 w)
    (ad : Addr) (c : Nat) (n : Int) (hx : a.eval x = .slice (some ad) 1 c) (hc : w.cell? ad = some (.int .i64 n))
    (hlen : l.length < 4398046511104) (hB : B ≤ w.heap.size)
    (h : ∀ v' w', ownsI w' B e v' (l ++ [n]) → Below B w0 w' → wpList P ops Q rest (a.put o.dst v') w') : wpList P ops Q (o :: rest) a w := by
  obtain ⟨i0, hi0, hz0, hz1, hz2⟩ := info_parts hi
  refine wpList_append_own w hgd s x t ho B e i0 (.int .i64 0) 1 8 ht hi0 hz0 hz1 hz2 rfl (by decide) v l.length _ hs hown ad 1 c [.int .i64 n] hx rfl ?_ ?_ (by unfold maxLen; omega) (by omega) hB ?_
  · intro j u hj
    match j, hj with
    | 0, hj => simp at hj; subst hj; simpa [Addr.add] using hc
  · intro u hu; simp at hu; subst hu; rfl
  · intro v' w' h1 h2 _
    refine h v' w' (by simpa [ownsI] using h1) (hbel.grown h2 hB fun k hk => (hown.lt k hk).1)

set_option maxHeartbeats 1000000 in
/-- Twelve numbers below 10000 are drawn. -/
theorem places_any (v : Value) (n : Nat) (w : World) (hn : n ≤ 1048576) (hc : CodeAt w w.heap.size v n) :
    Calls Try.prog 19 #[v] w fun e w' => ∃ (u : Value) (l : List Int), e = .returned u ∧ ownsI w' w.heap.size 3 u l ∧ l.length = 12 ∧ (∀ x ∈ l, 0 ≤ x ∧ x < 10000) ∧ Below w.heap.size w w' := by
  go_enter Try.func19, Try.ntmps19
  go_wp2_with (first | (go_at_call 31; refine (new_any v n _ hn hc).mono ?_; rintro e w1 ⟨g, rfl, hg0, hd1, hb1⟩) | (go_at_call 47; refine (byte_any g _ hd1).mono ?_; rintro e w2 ⟨x, rfl, hx0, hx1, hd2, hs2⟩))
  have hlt := hd2.lt
  have hb2 : Below w.heap.size w w2 := hb1.trans (hs2.below hg0 hb1.size)
  clear hd1 hb1 hs2 hx0 hx1
  go_loopw [4, 5] (fun out i wr => ∃ (k : Nat) (l : List Int), k ≤ 12 ∧ i = .int .i64 k ∧ l.length = k ∧ (∀ x ∈ l, 0 ≤ x ∧ x < 10000) ∧ ownsI wr w2.heap.size 3 out l ∧ Drw wr g ∧ Save g w2 wr) (fun _ i _ => 12 - (intOf i).toNat)
  case atStart => exact ⟨0, [], Nat.zero_le _, rfl, rfl, by simp, ownsI_made _ _ _ _ _ (Nat.le_refl _) (by decide) rfl, hd2.keep ((Below.refl _ _).alloc (by omega) _), (Save.refl g w2).alloc _⟩
  case round =>
    obtain ⟨k, l, hk, rfl, hl, hall, hown, hdr, hs⟩ := hrel
    clear hd2
    have hsz := hs.size
    by_cases hlt2 : k < 12
    · go_wp2_with (first | (go_at_call 48; refine (below_any g 10000 _ hdr (by decide) (by decide)).mono ?_; rintro e w3 ⟨x, rfl, hx0, hx1, hdr1, hs1⟩) | (at_builtin; refine wpList_append_int _ _ rfl (.tmp 15) (.tmp 18) 32 rfl w2.heap.size 3 Try.underlying32 info3 _ l rfl ((hown.save hs1 hlt).alloc _) (Below.refl _ _) ⟨w3.heap.size, 0, none⟩ 1 x rfl ?c1 ?c2 ?c3 ?_))
      case c1 => simp
      case c2 => omega
      case c3 => have := hs1.size; simp; omega
      intro v' w4 hown2 hbel2
      have hs2 : Save g w2 w4 := ((hs.trans hs1).alloc _).below_on hbel2 (Nat.le_refl _)
      have hdr2 : Drw w4 g := (hdr1.keep ((Below.refl _ _).alloc (by have := hs1.size; omega) _)).keep (hbel2.mono (by omega))
      clear hown hdr hs hdr1 hs1 hbel2
      go_wp2
      go_roundw
      case rel => exact ⟨k + 1, l ++ [x], by omega, by go_num, by simp [hl], (by intro y hy; rcases List.mem_append.1 hy with h | h; exact hall y h; simp at h; omega), hown2, hdr2, hs2⟩
      case measure => simp [intOf]; omega
    · have hkn : k = 12 := by omega
      subst hkn
      go_wp2
      go_ret
      exact ⟨_, l, rfl, ownsI.mono hown hb2.size, hl, hall, hb2.trans (hs.below hg0 (Nat.le_trans hb2.size (Nat.le_refl _)))⟩

/-- A row of bytes that came in: nil, or cells that hold numbers of the kind. -/
def IsRow (k : IntKind) (w : World) (a : Option Addr) (len cap : Nat) (zs : List Int) : Prop :=
  (a = none ∧ len = 0 ∧ cap = 0 ∧ zs = []) ∨
  ∃ x, a = some x ∧ len ≤ cap ∧ cap ≤ maxLen ∧ zs.length = cap ∧ (∀ i, i < zs.length → w.cell? (x.add i) = some (.int k (zs.getD i 0))) ∧ ∀ n ∈ zs, (Lit.int k n).wf = true
theorem IsRow.code {w : World} {a : Option Addr} {len cap : Nat} {zs : List Int} (h : IsRow .u8 w a len cap zs) : len ≤ 9223372036854775807 ∧ CodeAt w w.heap.size (.slice a len cap) len := by
  rcases h with ⟨rfl, rfl, rfl, rfl⟩ | ⟨x, rfl, h1, h2, h3, h4, h5⟩
  · exact ⟨by decide, none, 0, rfl, fun j hj => by omega⟩
  · refine ⟨by unfold maxLen at h2; omega, some x, cap, rfl, fun j hj => ?_⟩
    have hj2 : j < zs.length := by omega
    have hc := h4 j hj2
    have hw := h5 (zs.getD j 0) (by rw [List.getD_eq_getElem?_getD, List.getElem?_eq_getElem hj2]; exact List.getElem_mem hj2)
    have hr : 0 ≤ zs.getD j 0 ∧ zs.getD j 0 ≤ 255 := by simpa [Lit.wf, IntKind.min, IntKind.max, IntKind.signed, IntKind.bits] using hw
    refine ⟨x, zs.getD j 0, rfl, ?_, hr.1, by omega, hc⟩
    have := World.block_lt_of_cell? w _ hc
    rw [add_block] at this
    exact this

end Go.Proofs.Ytehkebdncfljmaa
