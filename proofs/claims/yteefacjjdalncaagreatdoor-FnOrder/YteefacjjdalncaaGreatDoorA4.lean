/-
  Rising lists that are full: plain facts. All is as it was but for one block. Over any program. The cursor that inputs are drawn with: what stays as it was, and the walks of its four functions.
-/
import Derived.Test.YteefacjjdalncaaGreatDoorA3
import Derived.WalkKit
import Derived.Below
import Derived.Deep.QuietTactic
import Derived.BigQuiet
import Derived.Test.YteefacjjdalncaaGreatDoorRows
import Derived.Test.YteefacjjdalncaaGreatDoorAid
import Derived.Test.YteefacjjdalncaaGreatDoorInf
import Derived.WalkSpells
import Derived.WalkLawsBesides
import Derived.Handy
import Derived.Laws.BitsAllLaws
import Derived.Deep.RegionWith
import Derived.Deep.RegionHeld
namespace Go.Proofs.YteefacjjdalncaaGreatDoor
open Go Go.RowKit

/-- Two rising lists with the same numbers are one. -/
theorem rise_ext : ∀ (l m : List Int), l.Pairwise (· < ·) → m.Pairwise (· < ·) → (∀ x, x ∈ l ↔ x ∈ m) → l = m
  | [], [], _, _, _ => rfl
  | [], y :: m, _, _, h => absurd ((h y).2 (List.mem_cons_self ..)) List.not_mem_nil
  | x :: l, [], _, _, h => absurd ((h x).1 (List.mem_cons_self ..)) List.not_mem_nil
  | x :: l, y :: m, hl, hm, h => by
    have hl1 := List.pairwise_cons.1 hl
    have hm1 := List.pairwise_cons.1 hm
    have hxy : x = y := by
      rcases List.mem_cons.1 ((h x).1 (List.mem_cons_self ..)) with e | e
      · exact e
      · rcases List.mem_cons.1 ((h y).2 (List.mem_cons_self ..)) with e2 | e2
        · exact e2.symm
        · have := hl1.1 y e2
          have := hm1.1 x e
          omega
    subst hxy
    congr 1
    refine rise_ext l m hl1.2 hm1.2 fun z => ⟨fun hz => ?_, fun hz => ?_⟩
    · rcases List.mem_cons.1 ((h z).1 (List.mem_cons_of_mem _ hz)) with e | e
      · subst e; exact absurd (hl1.1 z hz) (by omega)
      · exact e
    · rcases List.mem_cons.1 ((h z).2 (List.mem_cons_of_mem _ hz)) with e | e
      · subst e; exact absurd (hm1.1 z hz) (by omega)
      · exact e
theorem low_at {lo : Int} : ∀ (l : List Int) (i : Nat) (x : Int), l.Pairwise (· < ·) → (∀ y ∈ l, lo ≤ y) → l[i]? = some x → lo + i ≤ x
  | [], i, x, _, _, h => by simp at h
  | y :: r, 0, x, _, hl, h => by simp at h; subst h; have := hl y (List.mem_cons_self ..); omega
  | y :: r, i + 1, x, hr, hl, h => by
    have hp := List.pairwise_cons.1 hr
    have := low_at (lo := lo + 1) r i x hp.2 (fun z hz => by have := hp.1 z hz; have := hl y (List.mem_cons_self ..); omega) (by simpa using h)
    omega
theorem high_at {hi : Int} : ∀ (l : List Int) (i : Nat) (x : Int), l.Pairwise (· < ·) → (∀ y ∈ l, y ≤ hi) → l[i]? = some x → x + (l.length - 1 - i : Nat) ≤ hi
  | [], i, x, _, _, h => by simp at h
  | y :: r, 0, x, hr, hl, h => by
    simp at h; subst h
    have hp := List.pairwise_cons.1 hr
    cases r with
    | nil => have := hl y (List.mem_cons_self ..); simp; omega
    | cons z r =>
      have h1 := high_at (z :: r) 0 z hp.2 (fun u hu => hl u (List.mem_cons_of_mem _ hu)) rfl
      have h2 := hp.1 z (List.mem_cons_self ..)
      simp only [List.length_cons] at h1 ⊢
      omega
  | y :: r, i + 1, x, hr, hl, h => by
    have hp := List.pairwise_cons.1 hr
    have := high_at r i x hp.2 (fun u hu => hl u (List.mem_cons_of_mem _ hu)) (by simpa using h)
    simp only [List.length_cons]
    omega
/-- A rising list of as many numbers as the field has, has all. -/
theorem full_list {lo hi : Int} {l : List Int} (hl : ∀ x ∈ l, lo ≤ x ∧ x ≤ hi) (hr : l.Pairwise (· < ·)) (hn : (l.length : Int) = hi - lo + 1) {x : Int} (h0 : lo ≤ x) (h1 : x ≤ hi) : x ∈ l := by
  have hi' : (x - lo).toNat < l.length := by omega
  have hg : l[(x - lo).toNat]? = some l[(x - lo).toNat] := List.getElem?_eq_getElem hi'
  have a := low_at l _ _ hr (fun y hy => (hl y hy).1) hg
  have b := high_at l _ _ hr (fun y hy => (hl y hy).2) hg
  have e : l[(x - lo).toNat] = x := by omega
  rw [← e]
  exact List.getElem_mem hi'
theorem list_len {lo hi : Int} {l : List Int} (hB : listB lo hi l = true) : (l.length : Int) ≤ hi - lo + 1 := by
  obtain ⟨hl, hr, hn⟩ := listB_up hB
  have hg : l[0]? = some l[0] := List.getElem?_eq_getElem hn
  have a := high_at l 0 _ hr (fun y hy => (hl y hy).2) hg
  have b := (hl _ (List.getElem_mem hn)).1
  omega
theorem rise_of {lo hi : Int} : ∀ (l : List Int) (p : Option Int), l.Pairwise (· < ·) → (∀ x ∈ l, lo ≤ x ∧ x ≤ hi) → (∀ y, p = some y → ∀ x ∈ l, y < x) → riseB lo hi p l = true
  | [], _, _, _, _ => rfl
  | x :: r, p, hr, hl, hp => by
    have h1 := List.pairwise_cons.1 hr
    have hx := hl x (List.mem_cons_self ..)
    unfold riseB
    rw [rise_of r (some x) h1.2 (fun y hy => hl y (List.mem_cons_of_mem _ hy)) (fun y hy z hz => by cases hy; exact h1.1 z hz), decide_eq_true hx.1, decide_eq_true hx.2]
    cases p with
    | none => rfl
    | some y => simp [hp y rfl x (List.mem_cons_self ..)]
end Go.Proofs.YteefacjjdalncaaGreatDoor

namespace Go.Proofs.YteefacjjdalncaaGreatDoor
open Go Go.RowKit

/-- But for block g all that was there is as it was. -/
structure Save (g : Nat) (w w' : World) : Prop where
  os : w'.os = w.os
  tape : w'.tape = w.tape
  output : w'.output = w.output
  size : w.heap.size ≤ w'.heap.size
  block : ∀ k, k < w.heap.size → k ≠ g → w'.heap[k]? = w.heap[k]?
theorem Save.refl (g : Nat) (w : World) : Save g w w := ⟨rfl, rfl, rfl, Nat.le_refl _, fun _ _ _ => rfl⟩
theorem Save.trans {g : Nat} {a b c : World} (h : Save g a b) (k : Save g b c) : Save g a c :=
  ⟨k.os.trans h.os, k.tape.trans h.tape, k.output.trans h.output, Nat.le_trans h.size k.size, fun i hi hg => (k.block i (Nat.lt_of_lt_of_le hi h.size) hg).trans (h.block i hi hg)⟩
theorem Save.drew {g : Nat} {a w : World} (h : Save g a w) : Save g a w.drew := ⟨h.os, h.tape, h.output, h.size, h.block⟩
theorem Save.drewN {g : Nat} {a w : World} (h : Save g a w) (n : Nat) : Save g a (w.drewN n) := ⟨h.os, h.tape, h.output, h.size, h.block⟩
theorem Save.setCell {g : Nat} {a w : World} (h : Save g a w) {p : Addr} (hp : p.block = g) (u : Value) : Save g a (w.setCell p u) :=
  h.trans ⟨rfl, rfl, rfl, by simp [World.setCell], fun k _ hg => Below.heap_setCell _ _ _ _ (by omega)⟩
theorem Save.alloc {g : Nat} {a w : World} (h : Save g a w) (o : Obj) : Save g a (w.alloc o) :=
  h.trans ⟨rfl, rfl, rfl, by simp, fun k hk _ => Below.heap_alloc _ _ _ hk⟩
theorem Save.of_below {g : Nat} {w w' : World} (h : Below w.heap.size w w') : Save g w w' := ⟨h.os, h.tape, h.output, h.size, fun k hk _ => h.block k hk⟩
theorem Save.below {g B : Nat} {w w' : World} (h : Save g w w') (h1 : B ≤ g) (h2 : B ≤ w.heap.size) : Below B w w' :=
  ⟨h.os, h.tape, h.output, h.size, fun k hk => h.block k (by omega) (by omega)⟩
theorem cell_block {w w' : World} {a : Addr} (h : w'.heap[a.block]? = w.heap[a.block]?) : w'.cell? a = w.cell? a := by
  unfold World.cell?
  rw [h]
theorem Save.cell {g : Nat} {w w' : World} {p : Addr} {v : Value} (h : Save g w w') (hp : p.block ≠ g) (hc : w.cell? p = some v) : w'.cell? p = some v :=
  (cell_block (h.block _ (World.block_lt_of_cell? w p hc) hp)).trans hc
theorem Save.frozen {g : Nat} {w w' : World} {p : Addr} {b : Bool} (h : Save g w w') (hp : p.block ≠ g) (hl : p.block < w.heap.size) (hc : w.frozen? p = b) : w'.frozen? p = b := by
  unfold World.frozen? at *
  rw [h.block _ hl hp]
  exact hc
theorem cur_cells {w : World} {g : Nat} {a b c : Value} {t : TypeId} (h : w.heap[g]? = some (.cells #[a, b, c] t)) :
    w.cell? ⟨g, 0, none⟩ = some a ∧ w.cell? ⟨g, 1, none⟩ = some b ∧ w.cell? ⟨g, 2, none⟩ = some c ∧ (∀ o, w.frozen? ⟨g, o, none⟩ = false) := by
  refine ⟨?_, ?_, ?_, ?_⟩
  · simp [World.cell?, h]
  · simp [World.cell?, h]
  · simp [World.cell?, h]
  · intro o; simp [World.frozen?, h]
theorem cur_set0 {w : World} {g : Nat} {a b c : Value} {t : TypeId} (h : w.heap[g]? = some (.cells #[a, b, c] t)) (u : Value) :
    (w.setCell ⟨g, 0, none⟩ u).heap[g]? = some (.cells #[u, b, c] t) := by
  simp [World.setCell, Array.getElem?_modify, h]
theorem cur_set2 {w : World} {g : Nat} {a b c : Value} {t : TypeId} (h : w.heap[g]? = some (.cells #[a, b, c] t)) (u : Value) :
    (w.setCell ⟨g, 2, none⟩ u).heap[g]? = some (.cells #[a, b, u] t) := by
  simp [World.setCell, Array.getElem?_modify, h]
theorem cur_set1 {w : World} {g : Nat} {a b c : Value} {t : TypeId} (h : w.heap[g]? = some (.cells #[a, b, c] t)) (u : Value) :
    (w.setCell ⟨g, 1, none⟩ u).heap[g]? = some (.cells #[a, u, c] t) := by
  simp [World.setCell, Array.getElem?_modify, h]
end Go.Proofs.YteefacjjdalncaaGreatDoor

namespace Go.Proofs.YteefacjjdalncaaGreatDoor
open Go.RowKit

theorem ownsB.save {g : Nat} {w w' : World} {B : Nat} {e : TypeId} {v : Value} {l : List Int} (h : ownsB w B e v l) (hs : Save g w w') (hB : g < B) : ownsB w' B e v l := by
  obtain ⟨h1, h2⟩ := h
  refine ⟨h1, ?_⟩
  rcases h2 with h | ⟨r, cap, cur, hv, hb, hg, hr⟩
  · exact .inl h
  · exact .inr ⟨r, cap, cur, hv, hb, by rw [hs.block r (by have := (Array.getElem?_eq_some_iff.1 hg).1; exact this) (by omega)]; exact hg, hr⟩

/-- The drawn bytes: n of them, all ahead of block g. -/
def CodeAt (w : World) (g : Nat) (v : Value) (n : Nat) : Prop :=
  ∃ (a : Option Addr) (cap : Nat), v = .slice a n cap ∧ ∀ j, j < n → ∃ (x : Addr) (z : Int), a = some x ∧ x.block < g ∧ 0 ≤ z ∧ z < 256 ∧ w.cell? (x.add j) = some (.int .u8 z)
theorem add_block (x : Addr) (j : Nat) : (x.add j).block = x.block := by
  unfold Addr.add; split <;> rfl
theorem CodeAt.keep {w w' : World} {g : Nat} {v : Value} {n : Nat} (h : CodeAt w g v n) (hs : ∀ k, k < g → w'.heap[k]? = w.heap[k]?) : CodeAt w' g v n := by
  obtain ⟨a, cap, hv, hc⟩ := h
  refine ⟨a, cap, hv, fun j hj => ?_⟩
  obtain ⟨x, z, ha, hb, h0, h1, hz⟩ := hc j hj
  refine ⟨x, z, ha, hb, h0, h1, ?_⟩
  rw [cell_block (w := w)]
  · exact hz
  · rw [add_block]
    exact hs _ hb
theorem Save.ahead {w w' : World} {g : Nat} (hs : Save g w w') (hg : g < w.heap.size) : ∀ k, k < g → w'.heap[k]? = w.heap[k]? := fun k hk => hs.block k (by omega) (by omega)

/-- Block g is a cursor over drawn bytes. -/
def Drw (w : World) (g : Nat) : Prop :=
  ∃ (v : Value) (n : Nat) (i h : Int), n ≤ 1048576 ∧ 0 ≤ i ∧ i ≤ n ∧ -9223372036854775808 ≤ h ∧ h ≤ 9223372036854775807 ∧
    w.heap[g]? = some (.cells #[v, .int .i64 i, .int .i64 h] 103) ∧ CodeAt w g v n
theorem Drw.keep {w w' : World} {g : Nat} (h : Drw w g) (hs : Below (g + 1) w w') : Drw w' g := by
  obtain ⟨v, n, i, x, h1, h2, h3, h4, h5, h6, h7⟩ := h
  exact ⟨v, n, i, x, h1, h2, h3, h4, h5, (hs.block g (by omega)).trans h6, h7.keep fun k hk => hs.block k (by omega)⟩
theorem Drw.lt {w : World} {g : Nat} (h : Drw w g) : g < w.heap.size := by
  obtain ⟨v, n, i, x, h1, h2, h3, h4, h5, h6, h7⟩ := h
  exact (Array.getElem?_eq_some_iff.1 h6).1
theorem i64_and255 (n : Int) : bits .and .i64 n 255 = n % 256 := by
  have h255 : (BitVec.ofInt 64 255).toNat = 2 ^ 8 - 1 := by decide
  have key : (BitVec.ofInt 64 n &&& BitVec.ofInt 64 255).toNat = (n % ((2 ^ 64 : Nat) : Int)).toNat % 2 ^ 8 := by
    rw [BitVec.toNat_and, BitVec.toNat_ofInt, h255, Nat.and_two_pow_sub_one_eq_mod]
  show IntKind.i64.wrap ((BitVec.ofInt 64 n &&& BitVec.ofInt 64 255).toNat : Nat) = n % 256
  rw [key, IntKind.wrap_i64]
  omega
theorem i64_and30 (n : Int) : bits .and .i64 n 1073741823 = n % 1073741824 := by
  have h255 : (BitVec.ofInt 64 1073741823).toNat = 2 ^ 30 - 1 := by decide
  have key : (BitVec.ofInt 64 n &&& BitVec.ofInt 64 1073741823).toNat = (n % ((2 ^ 64 : Nat) : Int)).toNat % 2 ^ 30 := by
    rw [BitVec.toNat_and, BitVec.toNat_ofInt, h255, Nat.and_two_pow_sub_one_eq_mod]
  show IntKind.i64.wrap ((BitVec.ofInt 64 n &&& BitVec.ofInt 64 1073741823).toNat : Nat) = n % 1073741824
  rw [key, IntKind.wrap_i64]
  omega
theorem wrap64_range (n : Int) : -9223372036854775808 ≤ wrap64 n ∧ wrap64 n ≤ 9223372036854775807 := by unfold wrap64; omega

/-- The cursor with another number in it. -/
theorem turned2 {w : World} {g n : Nat} {v : Value} {i h : Int} {t : TypeId} (hg : w.heap[g]? = some (.cells #[v, .int .i64 i, .int .i64 h] t)) (hc : CodeAt w g v n) (u : Int) :
    ∃ w2, w.setCell ⟨g, 2, none⟩ (.int .i64 u) = w2 ∧ w2.heap[g]? = some (.cells #[v, .int .i64 i, .int .i64 u] t) ∧ CodeAt w2 g v n ∧ Save g w w2 :=
  ⟨_, rfl, cur_set2 hg _, hc.keep (((Save.refl g w).setCell rfl _).ahead (Array.getElem?_eq_some_iff.1 hg).1), (Save.refl g w).setCell rfl _⟩

theorem turned1 {w : World} {g n : Nat} {v : Value} {i h : Int} {t : TypeId} (hg : w.heap[g]? = some (.cells #[v, .int .i64 i, .int .i64 h] t)) (hc : CodeAt w g v n) (u : Int) :
    (w.setCell ⟨g, 1, none⟩ (.int .i64 u)).heap[g]? = some (.cells #[v, .int .i64 u, .int .i64 h] t) ∧ CodeAt (w.setCell ⟨g, 1, none⟩ (.int .i64 u)) g v n ∧ Save g w (w.setCell ⟨g, 1, none⟩ (.int .i64 u)) :=
  ⟨cur_set1 hg _, hc.keep (((Save.refl g w).setCell rfl _).ahead (Array.getElem?_eq_some_iff.1 hg).1), (Save.refl g w).setCell rfl _⟩

set_option maxHeartbeats 1000000 in
theorem byte_end (g : Nat) (v : Value) (n : Nat) (h : Int) (w : World) (hn : n ≤ 1048576)
    (hg : w.heap[g]? = some (.cells #[v, .int .i64 (n : Int), .int .i64 h] 103)) (hc : CodeAt w g v n) :
    Calls Tryz.prog 133 #[.pointer (some ⟨g, 0, none⟩)] w fun e w' => ∃ x : Int, e = .returned (.int .i64 x) ∧ 0 ≤ x ∧ x < 256 ∧ Drw w' g ∧ Save g w w' := by
  obtain ⟨c0, c1, c2, hf⟩ := cur_cells hg
  have hr := wrap64_range (wrap64 (h * 6364136223846793005) + 1442695040888963407)
  go_enter Tryz.func133, Tryz.ntmps133
  go_wp2
  generalize wrap64 (wrap64 (h * 6364136223846793005) + 1442695040888963407) = u at hr ⊢
  obtain ⟨w2, e2, hg2, hc2, hs2⟩ := turned2 hg hc u
  rw [e2]
  clear c0 c1 c2 hf hg hc e2
  obtain ⟨c0, c1, c2, hf⟩ := cur_cells hg2
  have hc3 := hc2
  obtain ⟨a, cap, rfl, hcell⟩ := hc2
  have hy := i64_and255 (bits .xor .i64 (u / 8589934592) (u / 35184372088832))
  have hy1 : 0 ≤ bits .and .i64 (bits .xor .i64 (u / 8589934592) (u / 35184372088832)) 255 ∧ bits .and .i64 (bits .xor .i64 (u / 8589934592) (u / 35184372088832)) 255 < 256 := by omega
  clear hy
  go_quiet (fail)
  generalize bits .and .i64 (bits .xor .i64 (u / 8589934592) (u / 35184372088832)) 255 = y at hy1 ⊢
  go_wp2
  go_quiet (fail)
  go_wp2
  go_ret
  exact ⟨y, rfl, hy1.1, hy1.2, ⟨_, n, n, u, hn, by omega, by omega, hr.1, hr.2, hg2, hc3⟩, (hs2.drewN _).drewN _⟩

set_option maxHeartbeats 1000000 in
theorem byte_more (g : Nat) (v : Value) (n i : Nat) (h : Int) (w : World) (hn : n ≤ 1048576) (hi : i < n)
    (hg : w.heap[g]? = some (.cells #[v, .int .i64 (i : Int), .int .i64 h] 103)) (hc : CodeAt w g v n) :
    Calls Tryz.prog 133 #[.pointer (some ⟨g, 0, none⟩)] w fun e w' => ∃ x : Int, e = .returned (.int .i64 x) ∧ 0 ≤ x ∧ x < 256 ∧ Drw w' g ∧ Save g w w' := by
  obtain ⟨c0, c1, c2, hf⟩ := cur_cells hg
  have hr := wrap64_range (wrap64 (h * 6364136223846793005) + 1442695040888963407)
  go_enter Tryz.func133, Tryz.ntmps133
  go_wp2
  generalize wrap64 (wrap64 (h * 6364136223846793005) + 1442695040888963407) = u at hr ⊢
  obtain ⟨w2, e2, hg2, hc2, hs2⟩ := turned2 hg hc u
  rw [e2]
  clear c0 c1 c2 hf hg hc e2
  obtain ⟨c0, c1, c2, hf⟩ := cur_cells hg2
  have hc3 := hc2
  obtain ⟨a, cap, rfl, hcell⟩ := hc2
  obtain ⟨x, z, rfl, hb, hz0, hz1, hz⟩ := hcell i hi
  clear hcell
  have hy := i64_and255 (bits .xor .i64 (u / 8589934592) (u / 35184372088832))
  have hy1 : 0 ≤ bits .and .i64 (bits .xor .i64 (u / 8589934592) (u / 35184372088832)) 255 ∧ bits .and .i64 (bits .xor .i64 (u / 8589934592) (u / 35184372088832)) 255 < 256 := by omega
  clear hy
  go_quiet (fail)
  generalize bits .and .i64 (bits .xor .i64 (u / 8589934592) (u / 35184372088832)) 255 = y at hy1 ⊢
  go_wp2
  go_quiet (fail)
  go_wp2
  go_quiet (fail)
  go_wp2
  obtain ⟨hg3, hc4, hs3⟩ := turned1 (w := w2.drewN _) hg2 hc3 ((i : Int) + 1)
  go_ret
  exact ⟨_, rfl, by rw [i64_and255]; omega, by rw [i64_and255]; omega, ⟨_, n, (i : Int) + 1, u, hn, by omega, by omega, hr.1, hr.2, hg3, hc4⟩, (hs2.drewN _).trans hs3⟩

/-- One byte more is drawn. -/
theorem byte_any (g : Nat) (w : World) (hd : Drw w g) :
    Calls Tryz.prog 133 #[.pointer (some ⟨g, 0, none⟩)] w fun e w' => ∃ x : Int, e = .returned (.int .i64 x) ∧ 0 ≤ x ∧ x < 256 ∧ Drw w' g ∧ Save g w w' := by
  obtain ⟨v, n, i, h, hn, hi0, hi1, _, _, hg, hc⟩ := hd
  obtain ⟨k, rfl⟩ := Int.eq_ofNat_of_zero_le hi0
  by_cases hk : k < n
  · exact byte_more g v n k h w hn hk hg hc
  · obtain rfl : k = n := by omega
    exact byte_end g v k h w hn hg hc

theorem byte_from (g : Nat) (w0 w : World) (hd : Drw w g) (hs : Save g w0 w) :
    Calls Tryz.prog 133 #[.pointer (some ⟨g, 0, none⟩)] w fun e w' => ∃ x : Int, e = .returned (.int .i64 x) ∧ 0 ≤ x ∧ x < 256 ∧ Drw w' g ∧ Save g w0 w' :=
  (byte_any g w hd).mono fun _ _ ⟨x, h1, h2, h3, h4, h5⟩ => ⟨x, h1, h2, h3, h4, hs.trans h5⟩

set_option maxHeartbeats 1000000 in
/-- A number below n is drawn. -/
theorem below_any (g : Nat) (n : Int) (w : World) (hd : Drw w g) (h0 : 0 < n) (h1 : n ≤ 9223372036854775807) :
    Calls Tryz.prog 87 #[.pointer (some ⟨g, 0, none⟩), .int .i64 n] w fun e w' => ∃ x : Int, e = .returned (.int .i64 x) ∧ 0 ≤ x ∧ x < n ∧ Drw w' g ∧ Save g w w' := by
  by_cases h2 : n ≤ 256
  · go_enter Tryz.func87, Tryz.ntmps87
    go_wp2_with (go_at_call 133; refine (byte_any g _ hd).mono ?_; rintro e w1 ⟨x, rfl, hx0, hx1, hd1, hs1⟩)
    go_ret
    exact ⟨x % n, rfl, Int.emod_nonneg _ (by omega), Int.emod_lt_of_pos _ h0, hd1, hs1⟩
  · have hs := Save.refl g w
    go_enter Tryz.func87, Tryz.ntmps87
    go_wp2_with (go_at_call 133; refine (byte_from g w _ hd hs).mono ?_; clear hd hs; rintro e w1 ⟨x, rfl, hx0, hx1, hd, hs⟩)
    go_ret
    exact ⟨_, rfl, Int.emod_nonneg _ (by omega), Int.emod_lt_of_pos _ h0, hd, hs⟩
theorem below_from (g : Nat) (n : Int) (w0 w : World) (hd : Drw w g) (hs : Save g w0 w) (h0 : 0 < n) (h1 : n ≤ 9223372036854775807) :
    Calls Tryz.prog 87 #[.pointer (some ⟨g, 0, none⟩), .int .i64 n] w fun e w' => ∃ x : Int, e = .returned (.int .i64 x) ∧ 0 ≤ x ∧ x < n ∧ Drw w' g ∧ Save g w0 w' :=
  (below_any g n w hd h0 h1).mono fun _ _ ⟨x, h1, h2, h3, h4, h5⟩ => ⟨x, h1, h2, h3, h4, hs.trans h5⟩

theorem Save.below_on {g B : Nat} {w0 w w' : World} (h : Save g w0 w) (hb : Below B w w') (hB : w0.heap.size ≤ B) : Save g w0 w' :=
  ⟨hb.os.trans h.os, hb.tape.trans h.tape, hb.output.trans h.output, Nat.le_trans h.size hb.size, fun k hk hg => (hb.block k (by omega)).trans (h.block k hk hg)⟩

theorem drw_made {w : World} {v : Value} {n : Nat} {x : Int} (hn : n ≤ 1048576) (hc : CodeAt w w.heap.size v n) (h0 : 0 ≤ x) (h1 : x ≤ 2000000000) :
    Drw (w.alloc (.cells #[v, .int .i64 0, .int .i64 x] 103)) w.heap.size :=
  ⟨v, n, 0, x, hn, by omega, by omega, by omega, by omega, (by show (w.heap.push _)[w.heap.size]? = _; rw [Array.getElem?_push, if_pos rfl]), hc.keep fun k hk => Below.heap_alloc _ _ _ hk⟩

set_option maxHeartbeats 1000000 in
set_option maxRecDepth 100000 in
/-- A cursor is made. -/
theorem new_any (v : Value) (n : Nat) (w : World) (hn : n ≤ 1048576) (hc : CodeAt w w.heap.size v n) :
    Calls Tryz.prog 47 #[v] w fun e w' => ∃ g : Nat, e = .returned (.pointer (some ⟨g, 0, none⟩)) ∧ w.heap.size ≤ g ∧ Drw w' g ∧ Below w.heap.size w w' := by
  have hc0 := hc
  obtain ⟨a, cap, rfl, hcell⟩ := hc
  go_enter Tryz.func47, Tryz.ntmps47
  go_wp2
  go_loopw [3, 4] (fun h i wr => ∃ (k : Nat) (x : Int), k ≤ n ∧ i = .int .i64 k ∧ h = .int .i64 x ∧ 0 ≤ x ∧ x ≤ 2000000000 ∧ wr = w) (fun _ i _ => n - (intOf i).toNat)
  case atStart => exact ⟨0, 27701 + n, Nat.zero_le _, rfl, by go_num, by omega, by omega, rfl⟩
  case round =>
    obtain ⟨k, x, hk, rfl, rfl, hx0, hx1, rfl⟩ := hrel
    by_cases hlt : k < n
    · obtain ⟨y, z, rfl, hb, hz0, hz1, hz⟩ := hcell k hlt
      by_cases h4 : k < 4000
      · have HA : Hid (bits .and .i64 (x * 131 + z + 7) 1073741823 = (x * 131 + z + 7) % 1073741824) := i64_and30 (x * 131 + z + 7)
        clear hcell hc0
        go_wp2
        go_roundw
        case rel => exact ⟨k + 1, (x * 131 + z + 7) % 1073741824, by omega, by go_num, by rw [HA.out], by omega, by omega, trivial⟩
        case measure => simp [intOf]; omega
      · clear hcell
        go_wp2
        go_ret
        exact ⟨_, rfl, Nat.le_refl _, drw_made hn hc0 hx0 hx1, (Below.refl _ _).alloc (Nat.le_refl _) _⟩
    · clear hcell
      go_wp2
      go_ret
      exact ⟨_, rfl, Nat.le_refl _, drw_made hn hc0 hx0 hx1, (Below.refl _ _).alloc (Nat.le_refl _) _⟩

/-- A row of integers that the call owns. -/
def ownsI (w : World) (B : Nat) (e : TypeId) (v : Value) (l : List Int) : Prop := w.ownsRow B e 1 v l.length (l.map (Value.int .i64))
theorem ownsI_made (w : World) (B cap : Nat) (e : TypeId) (cur : Array Value) (hb : B ≤ w.heap.size) (hm : cap ≤ maxLen) (hs : cur.size = cap) :
    ownsI (w.alloc (.cells cur e)) B e (.slice (some ⟨w.heap.size, 0, none⟩) 0 cap) [] :=
  World.ownsRow_made w cur cap hb hm (by omega)
theorem ownsI.alloc {w : World} {B : Nat} {e : TypeId} {v : Value} {l : List Int} (h : ownsI w B e v l) (o : Obj) : ownsI (w.alloc o) B e v l := World.ownsRow.alloc h o
theorem ownsI.save {g : Nat} {w w' : World} {B : Nat} {e : TypeId} {v : Value} {l : List Int} (h : ownsI w B e v l) (hs : Save g w w') (hB : g < B) : ownsI w' B e v l := by
  obtain ⟨h1, h2⟩ := h
  refine ⟨h1, ?_⟩
  rcases h2 with h | ⟨r, cap, cur, hv, hb, hg, hr⟩
  · exact .inl h
  · exact .inr ⟨r, cap, cur, hv, hb, by rw [hs.block r (by have := (Array.getElem?_eq_some_iff.1 hg).1; exact this) (by omega)]; exact hg, hr⟩
theorem ownsI.cells {w : World} {B : Nat} {e : TypeId} {v : Value} {l : List Int} (h : ownsI w B e v l) (hl : l ≠ []) :
    ∃ r cap, v = .slice (some ⟨r, 0, none⟩) l.length cap ∧ B ≤ r ∧ r < w.heap.size ∧ ∀ j (hj : j < l.length), w.cell? ⟨r, j, none⟩ = some (.int .i64 l[j]) := by
  obtain ⟨h1, h2⟩ := h
  rcases h2 with ⟨rfl, hn⟩ | ⟨r, cap, cur, rfl, hb, hg, hc1, hc2, hc3, hc4⟩
  · exact absurd (by simpa using hn) hl
  · refine ⟨r, cap, rfl, hb, (Array.getElem?_eq_some_iff.1 hg).1, fun j hj => ?_⟩
    have h5 : (cur.toList.take l.length)[j]? = some (.int .i64 l[j]) := by
      have e1 : l.length * 1 = l.length := Nat.mul_one _
      rw [e1] at hc4
      rw [hc4]; simp [hj]
    rw [List.getElem?_take_of_lt hj] at h5
    simp only [World.cell?, hg]
    simpa using h5

theorem ownsI.mono {w : World} {B B' : Nat} {e : TypeId} {v : Value} {l : List Int} (h : ownsI w B e v l) (hB : B' ≤ B) : ownsI w B' e v l := by
  obtain ⟨h1, h2⟩ := h
  refine ⟨h1, ?_⟩
  rcases h2 with h | ⟨r, cap, cur, hv, hb, hr⟩
  · exact .inl h
  · exact .inr ⟨r, cap, cur, hv, Nat.le_trans hB hb, hr⟩

/-- One integer more behind a row of integers that the call owns. -/
theorem wpList_append_int {P : Program} (w w0 : World) {ops : Array Oper} {rest : List Oper} {o : Oper} {a : Act} {Q : Exit → Act → World → Prop} (hgd : o.guard = none) (s x : Operand) (t : TypeId)
    (ho : o.op = .call { callee := .builtin .append, args := #[s, x], argTypes := #[t, t] })
    (B : Nat) (e : TypeId) (ht : P.underlying t = some (.slice e)) (hi : (P.info? e).map (fun i => (i.zero, i.size, i.bytes)) = some (some (.int .i64 0), 1, 8))
    (v : Value) (l : List Int) (hs : a.eval s = v) (hown : ownsI w B e v l) (hbel : Below B w0 w)
    (ad : Addr) (c : Nat) (n : Int) (hx : a.eval x = .slice (some ad) 1 c) (hc : w.cell? ad = some (.int .i64 n))
    (hlen : l.length < 4398046511104) (hB : B ≤ w.heap.size)
    (h : ∀ v' w', ownsI w' B e v' (l ++ [n]) → Below B w0 w' → wpList P ops Q rest (a.put o.dst v') w') : wpList P ops Q (o :: rest) a w := by
  obtain ⟨i0, hi0, hz0, hz1, hz2⟩ := info_parts hi
  refine wpList_append_own w hgd s x t ho B e i0 (.int .i64 0) 1 8 ht hi0 hz0 hz1 hz2 rfl (by decide) v l.length _ hs hown ad 1 c [.int .i64 n] hx rfl ?_ ?_ (by unfold maxLen; omega) (by omega) hB ?_
  · intro j u hj
    match j, hj with
    | 0, hj => simp at hj; subst hj; simpa [Addr.add] using hc
  · intro u hu; simp at hu; subst hu; rfl
  · intro v' w' h1 h2 _
    refine h v' w' (by simpa [ownsI] using h1) (hbel.grown h2 hB fun k hk => (hown.lt k hk).1)

/-- A row of bytes that came in: nil, or cells that hold numbers of the kind. -/
def IsRow (k : IntKind) (w : World) (a : Option Addr) (len cap : Nat) (zs : List Int) : Prop :=
  (a = none ∧ len = 0 ∧ cap = 0 ∧ zs = []) ∨
  ∃ x, a = some x ∧ len ≤ cap ∧ cap ≤ maxLen ∧ zs.length = cap ∧ (∀ i, i < zs.length → w.cell? (x.add i) = some (.int k (zs.getD i 0))) ∧ ∀ n ∈ zs, (Lit.int k n).wf = true
theorem IsRow.code {w : World} {a : Option Addr} {len cap : Nat} {zs : List Int} (h : IsRow .u8 w a len cap zs) : len ≤ 9223372036854775807 ∧ CodeAt w w.heap.size (.slice a len cap) len := by
  rcases h with ⟨rfl, rfl, rfl, rfl⟩ | ⟨x, rfl, h1, h2, h3, h4, h5⟩
  · exact ⟨by decide, none, 0, rfl, fun j hj => by omega⟩
  · refine ⟨by unfold maxLen at h2; omega, some x, cap, rfl, fun j hj => ?_⟩
    have hj2 : j < zs.length := by omega
    have hc := h4 j hj2
    have hw := h5 (zs.getD j 0) (by rw [List.getD_eq_getElem?_getD, List.getElem?_eq_getElem hj2]; exact List.getElem_mem hj2)
    have hr : 0 ≤ zs.getD j 0 ∧ zs.getD j 0 ≤ 255 := by simpa [Lit.wf, IntKind.min, IntKind.max, IntKind.signed, IntKind.bits] using hw
    refine ⟨x, zs.getD j 0, rfl, ?_, hr.1, by omega, hc⟩
    have := World.block_lt_of_cell? w _ hc
    rw [add_block] at this
    exact this

end Go.Proofs.YteefacjjdalncaaGreatDoor
