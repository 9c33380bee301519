/-
  All is as it was but for one block. Over any program. The cursor that a text is read with: the walks of its two functions. What is read with the cursor: small facts on it, and on blocks. The text of an entry that is none, as the specification tells it: the walks. Blocks that lie behind an alloc. The text of an entry, as the specification tells it: the walks. An entry read from its text: what is read; and as the specification reads it: the walk.
-/
import Derived.WalkKit
import Derived.Below
import Derived.Deep.QuietTactic
import Derived.BigQuiet
import Derived.Test.YtgpojfkdcdgloaaGreatDoorWd
import Derived.Test.YtgpojfkdcdgloaaGreatDoorGn
import Derived.Test.YtgpojfkdcdgloaaGreatDoorRvs
import Derived.Test.YtgpojfkdcdgloaaGreatDoorG4
import Derived.Test.YtgpojfkdcdgloaaGreatDoorRec
import Derived.Handy
import Derived.BigRegion
import Derived.Deep.RegionHeld
import Derived.Deep.RegionHeld3
namespace Go.Proofs.YtgpojfkdcdgloaaGreatDoor
open Go Go.RowKit

/-- But for block g all that was there is as it was. -/
structure Save (g : Nat) (w w' : World) : Prop where
  os : w'.os = w.os
  tape : w'.tape = w.tape
  output : w'.output = w.output
  size : w.heap.size ≤ w'.heap.size
  block : ∀ k, k < w.heap.size → k ≠ g → w'.heap[k]? = w.heap[k]?
theorem Save.refl (g : Nat) (w : World) : Save g w w := ⟨rfl, rfl, rfl, Nat.le_refl _, fun _ _ _ => rfl⟩
theorem Save.trans {g : Nat} {a b c : World} (h : Save g a b) (k : Save g b c) : Save g a c :=
  ⟨k.os.trans h.os, k.tape.trans h.tape, k.output.trans h.output, Nat.le_trans h.size k.size, fun i hi hg => (k.block i (Nat.lt_of_lt_of_le hi h.size) hg).trans (h.block i hi hg)⟩
theorem Save.drew {g : Nat} {a w : World} (h : Save g a w) : Save g a w.drew := ⟨h.os, h.tape, h.output, h.size, h.block⟩
theorem Save.drewN {g : Nat} {a w : World} (h : Save g a w) (n : Nat) : Save g a (w.drewN n) := ⟨h.os, h.tape, h.output, h.size, h.block⟩
theorem Save.setCell {g : Nat} {a w : World} (h : Save g a w) {p : Addr} (hp : p.block = g) (u : Value) : Save g a (w.setCell p u) :=
  h.trans ⟨rfl, rfl, rfl, by simp [World.setCell], fun k _ hg => Below.heap_setCell _ _ _ _ (by omega)⟩
theorem Save.alloc {g : Nat} {a w : World} (h : Save g a w) (o : Obj) : Save g a (w.alloc o) :=
  h.trans ⟨rfl, rfl, rfl, by simp, fun k hk _ => Below.heap_alloc _ _ _ hk⟩
theorem Save.of_below {g : Nat} {w w' : World} (h : Below w.heap.size w w') : Save g w w' := ⟨h.os, h.tape, h.output, h.size, fun k hk _ => h.block k hk⟩
theorem Save.below {g B : Nat} {w w' : World} (h : Save g w w') (h1 : B ≤ g) (h2 : B ≤ w.heap.size) : Below B w w' :=
  ⟨h.os, h.tape, h.output, h.size, fun k hk => h.block k (by omega) (by omega)⟩
theorem cell_block {w w' : World} {a : Addr} (h : w'.heap[a.block]? = w.heap[a.block]?) : w'.cell? a = w.cell? a := by
  unfold World.cell?
  rw [h]
theorem Save.cell {g : Nat} {w w' : World} {p : Addr} {v : Value} (h : Save g w w') (hp : p.block ≠ g) (hc : w.cell? p = some v) : w'.cell? p = some v :=
  (cell_block (h.block _ (World.block_lt_of_cell? w p hc) hp)).trans hc
theorem Save.frozen {g : Nat} {w w' : World} {p : Addr} {b : Bool} (h : Save g w w') (hp : p.block ≠ g) (hl : p.block < w.heap.size) (hc : w.frozen? p = b) : w'.frozen? p = b := by
  unfold World.frozen? at *
  rw [h.block _ hl hp]
  exact hc
theorem cur_cells {w : World} {g : Nat} {a b c : Value} {t : TypeId} (h : w.heap[g]? = some (.cells #[a, b, c] t)) :
    w.cell? ⟨g, 0, none⟩ = some a ∧ w.cell? ⟨g, 1, none⟩ = some b ∧ w.cell? ⟨g, 2, none⟩ = some c ∧ (∀ o, w.frozen? ⟨g, o, none⟩ = false) := by
  refine ⟨?_, ?_, ?_, ?_⟩
  · simp [World.cell?, h]
  · simp [World.cell?, h]
  · simp [World.cell?, h]
  · intro o; simp [World.frozen?, h]
theorem cur_set0 {w : World} {g : Nat} {a b c : Value} {t : TypeId} (h : w.heap[g]? = some (.cells #[a, b, c] t)) (u : Value) :
    (w.setCell ⟨g, 0, none⟩ u).heap[g]? = some (.cells #[u, b, c] t) := by
  simp [World.setCell, Array.getElem?_modify, h]
theorem cur_set2 {w : World} {g : Nat} {a b c : Value} {t : TypeId} (h : w.heap[g]? = some (.cells #[a, b, c] t)) (u : Value) :
    (w.setCell ⟨g, 2, none⟩ u).heap[g]? = some (.cells #[a, b, u] t) := by
  simp [World.setCell, Array.getElem?_modify, h]
theorem cur_set1 {w : World} {g : Nat} {a b c : Value} {t : TypeId} (h : w.heap[g]? = some (.cells #[a, b, c] t)) (u : Value) :
    (w.setCell ⟨g, 1, none⟩ u).heap[g]? = some (.cells #[a, u, c] t) := by
  simp [World.setCell, Array.getElem?_modify, h]
end Go.Proofs.YtgpojfkdcdgloaaGreatDoor

namespace Go.Proofs.YtgpojfkdcdgloaaGreatDoor
open Go Go.RowKit

/-- Block g is a cursor over text s at place a. -/
def Cur (w : World) (g : Nat) (s : ByteArray) (a : Nat) (b : Bool) : Prop := w.heap[g]? = some (.cells #[.string s, .int .i64 (a : Int), .bool b] 105)
theorem Cur.lt {w : World} {g : Nat} {s : ByteArray} {a : Nat} {b : Bool} (h : Cur w g s a b) : g < w.heap.size := (Array.getElem?_eq_some_iff.1 h).1
theorem Cur.drewN {w : World} {g : Nat} {s : ByteArray} {a : Nat} {b : Bool} (h : Cur w g s a b) (n : Nat) : Cur (w.drewN n) g s a b := h
theorem Cur.up {w w' : World} {g : Nat} {s : ByteArray} {a : Nat} {b : Bool} (h : Cur w g s a b) (hb : Below w.heap.size w w') : Cur w' g s a b := (hb.block _ h.lt).trans h

/-- What is taken. -/
def takeS (s : ByteArray) (a : Nat) (b : Bool) (n : Nat) : ByteArray × Nat × Bool := if b = false ∧ a + n ≤ s.size then (s.extract a (a + n), a + n, false) else (ByteArray.empty, a, true)

set_option maxHeartbeats 1000000 in
theorem take_no1 (g : Nat) (s : ByteArray) (a n : Nat) (w : World) (hc : Cur w g s a true) :
    Calls Tryz.prog 60 #[.pointer (some ⟨g, 0, none⟩), .int .i64 n] w fun e w' => e = .returned (.string ByteArray.empty) ∧ Cur w' g s a true ∧ Save g w w' := by
  have HC : Hid (Cur w g s a true) := hc
  obtain ⟨c0, c1, c2, hf⟩ := cur_cells hc
  clear hc
  go_enter Tryz.func60, Tryz.ntmps60
  go_wp2
  go_quiet (fail)
  go_wp2
  go_ret
  exact ⟨rfl, cur_set2 (HC.out.drewN _) _, ((Save.refl g w).drewN _).setCell rfl _⟩

set_option maxHeartbeats 1000000 in
theorem take_no2 (g : Nat) (s : ByteArray) (a n : Nat) (w : World) (hc : Cur w g s a false) (hs : s.size ≤ 1048576) (ha : a ≤ s.size) (hn : s.size < a + n) :
    Calls Tryz.prog 60 #[.pointer (some ⟨g, 0, none⟩), .int .i64 n] w fun e w' => e = .returned (.string ByteArray.empty) ∧ Cur w' g s a true ∧ Save g w w' := by
  have HC : Hid (Cur w g s a false) := hc
  obtain ⟨c0, c1, c2, hf⟩ := cur_cells hc
  clear hc
  have hw : IntKind.i64.wrap ((s.size : Int) - (a : Int)) = (s.size : Int) - (a : Int) := by go_arith
  have hd : decide ((s.size : Int) - (a : Int) < (n : Int)) = true := decide_eq_true (by omega)
  go_enter Tryz.func60, Tryz.ntmps60
  go_wp2
  go_quiet (fail)
  go_wp2
  go_ret
  exact ⟨rfl, cur_set2 (HC.out.drewN _) _, ((Save.refl g w).drewN _).setCell rfl _⟩

set_option maxHeartbeats 1000000 in
theorem take_yes (g : Nat) (s : ByteArray) (a n : Nat) (w : World) (hc : Cur w g s a false) (hs : s.size ≤ 1048576) (hn : a + n ≤ s.size) :
    Calls Tryz.prog 60 #[.pointer (some ⟨g, 0, none⟩), .int .i64 n] w fun e w' => e = .returned (.string (s.extract a (a + n))) ∧ Cur w' g s (a + n) false ∧ Save g w w' := by
  have HC : Hid (Cur w g s a false) := hc
  obtain ⟨c0, c1, c2, hf⟩ := cur_cells hc
  clear hc
  have hw : IntKind.i64.wrap ((s.size : Int) - (a : Int)) = (s.size : Int) - (a : Int) := by go_arith
  have hd : decide ((s.size : Int) - (a : Int) < (n : Int)) = false := decide_eq_false (by omega)
  have hw2 : IntKind.i64.wrap ((a : Int) + (n : Int) - (n : Int)) = (a : Int) := by go_arith
  have hsl : ∀ wx, (Instr.slice 9 (.string s) (some (.int .i64 (a : Int))) (some (.int .i64 ((a : Int) + (n : Int)))) none).run Tryz.prog wx = .ok (.string (s.extract a (a + n))) wx := fun wx => by
    have := run_slice_string (P := Tryz.prog) wx 9 s .i64 .i64 (a : Int) ((a : Int) + (n : Int)) Tryz.underlying9 (by omega) (by omega) (by omega)
    rw [show ((a : Int) + (n : Int)).toNat = a + n by omega, Int.toNat_natCast] at this
    exact this
  go_enter Tryz.func60, Tryz.ntmps60
  go_wp2
  go_quiet (fail)
  go_wp2
  have HC2 : Hid (Cur ((w.drewN nq).setCell ⟨g, 1, none⟩ (.int .i64 ((a : Int) + (n : Int)))) g s (a + n) false) := by
    have := cur_set1 (HC.out.drewN nq) (.int .i64 ((a : Int) + (n : Int)))
    unfold Hid Cur
    rw [Int.natCast_add]
    exact this
  have HS2 := ((Save.refl g w).drewN nq).setCell (p := ⟨g, 1, none⟩) rfl (.int .i64 ((a : Int) + (n : Int)))
  generalize hW : (w.drewN nq).setCell ⟨g, 1, none⟩ (.int .i64 ((a : Int) + (n : Int))) = W at HC2 HS2 ⊢
  clear hW c0 c1 c2 hf
  obtain ⟨c0, c1, c2, hf⟩ := cur_cells HC2.out
  rw [Int.natCast_add] at c1
  go_quiet (fail)
  go_wp2
  go_ret
  exact ⟨rfl, HC2.out.drewN _, HS2.drewN _⟩

theorem takeS_no1 (s : ByteArray) (a n : Nat) : takeS s a true n = (ByteArray.empty, a, true) := by simp [takeS]
theorem takeS_no2 {s : ByteArray} {a n : Nat} (h : s.size < a + n) : takeS s a false n = (ByteArray.empty, a, true) := by unfold takeS; rw [if_neg (by omega)]
theorem takeS_yes {s : ByteArray} {a n : Nat} (h : a + n ≤ s.size) : takeS s a false n = (s.extract a (a + n), a + n, false) := by unfold takeS; rw [if_pos ⟨rfl, h⟩]
/-- Some bytes are taken. -/
theorem take_any (g : Nat) (s : ByteArray) (a n : Nat) (b : Bool) (w : World) (hc : Cur w g s a b) (hs : s.size ≤ 1048576) (ha : a ≤ s.size) :
    Calls Tryz.prog 60 #[.pointer (some ⟨g, 0, none⟩), .int .i64 n] w fun e w' => ∃ (t : ByteArray) (a' : Nat) (b' : Bool), e = .returned (.string t) ∧ takeS s a b n = (t, a', b') ∧ a' ≤ s.size ∧ Cur w' g s a' b' ∧ Save g w w' := by
  cases b with
  | true => exact (take_no1 g s a n w hc).mono fun e w' ⟨h1, h2, h3⟩ => ⟨_, _, _, h1, takeS_no1 s a n, ha, h2, h3⟩
  | false =>
    rcases Nat.lt_or_ge s.size (a + n) with h | h
    · exact (take_no2 g s a n w hc hs ha h).mono fun e w' ⟨h1, h2, h3⟩ => ⟨_, _, _, h1, takeS_no2 h, ha, h2, h3⟩
    · exact (take_yes g s a n w hc hs h).mono fun e w' ⟨h1, h2, h3⟩ => ⟨_, _, _, h1, takeS_yes h, h, h2, h3⟩

/-- Where a number that is read lies. -/
theorem rvGo_in (s : ByteArray) : ∀ (f i k n : Nat) (x y : Int), rvGo s f i k n = (x, y, true) → ∃ X Y : Nat, x = X ∧ y = Y ∧ X ≤ 1000000000 ∧ i < Y ∧ Y ≤ s.size
  | 0, _, _, _, x, y, h => by simp [rvGo] at h
  | f + 1, i, k, n, x, y, h => by
    rw [rvGo] at h
    split at h
    · rename_i hi
      split at h
      · split at h
        · simp at h
        · rename_i hx
          simp only [Prod.mk.injEq, and_true] at h
          exact ⟨_, i + 1, h.1.symm, by omega, by omega, by omega, by omega⟩
      · obtain ⟨X, Y, h1, h2, h3, h4, h5⟩ := rvGo_in s f _ _ _ x y h
        exact ⟨X, Y, h1, h2, h3, by omega, h5⟩
    · simp at h
theorem rv_in {s : ByteArray} {a : Int} {x y : Int} (h : rv s a = (x, y, true)) : ∃ X Y : Nat, x = X ∧ y = Y ∧ X ≤ 1000000000 ∧ a < Y ∧ Y ≤ s.size := by
  unfold rv at h
  split at h
  · obtain ⟨X, Y, h1, h2, h3, h4, h5⟩ := rvGo_in s _ _ _ _ x y h
    exact ⟨X, Y, h1, h2, h3, by omega, h5⟩
  · simp at h

/-- The number that is read. -/
def varS (s : ByteArray) (a : Nat) (b : Bool) : Nat × Nat × Bool := if b = false ∧ (rv s a).2.2 = true then ((rv s a).1.toNat, (rv s a).2.1.toNat, false) else (0, a, true)

set_option maxHeartbeats 1000000 in
theorem var_no1 (g : Nat) (s : ByteArray) (a : Nat) (x y : Int) (z : Bool) (w : World) (hc : Cur w g s a true) (hs : s.size ≤ 1048576) (hr : rv s a = (x, y, z)) :
    Calls Tryz.prog 61 #[.pointer (some ⟨g, 0, none⟩)] w fun e w' => e = .returned (.int .i64 0) ∧ Cur w' g s a true ∧ Save g w w' := by
  have HC : Hid (Cur w g s a true) := hc
  have HR : Hid (rv s a = (x, y, z)) := hr
  obtain ⟨c0, c1, c2, hf⟩ := cur_cells hc
  clear hc hr
  have q0 := Wd.cell c0
  have q1 := Wd.cell c1
  go_enter Tryz.func61, Tryz.ntmps61
  go_wp2
  refine wp_region_wd (by kernel_rfl) (by kernel_rfl) ?_
  repeat (go_big_quiet_step ((go_at_call 59; refine calls_wd (v := .tuple #[.int .i64 x, .int .i64 y, .bool z]) ?_; exact specReadVar_any _ _ _ hs x y z HR.out)))
  refine wpQuiet_nil ?_
  rintro _ ⟨v, rfl⟩
  have HC1 : Hid (Cur v.at' g s a true) := HC.out.up v.ok
  have HS : Hid (Save g w v.at') := Save.of_below v.ok
  generalize v.at' = w1 at HC1 HS ⊢
  clear c0 c1 c2 hf q0 q1
  obtain ⟨c0, c1, c2, hf⟩ := cur_cells HC1.out
  go_wp2
  go_ret
  exact ⟨rfl, cur_set2 HC1.out _, HS.out.setCell rfl _⟩

set_option maxHeartbeats 1000000 in
theorem var_no2 (g : Nat) (s : ByteArray) (a : Nat) (x y : Int) (w : World) (hc : Cur w g s a false) (hs : s.size ≤ 1048576) (hr : rv s a = (x, y, false)) :
    Calls Tryz.prog 61 #[.pointer (some ⟨g, 0, none⟩)] w fun e w' => e = .returned (.int .i64 0) ∧ Cur w' g s a true ∧ Save g w w' := by
  have HC : Hid (Cur w g s a false) := hc
  have HR : Hid (rv s a = (x, y, false)) := hr
  obtain ⟨c0, c1, c2, hf⟩ := cur_cells hc
  clear hc hr
  have q0 := Wd.cell c0
  have q1 := Wd.cell c1
  go_enter Tryz.func61, Tryz.ntmps61
  go_wp2
  refine wp_region_wd (by kernel_rfl) (by kernel_rfl) ?_
  repeat (go_big_quiet_step ((go_at_call 59; refine calls_wd (v := .tuple #[.int .i64 x, .int .i64 y, .bool false]) ?_; exact specReadVar_any _ _ _ hs x y false HR.out)))
  refine wpQuiet_nil ?_
  rintro _ ⟨v, rfl⟩
  have HC1 : Hid (Cur v.at' g s a false) := HC.out.up v.ok
  have HS : Hid (Save g w v.at') := Save.of_below v.ok
  generalize v.at' = w1 at HC1 HS ⊢
  clear c0 c1 c2 hf q0 q1
  obtain ⟨c0, c1, c2, hf⟩ := cur_cells HC1.out
  go_wp2
  go_ret
  exact ⟨rfl, cur_set2 HC1.out _, HS.out.setCell rfl _⟩

set_option maxHeartbeats 1000000 in
theorem var_yes (g : Nat) (s : ByteArray) (a X Y : Nat) (w : World) (hc : Cur w g s a false) (hs : s.size ≤ 1048576) (hr : rv s a = ((X : Int), (Y : Int), true)) :
    Calls Tryz.prog 61 #[.pointer (some ⟨g, 0, none⟩)] w fun e w' => e = .returned (.int .i64 X) ∧ Cur w' g s Y false ∧ Save g w w' := by
  have HC : Hid (Cur w g s a false) := hc
  have HR : Hid (rv s a = ((X : Int), (Y : Int), true)) := hr
  obtain ⟨c0, c1, c2, hf⟩ := cur_cells hc
  clear hc hr
  have q0 := Wd.cell c0
  have q1 := Wd.cell c1
  go_enter Tryz.func61, Tryz.ntmps61
  go_wp2
  refine wp_region_wd (by kernel_rfl) (by kernel_rfl) ?_
  repeat (go_big_quiet_step ((go_at_call 59; refine calls_wd (v := .tuple #[.int .i64 (X : Int), .int .i64 (Y : Int), .bool true]) ?_; exact specReadVar_any _ _ _ hs _ _ true HR.out)))
  refine wpQuiet_nil ?_
  rintro _ ⟨v, rfl⟩
  have HC1 : Hid (Cur v.at' g s a false) := HC.out.up v.ok
  have HS : Hid (Save g w v.at') := Save.of_below v.ok
  generalize v.at' = w1 at HC1 HS ⊢
  clear c0 c1 c2 hf q0 q1
  obtain ⟨c0, c1, c2, hf⟩ := cur_cells HC1.out
  go_wp2
  go_ret
  exact ⟨rfl, cur_set1 HC1.out _, HS.out.setCell rfl _⟩

/-- A number is read. -/
theorem var_any (g : Nat) (s : ByteArray) (a : Nat) (b : Bool) (w : World) (hc : Cur w g s a b) (hs : s.size ≤ 1048576) (ha : a ≤ s.size) :
    Calls Tryz.prog 61 #[.pointer (some ⟨g, 0, none⟩)] w fun e w' => ∃ (x a' : Nat) (b' : Bool), e = .returned (.int .i64 x) ∧ varS s a b = (x, a', b') ∧ a' ≤ s.size ∧ x ≤ 1000000000 ∧ Cur w' g s a' b' ∧ Save g w w' := by
  rcases hr : rv s a with ⟨x, y, z⟩
  cases b with
  | true => exact (var_no1 g s a x y z w hc hs hr).mono fun e w' ⟨h1, h2, h3⟩ => ⟨0, _, _, h1, by simp [varS], ha, by omega, h2, h3⟩
  | false =>
    cases z with
    | false => exact (var_no2 g s a x y w hc hs hr).mono fun e w' ⟨h1, h2, h3⟩ => ⟨0, _, _, h1, by simp [varS, hr], ha, by omega, h2, h3⟩
    | true =>
      obtain ⟨X, Y, rfl, rfl, h4, h5, h6⟩ := rv_in hr
      exact (var_yes g s a X Y w hc hs hr).mono fun e w' ⟨h1, h2, h3⟩ => ⟨X, Y, _, h1, by simp [varS, hr], h6, h4, h2, h3⟩
end Go.Proofs.YtgpojfkdcdgloaaGreatDoor

namespace Go.Proofs.YtgpojfkdcdgloaaGreatDoor
open Go Go.RowKit

/-- The byte at a place. -/
def kAt (s : ByteArray) (a : Nat) : Nat := if h : a < s.size then s[a].toNat else 0
theorem kAt_in {s : ByteArray} {a : Nat} (h : a < s.size) : kAt s a = s[a].toNat := by simp [kAt, h]
theorem kAt_lt (s : ByteArray) (a : Nat) : kAt s a < 256 := by
  unfold kAt
  split
  · exact UInt8.toNat_lt _
  · omega
theorem takeS_ok {s t : ByteArray} {a a' n : Nat} {b : Bool} (h : takeS s a b n = (t, a', false)) : b = false ∧ a + n ≤ s.size ∧ t = s.extract a (a + n) ∧ a' = a + n := by
  unfold takeS at h
  split at h
  · rename_i hc
    simp only [Prod.mk.injEq, and_true] at h
    exact ⟨hc.1, hc.2, h.1.symm, h.2.symm⟩
  · simp at h
theorem varS_ok {s : ByteArray} {a x a' : Nat} {b : Bool} (h : varS s a b = (x, a', false)) : b = false ∧ rv s a = ((x : Int), (a' : Int), true) := by
  unfold varS at h
  split at h
  · rename_i hc
    refine ⟨hc.1, ?_⟩
    rcases hr : rv s a with ⟨X, Y, z⟩
    rw [hr] at hc h
    obtain ⟨-, rfl⟩ := hc
    obtain ⟨X', Y', rfl, rfl, -⟩ := rv_in hr
    simp only [Prod.mk.injEq, and_true, Int.toNat_natCast] at h
    rw [h.1, h.2]
  · simp at h
theorem varS_yes {s : ByteArray} {a X Y : Nat} (h : rv s a = ((X : Int), (Y : Int), true)) : varS s a false = (X, Y, false) := by simp [varS, h]
theorem varS_bad (s : ByteArray) (a : Nat) : varS s a true = (0, a, true) := by simp [varS]
theorem heap_last (W : World) (o : Obj) : (W.alloc o).heap[W.heap.size]? = some o := by show (W.heap.push o)[W.heap.size]? = some o; simp
theorem heap_next (W : World) (o o2 : Obj) : ((W.alloc o).alloc o2).heap[W.heap.size + 1]? = some o2 := by
  have := heap_last (W.alloc o) o2
  rwa [World.size_alloc] at this
theorem heap_old {W : World} {k : Nat} {o : Obj} (h : W.heap[k]? = some o) (o2 : Obj) : (W.alloc o2).heap[k]? = some o :=
  (Below.heap_alloc _ _ _ (Array.getElem?_eq_some_iff.1 h).1).trans h
theorem heap_far {W : World} {k : Nat} {o : Obj} (h : W.heap[k]? = some o) {p : Addr} (hp : p.block ≠ k) (u : Value) : (W.setCell p u).heap[k]? = some o :=
  (Below.heap_setCell _ _ _ _ (by omega)).trans h
theorem Save.heap {g : Nat} {w w' : World} {k : Nat} {o : Obj} (h : Save g w w') (hk : k ≠ g) (hc : w.heap[k]? = some o) : w'.heap[k]? = some o :=
  (h.block k (Array.getElem?_eq_some_iff.1 hc).1 hk).trans hc
theorem Save.under {B g : Nat} {w w1 w' : World} (h : Below B w w1) (hs : Save g w1 w') (hg : B ≤ g) (hB : B ≤ w1.heap.size) : Below B w w' := h.trans (hs.below hg hB)
end Go.Proofs.YtgpojfkdcdgloaaGreatDoor

namespace Go.Proofs.YtgpojfkdcdgloaaGreatDoor
open Go Go.RowKit

set_option maxHeartbeats 1000000 in
theorem specEntryText_bad (i t k : Int) (d : ByteArray) (w : World) (hd : d.size ≤ maxLen) (hx : okX i t k d = false) :
    Calls Tryz.prog 82 #[.int .i64 i, .agg #[.int .i64 t, .int .i64 k, .string d]] w fun e w' => e = .returned (.tuple #[.string ByteArray.empty, .bool false]) ∧ Below w.heap.size w w' := by
  have H0 := fun w => specEntryOk_any t k d w hd
  cases he : okE t k d with
  | false =>
    rw [he] at H0
    have H0 : Hid (∀ w, Calls Tryz.prog 63 #[.agg #[.int .i64 t, .int .i64 k, .string d]] w fun e w' => e = .returned (.bool false) ∧ Below w.heap.size w w') := H0
    clear he hx
    go_enter Tryz.func82, Tryz.ntmps82
    go_wp2_with (go_at_call 63; refine (H0.out _).mono ?_; rintro e w1 ⟨rfl, hb1⟩)
    go_ret2
    exact ⟨rfl, below_new hb1⟩
  | true =>
    rw [he] at H0
    have H0 : Hid (∀ w, Calls Tryz.prog 63 #[.agg #[.int .i64 t, .int .i64 k, .string d]] w fun e w' => e = .returned (.bool true) ∧ Below w.heap.size w w') := H0
    have hv : (decide ((1 : Int) ≤ i) && decide (i ≤ 1000000)) = false := by
      unfold okX at hx
      rw [he] at hx
      simpa using hx
    clear he hx
    go_enter Tryz.func82, Tryz.ntmps82
    go_wp2_with (first | (go_at_call 63; refine (H0.out _).mono ?_; rintro e w1 ⟨rfl, hb1⟩) | (go_at_call 36; refine (in_any _ _ _ _).mono ?_; rintro e w2 ⟨rfl, hw⟩; have hw2 := hw.symm; subst hw2; rw [hv]))
    go_ret2
    exact ⟨rfl, below_new hb1⟩
end Go.Proofs.YtgpojfkdcdgloaaGreatDoor

namespace Go.Proofs.YtgpojfkdcdgloaaGreatDoor
open Go Go.RowKit

theorem heap_new {W w' : World} {o : Obj} (hb : Below (W.alloc o).heap.size (W.alloc o) w') : w'.heap[W.heap.size]? = some o := (hb.block _ (by simp)).trans (by show (W.heap.push o)[W.heap.size]? = some o; simp)
theorem heap_newd {W w' : World} {o : Obj} (hb : Below (W.alloc o).drew.heap.size (W.alloc o).drew w') : w'.heap[W.heap.size]? = some o := (hb.block _ (by show W.heap.size < (W.alloc o).heap.size; simp)).trans (by show (W.heap.push o)[W.heap.size]? = some o; simp)
theorem heap_on {W w' : World} {X : Nat} {o : Obj} (hb : Below W.heap.size W w') (h : W.heap[X]? = some o) : w'.heap[X]? = some o := (hb.block _ (by
  rcases Nat.lt_or_ge X W.heap.size with hl | hl
  · exact hl
  · rw [Array.getElem?_eq_none hl] at h; cases h)).trans h
end Go.Proofs.YtgpojfkdcdgloaaGreatDoor

namespace Go.Proofs.YtgpojfkdcdgloaaGreatDoor
open Go Go.RowKit

/-- string(b) of a block of one byte. -/
theorem size_drew (w : World) : w.drew.heap.size = w.heap.size := rfl
theorem conv_at {w : World} {X : Nat} {x : Int} (h : w.heap[X]? = some (.cells #[.int .u8 x] 5)) : (convert 100 9 (.slice (some ⟨X, 0, none⟩) 1 1)).run Tryz.prog w = .ok (.string (bstr [x])) w :=
  run_own_string (P := Tryz.prog) (B := 0) (e := 5) 100 9 (show ownsB w 0 5 (.slice (some ⟨X, 0, none⟩) 1 1) [x] from
    ⟨rfl, .inr ⟨X, 1, #[.int .u8 x], rfl, Nat.zero_le _, h, Nat.le_refl _, by unfold maxLen; omega, rfl, rfl⟩⟩) Tryz.underlying100 Tryz.underlying5 Tryz.underlying9

set_option maxHeartbeats 4000000 in
theorem specEntryText_ok (i t k : Nat) (d : ByteArray) (w : World) (h1 : 1 ≤ i) (h2 : i ≤ 1000000) (h3 : t ≤ 100000) (hk3 : k ≤ 3) (hd : d.size ≤ 640) (hk : okE t k d = true) :
    Calls Tryz.prog 82 #[.int .i64 i, .agg #[.int .i64 t, .int .i64 k, .string d]] w fun e w' => e = .returned (.tuple #[.string (rawE (bstr (varI i)) (bstr (varI t)) k d), .bool true]) ∧ Below w.heap.size w w' := by
  have hv : (decide ((1 : Int) ≤ (i : Int)) && decide ((i : Int) ≤ 1000000)) = true := by
    rw [Bool.and_eq_true, decide_eq_true_iff, decide_eq_true_iff]
    omega
  have hs1 : (bstr (varI i)).size ≤ 3 := by rw [bstr_size']; exact varI_len3 h2
  have hs2 : (bstr (varI t)).size ≤ 3 := by rw [bstr_size']; exact varI_len3 (by omega)
  have H0 : Hid (∀ w, Calls Tryz.prog 63 #[.agg #[.int .i64 t, .int .i64 k, .string d]] w fun e w' => e = .returned (.bool true) ∧ Below w.heap.size w w') := by
    intro w; rw [← hk]; exact specEntryOk_any t k d w (by unfold maxLen; omega)
  have a1 := add1 hs1
  have a2 := add2 hs1 hs2
  have a3 := add3 (k := k) hs1 hs2
  have a4 := add4 (k := k) hs1 hs2 hd
  clear hk hs1 hs2
  go_enter Tryz.func82, Tryz.ntmps82
  go_wp2_with (first | (go_at_call 63; refine (H0.out _).mono ?_; rintro e w1 ⟨rfl, hb1⟩) | (go_at_call 36; refine (in_any _ _ _ _).mono ?_; rintro e w2 ⟨rfl, hw⟩; have hw2 := hw.symm; subst hw2; rw [hv]))
  have B1 := below_new hb1
  have c1 : w1.cell? ⟨w.heap.size, 0, none⟩ = some (.int .i64 t) := (hb1.cell (by simp)).trans (by simp [go_sem])
  have c2 : w1.cell? ⟨w.heap.size, 1, none⟩ = some (.int .i64 k) := (hb1.cell (by simp)).trans (by simp [go_sem])
  have c3 : w1.cell? ⟨w.heap.size, 2, none⟩ = some (.string d) := (hb1.cell (by simp)).trans (by simp [go_sem])
  have hlt : w.heap.size < w1.heap.size := World.block_lt_of_cell? w1 _ c3
  clear hb1
  have k1 : ∀ w', Below w1.heap.size w1 w' → w'.cell? ⟨w.heap.size, 0, none⟩ = some (.int .i64 t) := Below.cellOf hlt c1
  have k2 : ∀ w', Below w1.heap.size w1 w' → w'.cell? ⟨w.heap.size, 1, none⟩ = some (.int .i64 k) := Below.cellOf hlt c2
  have k3 : ∀ w', Below w1.heap.size w1 w' → w'.cell? ⟨w.heap.size, 2, none⟩ = some (.string d) := Below.cellOf hlt c3
  have hcv := run_one_string
  have hcd : (convert 100 9 (.slice (some ⟨w1.heap.size, 0, none⟩) 1 1)).run Tryz.prog (w1.alloc (.cells #[.int .u8 (k : Int)] 5)).drew = .ok (.string (bstr [(k : Int)])) (w1.alloc (.cells #[.int .u8 (k : Int)] 5)).drew := conv_at (by show (w1.heap.push _)[w1.heap.size]? = _; simp)
  have hwr : IntKind.u8.wrap (k : Int) = (k : Int) := by go_arith
  refine wp_region_noPanic ?_
  go_region_held (fun w' => Below w1.heap.size w1 w') ((first | assumption | exact (Below.refl _ _).drew | exact keep_on hba (by assumption) (Nat.le_refl _) | exact Below.alloc (by assumption) (Below.size (by assumption)) _ | exact Below.alloc (keep_on hba (by assumption) (Nat.le_refl _)) (Below.size (keep_on hba (by assumption) (Nat.le_refl _))) _)) ((go_at_call 62; refine (l01Var_any _ _ (by omega)).mono ?_; rintro e wa ⟨rfl, hba⟩; (try (have hX := heap_new hba; (try rw [size_drew] at hX); have hY := conv_at hX)); (try (have hX := heap_newd hba; have hY := conv_at hX)); (try (have hX := heap_on hba hX; have hY := conv_at hX))))
  all_goals refine NoPanic.normal ?_
  all_goals go_wp2
  all_goals (go_ret2; refine ⟨rfl, B1.trans (Below.mono (B := w1.heap.size) (by assumption) B1.size)⟩)

theorem specEntryText_any (i t k : Int) (d : ByteArray) (w : World) (hd : d.size ≤ maxLen) :
    Calls Tryz.prog 82 #[.int .i64 i, .agg #[.int .i64 t, .int .i64 k, .string d]] w fun e w' => e = .returned (valX i t k d) ∧ Below w.heap.size w w' := by
  cases hx : okX i t k d with
  | true =>
    rw [valX_yes hx]
    obtain ⟨h1, h2, h3, h4, h5, h6, h7⟩ := okX_out hx
    obtain ⟨a, rfl⟩ := Int.eq_ofNat_of_zero_le (show 0 ≤ i by omega)
    obtain ⟨b, rfl⟩ := Int.eq_ofNat_of_zero_le h3
    obtain ⟨c, rfl⟩ := Int.eq_ofNat_of_zero_le (show 0 ≤ k by omega)
    exact specEntryText_ok a b c d w (by omega) (by omega) (by omega) (by omega) h6 h7
  | false =>
    rw [valX_no hx]
    exact specEntryText_bad i t k d w hd hx

end Go.Proofs.YtgpojfkdcdgloaaGreatDoor

namespace Go.Proofs.YtgpojfkdcdgloaaGreatDoor
open Go Go.RowKit

def zeroV : Value := .tuple #[.int .i64 0, .agg #[.int .i64 0, .int .i64 0, .string ByteArray.empty], .bool false]
/-- The entry's data, behind its kind. -/
def dAt (s : ByteArray) (a : Nat) : ByteArray := s.extract (a + 1) s.size
theorem dAt_size (s : ByteArray) (a : Nat) : (dAt s a).size ≤ s.size := by
  unfold dAt
  rw [ByteArray.size_extract]
  omega
/-- Whether what was read would be written so. -/
def okF (s : ByteArray) (i t a : Nat) : Bool := okX i t (kAt s a) (dAt s a) && ((textX i t (kAt s a) (dAt s a)).toList == s.toList)
def finV (s : ByteArray) (i t a : Nat) : Value := if okF s i t a then .tuple #[.int .i64 i, .agg #[.int .i64 t, .int .i64 (kAt s a), .string (dAt s a)], .bool true] else zeroV
/-- What is read. -/
def rdV (s : ByteArray) : Value :=
  if (rv s 1).2.2 = true ∧ (rv s (rv s 1).2.1).2.2 = true ∧ (rv s (rv s 1).2.1).2.1 < s.size then finV s (rv s 1).1.toNat (rv s (rv s 1).2.1).1.toNat (rv s (rv s 1).2.1).2.1.toNat else zeroV

theorem rd_good {s t1 t4 : ByteArray} {a1 a2 a3 a4 x2 x3 : Nat} {b1 b2 b3 : Bool} (h1 : takeS s 0 false 1 = (t1, a1, b1)) (h2 : varS s a1 b1 = (x2, a2, b2)) (h3 : varS s a2 b2 = (x3, a3, b3)) (h4 : takeS s a3 b3 1 = (t4, a4, false)) :
    rdV s = finV s x2 x3 a3 ∧ a3 < s.size ∧ t4 = s.extract a3 (a3 + 1) ∧ a4 = a3 + 1 := by
  obtain ⟨rfl, h5, h6, h7⟩ := takeS_ok h4
  obtain ⟨rfl, h8⟩ := varS_ok h3
  obtain ⟨rfl, h9⟩ := varS_ok h2
  obtain ⟨-, h10, -, h11⟩ := takeS_ok h1
  have e1 : a1 = 1 := by omega
  subst e1
  have h9' : rv s 1 = ((x2 : Int), (a2 : Int), true) := h9
  refine ⟨?_, by omega, h6, h7⟩
  unfold rdV
  rw [h9']
  dsimp only
  rw [h8]
  dsimp only
  rw [if_pos ⟨rfl, rfl, by omega⟩]
  simp
theorem rd_bad {s t1 t4 : ByteArray} {a1 a2 a3 a4 x2 x3 : Nat} {b1 b2 b3 : Bool} (h1 : takeS s 0 false 1 = (t1, a1, b1)) (h2 : varS s a1 b1 = (x2, a2, b2)) (h3 : varS s a2 b2 = (x3, a3, b3)) (h4 : takeS s a3 b3 1 = (t4, a4, true)) :
    rdV s = zeroV := by
  unfold rdV
  rw [if_neg]
  rintro ⟨k1, k2, k3⟩
  rcases hr1 : rv s 1 with ⟨X, Y, z⟩
  rw [hr1] at k1 k2 k3
  dsimp only at k1 k2 k3
  subst k1
  obtain ⟨X, Y, rfl, rfl, -, hy, hY⟩ := rv_in hr1
  rcases hr2 : rv s (Y : Int) with ⟨U, V, z⟩
  rw [hr2] at k2 k3
  dsimp only at k2 k3
  subst k2
  obtain ⟨U, V, rfl, rfl, -, hv, hV⟩ := rv_in hr2
  rw [takeS_yes (show 0 + 1 ≤ s.size by omega)] at h1
  simp only [Prod.mk.injEq] at h1
  obtain ⟨-, rfl, rfl⟩ := h1
  rw [varS_yes (show rv s ((0 + 1 : Nat) : Int) = ((X : Int), (Y : Int), true) from hr1)] at h2
  simp only [Prod.mk.injEq] at h2
  obtain ⟨rfl, rfl, rfl⟩ := h2
  rw [varS_yes hr2] at h3
  simp only [Prod.mk.injEq] at h3
  obtain ⟨rfl, rfl, rfl⟩ := h3
  rw [takeS_yes (by omega)] at h4
  simp at h4

theorem take1_any (g : Nat) (s : ByteArray) (a : Nat) (b : Bool) (w : World) (hc : Cur w g s a b) (hs : s.size ≤ 1048576) (ha : a ≤ s.size) :
    Calls Tryz.prog 60 #[.pointer (some ⟨g, 0, none⟩), .int .i64 1] w fun e w' => ∃ (t : ByteArray) (a' : Nat) (b' : Bool), e = .returned (.string t) ∧ takeS s a b 1 = (t, a', b') ∧ a' ≤ s.size ∧ Cur w' g s a' b' ∧ Save g w w' := take_any g s a 1 b w hc hs ha
theorem ret_entry {fn : Func} {p u v : Tmp} {w : World} {g : Nat} {a b c x y : Value} {tmps : Array Value} (h : fn.results = #[.tmp u, .cell p 110, .tmp v]) (hp : tmps.getD p undef = .pointer (some ⟨g, 0, none⟩)) (hu : tmps.getD u undef = x) (hv : tmps.getD v undef = y) (hb : w.heap[g]? = some (.cells #[a, b, c] 110)) :
    (results fn tmps).run Tryz.prog w = .ok (.tuple #[x, .agg #[a, b, c], y]) w := by
  have hp' : tmps[p]?.getD undef = .pointer (some ⟨g, 0, none⟩) := by simpa using hp
  have hu' : tmps[u]?.getD undef = x := by simpa using hu
  have hv' : tmps[v]?.getD undef = y := by simpa using hv
  obtain ⟨h0, h1, h2, _⟩ := cur_cells hb
  simp [results, h, hp', hu', hv', h0, h1, h2, asAddr, go_sem]

set_option maxRecDepth 10000 in
set_option maxHeartbeats 4000000 in
theorem specReadEntry_any (s : ByteArray) (w : World) (hs : s.size ≤ 1048576) :
    Calls Tryz.prog 64 #[.string s] w fun e w' => e = .returned (rdV s) ∧ Below w.heap.size w w' := by
  go_enter Tryz.func64, Tryz.ntmps64
  go_wp2_with fail
  refine (take1_any (w.heap.size + 1) s 0 false _ (heap_next _ _ _) hs (Nat.zero_le _)).mono ?_
  rintro e w1 ⟨t1, a1, b1, rfl, ht1, ha1, C1, S1⟩
  have R1 := S1.heap (k := w.heap.size) (by omega) (heap_old (heap_last _ _) _)
  have B1 := Save.under (B := w.heap.size) (ba (ba (Below.refl _ w) _) _) S1 (by omega) (by simp; omega)
  have HT1 : Hid (takeS s 0 false 1 = (t1, a1, b1)) := ht1
  have C1 : Hid (Cur w1 (w.heap.size + 1) s a1 b1) := C1
  have R1 : Hid (w1.heap[w.heap.size]? = some (.cells #[.int .i64 0, .int .i64 0, .string ByteArray.empty] 110)) := R1
  clear S1 ht1
  go_wp2_with fail
  refine (var_any (w.heap.size + 1) s a1 b1 _ C1.out hs ha1).mono ?_
  rintro e w2 ⟨x2, a2, b2, rfl, ht2, ha2, hx2, C2, S2⟩
  have B2 := Save.under (B := w.heap.size) B1 S2 (by omega) B1.size
  have R2 : Hid (w2.heap[w.heap.size]? = some (.cells #[.int .i64 0, .int .i64 0, .string ByteArray.empty] 110)) := S2.heap (by omega) R1.out
  have HT2 : Hid (varS s a1 b1 = (x2, a2, b2)) := ht2
  have C2 : Hid (Cur w2 (w.heap.size + 1) s a2 b2) := C2
  clear S2 ht2 B1 R1 C1
  have hE := C2.out.lt
  obtain ⟨E, hEq⟩ : ∃ E, w2.heap.size = E := ⟨_, rfl⟩
  rw [hEq] at hE
  go_wp2_with fail
  refine (var_any (w.heap.size + 1) s a2 b2 _ (heap_old C2.out _) hs ha2).mono ?_
  rintro e w3 ⟨x3, a3, b3, rfl, ht3, ha3, hx3, C3, S3⟩
  have B3 := Save.under (B := w.heap.size) (ba B2 _) S3 (by omega) (Nat.le_trans B2.size (by simp))
  have R3 : Hid (w3.heap[w.heap.size]? = some (.cells #[.int .i64 0, .int .i64 0, .string ByteArray.empty] 110)) := S3.heap (by omega) (heap_old R2.out _)
  have E3 : Hid (w3.heap[E]? = some (.cells #[.int .i64 0, .int .i64 0, .string ByteArray.empty] 110)) := S3.heap (by omega) (by rw [← hEq]; exact heap_last _ _)
  have HT3 : Hid (varS s a2 b2 = (x3, a3, b3)) := ht3
  have C3 : Hid (Cur w3 (w.heap.size + 1) s a3 b3) := C3
  clear S3 ht3 B2 R2 C2 hEq
  obtain ⟨e0, e1, e2, ef⟩ := cur_cells E3.out
  go_wp2_with fail
  refine (take1_any (w.heap.size + 1) s a3 b3 _ (heap_far C3.out (p := ⟨E, 0, none⟩) (by show E ≠ w.heap.size + 1; omega) _) hs ha3).mono ?_
  rintro e w4 ⟨t4, a4, b4, rfl, ht4, ha4, C4, S4⟩
  have B4 := Save.under (B := w.heap.size) (B3.setCell (p := ⟨E, 0, none⟩) (by show w.heap.size ≤ E; omega) _) S4 (by omega) (Nat.le_trans B3.size (by simp))
  have R4 : Hid (w4.heap[w.heap.size]? = some (.cells #[.int .i64 0, .int .i64 0, .string ByteArray.empty] 110)) := S4.heap (by omega) (heap_far R3.out (p := ⟨E, 0, none⟩) (by show E ≠ w.heap.size; omega) _)
  have E4 : Hid (w4.heap[E]? = some (.cells #[.int .i64 (x3 : Int), .int .i64 0, .string ByteArray.empty] 110)) := S4.heap (by omega) (cur_set0 E3.out _)
  have HT4 : Hid (takeS s a3 b3 1 = (t4, a4, b4)) := ht4
  have C4 : Hid (Cur w4 (w.heap.size + 1) s a4 b4) := C4
  clear S4 ht4 B3 R3 C3 E3 e0 e1 e2 ef
  obtain ⟨e0, e1, e2, ef⟩ := cur_cells E4.out
  obtain ⟨c0, c1, c2, cf⟩ := cur_cells C4.out
  obtain ⟨r0, r1, r2, rf⟩ := cur_cells R4.out
  cases b4 with
  | true =>
    have HZ : Hid (rdV s = zeroV) := rd_bad HT1.out HT2.out HT3.out HT4.out
    go_wp2
    refine bodyPost_ret (ret_entry (g := w.heap.size) rfl rfl rfl rfl (cur_set2 (cur_set1 (cur_set0 R4.out _) _) _)) rfl ⟨by rw [HZ.out]; rfl, ?_⟩
    exact ((B4.setCell (p := ⟨w.heap.size, 0, none⟩) (Nat.le_refl _) _).setCell (p := ⟨w.heap.size, 1, none⟩) (Nat.le_refl _) _).setCell (p := ⟨w.heap.size, 2, none⟩) (Nat.le_refl _) _
  | false =>
    obtain ⟨g1, g2, g3, g4⟩ := rd_good HT1.out HT2.out HT3.out HT4.out
    have G1 : Hid (rdV s = finV s x2 x3 a3) := g1
    have hk0 : 0 < t4.size := by rw [g3, ByteArray.size_extract]; omega
    obtain ⟨k, hk⟩ : ∃ k : Nat, t4[0].toNat = k := ⟨_, rfl⟩
    have hk8 : k < 256 := by rw [← hk]; exact UInt8.toNat_lt _
    obtain ⟨d, hd⟩ : ∃ d, s.extract a4 s.size = d := ⟨_, rfl⟩
    have GK : Hid (kAt s a3 = k) := by
      show kAt s a3 = k
      rw [kAt_in g2, ← hk]
      simp [g3, ByteArray.getElem_extract]
    have GD : Hid (dAt s a3 = d) := by show dAt s a3 = d; rw [← hd, g4]; rfl
    clear g1 g2 g3 g4
    have HM : Hid (d.size ≤ maxLen) := by
      have := dAt_size s a3
      rw [GD.out] at this
      show d.size ≤ maxLen
      unfold maxLen
      omega
    obtain ⟨q, HQ⟩ : ∃ q, Hid (okX x2 x3 k d = q) := ⟨_, rfl⟩
    obtain ⟨u, HU⟩ : ∃ u, Hid (textX x2 x3 k d = u) := ⟨_, rfl⟩
    have HV : Hid (valX x2 x3 k d = .tuple #[.string u, .bool q]) := by show valX _ _ _ d = _; rw [valX, HQ.out, HU.out]
    have HF : Hid (okF s x2 x3 a3 = (q && (u.toList == s.toList))) := by show okF s x2 x3 a3 = _; rw [okF, GK.out, GD.out, HQ.out, HU.out]
    go_wp2_with fail
    have E5 := cur_set2 (cur_set1 E4.out (.int .i64 (k : Int))) (.string d)
    have R5 := heap_far (heap_far R4.out (p := ⟨E, 1, none⟩) (by show E ≠ w.heap.size; omega) (.int .i64 (k : Int))) (p := ⟨E, 2, none⟩) (by show E ≠ w.heap.size; omega) (.string d)
    have B5 := (B4.setCell (p := ⟨E, 1, none⟩) (by show w.heap.size ≤ E; omega) (.int .i64 (k : Int))).setCell (p := ⟨E, 2, none⟩) (by show w.heap.size ≤ E; omega) (.string d)
    obtain ⟨W5, hW5⟩ : ∃ W5, (w4.setCell ⟨E, 1, none⟩ (.int .i64 (k : Int))).setCell ⟨E, 2, none⟩ (.string d) = W5 := ⟨_, rfl⟩
    rw [hW5] at E5 R5 B5 ⊢
    clear hW5 e0 e1 e2 ef c0 c1 c2 cf r0 r1 r2 rf R4 E4 B4 C4 HT1 HT2 HT3 HT4
    refine (specEntryText_any x2 x3 k d W5 HM.out).mono ?_
    rintro e w6 ⟨rfl, hb6⟩
    have B6 := Below.trans B5 (hb6.mono B5.size)
    have E6 : Hid (w6.heap[E]? = some (.cells #[.int .i64 (x3 : Int), .int .i64 (k : Int), .string d] 110)) := heap_on hb6 E5
    have R6 : Hid (w6.heap[w.heap.size]? = some (.cells #[.int .i64 0, .int .i64 0, .string ByteArray.empty] 110)) := heap_on hb6 R5
    clear hb6 E5 R5 B5
    obtain ⟨e0, e1, e2, ef⟩ := cur_cells E6.out
    obtain ⟨r0, r1, r2, rf⟩ := cur_cells R6.out
    rw [HV.out]
    cases q with
    | false =>
      have HZ : Hid (rdV s = zeroV) := by show rdV s = zeroV; rw [G1.out, finV, HF.out]; rfl
      go_wp2
      refine bodyPost_ret (ret_entry (g := w.heap.size) rfl rfl rfl rfl (cur_set2 (cur_set1 (cur_set0 R6.out _) _) _)) rfl ⟨by rw [HZ.out]; rfl, ?_⟩
      exact ((B6.setCell (p := ⟨w.heap.size, 0, none⟩) (Nat.le_refl _) _).setCell (p := ⟨w.heap.size, 1, none⟩) (Nat.le_refl _) _).setCell (p := ⟨w.heap.size, 2, none⟩) (Nat.le_refl _) _
    | true =>
      cases hu : (u.toList == s.toList) with
      | false =>
        have HZ : Hid (rdV s = zeroV) := by show rdV s = zeroV; rw [G1.out, finV, HF.out, hu]; rfl
        go_wp2
        refine bodyPost_ret (ret_entry (g := w.heap.size) rfl rfl rfl rfl (cur_set2 (cur_set1 (cur_set0 R6.out _) _) _)) rfl ⟨by rw [HZ.out]; rfl, ?_⟩
        exact ((B6.setCell (p := ⟨w.heap.size, 0, none⟩) (Nat.le_refl _) _).setCell (p := ⟨w.heap.size, 1, none⟩) (Nat.le_refl _) _).setCell (p := ⟨w.heap.size, 2, none⟩) (Nat.le_refl _) _
      | true =>
        have HZ : Hid (rdV s = .tuple #[.int .i64 x2, .agg #[.int .i64 x3, .int .i64 k, .string d], .bool true]) := by
          show rdV s = _
          rw [G1.out, finV, HF.out, hu, GK.out, GD.out]
          rfl
        go_wp2
        go_region
        go_wp2
        have RF := cur_set2 (cur_set1 (cur_set0 R6.out (.int .i64 (x3 : Int))) (.int .i64 (k : Int))) (.string d)
        have BF := (((B6.setCell (p := ⟨w.heap.size, 0, none⟩) (Nat.le_refl _) (.int .i64 (x3 : Int))).setCell (p := ⟨w.heap.size, 1, none⟩) (Nat.le_refl _) (.int .i64 (k : Int))).setCell (p := ⟨w.heap.size, 2, none⟩) (Nat.le_refl _) (.string d)).drew
        exact bodyPost_ret (ret_entry (g := w.heap.size) rfl rfl rfl rfl RF) rfl ⟨by rw [HZ.out]; rfl, BF⟩
end Go.Proofs.YtgpojfkdcdgloaaGreatDoor
