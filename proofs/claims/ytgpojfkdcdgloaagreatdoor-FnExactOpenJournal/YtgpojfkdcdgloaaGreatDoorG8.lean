/-
  The frame at a place of a file: its reading, the walk; and all frames from a place on, as a plain function. Rows of texts that a call owns: small facts of my own, over any program. All records of a file, as the model reads them: the walk. All records of a file, as the program reads them, by a function that is handed a yield: the walks.
-/
import Derived.Test.YtgpojfkdcdgloaaGreatDoorG3
import Derived.Test.YtgpojfkdcdgloaaGreatDoorNl
import Derived.Test.YtgpojfkdcdgloaaGreatDoorG7
import Derived.Test.YtgpojfkdcdgloaaGreatDoorAid
import Derived.WalkSpells
import Derived.Lib.Strings
import Derived.RangeFuncNested
import Derived.RangeFuncBound
import Derived.RangeFuncCalls
import Derived.RangeFuncLeaves
import Derived.RangeFuncBox
import Derived.Shelf.Abstract
import Derived.Shelf.RegionOpen
import Derived.WalkKit
import Derived.OwnWalkIn
import Derived.TacticsInMore
import Derived.LoopNIn
import Derived.LoopIn
import Derived.Maps.AppendAt
import Derived.Maps.OwnIn
namespace Go.Proofs.YtgpojfkdcdgloaaGreatDoor
open Go.RowKit

/-- The record of the frame at a place, and the place behind it. -/
def rdF (s : ByteArray) (a : Nat) : Option (ByteArray × Nat) :=
  if (rv s a).2.2 = true ∧ (rv s a).1 ≤ (s.size : Int) - (rv s a).2.1 - 4 then
    if 1 ≤ (rv s a).1.toNat ∧ (rv s a).1.toNat ≤ 9000 ∧ frameT (s.extract ((rv s a).2.1.toNat + 4) ((rv s a).2.1.toNat + 4 + (rv s a).1.toNat)) = s.extract a ((rv s a).2.1.toNat + 4 + (rv s a).1.toNat) then
      some (s.extract ((rv s a).2.1.toNat + 4) ((rv s a).2.1.toNat + 4 + (rv s a).1.toNat), (rv s a).2.1.toNat + 4 + (rv s a).1.toNat)
    else none
  else none

theorem rvGo_bd (s : ByteArray) : ∀ (f i k n : Nat), i ≤ s.size → (rvGo s f i k n).2.2 = true → 0 ≤ (rvGo s f i k n).1 ∧ (i : Int) < (rvGo s f i k n).2.1 ∧ (rvGo s f i k n).2.1 ≤ s.size
  | 0, i, k, n, _, h => by simp [rvGo] at h
  | f + 1, i, k, n, hi, h => by
    by_cases hs : i < s.size
    · by_cases hb : s[i].toNat < 128
      · by_cases hx : 1000000000 < n + s[i].toNat % 128 * 128 ^ k ∨ (s[i].toNat = 0 ∧ 0 < k)
        · rw [rvGo_bad hs hb hx] at h; simp at h
        · rw [rvGo_ok hs hb hx] at h ⊢
          simp only
          refine ⟨?_, ?_, ?_⟩ <;> omega
      · rw [rvGo_more hs hb] at h ⊢
        have := rvGo_bd s f (i + 1) (k + 1) _ (by omega) h
        omega
    · rw [rvGo_end hs] at h; simp at h
theorem rv_bd (s : ByteArray) (a : Nat) (ha : a ≤ s.size) (h : (rv s a).2.2 = true) : 0 ≤ (rv s a).1 ∧ (a : Int) < (rv s a).2.1 ∧ (rv s a).2.1 ≤ s.size := by
  rw [rv_in_eq ha] at h ⊢
  exact rvGo_bd s 5 a 0 0 ha h

theorem rdF_bd {s : ByteArray} {a e : Nat} {t : ByteArray} (ha : a ≤ s.size) (h : rdF s a = some (t, e)) : a < e ∧ e ≤ s.size := by
  unfold rdF at h
  split at h
  · rename_i hc
    split at h
    · have := rv_bd s a ha hc.1
      simp only [Option.some.injEq, Prod.mk.injEq] at h
      omega
    · simp at h
  · simp at h

/-- All frames from a place on. -/
def unf (s : ByteArray) : Nat → Nat → List (ByteArray × Nat)
  | 0, _ => []
  | f + 1, a => match rdF s a with
    | none => []
    | some x => x :: unf s f x.2
theorem unf_enough (s : ByteArray) : ∀ (f g a : Nat), a ≤ s.size → s.size - a < f → s.size - a < g → unf s f a = unf s g a
  | 0, _, _, _, h, _ => by omega
  | _ + 1, 0, _, _, _, h => by omega
  | f + 1, g + 1, a, ha, h1, h2 => by
    unfold unf
    cases h : rdF s a with
    | none => rfl
    | some x =>
      have := rdF_bd ha (h.trans (by rfl : some x = some (x.1, x.2)))
      simp only
      rw [unf_enough s f g x.2 (by omega) (by omega) (by omega)]
def frs (s : ByteArray) (a : Nat) : List (ByteArray × Nat) := unf s (s.size + 1) a
theorem frs_none {s : ByteArray} {a : Nat} (h : rdF s a = none) : frs s a = [] := by unfold frs unf; rw [h]
theorem frs_some {s : ByteArray} {a : Nat} {x : ByteArray × Nat} (ha : a ≤ s.size) (h : rdF s a = some x) : frs s a = x :: frs s x.2 := by
  have := rdF_bd ha (h.trans (by rfl : some x = some (x.1, x.2)))
  unfold frs
  rw [unf, h]
  simp only
  rw [unf_enough s s.size (s.size + 1) x.2 (by omega) (by omega) (by omega)]
theorem unf_len (s : ByteArray) : ∀ (f a : Nat), (unf s f a).length ≤ f
  | 0, _ => by simp [unf]
  | f + 1, a => by
    unfold unf
    cases rdF s a with
    | none => simp
    | some x => simp; exact unf_len s f x.2
theorem frs_len (s : ByteArray) (a : Nat) : (frs s a).length ≤ s.size + 1 := unf_len s _ a

theorem slice_two (s : ByteArray) (x y : Int) (wx : World) (h0 : 0 ≤ x) (h1 : x ≤ y) (h2 : y ≤ s.size) :
    (Instr.slice 9 (.string s) (some (.int .i64 x)) (some (.int .i64 y)) none).run Tryz.prog wx = .ok (.string (s.extract x.toNat y.toNat)) wx := by
  have := run_slice_string (P := Tryz.prog) wx 9 s .i64 .i64 x y Tryz.underlying9 (by omega) (by omega) (by omega)
  simpa using this

theorem readVar_is (s : ByteArray) (a : Nat) (w : World) (ha : a ≤ s.size) (hs : s.size ≤ 1048576) (x y : Int) (z : Bool) (h : rv s a = (x, y, z)) :
    Calls Tryz.prog 110 #[.string s, .int .i64 a] w fun e w' => e = .returned (.tuple #[.int .i64 x, .int .i64 y, .bool z]) ∧ w' = w := by
  have := readVar_in s a w ha hs
  rw [← rv_in_eq ha, h] at this
  exact this


set_option maxHeartbeats 400000 in
theorem readFrame_no1 (s : ByteArray) (a : Nat) (w : World) (ha : a ≤ s.size) (hs : s.size ≤ 20000) (x y : Int) (h : rv s a = (x, y, false)) :
    Calls Tryz.prog 91 #[.string s, .int .i64 a] w fun e w' => e = .returned (.tuple #[.string ByteArray.empty, .int .i64 0, .bool false]) ∧ Below w.heap.size w w' := by
  go_enter Tryz.func91, Tryz.ntmps91
  go_wp2_with (go_at_call 110; refine (readVar_is s a _ ha (by omega) x y false h).mono ?_; rintro e w' ⟨rfl, hw⟩; have hw2 := hw.symm; subst hw2)
  go_ret3
  exact ⟨rfl, Below.refl _ _⟩
set_option maxHeartbeats 400000 in
theorem readFrame_no2 (s : ByteArray) (a : Nat) (w : World) (ha : a ≤ s.size) (hs : s.size ≤ 20000) (x y : Int) (h : rv s a = (x, y, true)) (hx : (s.size : Int) - y - 4 < x) :
    Calls Tryz.prog 91 #[.string s, .int .i64 a] w fun e w' => e = .returned (.tuple #[.string ByteArray.empty, .int .i64 0, .bool false]) ∧ Below w.heap.size w w' := by
  have hb := rv_bd s a ha (by rw [h])
  rw [h] at hb
  obtain ⟨b1, b2, b3⟩ := hb
  simp only at b1 b2 b3
  have H : Hid (rv s a = (x, y, true)) := h
  clear h
  go_enter Tryz.func91, Tryz.ntmps91
  go_wp2_with (go_at_call 110; refine (readVar_is s a _ ha (by omega) x y true H.out).mono ?_; rintro e w' ⟨rfl, hw⟩; have hw2 := hw.symm; subst hw2)
  go_ret3
  exact ⟨rfl, Below.refl _ _⟩
set_option maxHeartbeats 400000 in
theorem readFrame_no3 (s : ByteArray) (a : Nat) (w : World) (ha : a ≤ s.size) (hs : s.size ≤ 20000) (x y : Int) (h : rv s a = (x, y, true)) (hx : x ≤ (s.size : Int) - y - 4) (hn : x < 1 ∨ 9000 < x) :
    Calls Tryz.prog 91 #[.string s, .int .i64 a] w fun e w' => e = .returned (.tuple #[.string ByteArray.empty, .int .i64 0, .bool false]) ∧ Below w.heap.size w w' := by
  have hb := rv_bd s a ha (by rw [h])
  rw [h] at hb
  obtain ⟨b1, b2, b3⟩ := hb
  simp only at b1 b2 b3
  have H : Hid (rv s a = (x, y, true)) := h
  have hsl := fun wx => slice_two s (y + 4) (y + 4 + x) wx (by omega) (by omega) (by omega)
  have HN : Hid ((s.extract (y + 4).toNat (y + 4 + x).toNat).size < 1 ∨ 9000 < (s.extract (y + 4).toNat (y + 4 + x).toNat).size) := by
    show _ ∨ _
    rw [ByteArray.size_extract]; omega
  have HZ : Hid ((s.extract (y + 4).toNat (y + 4 + x).toNat).size ≤ 9223372036854775807) := by
    show _ ≤ _
    rw [ByteArray.size_extract]; omega
  clear h hn
  go_enter Tryz.func91, Tryz.ntmps91
  go_wp2_with (first | (go_at_call 110; refine (readVar_is s a _ ha (by omega) x y true H.out).mono ?_; rintro e w' ⟨rfl, hw⟩; have hw2 := hw.symm; subst hw2) | (go_at_call 111; refine (frame_bad _ _ HZ.out HN.out).mono ?_; rintro e w1 ⟨rfl, hb1⟩))
  go_ret3
  exact ⟨rfl, hb1⟩
set_option maxHeartbeats 400000 in
theorem readFrame_no4 (s : ByteArray) (a : Nat) (w : World) (ht : TableIs w) (ha : a ≤ s.size) (hs : s.size ≤ 20000) (x y : Int) (h : rv s a = (x, y, true)) (hx : x ≤ (s.size : Int) - y - 4) (h1 : 1 ≤ x) (h2 : x ≤ 9000)
    (hne : frameT (s.extract (y + 4).toNat (y + 4 + x).toNat) ≠ s.extract a (y + 4 + x).toNat) :
    Calls Tryz.prog 91 #[.string s, .int .i64 a] w fun e w' => e = .returned (.tuple #[.string ByteArray.empty, .int .i64 0, .bool false]) ∧ Below w.heap.size w w' := by
  have hb := rv_bd s a ha (by rw [h])
  rw [h] at hb
  obtain ⟨b1, b2, b3⟩ := hb
  simp only at b1 b2 b3
  have H : Hid (rv s a = (x, y, true)) := h
  have hsl := fun wx => slice_two s (y + 4) (y + 4 + x) wx (by omega) (by omega) (by omega)
  have hsl2 := fun wx => slice_two s a (y + 4 + x) wx (by omega) (by omega) (by omega)
  simp only [Int.toNat_natCast] at hsl2
  have HZ : Hid (1 ≤ (s.extract (y + 4).toNat (y + 4 + x).toNat).size ∧ (s.extract (y + 4).toNat (y + 4 + x).toNat).size ≤ 9000) := by
    show _ ∧ _
    rw [ByteArray.size_extract]; omega
  have hq := ne_list hne
  clear h hne
  go_enter Tryz.func91, Tryz.ntmps91
  go_wp2_with (first | (go_at_call 110; refine (readVar_is s a _ ha (by omega) x y true H.out).mono ?_; rintro e w' ⟨rfl, hw⟩; have hw2 := hw.symm; subst hw2) | (go_at_call 111; refine (frame_ok _ _ HZ.out.1 HZ.out.2 ht).mono ?_; rintro e w1 ⟨rfl, hb1⟩))
  go_ret3
  exact ⟨rfl, hb1⟩
set_option maxHeartbeats 400000 in
theorem readFrame_yes (s : ByteArray) (a : Nat) (w : World) (ht : TableIs w) (ha : a ≤ s.size) (hs : s.size ≤ 20000) (x y : Int) (h : rv s a = (x, y, true)) (hx : x ≤ (s.size : Int) - y - 4) (h1 : 1 ≤ x) (h2 : x ≤ 9000)
    (he : frameT (s.extract (y + 4).toNat (y + 4 + x).toNat) = s.extract a (y + 4 + x).toNat) :
    Calls Tryz.prog 91 #[.string s, .int .i64 a] w fun e w' => e = .returned (.tuple #[.string (s.extract (y + 4).toNat (y + 4 + x).toNat), .int .i64 (y + 4 + x), .bool true]) ∧ Below w.heap.size w w' := by
  have hb := rv_bd s a ha (by rw [h])
  rw [h] at hb
  obtain ⟨b1, b2, b3⟩ := hb
  simp only at b1 b2 b3
  have H : Hid (rv s a = (x, y, true)) := h
  have hsl := fun wx => slice_two s (y + 4) (y + 4 + x) wx (by omega) (by omega) (by omega)
  have hsl2 := fun wx => slice_two s a (y + 4 + x) wx (by omega) (by omega) (by omega)
  simp only [Int.toNat_natCast] at hsl2
  have HZ : Hid (1 ≤ (s.extract (y + 4).toNat (y + 4 + x).toNat).size ∧ (s.extract (y + 4).toNat (y + 4 + x).toNat).size ≤ 9000) := by
    show _ ∧ _
    rw [ByteArray.size_extract]; omega
  have hq := eq_list he
  clear h he
  go_enter Tryz.func91, Tryz.ntmps91
  go_wp2_with (first | (go_at_call 110; refine (readVar_is s a _ ha (by omega) x y true H.out).mono ?_; rintro e w' ⟨rfl, hw⟩; have hw2 := hw.symm; subst hw2) | (go_at_call 111; refine (frame_ok _ _ HZ.out.1 HZ.out.2 ht).mono ?_; rintro e w1 ⟨rfl, hb1⟩) | (go_at_call 73; refine (clone_any _ _ (by have := HZ.out; omega)).mono ?_; rintro e w2 ⟨rfl, hb2⟩))
  go_ret3
  exact ⟨rfl, hb1.trans (hb2.mono hb1.size)⟩

/-- What readFrame answers. -/
def rfV : Option (ByteArray × Nat) → Value
  | none => .tuple #[.string ByteArray.empty, .int .i64 0, .bool false]
  | some x => .tuple #[.string x.1, .int .i64 x.2, .bool true]
theorem readFrame_any (s : ByteArray) (a : Nat) (w : World) (ht : TableIs w) (ha : a ≤ s.size) (hs : s.size ≤ 20000) (r : Option (ByteArray × Nat)) (hr : rdF s a = r) :
    Calls Tryz.prog 91 #[.string s, .int .i64 a] w fun e w' => e = .returned (rfV r) ∧ Below w.heap.size w w' := by
  subst hr
  obtain ⟨x, y, z, h⟩ : ∃ x y z, rv s a = (x, y, z) := ⟨_, _, _, rfl⟩
  unfold rdF
  rw [h]
  simp only
  cases z with
  | false => rw [if_neg (by simp)]; exact readFrame_no1 s a w ha hs x y h
  | true =>
    have hb := rv_bd s a ha (by rw [h])
    rw [h] at hb
    obtain ⟨b1, b2, b3⟩ := hb
    simp only at b1 b2 b3
    have e1 : (y + 4).toNat = y.toNat + 4 := by omega
    have e2 : (y + 4 + x).toNat = y.toNat + 4 + x.toNat := by omega
    have e3 : y + 4 + x = ((y.toNat + 4 + x.toNat : Nat) : Int) := by omega
    by_cases hx : x ≤ (s.size : Int) - y - 4
    · rw [if_pos ⟨rfl, hx⟩]
      by_cases h1 : 1 ≤ x.toNat ∧ x.toNat ≤ 9000
      · by_cases he : frameT (s.extract (y.toNat + 4) (y.toNat + 4 + x.toNat)) = s.extract a (y.toNat + 4 + x.toNat)
        · rw [if_pos ⟨h1.1, h1.2, he⟩]
          have := readFrame_yes s a w ht ha hs x y h hx (by omega) (by omega) (by rw [e1, e2]; exact he)
          rw [e1, e2, e3] at this
          exact this
        · rw [if_neg (fun hh => he hh.2.2)]
          exact readFrame_no4 s a w ht ha hs x y h hx (by omega) (by omega) (by rw [e1, e2]; exact he)
      · rw [if_neg (fun hh => h1 ⟨hh.1, hh.2.1⟩)]
        exact readFrame_no3 s a w ha hs x y h hx (by omega)
    · rw [if_neg (fun hh => hx hh.2)]
      exact readFrame_no2 s a w ha hs x y h (by omega)

end Go.Proofs.YtgpojfkdcdgloaaGreatDoor

namespace Go.Proofs.YtgpojfkdcdgloaaGreatDoor
open Go Go.RowKit

/-- A row of texts that the call owns, from block B on. -/
def ownsS (w : World) (B : Nat) (e : TypeId) (v : Value) (l : List ByteArray) : Prop := w.ownsRow B e 1 v l.length (l.map Value.string)

theorem ownsS.alloc {w : World} {B : Nat} {e : TypeId} {v : Value} {l : List ByteArray} (h : ownsS w B e v l) (o : Obj) : ownsS (w.alloc o) B e v l := World.ownsRow.alloc h o
theorem ownsS.drew {w : World} {B : Nat} {e : TypeId} {v : Value} {l : List ByteArray} (h : ownsS w B e v l) : ownsS w.drew B e v l := World.ownsRow.drew h
theorem ownsS_made (w : World) (B cap : Nat) (e : TypeId) (cur : Array Value) (hb : B ≤ w.heap.size) (hm : cap ≤ maxLen) (hs : cur.size = cap) :
    ownsS (w.alloc (.cells cur e)) B e (.slice (some ⟨w.heap.size, 0, none⟩) 0 cap) [] :=
  World.ownsRow_made w cur cap hb hm (by omega)
/-- What is owned stays so while nothing that is there is turned. -/
theorem ownsS.below {w w' : World} {B B' : Nat} {e : TypeId} {v : Value} {l : List ByteArray} (h : ownsS w B e v l) (hb : Below B' w w') (hB : ∀ k, v.ownBlock = some k → k < B') : ownsS w' B e v l := by
  refine ⟨h.1, ?_⟩
  rcases h.2 with hn | ⟨g, cap, cur, rfl, hb2, hgg, rest⟩
  · exact .inl hn
  · refine .inr ⟨g, cap, cur, rfl, hb2, ?_, rest⟩
    rw [hb.block g (hB g rfl)]
    exact hgg
theorem ownsS.all {w w' : World} {B : Nat} {e : TypeId} {v : Value} {l : List ByteArray} (h : ownsS w B e v l) (hb : Below w.heap.size w w') : ownsS w' B e v l :=
  h.below hb fun k hk => (h.lt k hk).2
theorem ownsS.mono {w : World} {B B' : Nat} {e : TypeId} {v : Value} {l : List ByteArray} (h : ownsS w B e v l) (hB : B' ≤ B) : ownsS w B' e v l := by
  refine ⟨h.1, ?_⟩
  rcases h.2 with hn | ⟨g, cap, cur, rfl, hb2, rest⟩
  · exact .inl hn
  · exact .inr ⟨g, cap, cur, rfl, by omega, rest⟩

/-- One text more behind a row of texts that the call owns. -/
theorem wpList_append_text {P : Program} (w w0 : World) {ops : Array Oper} {rest : List Oper} {o : Oper} {a : Act} {Q : Exit → Act → World → Prop} (hgd : o.guard = none) (s x : Operand) (t : TypeId)
    (ho : o.op = .call { callee := .builtin .append, args := #[s, x], argTypes := #[t, t] })
    (B : Nat) (e : TypeId) (ht : P.underlying t = some (.slice e)) (hi : (P.info? e).map (fun i => (i.zero, i.size, i.bytes)) = some (some (.string ByteArray.empty), 1, 16))
    (v : Value) (l : List ByteArray) (hs : a.eval s = v) (hown : ownsS w B e v l) (hbel : Below B w0 w)
    (ad : Addr) (c : Nat) (n : ByteArray) (hx : a.eval x = .slice (some ad) 1 c) (hc : w.cell? ad = some (.string n))
    (hlen : l.length < 8796093022207) (hB : B ≤ w.heap.size)
    (h : ∀ v' w', ownsS w' B e v' (l ++ [n]) → Below B w0 w' → wpList P ops Q rest (a.put o.dst v') w') : wpList P ops Q (o :: rest) a w := by
  obtain ⟨i0, hi0, hz0, hz1, hz2⟩ := info_parts hi
  refine wpList_append_own w hgd s x t ho B e i0 (.string ByteArray.empty) 1 16 ht hi0 hz0 hz1 hz2 rfl (by decide) v l.length _ hs hown ad 1 c [.string n] hx rfl ?_ ?_ (by unfold maxLen; omega) (by omega) hB ?_
  · intro j u hj
    match j, hj with
    | 0, hj => simp at hj; subst hj; simpa [Addr.add] using hc
  · intro u hu; simp at hu; subst hu; rfl
  · intro v' w' h1 h2 _
    refine h v' w' (by simpa [ownsS] using h1) (hbel.grown h2 hB fun k hk => (hown.lt k hk).1)

/-- Of a row that is not empty: where it lies, and what its cells hold. -/
theorem ownsS_form {w : World} {B : Nat} {e : TypeId} {v : Value} {l : List ByteArray} (h : ownsS w B e v l) (hne : l ≠ []) :
    ∃ g cap, v = .slice (some ⟨g, 0, none⟩) l.length cap ∧ B ≤ g ∧ g < w.heap.size ∧ l.length ≤ cap ∧ (∀ j (hj : j < l.length), w.cell? ⟨g, j, none⟩ = some (.string l[j])) ∧ ∀ j, w.frozen? ⟨g, j, none⟩ = false := by
  rcases h.2 with ⟨_, hn⟩ | ⟨g, cap, cur, rfl, hb, hg, hc, _⟩
  · exact absurd (List.eq_nil_of_length_eq_zero hn) hne
  · refine ⟨g, cap, rfl, hb, (h.lt g rfl).2, hc, fun j hj => ?_, fun j => World.ownsRow.frozenAt h j⟩
    rw [World.ownsRow.cellAt h j (by omega)]
    simp [hj]
theorem ownsS_empty {w : World} {B : Nat} {e : TypeId} {v : Value} (h : ownsS w B e v []) : ∃ ao cap, v = .slice ao 0 cap := by
  rcases h.2 with ⟨h, _⟩ | ⟨g, cap, cur, rfl, _⟩
  · exact ⟨none, 0, h⟩
  · exact ⟨_, _, rfl⟩
/-- A text stored into the row. -/
theorem ownsS_stored {w : World} {B : Nat} {e : TypeId} {g cap : Nat} {l : List ByteArray} (h : ownsS w B e (.slice (some ⟨g, 0, none⟩) l.length cap) l) (j : Nat) (t : ByteArray) :
    ownsS (w.setCell ⟨g, j, none⟩ (.string t)) B e (.slice (some ⟨g, 0, none⟩) l.length cap) (l.set j t) := by
  have := (World.ownsRow.stored h j (.string t)).1
  unfold ownsS
  simpa [List.map_set] using this

theorem ownsS_cell {w : World} {B : Nat} {e : TypeId} {g n cap : Nat} {l : List ByteArray} (h : ownsS w B e (.slice (some ⟨g, 0, none⟩) n cap) l) {k : Nat} (hk : k < n) :
    ∃ t, l[k]? = some t ∧ w.cell? ⟨g, k, none⟩ = some (.string t) ∧ w.frozen? ⟨g, k, none⟩ = false ∧ g < w.heap.size ∧ n = l.length := by
  have hn : n = l.length := by
    rcases h.2 with ⟨h', _⟩ | ⟨g', cap', cur, h', _⟩
    · simp at h'
    · simp only [Value.slice.injEq] at h'
      exact h'.2.1
  subst hn
  have hc := World.ownsRow.cellAt h k (by omega)
  refine ⟨l[k], List.getElem?_eq_getElem hk, ?_, World.ownsRow.frozenAt h k, (h.lt g rfl).2, rfl⟩
  rw [hc]
  simp [hk]
theorem ownsS_store {w : World} {B : Nat} {e : TypeId} {g n cap : Nat} {l : List ByteArray} (h : ownsS w B e (.slice (some ⟨g, 0, none⟩) n cap) l) (j : Nat) (t : ByteArray) :
    ownsS (w.setCell ⟨g, j, none⟩ (.string t)) B e (.slice (some ⟨g, 0, none⟩) n cap) (l.set j t) := by
  have hn : n = l.length := by
    rcases h.2 with ⟨h', _⟩ | ⟨g', cap', cur, h', _⟩
    · simp at h'
    · simp only [Value.slice.injEq] at h'
      exact h'.2.1
  subst hn
  exact ownsS_stored h j t
theorem set_same {l : List ByteArray} {k : Nat} {t : ByteArray} (h : l[k]? = some t) : l.set k t = l := by
  apply List.ext_getElem?
  intro j
  rw [List.getElem?_set]
  by_cases e : k = j
  · subst e
    rw [if_pos rfl, h]
    have : k < l.length := (List.getElem?_eq_some_iff.1 h).1
    simp [this]
  · rw [if_neg e]

end Go.Proofs.YtgpojfkdcdgloaaGreatDoor

namespace Go.Proofs.YtgpojfkdcdgloaaGreatDoor
open Go.RowKit

/-- The place behind the last of these frames. -/
def behindF (l : List (ByteArray × Nat)) (a : Nat) : Nat := l.foldl (fun _ x => x.2) a
theorem behindF_snoc (l : List (ByteArray × Nat)) (a : Nat) (x : ByteArray × Nat) : behindF (l ++ [x]) a = x.2 := by simp [behindF]
def recs (l : List (ByteArray × Nat)) : List ByteArray := l.map Prod.fst
theorem recs_snoc (l : List (ByteArray × Nat)) (x : ByteArray × Nat) : recs (l ++ [x]) = recs l ++ [x.1] := by simp [recs]
theorem recs_len (l : List (ByteArray × Nat)) : (recs l).length = l.length := by simp [recs]

theorem specReadVar_is (s : ByteArray) (a : Nat) (w : World) (_ha : a ≤ s.size) (hs : s.size ≤ 1048576) (x y : Int) (z : Bool) (h : rv s a = (x, y, z)) :
    Calls Tryz.prog 59 #[.string s, .int .i64 a] w fun e w' => e = .returned (.tuple #[.int .i64 x, .int .i64 y, .bool z]) ∧ Below w.heap.size w w' := specReadVar_any s a w hs x y z h

/-- Where the reading stands: these frames have come, and these are to come. -/
structure At (s : ByteArray) (pre : List (ByteArray × Nat)) (a : Nat) : Prop where
  le : a ≤ s.size
  all : frs s 0 = pre ++ frs s a
  last : behindF pre 0 = a
  len : pre.length ≤ a
theorem At.start (s : ByteArray) : At s [] 0 := ⟨Nat.zero_le _, rfl, rfl, Nat.le_refl _⟩
theorem At.next {s : ByteArray} {pre : List (ByteArray × Nat)} {a : Nat} {x : ByteArray × Nat} (h : At s pre a) (hr : rdF s a = some x) : At s (pre ++ [x]) x.2 := by
  have hb := rdF_bd h.le (hr.trans (by rfl : some x = some (x.1, x.2)))
  refine ⟨hb.2, ?_, behindF_snoc _ _ _, ?_⟩
  · rw [h.all, frs_some h.le hr]; simp
  · have := h.len; simp; omega
theorem At.stop {s : ByteArray} {pre : List (ByteArray × Nat)} {a : Nat} (h : At s pre a) (hr : rdF s a = none) : frs s 0 = pre ∧ behindF (frs s 0) 0 = a := by
  have : frs s 0 = pre := by rw [h.all, frs_none hr]; simp
  rw [this]
  exact ⟨rfl, h.last⟩

theorem rdF_no1 {s : ByteArray} {a : Nat} {x y : Int} (h : rv s a = (x, y, false)) : rdF s a = none := by
  unfold rdF; rw [h]; simp
theorem rdF_no2 {s : ByteArray} {a : Nat} {x y : Int} (h : rv s a = (x, y, true)) (hx : (s.size : Int) - y - 4 < x) : rdF s a = none := by
  unfold rdF; rw [h]; rw [if_neg (by intro hh; have := hh.2; simp only at this; omega)]
theorem rdF_no3 {s : ByteArray} {a : Nat} {x y : Int} (h : rv s a = (x, y, true)) (hn : x < 1 ∨ 9000 < x) : rdF s a = none := by
  unfold rdF; rw [h]
  split
  · rw [if_neg (by intro hh; have := hh.1; have := hh.2.1; simp only at *; omega)]
  · rfl
theorem rdF_no4 {s : ByteArray} {a : Nat} {x y : Int} (h : rv s a = (x, y, true)) (h0 : 0 ≤ x) (h1 : 0 ≤ y) (hne : frameT (s.extract (y + 4).toNat (y + 4 + x).toNat) ≠ s.extract a (y + 4 + x).toNat) : rdF s a = none := by
  have e1 : (y + 4).toNat = y.toNat + 4 := by omega
  have e2 : (y + 4 + x).toNat = y.toNat + 4 + x.toNat := by omega
  rw [e1, e2] at hne
  unfold rdF; rw [h]
  split
  · rw [if_neg (fun hh => hne hh.2.2)]
  · rfl
theorem rdF_yes {s : ByteArray} {a : Nat} {x y : Int} (h : rv s a = (x, y, true)) (h0 : 0 ≤ y) (hx : x ≤ (s.size : Int) - y - 4) (h1 : 1 ≤ x) (h2 : x ≤ 9000)
    (he : frameT (s.extract (y + 4).toNat (y + 4 + x).toNat) = s.extract a (y + 4 + x).toNat) : rdF s a = some (s.extract (y + 4).toNat (y + 4 + x).toNat, (y + 4 + x).toNat) := by
  have e1 : (y + 4).toNat = y.toNat + 4 := by omega
  have e2 : (y + 4 + x).toNat = y.toNat + 4 + x.toNat := by omega
  rw [e1, e2] at he ⊢
  unfold rdF; rw [h]
  rw [if_pos ⟨rfl, hx⟩, if_pos ⟨by simp only; omega, by simp only; omega, he⟩]

/-- What Unframe answers. -/
def UnPost (s : ByteArray) (w : World) (e : Ending) (w' : World) : Prop :=
  ∃ v, e = .returned (.tuple #[v, .int .i64 (behindF (frs s 0) 0)]) ∧ ownsS w' w.heap.size 9 v (recs (frs s 0)) ∧ Below w.heap.size w w'

theorem unStop {s : ByteArray} {w w' : World} {pre : List (ByteArray × Nat)} {a : Nat} {v : Value} (HA : Hid (At s pre a)) (hr : rdF s a = none) (ho : ownsS w' w.heap.size 9 v (recs pre)) (hb : Below w.heap.size w w') :
    UnPost s w (.returned (.tuple #[v, .int .i64 a])) w' := by
  obtain ⟨h1, h2⟩ := HA.out.stop hr
  exact ⟨v, by rw [h2], by rw [h1]; exact ho, hb⟩

set_option maxRecDepth 10000 in
set_option maxHeartbeats 1000000 in
theorem specUnframe_any (s : ByteArray) (w : World) (hs : s.size ≤ 20000) :
    Calls Tryz.prog 39 #[.string s] w (UnPost s w) := by
  go_enter Tryz.func39, Tryz.ntmps39
  go_wp2
  go_loopw [4, 5] (fun out pl wr => ∃ (pre : List (ByteArray × Nat)) (a : Nat), pl = .int .i64 a ∧ a ≤ s.size ∧ pre.length ≤ a ∧ Hid (At s pre a) ∧ ownsS wr w.heap.size 9 out (recs pre) ∧ Below w.heap.size w wr) (fun _ pl _ => s.size - (intOf pl).toNat)
  case atStart => exact ⟨[], 0, rfl, Nat.zero_le _, Nat.le_refl _, At.start s, ownsS_made _ _ _ _ _ (Nat.le_refl _) (by decide) rfl, (Below.refl _ _).alloc (Nat.le_refl _) _⟩
  case round =>
    obtain ⟨pre, a, rfl, ha, hlen, HA, hown, hbel⟩ := hrel
    have hsz := hbel.size
    by_cases hlt : a < s.size
    · obtain ⟨x, y, z, h⟩ : ∃ x y z, rv s a = (x, y, z) := ⟨_, _, _, rfl⟩
      have H : Hid (rv s a = (x, y, z)) := h
      clear h
      cases z with
      | false =>
        go_wp2_with (go_at_call 59; refine (specReadVar_is s a _ ha (by omega) x y false H.out).mono ?_; rintro e w1 ⟨rfl, hb1⟩)
        go_ret2
        exact unStop HA (rdF_no1 H.out) (hown.all hb1) (hbel.trans (hb1.mono hsz))
      | true =>
        have hb := rv_bd s a ha (by rw [H.out])
        rw [H.out] at hb
        obtain ⟨b1, b2, b3⟩ := hb
        simp only at b1 b2 b3
        by_cases hx : (s.size : Int) - y - 4 < x
        · go_wp2_with (go_at_call 59; refine (specReadVar_is s a _ ha (by omega) x y true H.out).mono ?_; rintro e w1 ⟨rfl, hb1⟩)
          go_ret2
          exact unStop HA (rdF_no2 H.out hx) (hown.all hb1) (hbel.trans (hb1.mono hsz))
        · have hsl := fun wx => slice_two s (y + 4) (y + 4 + x) wx (by omega) (by omega) (by omega)
          have hsl2 := fun wx => slice_two s a (y + 4 + x) wx (by omega) (by omega) (by omega)
          simp only [Int.toNat_natCast] at hsl2
          have HZ : Hid ((s.extract (y + 4).toNat (y + 4 + x).toNat).size = x.toNat) := by
            show _ = _
            rw [ByteArray.size_extract]; omega
          by_cases hn : x < 1 ∨ 9000 < x
          · have HN : Hid (x < 1 ∨ 9000 < x) := hn
            clear hn
            go_wp2_with (first | (go_at_call 59; refine (specReadVar_is s a _ ha (by omega) x y true H.out).mono ?_; rintro e w1 ⟨rfl, hb1⟩) | (go_at_call 43; refine (specFrame_bad _ _ (by rw [HZ.out]; omega) (by rw [HZ.out]; have := HN.out; omega)).mono ?_; rintro e w2 ⟨rfl, hb2⟩))
            go_ret2
            exact unStop HA (rdF_no3 H.out HN.out) ((hown.all hb1).all hb2) ((hbel.trans (hb1.mono hsz)).trans (hb2.mono (Nat.le_trans hsz hb1.size)))
          · have h1 : 1 ≤ x := by omega
            have h2 : x ≤ 9000 := by omega
            clear hn
            by_cases he : frameT (s.extract (y + 4).toNat (y + 4 + x).toNat) = s.extract a (y + 4 + x).toNat
            · have hq := eq_list he
              have HR : Hid (rdF s a = some (s.extract (y + 4).toNat (y + 4 + x).toNat, (y + 4 + x).toNat)) := rdF_yes H.out (by omega) (by omega) h1 h2 he
              clear he
              go_wp2_with (first | (go_at_call 59; refine (specReadVar_is s a _ ha (by omega) x y true H.out).mono ?_; rintro e w1 ⟨rfl, hb1⟩) | (go_at_call 43; refine (specFrame_ok _ _ (by rw [HZ.out]; omega) (by rw [HZ.out]; omega)).mono ?_; rintro e w2 ⟨rfl, hb2⟩; have hbel2 := ((hbel.trans (hb1.mono hsz)).trans (hb2.mono (Nat.le_trans hsz hb1.size))); have hsz2 := hbel2.size) | (at_builtin; refine wpList_append_text _ w rfl (.tmp 69) (.tmp 71) 77 rfl w.heap.size 9 Tryz.underlying77 info9 _ (recs pre) rfl (((hown.all hb1).all hb2).alloc _) (hbel2.alloc hsz2 _) ⟨w2.heap.size, 0, none⟩ 1 (s.extract (y + 4).toNat (y + 4 + x).toNat) rfl ?c1 ?c2 ?c3 ?_))
              case c1 => simp
              case c2 => rw [recs_len]; omega
              case c3 => simp; omega
              intro v' w3 hown3 hbel3
              clear hown hbel hsl hsl2
              have hv : (y + 4 + x).toNat ≤ s.size := by omega
              go_wp2
              go_roundw
              case rel => exact ⟨pre ++ [_], (y + 4 + x).toNat, by rw [Int.toNat_of_nonneg (by omega)], hv, by simp; omega, HA.out.next HR.out, by rw [recs_snoc]; exact hown3, hbel3⟩
              case measure => simp [intOf]; omega
            · have hq := ne_list he
              have HE : Hid (rdF s a = none) := rdF_no4 H.out (by omega) (by omega) he
              clear he
              go_wp2_with (first | (go_at_call 59; refine (specReadVar_is s a _ ha (by omega) x y true H.out).mono ?_; rintro e w1 ⟨rfl, hb1⟩) | (go_at_call 43; refine (specFrame_ok _ _ (by rw [HZ.out]; omega) (by rw [HZ.out]; omega)).mono ?_; rintro e w2 ⟨rfl, hb2⟩))
              go_ret2
              exact unStop HA HE.out ((hown.all hb1).all hb2) ((hbel.trans (hb1.mono hsz)).trans (hb2.mono (Nat.le_trans hsz hb1.size)))
    · have has : a = s.size := by omega
      have HE : Hid (rdF s a = none) := by
        refine rdF_no1 (x := 0) (y := 0) ?_
        rw [rv_in_eq ha, has]
        exact rvGo_end (by omega)
      go_wp2
      go_ret2
      exact unStop HA HE.out hown hbel

set_option maxHeartbeats 400000 in
theorem specUnframe_long (s : ByteArray) (w : World) (hs0 : s.size ≤ 9223372036854775807) (hs : 20000 < s.size) :
    Calls Tryz.prog 39 #[.string s] w fun e w' => ∃ v, e = .returned (.tuple #[v, .int .i64 0]) ∧ ownsS w' w.heap.size 9 v [] ∧ Below w.heap.size w w' := by
  go_enter Tryz.func39, Tryz.ntmps39
  go_wp2
  go_ret2
  exact ⟨_, rfl, ownsS_made _ _ _ _ _ (Nat.le_refl _) (by decide) rfl, (Below.refl _ _).alloc (Nat.le_refl _) _⟩

end Go.Proofs.YtgpojfkdcdgloaaGreatDoor

namespace Go.Proofs.YtgpojfkdcdgloaaGreatDoor
open Go.RowKit Go.Shelf
attribute [local go_sem] Oper.semAt_some

/-- What a round that goes on keeps: all that lay below, and the box of the file. -/
def KpF (n₀ Bn : Nat) (A B : World) : Prop := Below n₀ A B ∧ B.cell? ⟨Bn, 0, none⟩ = A.cell? ⟨Bn, 0, none⟩

/-- A record and the place behind its frame, as they come of a file that is not too long. -/
abbrev Fx := { x : ByteArray × Nat // x.1.size ≤ 20000 ∧ 1 ≤ x.2 ∧ x.2 ≤ 20000 }
def encF (x : Fx) : Array Value := #[Value.string x.1.1, Value.int .i64 x.1.2]
def valsF (l : List Fx) : List (ByteArray × Nat) := l.map Subtype.val
theorem valsF_snoc (l : List Fx) (x : Fx) : valsF (l ++ [x]) = valsF l ++ [x.1] := by simp [valsF]
theorem valsF_len (l : List Fx) : (valsF l).length = l.length := by simp [valsF]
/-- The frames of a file: none of one that is too long. -/
def frq (s : ByteArray) : List (ByteArray × Nat) := if s.size ≤ 20000 then frs s 0 else []
theorem frq_in {s : ByteArray} (h : s.size ≤ 20000) : frq s = frs s 0 := by simp [frq, h]
theorem frq_long {s : ByteArray} (h : 20000 < s.size) : frq s = [] := by unfold frq; rw [if_neg (by omega)]
theorem rdF_sz {s : ByteArray} {a e : Nat} {t : ByteArray} (h : rdF s a = some (t, e)) : t.size ≤ s.size := by
  unfold rdF at h
  split at h
  · split at h
    · simp only [Option.some.injEq, Prod.mk.injEq] at h
      rw [← h.1, ByteArray.size_extract]; omega
    · simp at h
  · simp at h
/-- What is read at a place, with its bounds. -/
def fxOf {s : ByteArray} {a e : Nat} {t : ByteArray} (hs : s.size ≤ 20000) (ha : a ≤ s.size) (h : rdF s a = some (t, e)) : Fx :=
  ⟨(t, e), by have := rdF_sz h; have := rdF_bd ha h; simp only; omega⟩

theorem readFrame_none (s : ByteArray) (a : Nat) (w : World) (ht : TableIs w) (ha : a ≤ s.size) (hs : s.size ≤ 20000) (hr : rdF s a = none) :
    Calls Tryz.prog 91 #[.string s, .int .i64 a] w fun e w' => e = .returned (.tuple #[.string ByteArray.empty, .int .i64 0, .bool false]) ∧ Below w.heap.size w w' := readFrame_any s a w ht ha hs none hr
theorem readFrame_some (s : ByteArray) (a : Nat) (w : World) (ht : TableIs w) (ha : a ≤ s.size) (hs : s.size ≤ 20000) (t : ByteArray) (b : Nat) (hr : rdF s a = some (t, b)) :
    Calls Tryz.prog 91 #[.string s, .int .i64 a] w fun e w' => e = .returned (.tuple #[.string t, .int .i64 b, .bool true]) ∧ Below w.heap.size w w' := readFrame_any s a w ht ha hs _ hr
theorem grown_of {A B : World} (h : Below A.heap.size A B) : A.grownBy B none := ⟨h.os, h.tape, h.output, h.size, fun k hk _ => h.block k hk⟩

set_option maxRecDepth 100000 in
set_option maxHeartbeats 1000000 in
theorem frames1_long (n : Nat) (l Bn : Nat) (s : ByteArray) (hs0 : s.size ≤ 1048576) (hs : 20000 < s.size) (J Jx : List Fx → World → Prop)
    (W : World) (hBn : W.cell? ⟨Bn, 0, none⟩ = some (.string s)) (h0 : J [] W) :
    CallsIn Fence.wide n Tryz.prog 90 #[.func (.yield l) #[] #[], .pointer (some ⟨Bn, 0, none⟩)] W fun e W' => (∃ v, e = .returned v) ∧
      ((∃ ys, valsF ys = frq s ∧ J ys W') ∨ (∃ pre, valsF pre <+: frq s ∧ Jx pre W')) := by
  have HQ : Hid (frq s = []) := frq_long hs
  have hs2 : (20000 : Int) < (s.size : Int) := by omega
  refine callsIn_of_wp Tryz.func90 rfl trivial ?_ rfl
  simp only [Tryz.ntmps90, List.size_toArray, List.length_cons, List.length_nil, Nat.reduceAdd, Nat.reduceSub, Array.replicate_succ, Array.replicate_zero, List.push_toArray, List.append_toArray, List.nil_append, List.cons_append]
  gi_wp2
  refine bodyPost_ret (results_none rfl _ _ _) rfl ?_
  exact ⟨⟨_, rfl⟩, .inl ⟨[], HQ.out.symm, h0⟩⟩

set_option maxRecDepth 100000 in
set_option maxHeartbeats 1000000 in
theorem frames1_in (n : Nat) (hn : 1 ≤ n) (l Bn : Nat) (s : ByteArray) (hs : s.size ≤ 20000) (w0 : World) (ht : TableIs w0) (J Jx : List Fx → World → Prop)
    (hJ0 : ∀ pre A B, J pre A → A.grownBy B none → J pre B)
    (hY : ∀ pre (x : Fx) W, J pre W → pre.length < 20001 → YieldAt Fence.wide (n - 1) Tryz.prog l #[Value.string x.1.1, Value.int .i64 (x.1.2 : Nat)] W fun e W' =>
      (e = .returned (.bool true) ∧ J (pre ++ [x]) W' ∧ KpF w0.heap.size Bn W W') ∨ (e = .returned (.bool false) ∧ Jx (pre ++ [x]) W'))
    (W : World) (hBn : W.cell? ⟨Bn, 0, none⟩ = some (.string s)) (hW : Below w0.heap.size w0 W) (h0 : J [] W) :
    CallsIn Fence.wide n Tryz.prog 90 #[.func (.yield l) #[] #[], .pointer (some ⟨Bn, 0, none⟩)] W fun e W' => (∃ v, e = .returned v) ∧
      ((∃ ys, valsF ys = frq s ∧ J ys W') ∨ (∃ pre, valsF pre <+: frq s ∧ Jx pre W')) := by
  rw [frq_in hs]
  have hs2 : ¬ (20000 : Int) < (s.size : Int) := by omega
  refine callsIn_of_wp Tryz.func90 rfl trivial ?_ rfl
  simp only [Tryz.ntmps90, List.size_toArray, List.length_cons, List.length_nil, Nat.reduceAdd, Nat.reduceSub, Array.replicate_succ, Array.replicate_zero, List.push_toArray, List.append_toArray, List.nil_append, List.cons_append]
  gi_wp2
  gi_loopw [3] (fun p wr => ∃ (pre : List Fx) (a : Nat), p = .int .i64 a ∧ a ≤ s.size ∧ Hid (At s (valsF pre) a) ∧ wr.cell? ⟨Bn, 0, none⟩ = some (.string s) ∧ Below w0.heap.size w0 wr ∧ J pre wr)
    (fun p _ => s.size - (intOf p).toNat)
  case atStart =>
    exact ⟨[], 0, rfl, Nat.zero_le _, At.start s, hBn, hW, h0⟩
  case round =>
    obtain ⟨pre, a, rfl, ha, HA, hc, hb, hJs⟩ := hrel
    have htr := ht.below hb
    have hpl : pre.length < 20001 := by have := HA.out.len; rw [valsF_len] at this; omega
    cases hr : rdF s a with
    | none =>
      have HR : Hid (rdF s a = none) := hr
      clear hr
      gi_wp2_with (refine ⟨trivial, ?_⟩; gi_at_call 91; refine (callsIn_wide.2 (readFrame_none s a _ htr ha hs HR.out)).mono ?_; rintro e w1 ⟨rfl, hb1⟩)
      refine ⟨fun _ h => (by cases h), ?_⟩
      gi_wp2
      refine bodyPost_ret (results_none rfl _ _ _) rfl ?_
      exact ⟨⟨_, rfl⟩, .inl ⟨pre, (HA.out.stop HR.out).1.symm, hJ0 _ _ _ hJs (grown_of hb1)⟩⟩
    | some x =>
      obtain ⟨t, e⟩ := x
      have HR : Hid (rdF s a = some (t, e)) := hr
      clear hr
      have hbd := rdF_bd ha HR.out
      obtain ⟨fx, HX⟩ : ∃ fx : Fx, Hid (fx.1 = (t, e)) := ⟨fxOf hs ha HR.out, rfl⟩
      have HP : Hid (valsF (pre ++ [fx]) <+: frs s 0) := by
        show _ <+: _
        rw [valsF_snoc, HX.out, (HA.out.next HR.out).all]; exact List.prefix_append _ _
      have HA2 : Hid (At s (valsF (pre ++ [fx])) e) := by
        show At s _ e
        rw [valsF_snoc, HX.out]; exact HA.out.next HR.out
      have HY2 : Hid (∀ W, J pre W → YieldAt Fence.wide (n - 1) Tryz.prog l #[Value.string t, Value.int .i64 (e : Nat)] W fun e W' =>
          (e = .returned (.bool true) ∧ J (pre ++ [fx]) W' ∧ KpF w0.heap.size Bn W W') ∨ (e = .returned (.bool false) ∧ Jx (pre ++ [fx]) W')) := fun W h => by
        have := hY pre fx W h hpl
        rw [HX.out] at this
        exact this
      gi_wp2_with (refine ⟨trivial, ?_⟩; gi_at_call 91; refine (callsIn_wide.2 (readFrame_some s a _ htr ha hs t e HR.out)).mono ?_; rintro e w1 ⟨rfl, hb1⟩; obtain ⟨fn, tmps, assign, body, hy, hR⟩ := HY2.out w1 (hJ0 _ _ _ hJs (grown_of hb1)))
      refine hR.mono ?_
      rintro e W3 (⟨rfl, hJ3, hk3⟩ | ⟨rfl, hJx3⟩)
      · have hc3 : W3.cell? ⟨Bn, 0, none⟩ = some (.string s) := hk3.2.trans ((hb1.cell (World.block_lt_of_cell? _ _ hc)).trans hc)
        gi_wp2
        go_roundw
        case rel => exact ⟨pre ++ [fx], e, rfl, hbd.2, HA2, hc3, (hb.trans (hb1.mono hb.size)).trans hk3.1, hJ3⟩
        case measure => simp [intOf]; omega
      · gi_wp2
        refine bodyPost_ret (results_none rfl _ _ _) rfl ?_
        exact ⟨⟨_, rfl⟩, .inr ⟨_, HP.out, hJx3⟩⟩

theorem frames_stops (n : Nat) (hn : 1 ≤ n) (Bn : Nat) (s : ByteArray) (hs : s.size ≤ 1048576) (w0 w : World) (ht : TableIs w0) (hBn : Bn < w.heap.size) (hc : w.cell? ⟨Bn, 0, none⟩ = some (.string s)) (hb : Below w0.heap.size w0 w) :
    SeqStopsK Fence.wide n Tryz.prog 90 #[.pointer (some ⟨Bn, 0, none⟩)] encF (KpF w0.heap.size Bn) (fun ys => valsF ys = frq s) (fun pre => valsF pre <+: frq s) 20001 w := fun l J Jx W hW hJ _ hY h0 => by
  have hc2 := (hW.cell (p := ⟨Bn, 0, none⟩) hBn).trans hc
  by_cases h : s.size ≤ 20000
  · exact frames1_in n hn l Bn s h w0 ht J Jx (fun pre A B hj hg => hJ pre A B none hj hg (fun r e => by cases e)) hY W hc2 (hb.trans (hW.mono hb.size)) h0
  · exact frames1_long n l Bn s hs (by omega) J Jx W hc2 h0

set_option maxHeartbeats 1000000 in
theorem framesOf_in (n : Nat) (s : ByteArray) (w : World) :
    CallsIn Fence.wide n Tryz.prog 75 #[.string s] w fun e w' => e = .returned (.func (.func 90) #[] #[.pointer (some ⟨w.heap.size, 0, none⟩)]) ∧ w' = w.alloc (.cells #[.string s] 9) := by
  refine callsIn_of_wp Tryz.func75 rfl trivial ?_ rfl
  simp only [Tryz.ntmps75, List.size_toArray, List.length_cons, List.length_nil, Nat.reduceAdd, Nat.reduceSub, Array.replicate_succ, Array.replicate_zero, List.push_toArray, List.append_toArray, List.nil_append, List.cons_append]
  gi_wp2
  go_ret
  exact ⟨rfl, rfl⟩

theorem kpF_t {n₀ Bn : Nat} {A B C : World} (h : KpF n₀ Bn A B) (k : KpF n₀ Bn B C) : KpF n₀ Bn A C := ⟨h.1.trans k.1, k.2.trans h.2⟩
theorem kpF_b {n₀ Bn : Nat} {w : World} (hn : n₀ ≤ w.heap.size) (hB : Bn < w.heap.size) (W : World) (l : Nat) (o o' : Obj) (hl : w.heap.size ≤ l) (h : W.heap[l]? = some o) (h1 : o.isCells = false) (h2 : o.isWalk = false) : KpF n₀ Bn W (W.putObj l o') :=
  ⟨belowK_b hn W l o o' hl h h1 h2, (belowK_b (n₀ := Bn + 1) (w := w) hB W l o o' hl h h1 h2).cell (p := ⟨Bn, 0, none⟩) (Nat.lt_succ_self _)⟩

/-- The post of a region that does not leave by itself. -/
def calmQ (Q : Exit → Act → World → Prop) : Exit → Act → World → Prop
  | .normal, a, w => Q .normal a w
  | _, _, _ => False
theorem wpIn_calm {F : Fence} {n : Nat} {P : Program} {c : Code} {Q : Exit → Act → World → Prop} {a : Act} {w : World} (h : c.wpIn F n P (calmQ Q) a w) : c.wpIn F n P Q a w :=
  Go.wpIn_mono h (fun e a w q => by cases e <;> first | exact q | exact q.elim)

end Go.Proofs.YtgpojfkdcdgloaaGreatDoor
