/-
  What the frames of a journal's file tell, one behind the other (plain mathematics). Journals: a record that is read, as the program does it: the walks. Journals: their boxes, as blocks; a first record and a head that are read, as the program does it: the walks. Journals: one more record, as the program takes it: the walk. Journals: a record that is none of theirs, as the program takes it: the walk. Journals: an entry more, as the program takes it: the walk. Journals: a file that is read, as the program does it: the walk over its frames.
-/
import Derived.Test.YtijmaplejpnggaaGreatDoorQ1
import Derived.Test.YtijmaplejpnggaaGreatDoorQ4
import Derived.Test.YtijmaplejpnggaaGreatDoorQ2
import Derived.Test.YtijmaplejpnggaaGreatDoorQ3
import Derived.Test.YtijmaplejpnggaaGreatDoorQ6
import Derived.BigRegion
import Derived.Deep.RegionWith
namespace Go.Proofs.YtijmaplejpnggaaGreatDoor
open Go Go.RowKit

/-- Whether a record is a mark and two numbers, and which. -/
def twoX (r : ByteArray) : Nat := (rv r 1).1.toNat
def twoY (r : ByteArray) : Nat := (rv r (rv r 1).2.1).1.toNat
def twoB (m : UInt8) (r : ByteArray) : Bool := (rv r 1).2.2 && (rv r (rv r 1).2.1).2.2 && ((pairT m (twoX r) (twoY r)).toList == r.toList)
theorem twoB_no1 {m : UInt8} {r : ByteArray} {x y : Int} (h : rv r 1 = (x, y, false)) : twoB m r = false := by unfold twoB; rw [h]; rfl
theorem twoB_no2 {m : UInt8} {r : ByteArray} {x y x2 y2 : Int} (h : rv r 1 = (x, y, true)) (h2 : rv r y = (x2, y2, false)) : twoB m r = false := by unfold twoB; rw [h]; dsimp only; rw [h2]; rfl
theorem twoB_in {m : UInt8} {r : ByteArray} {X Y X2 Y2 : Nat} (h : rv r 1 = ((X : Int), (Y : Int), true)) (h2 : rv r (Y : Int) = ((X2 : Int), (Y2 : Int), true)) : twoB m r = ((pairT m X X2).toList == r.toList) ∧ twoX r = X ∧ twoY r = X2 := by
  have e1 : twoX r = X := by unfold twoX; rw [h]; simp
  have e2 : twoY r = X2 := by unfold twoY; rw [h]; dsimp only; rw [h2]; simp
  refine ⟨?_, e1, e2⟩
  unfold twoB
  rw [e1, e2, h]
  dsimp only
  rw [h2]
  simp
theorem list_eq {a b : ByteArray} (h : (a.toList == b.toList) = true) : a = b := by
  rcases Decidable.em (a = b) with h2 | h2
  · exact h2
  · rw [ne_list h2] at h; cases h
theorem kAt_one (m : UInt8) (t : ByteArray) : kAt ((⟨#[m]⟩ : ByteArray) ++ t) 0 = m.toNat := by
  have h : 0 < ((⟨#[m]⟩ : ByteArray) ++ t).size := by rw [ByteArray.size_append, show (⟨#[m]⟩ : ByteArray).size = 1 from rfl]; omega
  rw [kAt_in h]
  congr 1
theorem twoB_first {m : UInt8} {r : ByteArray} (h : twoB m r = true) : kAt r 0 = m.toNat := by
  unfold twoB at h
  simp only [Bool.and_eq_true] at h
  rw [← list_eq h.2]
  unfold pairT
  rw [ByteArray.append_assoc]
  exact kAt_one m _
/-- What a record of an entry tells. -/
def rdI (r : ByteArray) : Nat := (rv r 1).1.toNat
def rdT (r : ByteArray) : Nat := (rv r (rv r 1).2.1).1.toNat
def rdA (r : ByteArray) : Nat := (rv r (rv r 1).2.1).2.1.toNat
def rdEn (r : ByteArray) : En := ⟨rdT r, kAt r (rdA r), dAt r (rdA r)⟩
def rdB (r : ByteArray) : Bool := (rv r 1).2.2 && (rv r (rv r 1).2.1).2.2 && decide ((rv r (rv r 1).2.1).2.1 < r.size) && okF r (rdI r) (rdT r) (rdA r)
theorem rdV_eq (r : ByteArray) : rdV r = if rdB r then .tuple #[.int .i64 (rdI r), .agg #[.int .i64 (rdEn r).term, .int .i64 (rdEn r).kind, .string (rdEn r).data], .bool true] else zeroV := by
  unfold rdV rdB
  by_cases h : (rv r 1).2.2 = true ∧ (rv r (rv r 1).2.1).2.2 = true ∧ (rv r (rv r 1).2.1).2.1 < r.size
  · rw [if_pos h, h.1, h.2.1, decide_eq_true h.2.2]
    simp only [Bool.true_and]
    rfl
  · rw [if_neg h]
    have : ((rv r 1).2.2 && (rv r (rv r 1).2.1).2.2 && decide ((rv r (rv r 1).2.1).2.1 < r.size)) = false := by
      rw [Bool.eq_false_iff]
      intro h2
      simp only [Bool.and_eq_true, decide_eq_true_eq] at h2
      exact h ⟨h2.1.1, h2.1.2, h2.2⟩
    rw [this]
    rfl
theorem rdB_ok {r : ByteArray} (h : rdB r = true) : okX (rdI r) (rdEn r).term (rdEn r).kind (rdEn r).data = true ∧ kAt r 0 = 69 := by
  unfold rdB at h
  simp only [Bool.and_eq_true] at h
  have h2 := h.2
  unfold okF at h2
  simp only [Bool.and_eq_true] at h2
  refine ⟨h2.1, ?_⟩
  rw [← list_eq h2.2]
  have e : textX (rdI r) (rdT r) (kAt r (rdA r)) (dAt r (rdA r)) = textE (rdI r) (rdT r) (kAt r (rdA r)) (dAt r (rdA r)) := by unfold textX; rw [h2.1]; rfl
  rw [e]
  unfold textE rawE
  simp only [ByteArray.append_assoc]
  exact kAt_one 69 _

/-- A journal but for its number. -/
structure Jn where
  t : Int
  v : Int
  s : Int
  st : Int
  l : List En
/-- One more record behind the first one. -/
def tellB (j : Jn) (r : ByteArray) : Bool := if kAt r 0 = 72 then twoB 72 r && hdB (twoX r) (twoY r) else rdB r && putB j.s j.st j.l (rdI r) (rdEn r)
def tellJ (j : Jn) (r : ByteArray) : Jn := if kAt r 0 = 72 then ⟨twoX r, twoY r, j.s, j.st, j.l⟩ else ⟨j.t, j.v, j.s, j.st, putsL j.s j.l (rdI r) (rdEn r)⟩
/-- The first record. -/
def begB (r : ByteArray) : Bool := twoB 66 r && okL (twoX r) (twoY r) []
def begJ (r : ByteArray) : Jn := ⟨0, 0, twoX r, twoY r, []⟩
def stepB (z : Jn × Nat) (r : ByteArray) : Bool := if z.2 = 0 then begB r else tellB z.1 r
def stepJ (z : Jn × Nat) (x : ByteArray × Nat) : Jn × Nat := if z.2 = 0 then (begJ x.1, x.2) else (tellJ z.1 x.1, x.2)
def goJ : Jn × Nat → List (ByteArray × Nat) → Jn × Nat
  | z, [] => z
  | z, x :: l => if stepB z x.1 then goJ (stepJ z x) l else z
def initJ : Jn × Nat := (⟨0, 0, 0, 0, []⟩, 0)
/-- What a file tells: a journal, and the place behind the last frame that is one of its own (0: none). -/
def rdJ (s : ByteArray) : Jn × Nat := goJ initJ (frq s)

/-- What holds of a journal that is being read. -/
structure JGood (z : Jn × Nat) : Prop where
  len : z.1.l.length ≤ 60
  sized : SizedE z.1.l
  first : z.2 = 0 → z = initJ
  place : z.2 ≤ 20000
theorem JGood.init : JGood initJ := ⟨by simp [initJ], fun f hf => by simp [initJ] at hf, fun _ => rfl, by simp [initJ]⟩
theorem okL_sized {s t : Int} {l : List En} (h : okL s t l = true) : l.length ≤ 60 ∧ SizedE l := by
  obtain ⟨_, _, _, _, h4, _, h6⟩ := okL_all h
  refine ⟨h4, fun f hf => ?_⟩
  obtain ⟨j, hj⟩ := List.getElem?_of_mem hf
  have hx := okL_okX h j f hj
  obtain ⟨_, _, _, _, _, h7, _⟩ := okX_out hx
  omega
theorem JGood.next {z : Jn × Nat} {x : ByteArray × Nat} (h : JGood z) (hb : stepB z x.1 = true) (h1 : 1 ≤ x.2) (h2 : x.2 ≤ 20000) : JGood (stepJ z x) := by
  unfold stepB at hb
  unfold stepJ
  split
  · exact ⟨by simp [begJ], fun f hf => by simp [begJ] at hf, fun h0 => by simp only at h0; omega, h2⟩
  · rename_i hz
    rw [if_neg hz] at hb
    unfold tellB at hb
    unfold tellJ
    split
    · exact ⟨h.len, h.sized, fun h0 => by simp only at h0; omega, h2⟩
    · rename_i hk
      rw [if_neg hk] at hb
      simp only [Bool.and_eq_true, putB] at hb
      have := okL_sized hb.2.2
      exact ⟨this.1, this.2, fun h0 => by simp only at h0; omega, h2⟩
theorem goJ_yes {z : Jn × Nat} {x : ByteArray × Nat} {l : List (ByteArray × Nat)} (h : stepB z x.1 = true) : goJ z (x :: l) = goJ (stepJ z x) l := by simp [goJ, h]
theorem goJ_no {z : Jn × Nat} {x : ByteArray × Nat} {l : List (ByteArray × Nat)} (h : stepB z x.1 = false) : goJ z (x :: l) = z := by simp [goJ, h]

end Go.Proofs.YtijmaplejpnggaaGreatDoor

namespace Go.Proofs.YtijmaplejpnggaaGreatDoor
open Go Go.RowKit

set_option maxRecDepth 10000 in
set_option maxHeartbeats 2000000 in
theorem readPair_any (m : UInt8) (r : ByteArray) (w : World) (hr : r.size ≤ 20000) :
    Calls Tryz.prog 129 #[.string ⟨#[m]⟩, .string r] w fun e w' => ∃ x y : Int, e = .returned (.tuple #[.int .i64 x, .int .i64 y, .bool (twoB m r)]) ∧ Below w.heap.size w w' ∧ (twoB m r = true → x = twoX r ∧ y = twoY r) := by
  have hz1 : ((⟨#[m]⟩ : ByteArray).size : Int) = 1 := rfl
  rcases h1 : rv r 1 with ⟨x, y, z⟩
  have H1 : Hid (rv r 1 = (x, y, z)) := h1
  have C1 : Hid (∀ w, Calls Tryz.prog 127 #[.string r, .int .i64 1] w fun e w' => e = .returned (.tuple #[.int .i64 x, .int .i64 y, .bool z]) ∧ Below w.heap.size w w') := fun w => (readVar_any r 1 w (by omega) x y z H1.out).mono fun e w' h => ⟨h.1, by rw [h.2]; exact Below.refl _ _⟩
  clear h1
  cases z with
  | false =>
    have HB : Hid (twoB m r = false) := twoB_no1 H1.out
    rw [HB.out]
    go_enter Tryz.func129, Tryz.ntmps129
    go_wp2_with fail
    refine Calls.mono (C1.out _) ?_
    rintro e w1 ⟨rfl, hb1⟩
    go_wp2
    go_ret3
    exact ⟨0, 0, rfl, hb1, fun h => by cases h⟩
  | true =>
    obtain ⟨X, Y, rfl, rfl, hX, hY0, hY⟩ := rv_in H1.out
    rcases h2 : rv r (Y : Int) with ⟨x2, y2, z2⟩
    have H2 : Hid (rv r (Y : Int) = (x2, y2, z2)) := h2
    have C2 : Hid (∀ w, Calls Tryz.prog 127 #[.string r, .int .i64 (Y : Int)] w fun e w' => e = .returned (.tuple #[.int .i64 x2, .int .i64 y2, .bool z2]) ∧ Below w.heap.size w w') := fun w => (readVar_any r Y w (by omega) x2 y2 z2 H2.out).mono fun e w' h => ⟨h.1, by rw [h.2]; exact Below.refl _ _⟩
    clear h2
    cases z2 with
    | false =>
      have HB : Hid (twoB m r = false) := twoB_no2 H1.out H2.out
      rw [HB.out]
      go_enter Tryz.func129, Tryz.ntmps129
      go_wp2_with fail
      refine Calls.mono (C1.out _) ?_
      rintro e w1 ⟨rfl, hb1⟩
      go_wp2_with fail
      refine Calls.mono (C2.out _) ?_
      rintro e w2 ⟨rfl, hb2⟩
      go_wp2
      go_ret3
      exact ⟨0, 0, rfl, Below.on hb1 hb2, fun h => by cases h⟩
    | true =>
      obtain ⟨X2, Y2, rfl, rfl, hX2, -, -⟩ := rv_in H2.out
      have HB : Hid (twoB m r = ((pairT m X X2).toList == r.toList) ∧ twoX r = X ∧ twoY r = X2) := twoB_in H1.out H2.out
      rw [HB.out.1, HB.out.2.1, HB.out.2.2]
      obtain ⟨q, HQ⟩ : ∃ q, Hid (((pairT m X X2).toList == r.toList) = q) := ⟨_, rfl⟩
      have hq := HQ.out
      rw [HQ.out]
      go_enter Tryz.func129, Tryz.ntmps129
      go_wp2_with fail
      refine Calls.mono (C1.out _) ?_
      rintro e w1 ⟨rfl, hb1⟩
      go_wp2_with fail
      refine Calls.mono (C2.out _) ?_
      rintro e w2 ⟨rfl, hb2⟩
      go_wp2_with fail
      refine Calls.mono (pairText_ok m X X2 _ hX hX2) ?_
      rintro e w3 ⟨rfl, hb3⟩
      go_wp2
      go_ret3
      exact ⟨X, X2, rfl, Below.on (Below.on hb1 hb2) hb3, fun _ => ⟨rfl, rfl⟩⟩

theorem first_is {r : ByteArray} (h : 1 ≤ r.size) : ((r.extract 0 1).toList == (⟨#[72]⟩ : ByteArray).toList) = decide (kAt r 0 = 72) := by
  have h0 : 0 < r.size := h
  rw [kAt_in h0]
  by_cases hk : r[0].toNat = 72
  · rw [decide_eq_true hk]
    refine eq_list ?_
    apply ByteArray.ext
    rw [ByteArray.data_extract]
    apply Array.ext
    · simp; exact Nat.min_eq_left h
    · intro i hi hi2
      have hi3 : i = 0 := by simp at hi2; omega
      subst hi3
      simp
      exact UInt8.toNat_inj.1 hk
  · rw [decide_eq_false hk]
    refine ne_list fun e => hk ?_
    have hz : 0 < (r.extract 0 1).size := by rw [ByteArray.size_extract]; omega
    have e2 : (r.extract 0 1)[0] = (72 : UInt8) := by
      have : ∀ (x : ByteArray) (hx : 0 < x.size), x = ⟨#[72]⟩ → x[0] = (72 : UInt8) := fun x hx hh => by subst hh; rfl
      exact this _ hz e
    have e3 : (r.extract 0 1)[0] = r[0] := by
      simp [ByteArray.getElem_extract]
    rw [← e3, e2]; rfl

set_option maxRecDepth 10000 in
set_option maxHeartbeats 1000000 in
theorem hasH_any (r : ByteArray) (w : World) (hr : r.size ≤ 20000) :
    Calls Tryz.prog 99 #[.string r, .string ⟨#[72]⟩] w fun e w' => e = .returned (.bool (decide (kAt r 0 = 72))) ∧ w' = w := by
  have hz1 : ((⟨#[72]⟩ : ByteArray).size : Int) = 1 := rfl
  have inner : ∀ w, Calls Tryz.prog 130 #[.string r, .string ⟨#[72]⟩] w fun e w' => e = .returned (.bool (decide (kAt r 0 = 72))) ∧ w' = w := fun w => by
    by_cases h : 1 ≤ r.size
    · have HQ : Hid (((r.extract 0 1).toList == ([72] : List UInt8)) = decide (kAt r 0 = 72)) := by
        have := first_is h
        rwa [show (⟨#[72]⟩ : ByteArray).toList = [72] from by rw [ByteArray.toList_eq]] at this
      rw [← HQ.out]
      have hsl : ∀ wx, (Instr.slice 9 (.string r) none (some (.int .i64 1)) none).run Tryz.prog wx = .ok (.string (r.extract 0 1)) wx := fun wx => by
        rw [run_slice_string_to_if wx 9 r .i64 1 Tryz.underlying9, if_pos (by omega)]
        rfl
      go_enter Tryz.func130, Tryz.ntmps130
      go_wp2
      go_ret
      exact ⟨rfl, rfl⟩
    · have hz : r.size = 0 := by omega
      have e : decide (kAt r 0 = 72) = false := by
        unfold kAt
        rw [dif_neg (by omega)]
        rfl
      rw [e]
      go_enter Tryz.func130, Tryz.ntmps130
      go_wp2
      go_ret
      exact ⟨rfl, rfl⟩
  go_enter Tryz.func99, Tryz.ntmps99
  go_wp2_with fail
  refine Calls.mono (inner _) ?_
  rintro e w1 ⟨rfl, hw⟩
  have hw2 := hw.symm
  subst hw2
  go_wp2
  go_ret
  exact ⟨rfl, rfl⟩

end Go.Proofs.YtijmaplejpnggaaGreatDoor

namespace Go.Proofs.YtijmaplejpnggaaGreatDoor
open Go Go.RowKit

/-- A box that holds a journal. -/
def B6 (W : World) (b : Nat) (x0 x1 x2 x3 x4 x5 : Value) : Prop := W.heap[b]? = some (.cells #[x0, x1, x2, x3, x4, x5] 26)
section
variable {W W' : World} {b : Nat} {x0 x1 x2 x3 x4 x5 : Value}
theorem B6.lt (h : B6 W b x0 x1 x2 x3 x4 x5) : b < W.heap.size := (Array.getElem?_eq_some_iff.1 h).1
theorem B6.belowB {B : Nat} (h : B6 W b x0 x1 x2 x3 x4 x5) (hb : Below B W W') (hB : b < B) : B6 W' b x0 x1 x2 x3 x4 x5 := (hb.block _ hB).trans h
theorem B6.up (h : B6 W b x0 x1 x2 x3 x4 x5) (hb : Below W.heap.size W W') : B6 W' b x0 x1 x2 x3 x4 x5 := h.belowB hb h.lt
theorem B6.c0 (h : B6 W b x0 x1 x2 x3 x4 x5) : W.cell? ⟨b, 0, none⟩ = some x0 := by simp [World.cell?, show W.heap[b]? = _ from h]
theorem B6.c1 (h : B6 W b x0 x1 x2 x3 x4 x5) : W.cell? ⟨b, 1, none⟩ = some x1 := by simp [World.cell?, show W.heap[b]? = _ from h]
theorem B6.c2 (h : B6 W b x0 x1 x2 x3 x4 x5) : W.cell? ⟨b, 2, none⟩ = some x2 := by simp [World.cell?, show W.heap[b]? = _ from h]
theorem B6.c3 (h : B6 W b x0 x1 x2 x3 x4 x5) : W.cell? ⟨b, 3, none⟩ = some x3 := by simp [World.cell?, show W.heap[b]? = _ from h]
theorem B6.c4 (h : B6 W b x0 x1 x2 x3 x4 x5) : W.cell? ⟨b, 4, none⟩ = some x4 := by simp [World.cell?, show W.heap[b]? = _ from h]
theorem B6.c5 (h : B6 W b x0 x1 x2 x3 x4 x5) : W.cell? ⟨b, 5, none⟩ = some x5 := by simp [World.cell?, show W.heap[b]? = _ from h]
theorem B6.fr (h : B6 W b x0 x1 x2 x3 x4 x5) (o : Nat) : W.frozen? ⟨b, o, none⟩ = false := by simp [World.frozen?, show W.heap[b]? = _ from h]
theorem B6.s0 (h : B6 W b x0 x1 x2 x3 x4 x5) (u : Value) : B6 (W.setCell ⟨b, 0, none⟩ u) b u x1 x2 x3 x4 x5 := by simp [B6, World.setCell, Array.getElem?_modify, show W.heap[b]? = _ from h]
theorem B6.s1 (h : B6 W b x0 x1 x2 x3 x4 x5) (u : Value) : B6 (W.setCell ⟨b, 1, none⟩ u) b x0 u x2 x3 x4 x5 := by simp [B6, World.setCell, Array.getElem?_modify, show W.heap[b]? = _ from h]
theorem B6.s2 (h : B6 W b x0 x1 x2 x3 x4 x5) (u : Value) : B6 (W.setCell ⟨b, 2, none⟩ u) b x0 x1 u x3 x4 x5 := by simp [B6, World.setCell, Array.getElem?_modify, show W.heap[b]? = _ from h]
theorem B6.s3 (h : B6 W b x0 x1 x2 x3 x4 x5) (u : Value) : B6 (W.setCell ⟨b, 3, none⟩ u) b x0 x1 x2 u x4 x5 := by simp [B6, World.setCell, Array.getElem?_modify, show W.heap[b]? = _ from h]
theorem B6.s4 (h : B6 W b x0 x1 x2 x3 x4 x5) (u : Value) : B6 (W.setCell ⟨b, 4, none⟩ u) b x0 x1 x2 x3 u x5 := by simp [B6, World.setCell, Array.getElem?_modify, show W.heap[b]? = _ from h]
theorem B6.s5 (h : B6 W b x0 x1 x2 x3 x4 x5) (u : Value) : B6 (W.setCell ⟨b, 5, none⟩ u) b x0 x1 x2 x3 x4 u := by simp [B6, World.setCell, Array.getElem?_modify, show W.heap[b]? = _ from h]
theorem B6.far {p : Addr} (h : B6 W b x0 x1 x2 x3 x4 x5) (hp : p.block ≠ b) (u : Value) : B6 (W.setCell p u) b x0 x1 x2 x3 x4 x5 := (heap_setCell_other W p b u (fun e => hp e.symm)).trans h
theorem B6.new (W : World) (x0 x1 x2 x3 x4 x5 : Value) : B6 (W.alloc (.cells #[x0, x1, x2, x3, x4, x5] 26)) W.heap.size x0 x1 x2 x3 x4 x5 := by
  show (W.heap.push _)[W.heap.size]? = _; simp
theorem B6.alloc (h : B6 W b x0 x1 x2 x3 x4 x5) (o : Obj) : B6 (W.alloc o) b x0 x1 x2 x3 x4 x5 := h.up (ba (Below.refl _ _) _)
theorem B6.drew (h : B6 W b x0 x1 x2 x3 x4 x5) : B6 W.drew b x0 x1 x2 x3 x4 x5 := h
/-- The six stores of a journal. -/
abbrev set6 (W : World) (b : Nat) (u0 u1 u2 u3 u4 u5 : Value) : World := (((((W.setCell ⟨b, 0, none⟩ u0).setCell ⟨b, 1, none⟩ u1).setCell ⟨b, 2, none⟩ u2).setCell ⟨b, 3, none⟩ u3).setCell ⟨b, 4, none⟩ u4).setCell ⟨b, 5, none⟩ u5
theorem B6.set (h : B6 W b x0 x1 x2 x3 x4 x5) (u0 u1 u2 u3 u4 u5 : Value) : B6 (set6 W b u0 u1 u2 u3 u4 u5) b u0 u1 u2 u3 u4 u5 := (((((h.s0 u0).s1 u1).s2 u2).s3 u3).s4 u4).s5 u5
theorem below_set6 {B : Nat} {A : World} (h : Below B A W) (hb : B ≤ b) (u0 u1 u2 u3 u4 u5 : Value) : Below B A (set6 W b u0 u1 u2 u3 u4 u5) :=
  Below.setCell (Below.setCell (Below.setCell (Below.setCell (Below.setCell (Below.setCell h hb _) hb _) hb _) hb _) hb _) hb _
theorem ownsR_set6 {α : Type} [Rec α] {B : Nat} {e : TypeId} {v : Value} {l : List α} (h : ownsR W B e v l) (hne : some b ≠ v.ownBlock) (u0 u1 u2 u3 u4 u5 : Value) : ownsR (set6 W b u0 u1 u2 u3 u4 u5) B e v l := by
  have k : ∀ {V : World} {j : Nat} {u : Value}, ownsR V B e v l → ownsR (V.setCell ⟨b, j, none⟩ u) B e v l := fun hV => World.ownsRow.kept hV (grown_set _ _ _ _) (.inr (fun h => hne h.symm))
  exact k (k (k (k (k (k h)))))
end
theorem not_row6 {w : World} {B b : Nat} {v : Value} {l : List En} {x0 x1 x2 x3 x4 x5 : Value} (h : B6 w b x0 x1 x2 x3 x4 x5) (ho : ownsR w B 84 v l) : some b ≠ v.ownBlock := by
  intro he
  obtain ⟨_, h2⟩ := ho
  rcases h2 with ⟨rfl, _⟩ | ⟨g', cap, cur, rfl, _, hg, _⟩
  · simp [Value.ownBlock] at he
  · simp only [Value.ownBlock, Option.some.injEq] at he
    subst he
    rw [show w.heap[b]? = _ from h] at hg
    simp only [Option.some.injEq, Obj.cells.injEq] at hg
    exact absurd hg.2.1 (by decide)
theorem ret_j2 {fn : Func} {p u : Tmp} {w : World} {g : Nat} {a b c d e f x : Value} {tmps : Array Value} (h : fn.results = #[.cell p 26, .tmp u]) (hp : tmps.getD p undef = .pointer (some ⟨g, 0, none⟩)) (hu : tmps.getD u undef = x) (hb : B6 w g a b c d e f) :
    (results fn tmps).run Tryz.prog w = .ok (.tuple #[.agg #[a, b, c, d, e, f], x]) w := by
  have hp' : tmps[p]?.getD undef = .pointer (some ⟨g, 0, none⟩) := by simpa using hp
  have hu' : tmps[u]?.getD undef = x := by simpa using hu
  simp [results, h, hp', hu', hb.c0, hb.c1, hb.c2, hb.c3, hb.c4, hb.c5, asAddr, go_sem]
theorem ret_j3 {fn : Func} {p u u2 : Tmp} {w : World} {g : Nat} {a b c d e f x y : Value} {tmps : Array Value} (h : fn.results = #[.cell p 26, .tmp u, .tmp u2]) (hp : tmps.getD p undef = .pointer (some ⟨g, 0, none⟩)) (hu : tmps.getD u undef = x) (hu2 : tmps.getD u2 undef = y) (hb : B6 w g a b c d e f) :
    (results fn tmps).run Tryz.prog w = .ok (.tuple #[.agg #[a, b, c, d, e, f], x, y]) w := by
  have hp' : tmps[p]?.getD undef = .pointer (some ⟨g, 0, none⟩) := by simpa using hp
  have hu' : tmps[u]?.getD undef = x := by simpa using hu
  have hu2' : tmps[u2]?.getD undef = y := by simpa using hu2
  simp [results, h, hp', hu', hu2', hb.c0, hb.c1, hb.c2, hb.c3, hb.c4, hb.c5, asAddr, go_sem]

set_option maxRecDepth 10000 in
set_option maxHeartbeats 4000000 in
theorem begun_any (n t v s st : Int) (ao : Option Addr) (k c : Nat) (r : ByteArray) (w : World) (hr : r.size ≤ 20000) :
    Calls Tryz.prog 98 #[jV n t v s st (.slice ao k c), .string r] w fun e w' => ∃ x y : Int, e = .returned (.tuple #[jV n t v x y (.slice none 0 0), .bool (begB r)]) ∧ Below w.heap.size w w' ∧ (twoB 66 r = true → x = twoX r ∧ y = twoY r) := by
  obtain ⟨q, HQ⟩ : ∃ q, Hid (twoB 66 r = q) := ⟨_, rfl⟩
  obtain ⟨q2, HQ2⟩ : ∃ q2, Hid (begB r = q2) := ⟨_, rfl⟩
  rw [HQ.out, HQ2.out]
  go_enter Tryz.func98, Tryz.ntmps98
  go_wp2_with fail
  refine Calls.mono (readPair_any 66 r _ hr) ?_
  rw [HQ.out]
  rintro e w1 ⟨x, y, rfl, hb1, hxy⟩
  have HXY : Hid (q = true → x = twoX r ∧ y = twoY r) := hxy
  clear hxy
  have J1 : B6 w1 w.heap.size (.int .i64 n) (.int .i64 t) (.int .i64 v) (.int .i64 s) (.int .i64 st) (.slice ao k c) := ((B6.new w _ _ _ _ _ _).alloc _).up hb1
  have Z1 : B6 w1 (w.heap.size + 1) (.int .i64 0) (.int .i64 0) (.int .i64 0) (.int .i64 0) (.int .i64 0) (.slice none 0 0) := by
    have := (B6.new (w.alloc (.cells #[.int .i64 n, .int .i64 t, .int .i64 v, .int .i64 s, .int .i64 st, .slice ao k c] 26)) (.int .i64 0) (.int .i64 0) (.int .i64 0) (.int .i64 0) (.int .i64 0) (.slice none 0 0)).up hb1
    simpa using this
  have B1 : Below w.heap.size w w1 := (ba (ba (Below.refl _ _) _) _).trans (hb1.mono (by simp; omega))
  clear hb1
  have a3 := J1.c3
  have a4 := J1.c4
  have a5 := J1.c5
  have f3 := J1.fr 3
  have f4 := J1.fr 4
  have f5 := J1.fr 5
  go_wp2
  have J2 := ((J1.s3 (.int .i64 x)).s4 (.int .i64 y)).s5 (.slice none 0 0)
  have Z2 := ((Z1.far (p := ⟨w.heap.size, 3, none⟩) (by simp) (.int .i64 x)).far (p := ⟨w.heap.size, 4, none⟩) (by simp) (.int .i64 y)).far (p := ⟨w.heap.size, 5, none⟩) (by simp) (.slice none 0 0)
  have B2 : Below w.heap.size w (((w1.setCell ⟨w.heap.size, 3, none⟩ (.int .i64 x)).setCell ⟨w.heap.size, 4, none⟩ (.int .i64 y)).setCell ⟨w.heap.size, 5, none⟩ (.slice none 0 0)) :=
    Below.setCell (Below.setCell (Below.setCell B1 (Nat.le_refl _) _) (Nat.le_refl _) _) (Nat.le_refl _) _
  obtain ⟨w2, hw2⟩ : ∃ w2, ((w1.setCell ⟨w.heap.size, 3, none⟩ (.int .i64 x)).setCell ⟨w.heap.size, 4, none⟩ (.int .i64 y)).setCell ⟨w.heap.size, 5, none⟩ (.slice none 0 0) = w2 := ⟨_, rfl⟩
  rw [hw2] at J2 Z2 B2 ⊢
  clear hw2 a3 a4 a5 f3 f4 f5 J1 Z1 B1
  have d0 := Wd.cell J2.c0
  have d1 := Wd.cell J2.c1
  have d2 := Wd.cell J2.c2
  have d3 := Wd.cell J2.c3
  have d4 := Wd.cell J2.c4
  have d5 := Wd.cell J2.c5
  have CL : Hid (∀ W, Calls Tryz.prog 113 #[.agg #[.int .i64 x, .int .i64 y, .slice none 0 0]] W fun e w' => e = .returned (.bool (okL x y [])) ∧ Below W.heap.size W w') := fun W => logOk_any (reads_none W none 0) (by simp) (fun f hf => by simp at hf)
  have HQ3 : Hid (q2 = (q && okL x y [])) := by
    show _ = _
    rw [← HQ2.out]
    unfold begB
    rw [HQ.out]
    cases q with
    | false => rfl
    | true => rw [(HXY.out rfl).1, (HXY.out rfl).2]
  obtain ⟨q3, HQ4⟩ : ∃ q3, Hid (okL x y [] = q3) := ⟨_, rfl⟩
  rw [HQ4.out] at CL HQ3
  have a0 := Z2.c0
  have a1 := Z2.c1
  have a2 := Z2.c2
  have a3 := Z2.c3
  have a4 := Z2.c4
  have a5 := Z2.c5
  have fr := Z2.fr
  have j0 := J2.c0
  have j1 := J2.c1
  have j2 := J2.c2
  have j3 := J2.c3
  have j4 := J2.c4
  have j5 := J2.c5
  clear d0 d1 d2 d3 d4 d5
  cases q with
  | false =>
    have hq2 : q2 = false := HQ3.out
    subst hq2
    have Z4 : B6 (((((((w2.setCell ⟨w.heap.size + 1, 0, none⟩ (.int .i64 n)).setCell ⟨w.heap.size + 1, 1, none⟩ (.int .i64 t)).setCell ⟨w.heap.size + 1, 2, none⟩ (.int .i64 v)).setCell ⟨w.heap.size + 1, 3, none⟩ (.int .i64 x)).setCell ⟨w.heap.size + 1, 4, none⟩ (.int .i64 y)).setCell ⟨w.heap.size + 1, 5, none⟩ (.slice none 0 0)).drew) (w.heap.size + 1) (.int .i64 n) (.int .i64 t) (.int .i64 v) (.int .i64 x) (.int .i64 y) (.slice none 0 0) := (Z2.set (.int .i64 n) (.int .i64 t) (.int .i64 v) (.int .i64 x) (.int .i64 y) (.slice none 0 0)).drew
    have B4 : Below w.heap.size w (((((((w2.setCell ⟨w.heap.size + 1, 0, none⟩ (.int .i64 n)).setCell ⟨w.heap.size + 1, 1, none⟩ (.int .i64 t)).setCell ⟨w.heap.size + 1, 2, none⟩ (.int .i64 v)).setCell ⟨w.heap.size + 1, 3, none⟩ (.int .i64 x)).setCell ⟨w.heap.size + 1, 4, none⟩ (.int .i64 y)).setCell ⟨w.heap.size + 1, 5, none⟩ (.slice none 0 0)).drew) := Below.drew (below_set6 B2 (Nat.le_succ _) _ _ _ _ _ _)
    go_region
    obtain ⟨w4, hw4⟩ : ∃ w4, ((((((w2.setCell ⟨w.heap.size + 1, 0, none⟩ (.int .i64 n)).setCell ⟨w.heap.size + 1, 1, none⟩ (.int .i64 t)).setCell ⟨w.heap.size + 1, 2, none⟩ (.int .i64 v)).setCell ⟨w.heap.size + 1, 3, none⟩ (.int .i64 x)).setCell ⟨w.heap.size + 1, 4, none⟩ (.int .i64 y)).setCell ⟨w.heap.size + 1, 5, none⟩ (.slice none 0 0)).drew = w4 := ⟨_, rfl⟩
    rw [hw4] at Z4 B4 ⊢
    clear hw4
    go_wp2
    exact bodyPost_ret (ret_j2 rfl rfl rfl Z4) rfl ⟨x, y, rfl, B4, fun h => by cases h⟩
  | true =>
    have hq2 : q2 = q3 := by rw [HQ3.out]; rfl
    subst hq2
    go_region_with ((go_at_call 113; refine (CL.out _).mono ?_; rintro e w3 ⟨rfl, hb3⟩; have B3 : Below w.heap.size w w3 := Below.trans (by first | exact B2 | exact Below.drew B2) (hb3.mono B2.size); have Z3 : B6 w3 (w.heap.size + 1) (.int .i64 0) (.int .i64 0) (.int .i64 0) (.int .i64 0) (.int .i64 0) (.slice none 0 0) := B6.up (by first | exact Z2 | exact Z2.drew) hb3; have J3 : B6 w3 w.heap.size (.int .i64 n) (.int .i64 t) (.int .i64 v) (.int .i64 x) (.int .i64 y) (.slice none 0 0) := B6.up (by first | exact J2 | exact J2.drew) hb3; have b0 := Z3.c0; have b1 := Z3.c1; have b2 := Z3.c2; have b3 := Z3.c3; have b4 := Z3.c4; have b5 := Z3.c5; have fr3 := Z3.fr; have i0 := J3.c0; have i1 := J3.c1; have i2 := J3.c2; have i3 := J3.c3; have i4 := J3.c4; have i5 := J3.c5))
    all_goals
      have Z4 : B6 ((((((w3.setCell ⟨w.heap.size + 1, 0, none⟩ (.int .i64 n)).setCell ⟨w.heap.size + 1, 1, none⟩ (.int .i64 t)).setCell ⟨w.heap.size + 1, 2, none⟩ (.int .i64 v)).setCell ⟨w.heap.size + 1, 3, none⟩ (.int .i64 x)).setCell ⟨w.heap.size + 1, 4, none⟩ (.int .i64 y)).setCell ⟨w.heap.size + 1, 5, none⟩ (.slice none 0 0)) (w.heap.size + 1) (.int .i64 n) (.int .i64 t) (.int .i64 v) (.int .i64 x) (.int .i64 y) (.slice none 0 0) := Z3.set (.int .i64 n) (.int .i64 t) (.int .i64 v) (.int .i64 x) (.int .i64 y) (.slice none 0 0)
      have B4 : Below w.heap.size w ((((((w3.setCell ⟨w.heap.size + 1, 0, none⟩ (.int .i64 n)).setCell ⟨w.heap.size + 1, 1, none⟩ (.int .i64 t)).setCell ⟨w.heap.size + 1, 2, none⟩ (.int .i64 v)).setCell ⟨w.heap.size + 1, 3, none⟩ (.int .i64 x)).setCell ⟨w.heap.size + 1, 4, none⟩ (.int .i64 y)).setCell ⟨w.heap.size + 1, 5, none⟩ (.slice none 0 0)) := below_set6 B3 (Nat.le_succ _) _ _ _ _ _ _
      obtain ⟨w4, hw4⟩ : ∃ w4, (((((w3.setCell ⟨w.heap.size + 1, 0, none⟩ (.int .i64 n)).setCell ⟨w.heap.size + 1, 1, none⟩ (.int .i64 t)).setCell ⟨w.heap.size + 1, 2, none⟩ (.int .i64 v)).setCell ⟨w.heap.size + 1, 3, none⟩ (.int .i64 x)).setCell ⟨w.heap.size + 1, 4, none⟩ (.int .i64 y)).setCell ⟨w.heap.size + 1, 5, none⟩ (.slice none 0 0) = w4 := ⟨_, rfl⟩
      rw [hw4] at Z4 B4 ⊢
      clear hw4
      go_wp2
      exact bodyPost_ret (ret_j2 rfl rfl rfl Z4) rfl ⟨x, y, rfl, B4, by first | exact HXY.out trivial | exact HXY.out⟩

set_option maxRecDepth 10000 in
set_option maxHeartbeats 4000000 in
theorem headed_any (n t v s st : Int) (ao : Option Addr) (k c : Nat) (r : ByteArray) (w : World) (hr : r.size ≤ 20000) :
    Calls Tryz.prog 100 #[jV n t v s st (.slice ao k c), .string r] w fun e w' => ∃ x y : Int, e = .returned (.tuple #[jV n x y s st (.slice ao k c), .bool (twoB 72 r && hdB (twoX r) (twoY r))]) ∧ Below w.heap.size w w' ∧ (twoB 72 r = true → x = twoX r ∧ y = twoY r) := by
  obtain ⟨q, HQ⟩ : ∃ q, Hid (twoB 72 r = q) := ⟨_, rfl⟩
  obtain ⟨q2, HQ2⟩ : ∃ q2, Hid ((twoB 72 r && hdB (twoX r) (twoY r)) = q2) := ⟨_, rfl⟩
  rw [HQ2.out, HQ.out]
  go_enter Tryz.func100, Tryz.ntmps100
  go_wp2_with fail
  refine Calls.mono (readPair_any 72 r _ hr) ?_
  rw [HQ.out]
  rintro e w1 ⟨x, y, rfl, hb1, hxy⟩
  have HXY : Hid (q = true → x = twoX r ∧ y = twoY r) := hxy
  clear hxy
  have J1 : B6 w1 w.heap.size (.int .i64 n) (.int .i64 t) (.int .i64 v) (.int .i64 s) (.int .i64 st) (.slice ao k c) := ((B6.new w _ _ _ _ _ _).alloc _).up hb1
  have Z1 : B6 w1 (w.heap.size + 1) (.int .i64 0) (.int .i64 0) (.int .i64 0) (.int .i64 0) (.int .i64 0) (.slice none 0 0) := by
    have := (B6.new (w.alloc (.cells #[.int .i64 n, .int .i64 t, .int .i64 v, .int .i64 s, .int .i64 st, .slice ao k c] 26)) (.int .i64 0) (.int .i64 0) (.int .i64 0) (.int .i64 0) (.int .i64 0) (.slice none 0 0)).up hb1
    simpa using this
  have B1 : Below w.heap.size w w1 := (ba (ba (Below.refl _ _) _) _).trans (hb1.mono (by simp; omega))
  clear hb1
  have a1 := J1.c1
  have a2 := J1.c2
  have f1 := J1.fr 1
  have f2 := J1.fr 2
  go_wp2
  have J2 := (J1.s1 (.int .i64 x)).s2 (.int .i64 y)
  have Z2 := (Z1.far (p := ⟨w.heap.size, 1, none⟩) (by simp) (.int .i64 x)).far (p := ⟨w.heap.size, 2, none⟩) (by simp) (.int .i64 y)
  have B2 : Below w.heap.size w ((w1.setCell ⟨w.heap.size, 1, none⟩ (.int .i64 x)).setCell ⟨w.heap.size, 2, none⟩ (.int .i64 y)) :=
    Below.setCell (Below.setCell B1 (Nat.le_refl _) _) (Nat.le_refl _) _
  obtain ⟨w2, hw2⟩ : ∃ w2, (w1.setCell ⟨w.heap.size, 1, none⟩ (.int .i64 x)).setCell ⟨w.heap.size, 2, none⟩ (.int .i64 y) = w2 := ⟨_, rfl⟩
  rw [hw2] at J2 Z2 B2 ⊢
  clear hw2 a1 a2 f1 f2 J1 Z1 B1
  have CL : Hid (∀ W, Calls Tryz.prog 112 #[.int .i64 x, .int .i64 y] W fun e w' => e = .returned (.bool (hdB x y)) ∧ w' = W) := fun W => isHead_any x y W
  have HQ3 : Hid (q2 = (q && hdB x y)) := by
    show _ = _
    rw [← HQ2.out, HQ.out]
    cases q with
    | false => rfl
    | true => rw [(HXY.out rfl).1, (HXY.out rfl).2]
  obtain ⟨q3, HQ4⟩ : ∃ q3, Hid (hdB x y = q3) := ⟨_, rfl⟩
  rw [HQ4.out] at CL HQ3
  have a0 := Z2.c0
  have a1 := Z2.c1
  have a2 := Z2.c2
  have a3 := Z2.c3
  have a4 := Z2.c4
  have a5 := Z2.c5
  have fr := Z2.fr
  have j0 := J2.c0
  have j1 := J2.c1
  have j2 := J2.c2
  have j3 := J2.c3
  have j4 := J2.c4
  have j5 := J2.c5
  have Z4 : B6 ((((((((w2).setCell ⟨w.heap.size + 1, 0, none⟩ (.int .i64 n)).setCell ⟨w.heap.size + 1, 1, none⟩ (.int .i64 x)).setCell ⟨w.heap.size + 1, 2, none⟩ (.int .i64 y)).setCell ⟨w.heap.size + 1, 3, none⟩ (.int .i64 s)).setCell ⟨w.heap.size + 1, 4, none⟩ (.int .i64 st)).setCell ⟨w.heap.size + 1, 5, none⟩ (.slice ao k c)).drew) (w.heap.size + 1) (.int .i64 n) (.int .i64 x) (.int .i64 y) (.int .i64 s) (.int .i64 st) (.slice ao k c) := (Z2.set (.int .i64 n) (.int .i64 x) (.int .i64 y) (.int .i64 s) (.int .i64 st) (.slice ao k c)).drew
  have B4 : Below w.heap.size w ((((((((w2).setCell ⟨w.heap.size + 1, 0, none⟩ (.int .i64 n)).setCell ⟨w.heap.size + 1, 1, none⟩ (.int .i64 x)).setCell ⟨w.heap.size + 1, 2, none⟩ (.int .i64 y)).setCell ⟨w.heap.size + 1, 3, none⟩ (.int .i64 s)).setCell ⟨w.heap.size + 1, 4, none⟩ (.int .i64 st)).setCell ⟨w.heap.size + 1, 5, none⟩ (.slice ao k c)).drew) := Below.drew (below_set6 B2 (Nat.le_succ _) _ _ _ _ _ _)
  cases q with
  | false =>
    have hq2 : q2 = false := HQ3.out
    subst hq2
    go_region
    obtain ⟨w4, hw4⟩ : ∃ w4, (((((((w2).setCell ⟨w.heap.size + 1, 0, none⟩ (.int .i64 n)).setCell ⟨w.heap.size + 1, 1, none⟩ (.int .i64 x)).setCell ⟨w.heap.size + 1, 2, none⟩ (.int .i64 y)).setCell ⟨w.heap.size + 1, 3, none⟩ (.int .i64 s)).setCell ⟨w.heap.size + 1, 4, none⟩ (.int .i64 st)).setCell ⟨w.heap.size + 1, 5, none⟩ (.slice ao k c)).drew = w4 := ⟨_, rfl⟩
    rw [hw4] at Z4 B4 ⊢
    clear hw4
    go_wp2
    exact bodyPost_ret (ret_j2 rfl rfl rfl Z4) rfl ⟨x, y, rfl, B4, fun h => by cases h⟩
  | true =>
    have hq2 : q2 = q3 := by rw [HQ3.out]; rfl
    subst hq2
    go_region_with ((go_at_call 112; refine (CL.out _).mono ?_; rintro e w' ⟨rfl, hw⟩; have hw2 := hw.symm; subst hw2))
    all_goals
      obtain ⟨w4, hw4⟩ : ∃ w4, (((((((w2).setCell ⟨w.heap.size + 1, 0, none⟩ (.int .i64 n)).setCell ⟨w.heap.size + 1, 1, none⟩ (.int .i64 x)).setCell ⟨w.heap.size + 1, 2, none⟩ (.int .i64 y)).setCell ⟨w.heap.size + 1, 3, none⟩ (.int .i64 s)).setCell ⟨w.heap.size + 1, 4, none⟩ (.int .i64 st)).setCell ⟨w.heap.size + 1, 5, none⟩ (.slice ao k c)).drew = w4 := ⟨_, rfl⟩
      rw [hw4] at Z4 B4 ⊢
      clear hw4
      go_wp2
      exact bodyPost_ret (ret_j2 rfl rfl rfl Z4) rfl ⟨x, y, rfl, B4, by first | exact HXY.out trivial | exact HXY.out⟩
end Go.Proofs.YtijmaplejpnggaaGreatDoor

namespace Go.Proofs.YtijmaplejpnggaaGreatDoor
open Go Go.RowKit

/-- What a journal is behind one more record. -/
def toldB (j : Jn) (r : ByteArray) (first : Bool) : Bool := if first then begB r else tellB j r
def toldJ (j : Jn) (r : ByteArray) (first : Bool) : Jn := if first then begJ r else tellJ j r
/-- What is answered of one more record. -/
def ToldP (n : Int) (j : Jn) (r : ByteArray) (first : Bool) (B : Nat) (w : World) (e : Ending) (w' : World) : Prop :=
  ∃ (n' t' v' s' st' : Int) (a' : Option Addr) (k' c' : Nat), e = .returned (.tuple #[jV n' t' v' s' st' (.slice a' k' c'), .bool (toldB j r first)]) ∧ Below w.heap.size w w' ∧
    (toldB j r first = true → n' = n ∧ t' = (toldJ j r first).t ∧ v' = (toldJ j r first).v ∧ s' = (toldJ j r first).s ∧ st' = (toldJ j r first).st ∧ ownsR w' B 84 (.slice a' k' c') (toldJ j r first).l)

set_option maxRecDepth 10000 in
set_option maxHeartbeats 4000000 in
theorem told_first (n : Int) (j : Jn) (ao : Option Addr) (k c : Nat) (r : ByteArray) (B : Nat) (w : World) (hr : r.size ≤ 20000) (ht : j.t = 0) (hv : j.v = 0) :
    Calls Tryz.prog 67 #[jV n j.t j.v j.s j.st (.slice ao k c), .string r, .bool true] w (ToldP n j r true B w) := by
  have HT : Hid (j.t = 0) := ht
  have HV : Hid (j.v = 0) := hv
  clear ht hv
  obtain ⟨q, HQ⟩ : ∃ q, Hid (begB r = q) := ⟨_, rfl⟩
  go_enter Tryz.func67, Tryz.ntmps67
  go_wp2_with fail
  have J0 := (B6.new w (.int .i64 n) (.int .i64 j.t) (.int .i64 j.v) (.int .i64 j.s) (.int .i64 j.st) (.slice ao k c)).alloc (.cells #[.int .i64 0, .int .i64 0, .int .i64 0, .int .i64 0, .int .i64 0, .slice none 0 0] 26)
  have Z0 : B6 ((w.alloc (.cells #[.int .i64 n, .int .i64 j.t, .int .i64 j.v, .int .i64 j.s, .int .i64 j.st, .slice ao k c] 26)).alloc (.cells #[.int .i64 0, .int .i64 0, .int .i64 0, .int .i64 0, .int .i64 0, .slice none 0 0] 26)) (w.heap.size + 1) (.int .i64 0) (.int .i64 0) (.int .i64 0) (.int .i64 0) (.int .i64 0) (.slice none 0 0) := by
    have := B6.new (w.alloc (.cells #[.int .i64 n, .int .i64 j.t, .int .i64 j.v, .int .i64 j.s, .int .i64 j.st, .slice ao k c] 26)) (.int .i64 0) (.int .i64 0) (.int .i64 0) (.int .i64 0) (.int .i64 0) (.slice none 0 0)
    simpa using this
  have B0 : Below w.heap.size w ((w.alloc (.cells #[.int .i64 n, .int .i64 j.t, .int .i64 j.v, .int .i64 j.s, .int .i64 j.st, .slice ao k c] 26)).alloc (.cells #[.int .i64 0, .int .i64 0, .int .i64 0, .int .i64 0, .int .i64 0, .slice none 0 0] 26)) := ba (ba (Below.refl _ _) _) _
  obtain ⟨W, hW⟩ : ∃ W, (w.alloc (.cells #[.int .i64 n, .int .i64 j.t, .int .i64 j.v, .int .i64 j.s, .int .i64 j.st, .slice ao k c] 26)).alloc (.cells #[.int .i64 0, .int .i64 0, .int .i64 0, .int .i64 0, .int .i64 0, .slice none 0 0] 26) = W := ⟨_, rfl⟩
  rw [hW] at J0 Z0 B0 ⊢
  clear hW
  refine Calls.mono (begun_any n j.t j.v j.s j.st ao k c r _ hr) ?_
  rw [HQ.out]
  rintro e w1 ⟨x, y, rfl, hb1, hxy⟩
  have HXY : Hid (twoB 66 r = true → x = twoX r ∧ y = twoY r) := hxy
  clear hxy
  have Z1 := Z0.up hb1
  have B1 := Below.on B0 hb1
  clear hb1 Z0 B0 J0
  have a0 := Z1.c0
  have a1 := Z1.c1
  have a2 := Z1.c2
  have a3 := Z1.c3
  have a4 := Z1.c4
  have a5 := Z1.c5
  have af := Z1.fr
  have Z4 : B6 (((((((w1).setCell ⟨w.heap.size + 1, 0, none⟩ (.int .i64 n)).setCell ⟨w.heap.size + 1, 1, none⟩ (.int .i64 j.t)).setCell ⟨w.heap.size + 1, 2, none⟩ (.int .i64 j.v)).setCell ⟨w.heap.size + 1, 3, none⟩ (.int .i64 x)).setCell ⟨w.heap.size + 1, 4, none⟩ (.int .i64 y)).setCell ⟨w.heap.size + 1, 5, none⟩ (.slice none 0 0)) (w.heap.size + 1) (.int .i64 n) (.int .i64 j.t) (.int .i64 j.v) (.int .i64 x) (.int .i64 y) (.slice none 0 0) := Z1.set (.int .i64 n) (.int .i64 j.t) (.int .i64 j.v) (.int .i64 x) (.int .i64 y) (.slice none 0 0)
  have B4 : Below w.heap.size w (((((((w1).setCell ⟨w.heap.size + 1, 0, none⟩ (.int .i64 n)).setCell ⟨w.heap.size + 1, 1, none⟩ (.int .i64 j.t)).setCell ⟨w.heap.size + 1, 2, none⟩ (.int .i64 j.v)).setCell ⟨w.heap.size + 1, 3, none⟩ (.int .i64 x)).setCell ⟨w.heap.size + 1, 4, none⟩ (.int .i64 y)).setCell ⟨w.heap.size + 1, 5, none⟩ (.slice none 0 0)) := below_set6 B1 (Nat.le_succ _) _ _ _ _ _ _
  go_wp2
  obtain ⟨w4, hw4⟩ : ∃ w4, ((((((w1).setCell ⟨w.heap.size + 1, 0, none⟩ (.int .i64 n)).setCell ⟨w.heap.size + 1, 1, none⟩ (.int .i64 j.t)).setCell ⟨w.heap.size + 1, 2, none⟩ (.int .i64 j.v)).setCell ⟨w.heap.size + 1, 3, none⟩ (.int .i64 x)).setCell ⟨w.heap.size + 1, 4, none⟩ (.int .i64 y)).setCell ⟨w.heap.size + 1, 5, none⟩ (.slice none 0 0) = w4 := ⟨_, rfl⟩
  rw [hw4] at Z4 B4 ⊢
  clear hw4
  refine bodyPost_ret (ret_j2 rfl rfl rfl Z4) rfl ⟨n, j.t, j.v, x, y, none, 0, 0, ?_, B4, fun hq => ?_⟩
  · unfold toldB; rw [if_pos rfl, HQ.out]; rfl
  · unfold toldB at hq
    rw [if_pos rfl] at hq
    have h2 : twoB 66 r = true := by unfold begB at hq; simp only [Bool.and_eq_true] at hq; exact hq.1
    unfold toldJ
    rw [if_pos rfl]
    exact ⟨rfl, HT.out, HV.out, (HXY.out h2).1, (HXY.out h2).2, ownsR_nil _ _ _⟩

set_option maxRecDepth 10000 in
set_option maxHeartbeats 4000000 in
theorem told_head (n : Int) (j : Jn) (ao : Option Addr) (k c : Nat) (r : ByteArray) (B : Nat) (w : World) (ho : ownsR w B 84 (.slice ao k c) j.l) (hr : r.size ≤ 20000) (hk : kAt r 0 = 72) :
    Calls Tryz.prog 67 #[jV n j.t j.v j.s j.st (.slice ao k c), .string r, .bool false] w (ToldP n j r false B w) := by
  have HK : Hid (kAt r 0 = 72) := hk
  have HO : Hid (ownsR w B 84 (.slice ao k c) j.l) := ho
  have CH : Hid (∀ W, Calls Tryz.prog 99 #[.string r, .string ⟨#[72]⟩] W fun e w' => e = .returned (.bool true) ∧ w' = W) := fun W => by
    have := hasH_any r W hr
    rw [decide_eq_true HK.out] at this
    exact this
  clear hk ho
  obtain ⟨q, HQ⟩ : ∃ q, Hid ((twoB 72 r && hdB (twoX r) (twoY r)) = q) := ⟨_, rfl⟩
  go_enter Tryz.func67, Tryz.ntmps67
  go_wp2_with fail
  have J0 := (B6.new w (.int .i64 n) (.int .i64 j.t) (.int .i64 j.v) (.int .i64 j.s) (.int .i64 j.st) (.slice ao k c)).alloc (.cells #[.int .i64 0, .int .i64 0, .int .i64 0, .int .i64 0, .int .i64 0, .slice none 0 0] 26)
  have Z0 : B6 ((w.alloc (.cells #[.int .i64 n, .int .i64 j.t, .int .i64 j.v, .int .i64 j.s, .int .i64 j.st, .slice ao k c] 26)).alloc (.cells #[.int .i64 0, .int .i64 0, .int .i64 0, .int .i64 0, .int .i64 0, .slice none 0 0] 26)) (w.heap.size + 1) (.int .i64 0) (.int .i64 0) (.int .i64 0) (.int .i64 0) (.int .i64 0) (.slice none 0 0) := by
    have := B6.new (w.alloc (.cells #[.int .i64 n, .int .i64 j.t, .int .i64 j.v, .int .i64 j.s, .int .i64 j.st, .slice ao k c] 26)) (.int .i64 0) (.int .i64 0) (.int .i64 0) (.int .i64 0) (.int .i64 0) (.slice none 0 0)
    simpa using this
  have B0 : Below w.heap.size w ((w.alloc (.cells #[.int .i64 n, .int .i64 j.t, .int .i64 j.v, .int .i64 j.s, .int .i64 j.st, .slice ao k c] 26)).alloc (.cells #[.int .i64 0, .int .i64 0, .int .i64 0, .int .i64 0, .int .i64 0, .slice none 0 0] 26)) := ba (ba (Below.refl _ _) _) _
  obtain ⟨W, hW⟩ : ∃ W, (w.alloc (.cells #[.int .i64 n, .int .i64 j.t, .int .i64 j.v, .int .i64 j.s, .int .i64 j.st, .slice ao k c] 26)).alloc (.cells #[.int .i64 0, .int .i64 0, .int .i64 0, .int .i64 0, .int .i64 0, .slice none 0 0] 26) = W := ⟨_, rfl⟩
  rw [hW] at J0 Z0 B0 ⊢
  clear hW
  refine Calls.mono (CH.out _) ?_
  rintro e w' ⟨rfl, hw⟩
  have hw2 := hw.symm
  subst hw2
  have i0 := J0.c0
  have i1 := J0.c1
  have i2 := J0.c2
  have i3 := J0.c3
  have i4 := J0.c4
  have i5 := J0.c5
  go_wp2_with fail
  refine Calls.mono (headed_any n j.t j.v j.s j.st ao k c r _ hr) ?_
  rw [HQ.out]
  rintro e w1 ⟨x, y, rfl, hb1, hxy⟩
  have HXY : Hid (twoB 72 r = true → x = twoX r ∧ y = twoY r) := hxy
  clear hxy
  have Z1 := Z0.up hb1
  have B1 := Below.on B0 hb1
  clear hb1 Z0 B0 J0 i0 i1 i2 i3 i4 i5
  have a0 := Z1.c0
  have a1 := Z1.c1
  have a2 := Z1.c2
  have a3 := Z1.c3
  have a4 := Z1.c4
  have a5 := Z1.c5
  have af := Z1.fr
  have Z4 : B6 (((((((w1).setCell ⟨w.heap.size + 1, 0, none⟩ (.int .i64 n)).setCell ⟨w.heap.size + 1, 1, none⟩ (.int .i64 x)).setCell ⟨w.heap.size + 1, 2, none⟩ (.int .i64 y)).setCell ⟨w.heap.size + 1, 3, none⟩ (.int .i64 j.s)).setCell ⟨w.heap.size + 1, 4, none⟩ (.int .i64 j.st)).setCell ⟨w.heap.size + 1, 5, none⟩ (.slice ao k c)) (w.heap.size + 1) (.int .i64 n) (.int .i64 x) (.int .i64 y) (.int .i64 j.s) (.int .i64 j.st) (.slice ao k c) := Z1.set (.int .i64 n) (.int .i64 x) (.int .i64 y) (.int .i64 j.s) (.int .i64 j.st) (.slice ao k c)
  have B4 : Below w.heap.size w (((((((w1).setCell ⟨w.heap.size + 1, 0, none⟩ (.int .i64 n)).setCell ⟨w.heap.size + 1, 1, none⟩ (.int .i64 x)).setCell ⟨w.heap.size + 1, 2, none⟩ (.int .i64 y)).setCell ⟨w.heap.size + 1, 3, none⟩ (.int .i64 j.s)).setCell ⟨w.heap.size + 1, 4, none⟩ (.int .i64 j.st)).setCell ⟨w.heap.size + 1, 5, none⟩ (.slice ao k c)) := below_set6 B1 (Nat.le_succ _) _ _ _ _ _ _
  go_wp2
  obtain ⟨w4, hw4⟩ : ∃ w4, ((((((w1).setCell ⟨w.heap.size + 1, 0, none⟩ (.int .i64 n)).setCell ⟨w.heap.size + 1, 1, none⟩ (.int .i64 x)).setCell ⟨w.heap.size + 1, 2, none⟩ (.int .i64 y)).setCell ⟨w.heap.size + 1, 3, none⟩ (.int .i64 j.s)).setCell ⟨w.heap.size + 1, 4, none⟩ (.int .i64 j.st)).setCell ⟨w.heap.size + 1, 5, none⟩ (.slice ao k c) = w4 := ⟨_, rfl⟩
  rw [hw4] at Z4 B4 ⊢
  clear hw4
  refine bodyPost_ret (ret_j2 rfl rfl rfl Z4) rfl ⟨n, x, y, j.s, j.st, ao, k, c, ?_, B4, fun hq => ?_⟩
  · unfold toldB tellB; rw [if_neg (by simp), if_pos HK.out, HQ.out]; rfl
  · unfold toldB tellB at hq
    rw [if_neg (by simp), if_pos HK.out] at hq
    simp only [Bool.and_eq_true] at hq
    unfold toldJ tellJ
    rw [if_neg (by simp), if_pos HK.out]
    exact ⟨rfl, (HXY.out hq.1).1, (HXY.out hq.1).2, rfl, rfl, HO.out.all B4⟩

end Go.Proofs.YtijmaplejpnggaaGreatDoor

namespace Go.Proofs.YtijmaplejpnggaaGreatDoor
open Go Go.RowKit

set_option maxRecDepth 10000 in
set_option maxHeartbeats 4000000 in
theorem told_not (n : Int) (j : Jn) (ao : Option Addr) (k c : Nat) (r : ByteArray) (B : Nat) (w : World) (hr : r.size ≤ 20000) (hk : kAt r 0 ≠ 72) (he : rdB r = false) :
    Calls Tryz.prog 67 #[jV n j.t j.v j.s j.st (.slice ao k c), .string r, .bool false] w (ToldP n j r false B w) := by
  have HK : Hid (kAt r 0 ≠ 72) := hk
  have HE : Hid (rdB r = false) := he
  have CH : Hid (∀ W, Calls Tryz.prog 99 #[.string r, .string ⟨#[72]⟩] W fun e w' => e = .returned (.bool false) ∧ w' = W) := fun W => by
    have := hasH_any r W hr
    rw [decide_eq_false HK.out] at this
    exact this
  have CR : Hid (∀ W, Calls Tryz.prog 101 #[.string r] W fun e w' => e = .returned (.tuple #[.int .i64 0, .agg #[.int .i64 0, .int .i64 0, .string ByteArray.empty], .bool false]) ∧ Below W.heap.size W w') := fun W => by
    have := readEntry_any r W (by omega)
    rw [rdV_eq, HE.out] at this
    exact this
  clear hk he
  go_enter Tryz.func67, Tryz.ntmps67
  go_wp2_with fail
  have J0 := (B6.new w (.int .i64 n) (.int .i64 j.t) (.int .i64 j.v) (.int .i64 j.s) (.int .i64 j.st) (.slice ao k c)).alloc (.cells #[.int .i64 0, .int .i64 0, .int .i64 0, .int .i64 0, .int .i64 0, .slice none 0 0] 26)
  have Z0 : B6 ((w.alloc (.cells #[.int .i64 n, .int .i64 j.t, .int .i64 j.v, .int .i64 j.s, .int .i64 j.st, .slice ao k c] 26)).alloc (.cells #[.int .i64 0, .int .i64 0, .int .i64 0, .int .i64 0, .int .i64 0, .slice none 0 0] 26)) (w.heap.size + 1) (.int .i64 0) (.int .i64 0) (.int .i64 0) (.int .i64 0) (.int .i64 0) (.slice none 0 0) := by
    have := B6.new (w.alloc (.cells #[.int .i64 n, .int .i64 j.t, .int .i64 j.v, .int .i64 j.s, .int .i64 j.st, .slice ao k c] 26)) (.int .i64 0) (.int .i64 0) (.int .i64 0) (.int .i64 0) (.int .i64 0) (.slice none 0 0)
    simpa using this
  have B0 : Below w.heap.size w ((w.alloc (.cells #[.int .i64 n, .int .i64 j.t, .int .i64 j.v, .int .i64 j.s, .int .i64 j.st, .slice ao k c] 26)).alloc (.cells #[.int .i64 0, .int .i64 0, .int .i64 0, .int .i64 0, .int .i64 0, .slice none 0 0] 26)) := ba (ba (Below.refl _ _) _) _
  obtain ⟨W, hW⟩ : ∃ W, (w.alloc (.cells #[.int .i64 n, .int .i64 j.t, .int .i64 j.v, .int .i64 j.s, .int .i64 j.st, .slice ao k c] 26)).alloc (.cells #[.int .i64 0, .int .i64 0, .int .i64 0, .int .i64 0, .int .i64 0, .slice none 0 0] 26) = W := ⟨_, rfl⟩
  rw [hW] at J0 Z0 B0 ⊢
  clear hW
  refine Calls.mono (CH.out _) ?_
  rintro e w' ⟨rfl, hw⟩
  have hw2 := hw.symm
  subst hw2
  go_wp2_with fail
  refine Calls.mono (CR.out _) ?_
  rintro e w1 ⟨rfl, hb1⟩
  have Z1 := (Z0.up hb1).alloc (.cells #[.int .i64 0, .int .i64 0, .string ByteArray.empty] 84)
  have B1 := ba (Below.on B0 hb1) (.cells #[.int .i64 0, .int .i64 0, .string ByteArray.empty] 84)
  have hl1 : w.heap.size + 1 < w1.heap.size := (Z0.up hb1).lt
  have e0 : (w1.alloc (.cells #[.int .i64 0, .int .i64 0, .string ByteArray.empty] 84)).cell? ⟨w1.heap.size, 0, none⟩ = some (.int .i64 0) := by simp [go_sem]
  have e1 : (w1.alloc (.cells #[.int .i64 0, .int .i64 0, .string ByteArray.empty] 84)).cell? ⟨w1.heap.size, 1, none⟩ = some (.int .i64 0) := by simp [go_sem]
  have e2 : (w1.alloc (.cells #[.int .i64 0, .int .i64 0, .string ByteArray.empty] 84)).cell? ⟨w1.heap.size, 2, none⟩ = some (.string ByteArray.empty) := by simp [go_sem]
  have g0 : (w1.alloc (.cells #[.int .i64 0, .int .i64 0, .string ByteArray.empty] 84)).frozen? ⟨w1.heap.size, 0, none⟩ = false := by simp [go_sem]
  have g1 : (w1.alloc (.cells #[.int .i64 0, .int .i64 0, .string ByteArray.empty] 84)).frozen? ⟨w1.heap.size, 1, none⟩ = false := by simp [go_sem]
  have g2 : (w1.alloc (.cells #[.int .i64 0, .int .i64 0, .string ByteArray.empty] 84)).frozen? ⟨w1.heap.size, 2, none⟩ = false := by simp [go_sem]
  obtain ⟨WX, hWX⟩ : ∃ WX, w1.alloc (.cells #[.int .i64 0, .int .i64 0, .string ByteArray.empty] 84) = WX := ⟨_, rfl⟩
  rw [hWX] at Z1 B1 e0 e1 e2 g0 g1 g2
  clear hb1 Z0 B0 J0
  have a0 := Z1.c0
  have a1 := Z1.c1
  have a2 := Z1.c2
  have a3 := Z1.c3
  have a4 := Z1.c4
  have a5 := Z1.c5
  have af := Z1.fr
  have Z4 : B6 (((((((WX).setCell ⟨w.heap.size + 1, 0, none⟩ (.int .i64 0)).setCell ⟨w.heap.size + 1, 1, none⟩ (.int .i64 0)).setCell ⟨w.heap.size + 1, 2, none⟩ (.int .i64 0)).setCell ⟨w.heap.size + 1, 3, none⟩ (.int .i64 0)).setCell ⟨w.heap.size + 1, 4, none⟩ (.int .i64 0)).setCell ⟨w.heap.size + 1, 5, none⟩ (.slice none 0 0)) (w.heap.size + 1) (.int .i64 0) (.int .i64 0) (.int .i64 0) (.int .i64 0) (.int .i64 0) (.slice none 0 0) := Z1.set (.int .i64 0) (.int .i64 0) (.int .i64 0) (.int .i64 0) (.int .i64 0) (.slice none 0 0)
  have B4 : Below w.heap.size w (((((((WX).setCell ⟨w.heap.size + 1, 0, none⟩ (.int .i64 0)).setCell ⟨w.heap.size + 1, 1, none⟩ (.int .i64 0)).setCell ⟨w.heap.size + 1, 2, none⟩ (.int .i64 0)).setCell ⟨w.heap.size + 1, 3, none⟩ (.int .i64 0)).setCell ⟨w.heap.size + 1, 4, none⟩ (.int .i64 0)).setCell ⟨w.heap.size + 1, 5, none⟩ (.slice none 0 0)) := below_set6 B1 (Nat.le_succ _) _ _ _ _ _ _
  go_wp2
  obtain ⟨w4, hw4⟩ : ∃ w4, ((((((WX).setCell ⟨w.heap.size + 1, 0, none⟩ (.int .i64 0)).setCell ⟨w.heap.size + 1, 1, none⟩ (.int .i64 0)).setCell ⟨w.heap.size + 1, 2, none⟩ (.int .i64 0)).setCell ⟨w.heap.size + 1, 3, none⟩ (.int .i64 0)).setCell ⟨w.heap.size + 1, 4, none⟩ (.int .i64 0)).setCell ⟨w.heap.size + 1, 5, none⟩ (.slice none 0 0) = w4 := ⟨_, rfl⟩
  rw [hw4] at Z4 B4 ⊢
  clear hw4
  have HF : Hid (toldB j r false = false) := by show _ = _; unfold toldB tellB; rw [if_neg (by simp), if_neg HK.out, HE.out]; rfl
  refine bodyPost_ret (ret_j2 rfl rfl rfl Z4) rfl ⟨0, 0, 0, 0, 0, none, 0, 0, ?_, B4, fun hq => ?_⟩
  · rw [HF.out]; rfl
  · rw [HF.out] at hq; cases hq

end Go.Proofs.YtijmaplejpnggaaGreatDoor

namespace Go.Proofs.YtijmaplejpnggaaGreatDoor
open Go Go.RowKit

set_option maxRecDepth 10000 in
set_option maxHeartbeats 4000000 in
theorem told_entry (n : Int) (j : Jn) (ao : Option Addr) (k c : Nat) (r : ByteArray) (B : Nat) (w : World) (ho : ownsR w B 84 (.slice ao k c) j.l) (hB : B ≤ w.heap.size) (hl : j.l.length ≤ 60) (hz : SizedE j.l) (hr : r.size ≤ 20000) (hk : kAt r 0 ≠ 72) (he : rdB r = true) :
    Calls Tryz.prog 67 #[jV n j.t j.v j.s j.st (.slice ao k c), .string r, .bool false] w (ToldP n j r false B w) := by
  have HK : Hid (kAt r 0 ≠ 72) := hk
  have HE : Hid (rdB r = true) := he
  have HO : Hid (ownsR w B 84 (.slice ao k c) j.l) := ho
  have HZ : Hid (SizedE j.l) := hz
  have HD : Hid ((rdEn r).data.size ≤ 1048576) := by
    obtain ⟨_, _, _, _, _, h6, _⟩ := okX_out (rdB_ok he).1
    show _ ≤ _; omega
  have HC : Hid (k = j.l.length ∧ k ≤ c) := by
    obtain ⟨a', c', e, hc⟩ := ho.cap
    simp only [Value.slice.injEq] at e
    obtain ⟨_, rfl, rfl⟩ := e
    exact ⟨rfl, hc⟩
  have CH : Hid (∀ W, Calls Tryz.prog 99 #[.string r, .string ⟨#[72]⟩] W fun e w' => e = .returned (.bool false) ∧ w' = W) := fun W => by
    have := hasH_any r W hr
    rw [decide_eq_false HK.out] at this
    exact this
  have CR : Hid (∀ W, Calls Tryz.prog 101 #[.string r] W fun e w' => e = .returned (.tuple #[.int .i64 (rdI r), .agg #[.int .i64 (rdEn r).term, .int .i64 (rdEn r).kind, .string (rdEn r).data], .bool true]) ∧ Below W.heap.size W w') := fun W => by
    have := readEntry_any r W (by omega)
    rw [rdV_eq, HE.out] at this
    exact this
  have CP : Hid (∀ W, Below w.heap.size w W → Calls Tryz.prog 102 #[.agg #[.int .i64 j.s, .int .i64 j.st, .slice ao k c], .int .i64 (rdI r), .agg #[.int .i64 (rdEn r).term, .int .i64 (rdEn r).kind, .string (rdEn r).data]] W fun e w' => ∃ v, e = .returned (.tuple #[.agg #[.int .i64 (putS j.s j.st j.l (rdI r) (rdEn r)), .int .i64 (putT j.s j.st j.l (rdI r) (rdEn r)), v], .bool (putB j.s j.st j.l (rdI r) (rdEn r))]) ∧ ownsR w' W.heap.size 84 v (putE j.s j.st j.l (rdI r) (rdEn r)) ∧ Below W.heap.size W w') := fun W hb =>
    logPut_try j.s j.st (rdI r) (rdEn r).term (rdEn r).kind (rdEn r).data ao k c j.l W (HO.out.reads.below hb) HC.out.2 (by have := HC.out.1; omega) HZ.out HD.out
  obtain ⟨ps, HPS⟩ : ∃ q, Hid (putS j.s j.st j.l (rdI r) (rdEn r) = q) := ⟨_, rfl⟩
  obtain ⟨pt, HPT⟩ : ∃ q, Hid (putT j.s j.st j.l (rdI r) (rdEn r) = q) := ⟨_, rfl⟩
  obtain ⟨q, HQ⟩ : ∃ q, Hid (putB j.s j.st j.l (rdI r) (rdEn r) = q) := ⟨_, rfl⟩
  rw [HPS.out, HPT.out, HQ.out] at CP
  clear hk he ho hz
  go_enter Tryz.func67, Tryz.ntmps67
  go_wp2_with fail
  have J0 := (B6.new w (.int .i64 n) (.int .i64 j.t) (.int .i64 j.v) (.int .i64 j.s) (.int .i64 j.st) (.slice ao k c)).alloc (.cells #[.int .i64 0, .int .i64 0, .int .i64 0, .int .i64 0, .int .i64 0, .slice none 0 0] 26)
  have Z0 : B6 ((w.alloc (.cells #[.int .i64 n, .int .i64 j.t, .int .i64 j.v, .int .i64 j.s, .int .i64 j.st, .slice ao k c] 26)).alloc (.cells #[.int .i64 0, .int .i64 0, .int .i64 0, .int .i64 0, .int .i64 0, .slice none 0 0] 26)) (w.heap.size + 1) (.int .i64 0) (.int .i64 0) (.int .i64 0) (.int .i64 0) (.int .i64 0) (.slice none 0 0) := by
    have := B6.new (w.alloc (.cells #[.int .i64 n, .int .i64 j.t, .int .i64 j.v, .int .i64 j.s, .int .i64 j.st, .slice ao k c] 26)) (.int .i64 0) (.int .i64 0) (.int .i64 0) (.int .i64 0) (.int .i64 0) (.slice none 0 0)
    simpa using this
  have B0 : Below w.heap.size w ((w.alloc (.cells #[.int .i64 n, .int .i64 j.t, .int .i64 j.v, .int .i64 j.s, .int .i64 j.st, .slice ao k c] 26)).alloc (.cells #[.int .i64 0, .int .i64 0, .int .i64 0, .int .i64 0, .int .i64 0, .slice none 0 0] 26)) := ba (ba (Below.refl _ _) _) _
  obtain ⟨W, hW⟩ : ∃ W, (w.alloc (.cells #[.int .i64 n, .int .i64 j.t, .int .i64 j.v, .int .i64 j.s, .int .i64 j.st, .slice ao k c] 26)).alloc (.cells #[.int .i64 0, .int .i64 0, .int .i64 0, .int .i64 0, .int .i64 0, .slice none 0 0] 26) = W := ⟨_, rfl⟩
  rw [hW] at J0 Z0 B0 ⊢
  clear hW
  refine Calls.mono (CH.out _) ?_
  rintro e w' ⟨rfl, hw⟩
  have hw2 := hw.symm
  subst hw2
  go_wp2_with fail
  refine Calls.mono (CR.out _) ?_
  rintro e w1 ⟨rfl, hb1⟩
  have J1 := J0.up hb1
  have Z1 := Z0.up hb1
  have B1 := Below.on B0 hb1
  have hl1 : w.heap.size + 1 < w1.heap.size := Z1.lt
  have hl0 : w.heap.size < w1.heap.size := Nat.lt_of_succ_lt hl1
  clear hb1 Z0 B0 J0
  have i0 := J1.c0
  have i1 := J1.c1
  have i2 := J1.c2
  have i3 := J1.c3
  have i4 := J1.c4
  have i5 := J1.c5
  go_wp2_with fail
  have J2 := J1.alloc (.cells #[.int .i64 (rdEn r).term, .int .i64 (rdEn r).kind, .string (rdEn r).data] 84)
  have Z2 := Z1.alloc (.cells #[.int .i64 (rdEn r).term, .int .i64 (rdEn r).kind, .string (rdEn r).data] 84)
  have B2 := ba B1 (.cells #[.int .i64 (rdEn r).term, .int .i64 (rdEn r).kind, .string (rdEn r).data] 84)
  refine Calls.mono (CP.out _ B2) ?_
  rintro e w2 ⟨v5, rfl, ho5, hb2⟩
  obtain ⟨av, kv, cv, rfl⟩ := ho5.slice3
  have HO5 : Hid (ownsR w2 B 84 (.slice av kv cv) (putE j.s j.st j.l (rdI r) (rdEn r))) := ho5.mono (Nat.le_trans hB B2.size)
  have J3 := J2.up hb2
  have Z3 := Z2.up hb2
  have B3 := Below.on B2 hb2
  clear hb2 J2 Z2 B2 J1 Z1 B1 i0 i1 i2 i3 i4 i5 hl1 hl0 ho5
  have i0 := J3.c0
  have i1 := J3.c1
  have i2 := J3.c2
  have i3 := J3.c3
  have i4 := J3.c4
  have i5 := J3.c5
  have ifr := J3.fr
  have a0 := Z3.c0
  have a1 := Z3.c1
  have a2 := Z3.c2
  have a3 := Z3.c3
  have a4 := Z3.c4
  have a5 := Z3.c5
  have af := Z3.fr
  have J4 := ((J3.s3 (.int .i64 ps)).s4 (.int .i64 pt)).s5 (.slice av kv cv)
  have Z4 := ((Z3.far (p := ⟨w.heap.size, 3, none⟩) (by simp) (.int .i64 ps)).far (p := ⟨w.heap.size, 4, none⟩) (by simp) (.int .i64 pt)).far (p := ⟨w.heap.size, 5, none⟩) (by simp) (.slice av kv cv)
  have B4 : Below w.heap.size w ((((w2).setCell ⟨w.heap.size, 3, none⟩ (.int .i64 ps)).setCell ⟨w.heap.size, 4, none⟩ (.int .i64 pt)).setCell ⟨w.heap.size, 5, none⟩ (.slice av kv cv)) := Below.setCell (Below.setCell (Below.setCell B3 (Nat.le_refl _) _) (Nat.le_refl _) _) (Nat.le_refl _) _
  have HO6 : Hid (ownsR ((((w2).setCell ⟨w.heap.size, 3, none⟩ (.int .i64 ps)).setCell ⟨w.heap.size, 4, none⟩ (.int .i64 pt)).setCell ⟨w.heap.size, 5, none⟩ (.slice av kv cv)) B 84 (.slice av kv cv) (putE j.s j.st j.l (rdI r) (rdEn r))) := by
    have hne := not_row6 J3 HO5.out
    have kk : ∀ {V : World} {j' : Nat} {u : Value}, ownsR V B 84 (.slice av kv cv) (putE j.s j.st j.l (rdI r) (rdEn r)) → ownsR (V.setCell ⟨w.heap.size, j', none⟩ u) B 84 (.slice av kv cv) (putE j.s j.st j.l (rdI r) (rdEn r)) := fun hV => World.ownsRow.kept hV (grown_set _ _ _ _) (.inr (fun h => hne h.symm))
    exact kk (kk (kk HO5.out))
  have Z5 : B6 (((((((((((w2).setCell ⟨w.heap.size, 3, none⟩ (.int .i64 ps)).setCell ⟨w.heap.size, 4, none⟩ (.int .i64 pt)).setCell ⟨w.heap.size, 5, none⟩ (.slice av kv cv))).setCell ⟨w.heap.size + 1, 0, none⟩ (.int .i64 n)).setCell ⟨w.heap.size + 1, 1, none⟩ (.int .i64 j.t)).setCell ⟨w.heap.size + 1, 2, none⟩ (.int .i64 j.v)).setCell ⟨w.heap.size + 1, 3, none⟩ (.int .i64 ps)).setCell ⟨w.heap.size + 1, 4, none⟩ (.int .i64 pt)).setCell ⟨w.heap.size + 1, 5, none⟩ (.slice av kv cv)) (w.heap.size + 1) (.int .i64 n) (.int .i64 j.t) (.int .i64 j.v) (.int .i64 ps) (.int .i64 pt) (.slice av kv cv) := Z4.set (.int .i64 n) (.int .i64 j.t) (.int .i64 j.v) (.int .i64 ps) (.int .i64 pt) (.slice av kv cv)
  have B5 : Below w.heap.size w (((((((((((w2).setCell ⟨w.heap.size, 3, none⟩ (.int .i64 ps)).setCell ⟨w.heap.size, 4, none⟩ (.int .i64 pt)).setCell ⟨w.heap.size, 5, none⟩ (.slice av kv cv))).setCell ⟨w.heap.size + 1, 0, none⟩ (.int .i64 n)).setCell ⟨w.heap.size + 1, 1, none⟩ (.int .i64 j.t)).setCell ⟨w.heap.size + 1, 2, none⟩ (.int .i64 j.v)).setCell ⟨w.heap.size + 1, 3, none⟩ (.int .i64 ps)).setCell ⟨w.heap.size + 1, 4, none⟩ (.int .i64 pt)).setCell ⟨w.heap.size + 1, 5, none⟩ (.slice av kv cv)) := below_set6 (b := w.heap.size + 1) B4 (Nat.le_succ _) (.int .i64 n) (.int .i64 j.t) (.int .i64 j.v) (.int .i64 ps) (.int .i64 pt) (.slice av kv cv)
  have HO7 : Hid (ownsR (((((((((((w2).setCell ⟨w.heap.size, 3, none⟩ (.int .i64 ps)).setCell ⟨w.heap.size, 4, none⟩ (.int .i64 pt)).setCell ⟨w.heap.size, 5, none⟩ (.slice av kv cv))).setCell ⟨w.heap.size + 1, 0, none⟩ (.int .i64 n)).setCell ⟨w.heap.size + 1, 1, none⟩ (.int .i64 j.t)).setCell ⟨w.heap.size + 1, 2, none⟩ (.int .i64 j.v)).setCell ⟨w.heap.size + 1, 3, none⟩ (.int .i64 ps)).setCell ⟨w.heap.size + 1, 4, none⟩ (.int .i64 pt)).setCell ⟨w.heap.size + 1, 5, none⟩ (.slice av kv cv)) B 84 (.slice av kv cv) (putE j.s j.st j.l (rdI r) (rdEn r))) := ownsR_set6 HO6.out (not_row6 Z4 HO6.out) _ _ _ _ _ _
  clear Z4 B4 J4 HO6
  go_wp2
  obtain ⟨w4, hw4⟩ : ∃ w4, ((((((((((w2).setCell ⟨w.heap.size, 3, none⟩ (.int .i64 ps)).setCell ⟨w.heap.size, 4, none⟩ (.int .i64 pt)).setCell ⟨w.heap.size, 5, none⟩ (.slice av kv cv))).setCell ⟨w.heap.size + 1, 0, none⟩ (.int .i64 n)).setCell ⟨w.heap.size + 1, 1, none⟩ (.int .i64 j.t)).setCell ⟨w.heap.size + 1, 2, none⟩ (.int .i64 j.v)).setCell ⟨w.heap.size + 1, 3, none⟩ (.int .i64 ps)).setCell ⟨w.heap.size + 1, 4, none⟩ (.int .i64 pt)).setCell ⟨w.heap.size + 1, 5, none⟩ (.slice av kv cv) = w4 := ⟨_, rfl⟩
  rw [hw4] at Z5 B5 HO7 ⊢
  clear hw4
  refine bodyPost_ret (ret_j2 rfl rfl rfl Z5) rfl ⟨n, j.t, j.v, ps, pt, av, kv, cv, ?_, B5, fun hq => ?_⟩
  · unfold toldB tellB; rw [if_neg (by simp), if_neg HK.out, HE.out, HQ.out]; rfl
  · unfold toldB tellB at hq
    rw [if_neg (by simp), if_neg HK.out] at hq
    simp only [Bool.and_eq_true] at hq
    have e1 : putE j.s j.st j.l (rdI r) (rdEn r) = putsL j.s j.l (rdI r) (rdEn r) := by unfold putE; rw [hq.2]; rfl
    have e2 : ps = j.s := by rw [← HPS.out]; unfold putS; rw [hq.2]; rfl
    have e3 : pt = j.st := by rw [← HPT.out]; unfold putT; rw [hq.2]; rfl
    unfold toldJ tellJ
    rw [if_neg (by simp), if_neg HK.out]
    exact ⟨rfl, rfl, rfl, e2, e3, by rw [← e1]; exact HO7.out⟩

theorem told_any (n : Int) (j : Jn) (ao : Option Addr) (k c : Nat) (r : ByteArray) (first : Bool) (B : Nat) (w : World) (ho : ownsR w B 84 (.slice ao k c) j.l) (hB : B ≤ w.heap.size) (hl : j.l.length ≤ 60) (hz : SizedE j.l) (hr : r.size ≤ 20000) (hj : first = true → j.t = 0 ∧ j.v = 0) :
    Calls Tryz.prog 67 #[jV n j.t j.v j.s j.st (.slice ao k c), .string r, .bool first] w (ToldP n j r first B w) := by
  cases first with
  | true => exact told_first n j ao k c r B w hr (hj rfl).1 (hj rfl).2
  | false =>
    by_cases hk : kAt r 0 = 72
    · exact told_head n j ao k c r B w ho hr hk
    · cases he : rdB r with
      | false => exact told_not n j ao k c r B w hr hk he
      | true => exact told_entry n j ao k c r B w ho hB hl hz hr hk he
end Go.Proofs.YtijmaplejpnggaaGreatDoor

namespace Go.Proofs.YtijmaplejpnggaaGreatDoor
open Go Go.RowKit Go.Shelf
attribute [local go_sem] Oper.semAt_some

/-- What lies there while a file is read: the journal so far, and the place behind it. -/
structure RI (n : Int) (s : ByteArray) (w : World) (g : Nat) (z : Jn × Nat) (W : World) : Prop where
  jb : ∃ a k c, B6 W g (.int .i64 n) (.int .i64 z.1.t) (.int .i64 z.1.v) (.int .i64 z.1.s) (.int .i64 z.1.st) (.slice a k c) ∧ ownsR W w.heap.size 84 (.slice a k c) z.1.l
  res : B6 W w.heap.size (.int .i64 0) (.int .i64 0) (.int .i64 0) (.int .i64 0) (.int .i64 0) (.slice none 0 0)
  bh : Boxed W (g + 1) 3 (.int .i64 (z.2 : Int))
  file : Boxed W (g + 1 + 1) 9 (.string s)
  bel : Below w.heap.size w W

theorem cells_kept {W W' : World} {row : Option Nat} {b : Nat} {cs : Array Value} {t : TypeId} (h : W.heap[b]? = some (.cells cs t)) (hg : W.grownBy W' row) (hr : ∀ r, row = some r → ∃ o : Obj, W.heap[r]? = some o ∧ o.isCells = false) : W'.heap[b]? = some (.cells cs t) := by
  refine (hg.block b (Array.getElem?_eq_some_iff.1 h).1 fun e => ?_).trans h
  obtain ⟨o, ho, hc⟩ := hr b e.symm
  rw [h] at ho
  simp only [Option.some.injEq] at ho
  subst ho
  simp [Obj.isCells] at hc
theorem owns_kept {W W' : World} {row : Option Nat} {B : Nat} {v : Value} {l : List En} (h : ownsR W B 84 v l) (hg : W.grownBy W' row) (hr : ∀ r, row = some r → ∃ o : Obj, W.heap[r]? = some o ∧ o.isCells = false) : ownsR W' B 84 v l := by
  refine World.ownsRow.kept h hg ?_
  obtain ⟨_, h2⟩ := h
  rcases h2 with ⟨rfl, _⟩ | ⟨g', cap, cur, rfl, _, hgg, _⟩
  · exact .inl rfl
  · refine .inr fun e => ?_
    obtain ⟨o, ho, hc⟩ := hr g' e.symm
    rw [hgg] at ho
    simp only [Option.some.injEq] at ho
    subst ho
    simp [Obj.isCells] at hc
theorem RI.own {n : Int} {s : ByteArray} {w : World} {g : Nat} {z : Jn × Nat} {W W' : World} {row : Option Nat} {B : Nat} (h : RI n s w g z W) (hB : w.heap.size ≤ B) (hg : W.grownBy W' row) (hr : ∀ r, row = some r → B ≤ r ∧ ∃ o : Obj, W.heap[r]? = some o ∧ o.isCells = false) : RI n s w g z W' := by
  have hr2 : ∀ r, row = some r → ∃ o : Obj, W.heap[r]? = some o ∧ o.isCells = false := fun r e => (hr r e).2
  obtain ⟨⟨a, k, c, h1, h2⟩, h3, h4, h5, h6⟩ := h
  exact ⟨⟨a, k, c, cells_kept h1 hg hr2, owns_kept h2 hg hr2⟩, cells_kept h3 hg hr2, cells_kept h4 hg hr2, cells_kept h5 hg hr2, h6.grown hg h6.size (fun k e => Nat.le_trans hB (hr k e).1)⟩

/-- Between two rounds. -/
def RJ (n : Int) (s : ByteArray) (w : World) (g : Nat) (pre : List Fx) (W : World) : Prop :=
  ∃ z : Jn × Nat, Hid (∀ rest, goJ initJ (valsF pre ++ rest) = goJ z rest) ∧ Hid (JGood z) ∧ RI n s w g z W
/-- Behind a round that has left. -/
def RX (n : Int) (s : ByteArray) (w : World) (g : Nat) (pre : List Fx) (W : World) : Prop :=
  ∃ z : Jn × Nat, Hid (∀ rest, goJ initJ (valsF pre ++ rest) = z) ∧ Hid (JGood z) ∧ RI n s w g z W
theorem RJ_own (n : Int) (s : ByteArray) (w : World) (g B : Nat) (hB : w.heap.size ≤ B) : OwnFrom B (RJ n s w g) := fun _ _ _ _ ⟨z, h1, h2, h3⟩ hg hr => ⟨z, h1, h2, h3.own hB hg hr⟩
theorem RX_own (n : Int) (s : ByteArray) (w : World) (g B : Nat) (hB : w.heap.size ≤ B) : OwnFrom B (RX n s w g) := fun _ _ _ _ ⟨z, h1, h2, h3⟩ hg hr => ⟨z, h1, h2, h3.own hB hg hr⟩
theorem goJ_on {z : Jn × Nat} {pre : List Fx} {x : Fx} (h : ∀ rest, goJ initJ (valsF pre ++ rest) = goJ z rest) (hs : stepB z x.1.1 = true) : ∀ rest, goJ initJ (valsF (pre ++ [x]) ++ rest) = goJ (stepJ z x.1) rest := fun rest => by
  rw [valsF_snoc, List.append_assoc, h, List.singleton_append, goJ_yes hs]
theorem goJ_off {z : Jn × Nat} {pre : List Fx} {x : Fx} (h : ∀ rest, goJ initJ (valsF pre ++ rest) = goJ z rest) (hs : stepB z x.1.1 = false) : ∀ rest, goJ initJ (valsF (pre ++ [x]) ++ rest) = z := fun rest => by
  rw [valsF_snoc, List.append_assoc, h, List.singleton_append, goJ_no hs]
theorem keeps_below {W W' : World} (h : Below W.heap.size W W') : KeepsOthers W W' := ⟨h.size, fun k _ hk _ => (h.block k (Array.getElem?_eq_some_iff.1 hk).1).trans hk⟩

theorem cells_far6 {W : World} {b g : Nat} {cs : Array Value} {t : TypeId} (h : W.heap[b]? = some (.cells cs t)) (hb : g ≠ b) (u0 u1 u2 u3 u4 u5 : Value) : (set6 W g u0 u1 u2 u3 u4 u5).heap[b]? = some (.cells cs t) := by
  have k : ∀ {V : World} {j : Nat} {u : Value}, V.heap[b]? = some (.cells cs t) → (V.setCell ⟨g, j, none⟩ u).heap[b]? = some (.cells cs t) := fun hV => (heap_setCell_other _ ⟨g, _, none⟩ b _ (fun e => hb e.symm)).trans hV
  exact k (k (k (k (k (k h)))))
theorem obj_far6 {W : World} {b g : Nat} {o : Obj} (h : W.heap[b]? = some o) (hb : g ≠ b) (u0 u1 u2 u3 u4 u5 : Value) : (set6 W g u0 u1 u2 u3 u4 u5).heap[b]? = some o := by
  have k : ∀ {V : World} {j : Nat} {u : Value}, V.heap[b]? = some o → (V.setCell ⟨g, j, none⟩ u).heap[b]? = some o := fun hV => (heap_setCell_other _ ⟨g, _, none⟩ b _ (fun e => hb e.symm)).trans hV
  exact k (k (k (k (k (k h)))))
theorem B6.put {W : World} {b D : Nat} {x0 x1 x2 x3 x4 x5 : Value} (h : B6 W b x0 x1 x2 x3 x4 x5) (o : Obj) (hD : b ≠ D) : B6 (W.putObj D o) b x0 x1 x2 x3 x4 x5 :=
  ((grownBy_putObj' W D o).block b h.lt (fun e => hD (by simpa using e))).trans h
theorem heap_drew (W : World) : W.drew.heap = W.heap := rfl
theorem obj_far6d {W : World} {b g : Nat} {o : Obj} (h : W.heap[b]? = some o) (hb : g ≠ b) (u0 u1 u2 u3 u4 u5 : Value) : (set6 W g u0 u1 u2 u3 u4 u5).drew.heap[b]? = some o := by
  rw [heap_drew]; exact obj_far6 h hb u0 u1 u2 u3 u4 u5
theorem keeps_set6 {A W : World} {g : Nat} (h : KeepsOthers A W) (u0 u1 u2 u3 u4 u5 : Value) : KeepsOthers A (set6 W g u0 u1 u2 u3 u4 u5) :=
  (((((h.trans (KeepsOthers.setCell _ _ _)).trans (KeepsOthers.setCell _ _ _)).trans (KeepsOthers.setCell _ _ _)).trans (KeepsOthers.setCell _ _ _)).trans (KeepsOthers.setCell _ _ _)).trans (KeepsOthers.setCell _ _ _)
theorem not_rowE {w : World} {B b : Nat} {v : Value} {l : List En} {cs : Array Value} {t : TypeId} (h : w.heap[b]? = some (.cells cs t)) (ho : ownsR w B 84 v l) (hne : t ≠ 84) : some b ≠ v.ownBlock := by
  intro he
  obtain ⟨_, h2⟩ := ho
  rcases h2 with ⟨rfl, _⟩ | ⟨g', cap, cur, rfl, _, hg, _⟩
  · simp [Value.ownBlock] at he
  · simp only [Value.ownBlock, Option.some.injEq] at he
    subst he
    rw [h] at hg
    simp only [Option.some.injEq, Obj.cells.injEq] at hg
    exact hne hg.2.1

/-- What is answered of a file. -/
def ReadP (n : Int) (s : ByteArray) (w : World) (e : Ending) (w' : World) : Prop :=
  Below w.heap.size w w' ∧ ((rdJ s).2 = 0 → e = .returned (.tuple #[jV 0 0 0 0 0 (.slice none 0 0), .int .i64 0, faultV 2])) ∧
    ((rdJ s).2 ≠ 0 → ∃ a k c, e = .returned (.tuple #[jV n (rdJ s).1.t (rdJ s).1.v (rdJ s).1.s (rdJ s).1.st (.slice a k c), .int .i64 ((rdJ s).2 : Int), if (rdJ s).2 < s.size then faultV 3 else .nilIface]) ∧ ownsR w' w.heap.size 84 (.slice a k c) (rdJ s).1.l)

theorem W0_boxes (w1 : World) (n : Int) (s : ByteArray) : B6 (((w1.alloc (.cells #[.int .i64 n, .int .i64 0, .int .i64 0, .int .i64 0, .int .i64 0, .slice none 0 0] 26)).alloc (.cells #[.int .i64 0] 3)).alloc (.cells #[.string s] 9)) w1.heap.size (.int .i64 n) (.int .i64 0) (.int .i64 0) (.int .i64 0) (.int .i64 0) (.slice none 0 0) ∧
    Boxed (((w1.alloc (.cells #[.int .i64 n, .int .i64 0, .int .i64 0, .int .i64 0, .int .i64 0, .slice none 0 0] 26)).alloc (.cells #[.int .i64 0] 3)).alloc (.cells #[.string s] 9)) (w1.heap.size + 1) 3 (.int .i64 0) ∧ Boxed (((w1.alloc (.cells #[.int .i64 n, .int .i64 0, .int .i64 0, .int .i64 0, .int .i64 0, .slice none 0 0] 26)).alloc (.cells #[.int .i64 0] 3)).alloc (.cells #[.string s] 9)) (w1.heap.size + 1 + 1) 9 (.string s) := by
  refine ⟨((B6.new w1 _ _ _ _ _ _).alloc _).alloc _, ?_, ?_⟩
  · have := (Boxed.new (w1.alloc (.cells #[.int .i64 n, .int .i64 0, .int .i64 0, .int .i64 0, .int .i64 0, .slice none 0 0] 26)) 3 (.int .i64 0)).alloc (.cells #[.string s] 9)
    simpa using this
  · have := Boxed.new ((w1.alloc (.cells #[.int .i64 n, .int .i64 0, .int .i64 0, .int .i64 0, .int .i64 0, .slice none 0 0] 26)).alloc (.cells #[.int .i64 0] 3)) 9 (.string s)
    simpa using this

set_option maxRecDepth 100000 in
set_option maxHeartbeats 4000000 in
theorem readJournal_in (n : Int) (s : ByteArray) (w : World) (hs : s.size ≤ 1048576) (hn : numB n = true) (hp : PowIs w) (ht : TableIs w) : Calls Tryz.prog 30 #[.int .i64 n, .string s] w (ReadP n s w) := by
  refine (callsIn_wide (n := 3)).1 ?_
  obtain ⟨hq, hq2⟩ := empty_not (jname_ne hn)
  refine callsIn_of_wp_marks Tryz.func30 rfl trivial ?_ rfl
  simp only [Tryz.ntmps30, List.size_toArray, List.length_cons, List.length_nil, Nat.reduceAdd, Nat.reduceSub, Array.replicate_succ, Array.replicate_zero, List.push_toArray, List.append_toArray, List.nil_append, List.cons_append]
  gi_wp2_with (first | (refine ⟨trivial, ?_⟩; gi_at_call 65; refine (callsIn_wide.2 (journalName_any n _ (hp.below (ba (Below.refl _ _) _)))).mono ?_; rintro e w1 ⟨rfl, hb1⟩) | (refine ⟨trivial, ?_⟩; gi_at_call 66; refine (framesOf_in 2 s _).mono ?_; rintro e w' ⟨rfl, rfl⟩))
  have HT : Hid (TableIs w) := ht
  clear ht hp hq hq2
  have Z1 : B6 w1 w.heap.size (.int .i64 0) (.int .i64 0) (.int .i64 0) (.int .i64 0) (.int .i64 0) (.slice none 0 0) := (B6.new w _ _ _ _ _ _).up hb1
  have hB1 : Below w.heap.size w w1 := below_new hb1
  have hsz1 : w.heap.size < w1.heap.size := Z1.lt
  obtain ⟨hb2, hb3, hb4⟩ := W0_boxes w1 n s
  have hB0 : Below w.heap.size w (((w1.alloc (.cells #[.int .i64 n, .int .i64 0, .int .i64 0, .int .i64 0, .int .i64 0, .slice none 0 0] 26)).alloc (.cells #[.int .i64 0] 3)).alloc (.cells #[.string s] 9)) := ba (ba (ba hB1 _) _) _
  have Z0 : B6 (((w1.alloc (.cells #[.int .i64 n, .int .i64 0, .int .i64 0, .int .i64 0, .int .i64 0, .slice none 0 0] 26)).alloc (.cells #[.int .i64 0] 3)).alloc (.cells #[.string s] 9)) w.heap.size (.int .i64 0) (.int .i64 0) (.int .i64 0) (.int .i64 0) (.int .i64 0) (.slice none 0 0) := ((Z1.alloc _).alloc _).alloc _
  obtain ⟨W0, hW0⟩ : ∃ W0, ((w1.alloc (.cells #[.int .i64 n, .int .i64 0, .int .i64 0, .int .i64 0, .int .i64 0, .slice none 0 0] 26)).alloc (.cells #[.int .i64 0] 3)).alloc (.cells #[.string s] 9) = W0 := ⟨_, rfl⟩
  have hsz0 : W0.heap.size = w1.heap.size + 1 + 1 + 1 := by rw [← hW0]; simp
  rw [hW0] at hb2 hb3 hb4 hB0 Z0 ⊢
  obtain ⟨g, HG⟩ : ∃ g, Hid (w1.heap.size = g) := ⟨_, rfl⟩
  rw [HG.out] at hb2 hb3 hb4 hsz0 hsz1 ⊢
  clear hW0 hb1 hB1 Z1
  refine wpIn_rangeFunc_ownG rfl (by omega) (gf := 96) (lb := #[.pointer (some ⟨g + 1 + 1, 0, none⟩)]) rfl trivial (enters_of Tryz.func96 (by kernel_rfl) rfl)
    (frames_stops 2 (by omega) (g + 1 + 1) s hs w W0 HT.out (by omega) hb4.cell hB0) kpF_t (kpF_b (by omega) (by omega)) (Below.refl _ _) (fun _ => rfl)
    (RJ n s w g) (fun c pre W => c = .exit 0 ∧ RX n s w g pre W) (RJ_own n s w g _ (by omega)) (fun c => fun _ _ _ _ hs hg hr => ⟨hs.1, RX_own n s w g _ (by omega) _ _ _ _ hs.2 hg hr⟩)
    ⟨initJ, fun rest => rfl, JGood.init, ⟨⟨none, 0, 0, hb2, ownsR_nil _ _ _⟩, Z0, hb3, hb4, hB0⟩⟩
    (fun x => { tmps := #[.int .i64 n, .string s, undef, undef, .pointer (some ⟨w.heap.size, 0, none⟩), .int .i64 0, .nilIface, .pointer (some ⟨g, 0, none⟩), .pointer (some ⟨g + 1, 0, none⟩), .string x.1.1, .int .i64 x.1.2, undef, undef, .int .i64 n, .string (jname n), .bool false, undef, undef, undef, .int .i64 n, .agg #[.int .i64 n, .int .i64 0, .int .i64 0, .int .i64 0, .int .i64 0, .slice none 0 0], .string s, .func (.func 96) #[] #[.pointer (some ⟨g + 1 + 1, 0, none⟩)], .string x.1.1, .int .i64 x.1.2, undef, undef, undef, undef, undef, undef, undef, undef, undef, undef, undef, undef, undef, undef, undef, undef, undef, undef, undef, undef, undef, undef, undef, undef, undef, undef, undef, undef, undef], defers := [] }) ?assign ?body ?done ?stop
  case assign =>
    intro l x W K hK
    simp only [encF]
    gi_wp2
    exact hK
  case body =>
    rintro l pre x W ⟨z, HZ, HJ, ⟨⟨a, k, c, hj, ho⟩, hres, hbh, hfile, hB⟩⟩ hlt
    have hx1 := x.2.1
    have hgW : g + 1 + 1 < W.heap.size := hfile.lt
    have hfst : ∀ first : Bool, first = true → z.2 = 0 → z.1.t = 0 ∧ z.1.v = 0 := fun _ _ h0 => by rw [HJ.out.first h0]; exact ⟨rfl, rfl⟩
    have j0 := hj.c0
    have j1 := hj.c1
    have j2 := hj.c2
    have j3 := hj.c3
    have j4 := hj.c4
    have j5 := hj.c5
    have b0 := hbh.cell
    obtain ⟨fst, HF⟩ : ∃ fst, Hid (decide (z.2 = 0) = fst) := ⟨_, rfl⟩
    have hfeq : ((z.2 : Int) == 0) = fst := by
      rw [← HF.out]
      rw [Bool.eq_iff_iff]; simp
    have HTB : Hid (toldB z.1 x.1.1 fst = stepB z x.1.1 ∧ (toldJ z.1 x.1.1 fst, x.1.2) = stepJ z x.1) := by
      show _ ∧ _
      unfold toldB stepB toldJ stepJ
      rw [← HF.out]
      by_cases h0 : z.2 = 0
      · simp [h0]
      · simp [h0]
    obtain ⟨q, HQ⟩ : ∃ q, Hid (toldB z.1 x.1.1 fst = q) := ⟨_, rfl⟩
    have HTC : Hid (∀ V, ownsR V w.heap.size 84 (.slice a k c) z.1.l → w.heap.size ≤ V.heap.size → Calls Tryz.prog 67 #[jV n z.1.t z.1.v z.1.s z.1.st (.slice a k c), .string x.1.1, .bool fst] V fun e w' => ∃ (n' t' v' s' st' : Int) (a' : Option Addr) (k' c' : Nat), e = .returned (.tuple #[jV n' t' v' s' st' (.slice a' k' c'), .bool q]) ∧ Below V.heap.size V w' ∧
        (q = true → n' = n ∧ t' = (toldJ z.1 x.1.1 fst).t ∧ v' = (toldJ z.1 x.1.1 fst).v ∧ s' = (toldJ z.1 x.1.1 fst).s ∧ st' = (toldJ z.1 x.1.1 fst).st ∧ ownsR w' w.heap.size 84 (.slice a' k' c') (toldJ z.1 x.1.1 fst).l)) := fun V h1 h2 => by
      have := told_any n z.1 a k c x.1.1 fst w.heap.size V h1 h2 HJ.out.len HJ.out.sized hx1 (fun h => hfst fst h (by rw [← HF.out] at h; simpa using h))
      unfold ToldP at this
      rw [HQ.out] at this
      exact this
    cases q with
    | false =>
      have HST : Hid (stepB z x.1.1 = false) := HTB.out.1.symm.trans HQ.out
      gi_wp2_with (refine ⟨trivial, ?_⟩; gi_at_call 67; refine (CallsIn.inRound l (callsIn_wide.2 (HTC.out _ ho hB.size))).mono ?_; rintro e w2 ⟨n1, t1, v1, s1, u1, a1, k1, c1, rfl, hb5, hok⟩; clear hok)
      have hb6 : Below W.heap.size W (w2.alloc (.cells #[.int .i64 n1, .int .i64 t1, .int .i64 v1, .int .i64 s1, .int .i64 u1, .slice a1 k1 c1] 26)) := ba hb5 _
      exact ⟨(keeps_below hb6).from _, rfl, z, goJ_off HZ.out HST.out, HJ, ⟨⟨a, k, c, hj.up hb6, ho.all hb6⟩, hres.up hb6, (hb6.block _ hbh.lt).trans hbh, (hb6.block _ hfile.lt).trans hfile, Below.on hB hb6⟩⟩
    | true =>
      have HST : Hid (stepB z x.1.1 = true) := HTB.out.1.symm.trans HQ.out
      gi_wp2_with (refine ⟨trivial, ?_⟩; gi_at_call 67; refine (CallsIn.inRound l (callsIn_wide.2 (HTC.out _ ho hB.size))).mono ?_; rintro e w2 ⟨n1, t1, v1, s1, u1, a1, k1, c1, rfl, hb5, hok⟩; have HK := (show Hid _ from hok rfl); clear hok; have hb6 : Below W.heap.size W (w2.alloc (.cells #[.int .i64 n1, .int .i64 t1, .int .i64 v1, .int .i64 s1, .int .i64 u1, .slice a1 k1 c1] 26)) := ba hb5 _; have N2 := B6.new w2 (.int .i64 n1) (.int .i64 t1) (.int .i64 v1) (.int .i64 s1) (.int .i64 u1) (.slice a1 k1 c1); have hm6 : w2.heap.size < (w2.alloc (.cells #[.int .i64 n1, .int .i64 t1, .int .i64 v1, .int .i64 s1, .int .i64 u1, .slice a1 k1 c1] 26)).heap.size := N2.lt; have hmw : g + 1 + 1 < w2.heap.size := Nat.lt_of_lt_of_le hgW hb5.size; obtain ⟨WX, hWX⟩ : ∃ WX, w2.alloc (.cells #[.int .i64 n1, .int .i64 t1, .int .i64 v1, .int .i64 s1, .int .i64 u1, .slice a1 k1 c1] 26) = WX := ⟨_, rfl⟩; rw [hWX] at hb6 N2 hm6; have J2 := hj.up hb6; have jf := J2.fr; have y0 := J2.c0; have y1 := J2.c1; have y2 := J2.c2; have y3 := J2.c3; have y4 := J2.c4; have y5 := J2.c5; have z0 := N2.c0; have z1 := N2.c1; have z2 := N2.c2; have z3 := N2.c3; have z4 := N2.c4; have z5 := N2.c5; have bh2 : Boxed WX (g + 1) 3 (.int .i64 (z.2 : Int)) := (hb6.block _ hbh.lt).trans hbh; have bc2 := bh2.cell; have bf2 := bh2.frozen)
      have ho2 : ownsR WX w.heap.size 84 (.slice a1 k1 c1) (toldJ z.1 x.1.1 fst).l := by rw [← hWX]; exact HK.out.2.2.2.2.2.alloc _
      have J3 := J2.set (.int .i64 n1) (.int .i64 t1) (.int .i64 v1) (.int .i64 s1) (.int .i64 u1) (.slice a1 k1 c1)
      have J4 := J3.far (p := ⟨g + 1, 0, none⟩) (by simp) (.int .i64 (x.1.2 : Int))
      have bh3 : Boxed (((((((WX).setCell ⟨g, 0, none⟩ (.int .i64 n1)).setCell ⟨g, 1, none⟩ (.int .i64 t1)).setCell ⟨g, 2, none⟩ (.int .i64 v1)).setCell ⟨g, 3, none⟩ (.int .i64 s1)).setCell ⟨g, 4, none⟩ (.int .i64 u1)).setCell ⟨g, 5, none⟩ (.slice a1 k1 c1)) (g + 1) 3 (.int .i64 (z.2 : Int)) := cells_far6 bh2 (by omega) _ _ _ _ _ _
      have bh4 := bh3.set (.int .i64 (x.1.2 : Int))
      have fl2 : Boxed WX (g + 1 + 1) 9 (.string s) := (hb6.block _ hfile.lt).trans hfile
      have fl3 : Boxed (((((((WX).setCell ⟨g, 0, none⟩ (.int .i64 n1)).setCell ⟨g, 1, none⟩ (.int .i64 t1)).setCell ⟨g, 2, none⟩ (.int .i64 v1)).setCell ⟨g, 3, none⟩ (.int .i64 s1)).setCell ⟨g, 4, none⟩ (.int .i64 u1)).setCell ⟨g, 5, none⟩ (.slice a1 k1 c1)) (g + 1 + 1) 9 (.string s) := cells_far6 fl2 (by omega) _ _ _ _ _ _
      have fl4 := fl3.other (B' := g + 1) (by omega) (.int .i64 (x.1.2 : Int))
      have rs3 : B6 (((((((WX).setCell ⟨g, 0, none⟩ (.int .i64 n1)).setCell ⟨g, 1, none⟩ (.int .i64 t1)).setCell ⟨g, 2, none⟩ (.int .i64 v1)).setCell ⟨g, 3, none⟩ (.int .i64 s1)).setCell ⟨g, 4, none⟩ (.int .i64 u1)).setCell ⟨g, 5, none⟩ (.slice a1 k1 c1)) w.heap.size (.int .i64 0) (.int .i64 0) (.int .i64 0) (.int .i64 0) (.int .i64 0) (.slice none 0 0) := cells_far6 (hres.up hb6) (by omega) _ _ _ _ _ _
      have rs4 := rs3.far (p := ⟨g + 1, 0, none⟩) (by show g + 1 ≠ w.heap.size; omega) (.int .i64 (x.1.2 : Int))
      have ho3 := ownsR_set6 ho2 (not_row6 J2 ho2) (.int .i64 n1) (.int .i64 t1) (.int .i64 v1) (.int .i64 s1) (.int .i64 u1) (.slice a1 k1 c1)
      have ho4 : ownsR ((((((((WX).setCell ⟨g, 0, none⟩ (.int .i64 n1)).setCell ⟨g, 1, none⟩ (.int .i64 t1)).setCell ⟨g, 2, none⟩ (.int .i64 v1)).setCell ⟨g, 3, none⟩ (.int .i64 s1)).setCell ⟨g, 4, none⟩ (.int .i64 u1)).setCell ⟨g, 5, none⟩ (.slice a1 k1 c1)).setCell ⟨g + 1, 0, none⟩ (.int .i64 (x.1.2 : Int))) w.heap.size 84 (.slice a1 k1 c1) (toldJ z.1 x.1.1 fst).l := World.ownsRow.kept ho3 (grown_set _ _ _ _) (.inr (fun e => not_rowE bh3 ho3 (by decide) e.symm))
      have bw1 : Below w.heap.size W (((((((WX).setCell ⟨g, 0, none⟩ (.int .i64 n1)).setCell ⟨g, 1, none⟩ (.int .i64 t1)).setCell ⟨g, 2, none⟩ (.int .i64 v1)).setCell ⟨g, 3, none⟩ (.int .i64 s1)).setCell ⟨g, 4, none⟩ (.int .i64 u1)).setCell ⟨g, 5, none⟩ (.slice a1 k1 c1)) := below_set6 (hb6.mono hB.size) (by omega) _ _ _ _ _ _
      have bw2 : Below w.heap.size W ((((((((WX).setCell ⟨g, 0, none⟩ (.int .i64 n1)).setCell ⟨g, 1, none⟩ (.int .i64 t1)).setCell ⟨g, 2, none⟩ (.int .i64 v1)).setCell ⟨g, 3, none⟩ (.int .i64 s1)).setCell ⟨g, 4, none⟩ (.int .i64 u1)).setCell ⟨g, 5, none⟩ (.slice a1 k1 c1)).setCell ⟨g + 1, 0, none⟩ (.int .i64 (x.1.2 : Int))) := Below.setCell bw1 (by show w.heap.size ≤ g + 1; omega) _
      have kp : KeepsOthers W ((((((((WX).setCell ⟨g, 0, none⟩ (.int .i64 n1)).setCell ⟨g, 1, none⟩ (.int .i64 t1)).setCell ⟨g, 2, none⟩ (.int .i64 v1)).setCell ⟨g, 3, none⟩ (.int .i64 s1)).setCell ⟨g, 4, none⟩ (.int .i64 u1)).setCell ⟨g, 5, none⟩ (.slice a1 k1 c1)).setCell ⟨g + 1, 0, none⟩ (.int .i64 (x.1.2 : Int))) := (keeps_set6 (keeps_below hb6) _ _ _ _ _ _).trans (KeepsOthers.setCell _ _ _)
      refine ⟨kp.from _, ⟨bw2, fl4.cell.trans hfile.cell.symm⟩, stepJ z x.1, goJ_on HZ.out HST.out, HJ.out.next HST.out x.2.2.1 x.2.2.2, ?_⟩
      rw [← HTB.out.2]
      obtain ⟨e1, e2, e3, e4, e5, _⟩ := HK.out
      refine ⟨⟨a1, k1, c1, ?_, ho4⟩, rs4, bh4, fl4, hB.trans bw2⟩
      rw [e1, e2, e3, e4, e5] at J4 ⊢
      exact J4
  case done =>
    rintro D ys W hD hys ⟨z, HZ, HJ, ⟨⟨a, k, c, hj, ho⟩, hres, hbh, hfile, hB⟩⟩ hK
    have HR : Hid (rdJ s = z) := by
      show goJ initJ (frq s) = z
      have := HZ.out []
      rw [List.append_nil, hys] at this
      exact this
    clear HZ hys
    have j0 := hj.c0
    have j1 := hj.c1
    have j2 := hj.c2
    have j3 := hj.c3
    have j4 := hj.c4
    have j5 := hj.c5
    have b0 := hbh.cell
    have r0 := hres.c0
    have r1 := hres.c1
    have r2 := hres.c2
    have r3 := hres.c3
    have r4 := hres.c4
    have r5 := hres.c5
    have rf := hres.fr
    have hDg : g + 1 + 1 < D := by omega
    by_cases h0 : z.2 = 0
    · have h0b : ((z.2 : Int) == 0) = true := by rw [h0]; rfl
      have Z5 : B6 (((((((W).setCell ⟨w.heap.size, 0, none⟩ (.int .i64 0)).setCell ⟨w.heap.size, 1, none⟩ (.int .i64 0)).setCell ⟨w.heap.size, 2, none⟩ (.int .i64 0)).setCell ⟨w.heap.size, 3, none⟩ (.int .i64 0)).setCell ⟨w.heap.size, 4, none⟩ (.int .i64 0)).setCell ⟨w.heap.size, 5, none⟩ (.slice none 0 0)) w.heap.size (.int .i64 0) (.int .i64 0) (.int .i64 0) (.int .i64 0) (.int .i64 0) (.slice none 0 0) := (hres.set (.int .i64 0) (.int .i64 0) (.int .i64 0) (.int .i64 0) (.int .i64 0) (.slice none 0 0))
      have B5 : Below w.heap.size w (((((((W).setCell ⟨w.heap.size, 0, none⟩ (.int .i64 0)).setCell ⟨w.heap.size, 1, none⟩ (.int .i64 0)).setCell ⟨w.heap.size, 2, none⟩ (.int .i64 0)).setCell ⟨w.heap.size, 3, none⟩ (.int .i64 0)).setCell ⟨w.heap.size, 4, none⟩ (.int .i64 0)).setCell ⟨w.heap.size, 5, none⟩ (.slice none 0 0)) := (below_set6 hB (Nat.le_refl _) _ _ _ _ _ _)
      have K5 : (((((((W).setCell ⟨w.heap.size, 0, none⟩ (.int .i64 0)).setCell ⟨w.heap.size, 1, none⟩ (.int .i64 0)).setCell ⟨w.heap.size, 2, none⟩ (.int .i64 0)).setCell ⟨w.heap.size, 3, none⟩ (.int .i64 0)).setCell ⟨w.heap.size, 4, none⟩ (.int .i64 0)).setCell ⟨w.heap.size, 5, none⟩ (.slice none 0 0)).heap[D]? = some (.deferred (some [])) := obj_far6 hK (by omega) _ _ _ _ _ _
      gi_wp2
      obtain ⟨w5, hw5⟩ : ∃ w5, ((((((W).setCell ⟨w.heap.size, 0, none⟩ (.int .i64 0)).setCell ⟨w.heap.size, 1, none⟩ (.int .i64 0)).setCell ⟨w.heap.size, 2, none⟩ (.int .i64 0)).setCell ⟨w.heap.size, 3, none⟩ (.int .i64 0)).setCell ⟨w.heap.size, 4, none⟩ (.int .i64 0)).setCell ⟨w.heap.size, 5, none⟩ (.slice none 0 0) = w5 := ⟨_, rfl⟩
      rw [hw5] at Z5 B5 K5 ⊢
      clear hw5
      refine ⟨by simp, .inl ⟨_, _, rfl, run_takeDeferred K5, ?_⟩⟩
      refine ⟨_, ret_j3 rfl rfl rfl rfl (Z5.put _ (by omega)), B5.trans (belowK_b (w := w) (Nat.le_refl _) _ D _ _ (by omega) K5 rfl rfl), ?_, ?_⟩
      · rw [HR.out]; intro _; rfl
      · rw [HR.out]; intro h; exact absurd h0 h
    · have h0b : ((z.2 : Int) == 0) = false := by rw [Bool.eq_false_iff]; intro h; apply h0; simpa using h
      by_cases hl : z.2 < s.size
      · have hl2 : (z.2 : Int) < (s.size : Int) := by omega
        have Z5 : B6 ((((((((W).setCell ⟨w.heap.size, 0, none⟩ (.int .i64 n)).setCell ⟨w.heap.size, 1, none⟩ (.int .i64 z.1.t)).setCell ⟨w.heap.size, 2, none⟩ (.int .i64 z.1.v)).setCell ⟨w.heap.size, 3, none⟩ (.int .i64 z.1.s)).setCell ⟨w.heap.size, 4, none⟩ (.int .i64 z.1.st)).setCell ⟨w.heap.size, 5, none⟩ (.slice a k c)).drew) w.heap.size (.int .i64 n) (.int .i64 z.1.t) (.int .i64 z.1.v) (.int .i64 z.1.s) (.int .i64 z.1.st) (.slice a k c) := (hres.set (.int .i64 n) (.int .i64 z.1.t) (.int .i64 z.1.v) (.int .i64 z.1.s) (.int .i64 z.1.st) (.slice a k c)).drew
        have B5 : Below w.heap.size w ((((((((W).setCell ⟨w.heap.size, 0, none⟩ (.int .i64 n)).setCell ⟨w.heap.size, 1, none⟩ (.int .i64 z.1.t)).setCell ⟨w.heap.size, 2, none⟩ (.int .i64 z.1.v)).setCell ⟨w.heap.size, 3, none⟩ (.int .i64 z.1.s)).setCell ⟨w.heap.size, 4, none⟩ (.int .i64 z.1.st)).setCell ⟨w.heap.size, 5, none⟩ (.slice a k c)).drew) := Below.drew (below_set6 hB (Nat.le_refl _) _ _ _ _ _ _)
        have K5 : ((((((((W).setCell ⟨w.heap.size, 0, none⟩ (.int .i64 n)).setCell ⟨w.heap.size, 1, none⟩ (.int .i64 z.1.t)).setCell ⟨w.heap.size, 2, none⟩ (.int .i64 z.1.v)).setCell ⟨w.heap.size, 3, none⟩ (.int .i64 z.1.s)).setCell ⟨w.heap.size, 4, none⟩ (.int .i64 z.1.st)).setCell ⟨w.heap.size, 5, none⟩ (.slice a k c)).drew).heap[D]? = some (.deferred (some [])) := obj_far6d hK (by omega) _ _ _ _ _ _
        have O5 : ownsR ((((((((W).setCell ⟨w.heap.size, 0, none⟩ (.int .i64 n)).setCell ⟨w.heap.size, 1, none⟩ (.int .i64 z.1.t)).setCell ⟨w.heap.size, 2, none⟩ (.int .i64 z.1.v)).setCell ⟨w.heap.size, 3, none⟩ (.int .i64 z.1.s)).setCell ⟨w.heap.size, 4, none⟩ (.int .i64 z.1.st)).setCell ⟨w.heap.size, 5, none⟩ (.slice a k c)).drew) w.heap.size 84 (.slice a k c) z.1.l := ownsR.drew (ownsR_set6 ho (not_row6 hres ho) _ _ _ _ _ _)
        gi_wp2
        refine wpIn_wide.2 ?_
        go_region
        obtain ⟨w5, hw5⟩ : ∃ w5, (((((((W).setCell ⟨w.heap.size, 0, none⟩ (.int .i64 n)).setCell ⟨w.heap.size, 1, none⟩ (.int .i64 z.1.t)).setCell ⟨w.heap.size, 2, none⟩ (.int .i64 z.1.v)).setCell ⟨w.heap.size, 3, none⟩ (.int .i64 z.1.s)).setCell ⟨w.heap.size, 4, none⟩ (.int .i64 z.1.st)).setCell ⟨w.heap.size, 5, none⟩ (.slice a k c)).drew = w5 := ⟨_, rfl⟩
        rw [hw5] at Z5 B5 K5 O5 ⊢
        clear hw5
        gi_wp2
        refine ⟨by simp, .inl ⟨_, _, rfl, run_takeDeferred K5, ?_⟩⟩
        refine ⟨_, ret_j3 rfl rfl rfl rfl (Z5.put _ (by omega)), B5.trans (belowK_b (w := w) (Nat.le_refl _) _ D _ _ (by omega) K5 rfl rfl), ?_, ?_⟩
        · rw [HR.out]; intro h; exact absurd h h0
        · rw [HR.out]; intro _
          exact ⟨a, k, c, by rw [if_pos hl]; rfl, ownsRow_putObj O5 _ K5 rfl⟩
      · have hl2 : ¬ (z.2 : Int) < (s.size : Int) := by omega
        have Z5 : B6 ((((((((W).setCell ⟨w.heap.size, 0, none⟩ (.int .i64 n)).setCell ⟨w.heap.size, 1, none⟩ (.int .i64 z.1.t)).setCell ⟨w.heap.size, 2, none⟩ (.int .i64 z.1.v)).setCell ⟨w.heap.size, 3, none⟩ (.int .i64 z.1.s)).setCell ⟨w.heap.size, 4, none⟩ (.int .i64 z.1.st)).setCell ⟨w.heap.size, 5, none⟩ (.slice a k c)).drew) w.heap.size (.int .i64 n) (.int .i64 z.1.t) (.int .i64 z.1.v) (.int .i64 z.1.s) (.int .i64 z.1.st) (.slice a k c) := (hres.set (.int .i64 n) (.int .i64 z.1.t) (.int .i64 z.1.v) (.int .i64 z.1.s) (.int .i64 z.1.st) (.slice a k c)).drew
        have B5 : Below w.heap.size w ((((((((W).setCell ⟨w.heap.size, 0, none⟩ (.int .i64 n)).setCell ⟨w.heap.size, 1, none⟩ (.int .i64 z.1.t)).setCell ⟨w.heap.size, 2, none⟩ (.int .i64 z.1.v)).setCell ⟨w.heap.size, 3, none⟩ (.int .i64 z.1.s)).setCell ⟨w.heap.size, 4, none⟩ (.int .i64 z.1.st)).setCell ⟨w.heap.size, 5, none⟩ (.slice a k c)).drew) := Below.drew (below_set6 hB (Nat.le_refl _) _ _ _ _ _ _)
        have K5 : ((((((((W).setCell ⟨w.heap.size, 0, none⟩ (.int .i64 n)).setCell ⟨w.heap.size, 1, none⟩ (.int .i64 z.1.t)).setCell ⟨w.heap.size, 2, none⟩ (.int .i64 z.1.v)).setCell ⟨w.heap.size, 3, none⟩ (.int .i64 z.1.s)).setCell ⟨w.heap.size, 4, none⟩ (.int .i64 z.1.st)).setCell ⟨w.heap.size, 5, none⟩ (.slice a k c)).drew).heap[D]? = some (.deferred (some [])) := obj_far6d hK (by omega) _ _ _ _ _ _
        have O5 : ownsR ((((((((W).setCell ⟨w.heap.size, 0, none⟩ (.int .i64 n)).setCell ⟨w.heap.size, 1, none⟩ (.int .i64 z.1.t)).setCell ⟨w.heap.size, 2, none⟩ (.int .i64 z.1.v)).setCell ⟨w.heap.size, 3, none⟩ (.int .i64 z.1.s)).setCell ⟨w.heap.size, 4, none⟩ (.int .i64 z.1.st)).setCell ⟨w.heap.size, 5, none⟩ (.slice a k c)).drew) w.heap.size 84 (.slice a k c) z.1.l := ownsR.drew (ownsR_set6 ho (not_row6 hres ho) _ _ _ _ _ _)
        gi_wp2
        refine wpIn_wide.2 ?_
        go_region
        obtain ⟨w5, hw5⟩ : ∃ w5, (((((((W).setCell ⟨w.heap.size, 0, none⟩ (.int .i64 n)).setCell ⟨w.heap.size, 1, none⟩ (.int .i64 z.1.t)).setCell ⟨w.heap.size, 2, none⟩ (.int .i64 z.1.v)).setCell ⟨w.heap.size, 3, none⟩ (.int .i64 z.1.s)).setCell ⟨w.heap.size, 4, none⟩ (.int .i64 z.1.st)).setCell ⟨w.heap.size, 5, none⟩ (.slice a k c)).drew = w5 := ⟨_, rfl⟩
        rw [hw5] at Z5 B5 K5 O5 ⊢
        clear hw5
        gi_wp2
        refine ⟨by simp, .inl ⟨_, _, rfl, run_takeDeferred K5, ?_⟩⟩
        refine ⟨_, ret_j3 rfl rfl rfl rfl (Z5.put _ (by omega)), B5.trans (belowK_b (w := w) (Nat.le_refl _) _ D _ _ (by omega) K5 rfl rfl), ?_, ?_⟩
        · rw [HR.out]; intro h; exact absurd h h0
        · rw [HR.out]; intro _
          exact ⟨a, k, c, by rw [if_neg hl]; rfl, ownsRow_putObj O5 _ K5 rfl⟩
  case stop =>
    rintro D cd pre W hD hpre ⟨rfl, z, HZ, HJ, ⟨⟨a, k, c, hj, ho⟩, hres, hbh, hfile, hB⟩⟩ hK
    have HR : Hid (rdJ s = z) := by
      show goJ initJ (frq s) = z
      obtain ⟨rest, hrest⟩ := hpre
      rw [← hrest]
      exact HZ.out rest
    clear HZ hpre
    have j0 := hj.c0
    have j1 := hj.c1
    have j2 := hj.c2
    have j3 := hj.c3
    have j4 := hj.c4
    have j5 := hj.c5
    have b0 := hbh.cell
    have r0 := hres.c0
    have r1 := hres.c1
    have r2 := hres.c2
    have r3 := hres.c3
    have r4 := hres.c4
    have r5 := hres.c5
    have rf := hres.fr
    have hDg : g + 1 + 1 < D := by omega
    by_cases h0 : z.2 = 0
    · have h0b : ((z.2 : Int) == 0) = true := by rw [h0]; rfl
      have Z5 : B6 (((((((W).setCell ⟨w.heap.size, 0, none⟩ (.int .i64 0)).setCell ⟨w.heap.size, 1, none⟩ (.int .i64 0)).setCell ⟨w.heap.size, 2, none⟩ (.int .i64 0)).setCell ⟨w.heap.size, 3, none⟩ (.int .i64 0)).setCell ⟨w.heap.size, 4, none⟩ (.int .i64 0)).setCell ⟨w.heap.size, 5, none⟩ (.slice none 0 0)) w.heap.size (.int .i64 0) (.int .i64 0) (.int .i64 0) (.int .i64 0) (.int .i64 0) (.slice none 0 0) := (hres.set (.int .i64 0) (.int .i64 0) (.int .i64 0) (.int .i64 0) (.int .i64 0) (.slice none 0 0))
      have B5 : Below w.heap.size w (((((((W).setCell ⟨w.heap.size, 0, none⟩ (.int .i64 0)).setCell ⟨w.heap.size, 1, none⟩ (.int .i64 0)).setCell ⟨w.heap.size, 2, none⟩ (.int .i64 0)).setCell ⟨w.heap.size, 3, none⟩ (.int .i64 0)).setCell ⟨w.heap.size, 4, none⟩ (.int .i64 0)).setCell ⟨w.heap.size, 5, none⟩ (.slice none 0 0)) := (below_set6 hB (Nat.le_refl _) _ _ _ _ _ _)
      have K5 : (((((((W).setCell ⟨w.heap.size, 0, none⟩ (.int .i64 0)).setCell ⟨w.heap.size, 1, none⟩ (.int .i64 0)).setCell ⟨w.heap.size, 2, none⟩ (.int .i64 0)).setCell ⟨w.heap.size, 3, none⟩ (.int .i64 0)).setCell ⟨w.heap.size, 4, none⟩ (.int .i64 0)).setCell ⟨w.heap.size, 5, none⟩ (.slice none 0 0)).heap[D]? = some (.deferred (some [])) := obj_far6 hK (by omega) _ _ _ _ _ _
      gi_wp2
      obtain ⟨w5, hw5⟩ : ∃ w5, ((((((W).setCell ⟨w.heap.size, 0, none⟩ (.int .i64 0)).setCell ⟨w.heap.size, 1, none⟩ (.int .i64 0)).setCell ⟨w.heap.size, 2, none⟩ (.int .i64 0)).setCell ⟨w.heap.size, 3, none⟩ (.int .i64 0)).setCell ⟨w.heap.size, 4, none⟩ (.int .i64 0)).setCell ⟨w.heap.size, 5, none⟩ (.slice none 0 0) = w5 := ⟨_, rfl⟩
      rw [hw5] at Z5 B5 K5 ⊢
      clear hw5
      refine ⟨by simp, .inl ⟨_, _, rfl, run_takeDeferred K5, ?_⟩⟩
      refine ⟨_, ret_j3 rfl rfl rfl rfl (Z5.put _ (by omega)), B5.trans (belowK_b (w := w) (Nat.le_refl _) _ D _ _ (by omega) K5 rfl rfl), ?_, ?_⟩
      · rw [HR.out]; intro _; rfl
      · rw [HR.out]; intro h; exact absurd h0 h
    · have h0b : ((z.2 : Int) == 0) = false := by rw [Bool.eq_false_iff]; intro h; apply h0; simpa using h
      by_cases hl : z.2 < s.size
      · have hl2 : (z.2 : Int) < (s.size : Int) := by omega
        have Z5 : B6 ((((((((W).setCell ⟨w.heap.size, 0, none⟩ (.int .i64 n)).setCell ⟨w.heap.size, 1, none⟩ (.int .i64 z.1.t)).setCell ⟨w.heap.size, 2, none⟩ (.int .i64 z.1.v)).setCell ⟨w.heap.size, 3, none⟩ (.int .i64 z.1.s)).setCell ⟨w.heap.size, 4, none⟩ (.int .i64 z.1.st)).setCell ⟨w.heap.size, 5, none⟩ (.slice a k c)).drew) w.heap.size (.int .i64 n) (.int .i64 z.1.t) (.int .i64 z.1.v) (.int .i64 z.1.s) (.int .i64 z.1.st) (.slice a k c) := (hres.set (.int .i64 n) (.int .i64 z.1.t) (.int .i64 z.1.v) (.int .i64 z.1.s) (.int .i64 z.1.st) (.slice a k c)).drew
        have B5 : Below w.heap.size w ((((((((W).setCell ⟨w.heap.size, 0, none⟩ (.int .i64 n)).setCell ⟨w.heap.size, 1, none⟩ (.int .i64 z.1.t)).setCell ⟨w.heap.size, 2, none⟩ (.int .i64 z.1.v)).setCell ⟨w.heap.size, 3, none⟩ (.int .i64 z.1.s)).setCell ⟨w.heap.size, 4, none⟩ (.int .i64 z.1.st)).setCell ⟨w.heap.size, 5, none⟩ (.slice a k c)).drew) := Below.drew (below_set6 hB (Nat.le_refl _) _ _ _ _ _ _)
        have K5 : ((((((((W).setCell ⟨w.heap.size, 0, none⟩ (.int .i64 n)).setCell ⟨w.heap.size, 1, none⟩ (.int .i64 z.1.t)).setCell ⟨w.heap.size, 2, none⟩ (.int .i64 z.1.v)).setCell ⟨w.heap.size, 3, none⟩ (.int .i64 z.1.s)).setCell ⟨w.heap.size, 4, none⟩ (.int .i64 z.1.st)).setCell ⟨w.heap.size, 5, none⟩ (.slice a k c)).drew).heap[D]? = some (.deferred (some [])) := obj_far6d hK (by omega) _ _ _ _ _ _
        have O5 : ownsR ((((((((W).setCell ⟨w.heap.size, 0, none⟩ (.int .i64 n)).setCell ⟨w.heap.size, 1, none⟩ (.int .i64 z.1.t)).setCell ⟨w.heap.size, 2, none⟩ (.int .i64 z.1.v)).setCell ⟨w.heap.size, 3, none⟩ (.int .i64 z.1.s)).setCell ⟨w.heap.size, 4, none⟩ (.int .i64 z.1.st)).setCell ⟨w.heap.size, 5, none⟩ (.slice a k c)).drew) w.heap.size 84 (.slice a k c) z.1.l := ownsR.drew (ownsR_set6 ho (not_row6 hres ho) _ _ _ _ _ _)
        gi_wp2
        refine wpIn_wide.2 ?_
        go_region
        obtain ⟨w5, hw5⟩ : ∃ w5, (((((((W).setCell ⟨w.heap.size, 0, none⟩ (.int .i64 n)).setCell ⟨w.heap.size, 1, none⟩ (.int .i64 z.1.t)).setCell ⟨w.heap.size, 2, none⟩ (.int .i64 z.1.v)).setCell ⟨w.heap.size, 3, none⟩ (.int .i64 z.1.s)).setCell ⟨w.heap.size, 4, none⟩ (.int .i64 z.1.st)).setCell ⟨w.heap.size, 5, none⟩ (.slice a k c)).drew = w5 := ⟨_, rfl⟩
        rw [hw5] at Z5 B5 K5 O5 ⊢
        clear hw5
        gi_wp2
        refine ⟨by simp, .inl ⟨_, _, rfl, run_takeDeferred K5, ?_⟩⟩
        refine ⟨_, ret_j3 rfl rfl rfl rfl (Z5.put _ (by omega)), B5.trans (belowK_b (w := w) (Nat.le_refl _) _ D _ _ (by omega) K5 rfl rfl), ?_, ?_⟩
        · rw [HR.out]; intro h; exact absurd h h0
        · rw [HR.out]; intro _
          exact ⟨a, k, c, by rw [if_pos hl]; rfl, ownsRow_putObj O5 _ K5 rfl⟩
      · have hl2 : ¬ (z.2 : Int) < (s.size : Int) := by omega
        have Z5 : B6 ((((((((W).setCell ⟨w.heap.size, 0, none⟩ (.int .i64 n)).setCell ⟨w.heap.size, 1, none⟩ (.int .i64 z.1.t)).setCell ⟨w.heap.size, 2, none⟩ (.int .i64 z.1.v)).setCell ⟨w.heap.size, 3, none⟩ (.int .i64 z.1.s)).setCell ⟨w.heap.size, 4, none⟩ (.int .i64 z.1.st)).setCell ⟨w.heap.size, 5, none⟩ (.slice a k c)).drew) w.heap.size (.int .i64 n) (.int .i64 z.1.t) (.int .i64 z.1.v) (.int .i64 z.1.s) (.int .i64 z.1.st) (.slice a k c) := (hres.set (.int .i64 n) (.int .i64 z.1.t) (.int .i64 z.1.v) (.int .i64 z.1.s) (.int .i64 z.1.st) (.slice a k c)).drew
        have B5 : Below w.heap.size w ((((((((W).setCell ⟨w.heap.size, 0, none⟩ (.int .i64 n)).setCell ⟨w.heap.size, 1, none⟩ (.int .i64 z.1.t)).setCell ⟨w.heap.size, 2, none⟩ (.int .i64 z.1.v)).setCell ⟨w.heap.size, 3, none⟩ (.int .i64 z.1.s)).setCell ⟨w.heap.size, 4, none⟩ (.int .i64 z.1.st)).setCell ⟨w.heap.size, 5, none⟩ (.slice a k c)).drew) := Below.drew (below_set6 hB (Nat.le_refl _) _ _ _ _ _ _)
        have K5 : ((((((((W).setCell ⟨w.heap.size, 0, none⟩ (.int .i64 n)).setCell ⟨w.heap.size, 1, none⟩ (.int .i64 z.1.t)).setCell ⟨w.heap.size, 2, none⟩ (.int .i64 z.1.v)).setCell ⟨w.heap.size, 3, none⟩ (.int .i64 z.1.s)).setCell ⟨w.heap.size, 4, none⟩ (.int .i64 z.1.st)).setCell ⟨w.heap.size, 5, none⟩ (.slice a k c)).drew).heap[D]? = some (.deferred (some [])) := obj_far6d hK (by omega) _ _ _ _ _ _
        have O5 : ownsR ((((((((W).setCell ⟨w.heap.size, 0, none⟩ (.int .i64 n)).setCell ⟨w.heap.size, 1, none⟩ (.int .i64 z.1.t)).setCell ⟨w.heap.size, 2, none⟩ (.int .i64 z.1.v)).setCell ⟨w.heap.size, 3, none⟩ (.int .i64 z.1.s)).setCell ⟨w.heap.size, 4, none⟩ (.int .i64 z.1.st)).setCell ⟨w.heap.size, 5, none⟩ (.slice a k c)).drew) w.heap.size 84 (.slice a k c) z.1.l := ownsR.drew (ownsR_set6 ho (not_row6 hres ho) _ _ _ _ _ _)
        gi_wp2
        refine wpIn_wide.2 ?_
        go_region
        obtain ⟨w5, hw5⟩ : ∃ w5, (((((((W).setCell ⟨w.heap.size, 0, none⟩ (.int .i64 n)).setCell ⟨w.heap.size, 1, none⟩ (.int .i64 z.1.t)).setCell ⟨w.heap.size, 2, none⟩ (.int .i64 z.1.v)).setCell ⟨w.heap.size, 3, none⟩ (.int .i64 z.1.s)).setCell ⟨w.heap.size, 4, none⟩ (.int .i64 z.1.st)).setCell ⟨w.heap.size, 5, none⟩ (.slice a k c)).drew = w5 := ⟨_, rfl⟩
        rw [hw5] at Z5 B5 K5 O5 ⊢
        clear hw5
        gi_wp2
        refine ⟨by simp, .inl ⟨_, _, rfl, run_takeDeferred K5, ?_⟩⟩
        refine ⟨_, ret_j3 rfl rfl rfl rfl (Z5.put _ (by omega)), B5.trans (belowK_b (w := w) (Nat.le_refl _) _ D _ _ (by omega) K5 rfl rfl), ?_, ?_⟩
        · rw [HR.out]; intro h; exact absurd h h0
        · rw [HR.out]; intro _
          exact ⟨a, k, c, by rw [if_neg hl]; rfl, ownsRow_putObj O5 _ K5 rfl⟩
end Go.Proofs.YtijmaplejpnggaaGreatDoor
