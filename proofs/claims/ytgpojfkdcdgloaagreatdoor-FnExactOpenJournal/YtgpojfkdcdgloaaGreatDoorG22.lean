/-
  Journals: a file that is read, as the program answers of it: the walk. Journals: a file that is read, as the model reads it: the walk. Journals: a file that is read, as the model reads it, frame by frame: the walk. Journals: a file that is read, as the model reads it, record by record: the walk.
-/
import Derived.Test.YtgpojfkdcdgloaaGreatDoorG20
import Derived.Test.YtgpojfkdcdgloaaGreatDoorG21
import Derived.Test.YtgpojfkdcdgloaaGreatDoorG14
import Derived.Test.YtgpojfkdcdgloaaGreatDoorG8
namespace Go.Proofs.YtgpojfkdcdgloaaGreatDoor
open Go Go.RowKit

/-- What is read of a file: whether it is a journal's, the journal, and the place behind it. -/
def rjB (n : Int) (s : ByteArray) : Bool := numB n && decide ((rdJ s).2 ≠ 0)
def rjN (n : Int) (s : ByteArray) : Int := if rjB n s then n else 0
def rjJ (n : Int) (s : ByteArray) : Jn := if rjB n s then (rdJ s).1 else ⟨0, 0, 0, 0, []⟩
def rjP (n : Int) (s : ByteArray) : Nat := if rjB n s then (rdJ s).2 else 0
/-- What is answered of it. -/
def RjP (n : Int) (s : ByteArray) (w : World) (e : Ending) (w' : World) : Prop :=
  ∃ a k c, e = .returned (.tuple #[jV (rjN n s) (rjJ n s).t (rjJ n s).v (rjJ n s).s (rjJ n s).st (.slice a k c), .int .i64 (rjP n s : Int), .bool (rjB n s)]) ∧ ownsR w' w.heap.size 110 (.slice a k c) (rjJ n s).l ∧ Below w.heap.size w w'
theorem RjP_no {n : Int} {s : ByteArray} {w w' : World} (h : rjB n s = false) (hb : Below w.heap.size w w') : RjP n s w (.returned (.tuple #[jV 0 0 0 0 0 (.slice none 0 0), .int .i64 0, .bool false])) w' := by
  unfold RjP rjN rjJ rjP
  rw [h]
  exact ⟨none, 0, 0, rfl, ownsR_nil _ _ _, hb⟩
theorem RjP_yes {n : Int} {s : ByteArray} {w w' : World} {a : Option Addr} {k c : Nat} (h : rjB n s = true) (hb : Below w.heap.size w w') (ho : ownsR w' w.heap.size 110 (.slice a k c) (rdJ s).1.l) : RjP n s w (.returned (.tuple #[jV n (rdJ s).1.t (rdJ s).1.v (rdJ s).1.s (rdJ s).1.st (.slice a k c), .int .i64 ((rdJ s).2 : Int), .bool true])) w' := by
  unfold RjP rjN rjJ rjP
  rw [h]
  exact ⟨a, k, c, rfl, ho, hb⟩

set_option maxRecDepth 10000 in
set_option maxHeartbeats 2000000 in
theorem readJournal_no (n : Int) (s : ByteArray) (w : World) (hn : numB n = false) (hp : PowIs w) :
    Calls Tryz.prog 50 #[.int .i64 n, .string s] w fun e w' => e = .returned (.tuple #[jV 0 0 0 0 0 (.slice none 0 0), .int .i64 0, faultV 1]) ∧ Below w.heap.size w w' := by
  have HN : Hid (numB n = false) := hn
  clear hn
  go_enter Tryz.func50, Tryz.ntmps50
  go_wp2_with fail
  refine Calls.mono (journalName_no HN.out _ (hp.below (ba (Below.refl _ _) _))) ?_
  rintro e w3 ⟨rfl, hb1⟩
  have Z3 := (B6.new w (.int .i64 0) (.int .i64 0) (.int .i64 0) (.int .i64 0) (.int .i64 0) (.slice none 0 0)).up hb1
  have B3 := below_new hb1
  clear hb1
  have r0 := Z3.c0
  have r1 := Z3.c1
  have r2 := Z3.c2
  have r3 := Z3.c3
  have r4 := Z3.c4
  have r5 := Z3.c5
  have rf := Z3.fr
  have Z4 : B6 (((((((w3).setCell ⟨w.heap.size, 0, none⟩ (.int .i64 0)).setCell ⟨w.heap.size, 1, none⟩ (.int .i64 0)).setCell ⟨w.heap.size, 2, none⟩ (.int .i64 0)).setCell ⟨w.heap.size, 3, none⟩ (.int .i64 0)).setCell ⟨w.heap.size, 4, none⟩ (.int .i64 0)).setCell ⟨w.heap.size, 5, none⟩ (.slice none 0 0)) w.heap.size (.int .i64 0) (.int .i64 0) (.int .i64 0) (.int .i64 0) (.int .i64 0) (.slice none 0 0) := Z3.set (.int .i64 0) (.int .i64 0) (.int .i64 0) (.int .i64 0) (.int .i64 0) (.slice none 0 0)
  have B4 : Below w.heap.size w (((((((w3).setCell ⟨w.heap.size, 0, none⟩ (.int .i64 0)).setCell ⟨w.heap.size, 1, none⟩ (.int .i64 0)).setCell ⟨w.heap.size, 2, none⟩ (.int .i64 0)).setCell ⟨w.heap.size, 3, none⟩ (.int .i64 0)).setCell ⟨w.heap.size, 4, none⟩ (.int .i64 0)).setCell ⟨w.heap.size, 5, none⟩ (.slice none 0 0)) := below_set6 B3 (Nat.le_refl _) _ _ _ _ _ _
  go_wp2
  obtain ⟨w4, hw4⟩ : ∃ w4, ((((((w3).setCell ⟨w.heap.size, 0, none⟩ (.int .i64 0)).setCell ⟨w.heap.size, 1, none⟩ (.int .i64 0)).setCell ⟨w.heap.size, 2, none⟩ (.int .i64 0)).setCell ⟨w.heap.size, 3, none⟩ (.int .i64 0)).setCell ⟨w.heap.size, 4, none⟩ (.int .i64 0)).setCell ⟨w.heap.size, 5, none⟩ (.slice none 0 0) = w4 := ⟨_, rfl⟩
  rw [hw4] at Z4 B4 ⊢
  clear hw4
  exact bodyPost_ret (ret_j3 rfl rfl rfl rfl Z4) rfl ⟨rfl, B4⟩

/-- The program's reading, all its answers in one form. -/
theorem readJournal1 (n : Int) (s : ByteArray) (w : World) (hs : s.size ≤ 1048576) (hp : PowIs w) (ht : TableIs w) :
    Calls Tryz.prog 50 #[.int .i64 n, .string s] w fun e w' => ∃ (n1 t1 v1 s1 u1 : Int) (a1 : Option Addr) (k1 c1 : Nat), e = .returned (.tuple #[jV n1 t1 v1 s1 u1 (.slice a1 k1 c1), .int .i64 (rjP n s : Int), if rjB n s then (if rjP n s < s.size then faultV 3 else .nilIface) else if numB n then faultV 2 else faultV 1]) ∧
      (n1 = rjN n s ∧ t1 = (rjJ n s).t ∧ v1 = (rjJ n s).v ∧ s1 = (rjJ n s).s ∧ u1 = (rjJ n s).st) ∧ ownsR w' w.heap.size 110 (.slice a1 k1 c1) (rjJ n s).l ∧ Below w.heap.size w w' := by
  cases hn : numB n with
  | false =>
    refine (readJournal_no n s w hn hp).mono ?_
    rintro e w' ⟨rfl, hb⟩
    have hr : rjB n s = false := by unfold rjB; rw [hn]; rfl
    unfold rjN rjJ rjP
    rw [hr]
    exact ⟨0, 0, 0, 0, 0, none, 0, 0, rfl, ⟨rfl, rfl, rfl, rfl, rfl⟩, ownsR_nil _ _ _, hb⟩
  | true =>
    refine (readJournal_in n s w hs hn hp ht).mono ?_
    rintro e w' ⟨hb, h0, h1⟩
    by_cases hz : (rdJ s).2 = 0
    · have hr : rjB n s = false := by unfold rjB; rw [hn, decide_eq_false (by simpa using hz)]; rfl
      rw [h0 hz]
      unfold rjN rjJ rjP
      rw [hr]
      exact ⟨0, 0, 0, 0, 0, none, 0, 0, rfl, ⟨rfl, rfl, rfl, rfl, rfl⟩, ownsR_nil _ _ _, hb⟩
    · have hr : rjB n s = true := by unfold rjB; rw [hn, decide_eq_true hz]; rfl
      obtain ⟨a, k, c, rfl, ho⟩ := h1 hz
      unfold rjN rjJ rjP
      rw [hr]
      exact ⟨n, _, _, _, _, a, k, c, rfl, ⟨rfl, rfl, rfl, rfl, rfl⟩, ho, hb⟩

end Go.Proofs.YtgpojfkdcdgloaaGreatDoor

namespace Go.Proofs.YtgpojfkdcdgloaaGreatDoor
open Go Go.RowKit

theorem specUnframe_q (s : ByteArray) (w : World) (hs : s.size ≤ 1048576) :
    Calls Tryz.prog 39 #[.string s] w fun e w' => ∃ (v : Value) (b : Int), e = .returned (.tuple #[v, .int .i64 b]) ∧ ownsS w' w.heap.size 9 v (recs (frq s)) ∧ Below w.heap.size w w' := by
  by_cases h : s.size ≤ 20000
  · refine (specUnframe_any s w h).mono ?_
    rintro e w' ⟨v, he, ho, hb⟩
    exact ⟨v, _, he, by rw [frq_in h]; exact ho, hb⟩
  · refine (specUnframe_long s w (by omega) (by omega)).mono ?_
    rintro e w' ⟨v, he, ho, hb⟩
    exact ⟨v, _, he, by rw [frq_long (by omega)]; exact ho, hb⟩

/-- Frames that follow one another, from a place on. -/
def ChainF (s : ByteArray) : Nat → List (ByteArray × Nat) → Prop
  | _, [] => True
  | a, x :: l => rdF s a = some x ∧ ChainF s x.2 l
theorem unf_chain (s : ByteArray) : ∀ (f a : Nat), ChainF s a (unf s f a)
  | 0, _ => trivial
  | f + 1, a => by
    unfold unf
    cases h : rdF s a with
    | none => trivial
    | some x => exact ⟨h, unf_chain s f x.2⟩
theorem rdF_len {s : ByteArray} {a e : Nat} {t : ByteArray} (ha : a ≤ s.size) (h : rdF s a = some (t, e)) : (frameT t).size = e - a ∧ 1 ≤ t.size ∧ t.size ≤ 9000 := by
  have hbd := rdF_bd ha h
  unfold rdF at h
  split at h
  · rename_i h0
    split at h
    · rename_i h1
      have hb := rv_bd s a ha h0.1
      simp only [Option.some.injEq, Prod.mk.injEq] at h
      obtain ⟨ht, he⟩ := h
      have h3 := h1.2.2
      rw [ht, he] at h3
      refine ⟨by rw [h3, ByteArray.size_extract]; omega, ?_, ?_⟩
      · rw [← ht, ByteArray.size_extract]; omega
      · rw [← ht, ByteArray.size_extract]; omega
    · simp at h
  · simp at h
theorem ownsS.save {w w' : World} {B g : Nat} {v : Value} {l : List ByteArray} {x0 x1 x2 x3 x4 x5 : Value} (h : ownsS w B 9 v l) (hg : B6 w g x0 x1 x2 x3 x4 x5) (hs : Save g w w') : ownsS w' B 9 v l :=
  World.ownsRow.kept h ⟨hs.os, hs.tape, hs.output, hs.size, fun k hk hne => hs.block k hk (fun e => hne (by rw [e]))⟩ (.inr (fun e => row_type h hg (by decide) e.symm))
theorem B6.save {w w' : World} {b g : Nat} {x0 x1 x2 x3 x4 x5 : Value} (h : B6 w b x0 x1 x2 x3 x4 x5) (hs : Save g w w') (hne : b ≠ g) : B6 w' b x0 x1 x2 x3 x4 x5 := (hs.block b h.lt hne).trans h

/-- What lies there while the model reads a file. -/
structure MI (n : Int) (F : List (ByteArray × Nat)) (w : World) (g : Nat) (v : Value) (j : Jn) (W : World) : Prop where
  jb : ∃ a k c, B6 W g (.int .i64 n) (.int .i64 j.t) (.int .i64 j.v) (.int .i64 j.s) (.int .i64 j.st) (.slice a k c) ∧ ownsR W w.heap.size 110 (.slice a k c) j.l
  list : ownsS W w.heap.size 9 v (recs F)
  res : B6 W w.heap.size (.int .i64 0) (.int .i64 0) (.int .i64 0) (.int .i64 0) (.int .i64 0) (.slice none 0 0)
  bel : Below w.heap.size w W
theorem MI.up {n : Int} {F : List (ByteArray × Nat)} {w : World} {g : Nat} {v : Value} {j : Jn} {W W' : World} (h : MI n F w g v j W) (hb : Below W.heap.size W W') : MI n F w g v j W' := by
  obtain ⟨⟨a, k, c, h1, h2⟩, h3, h4, h5⟩ := h
  exact ⟨⟨a, k, c, h1.up hb, h2.all hb⟩, h3.all hb, h4.up hb, Below.on h5 hb⟩

/-- Where the model's reading stands. -/
structure MA (s : ByteArray) (F : List (ByteArray × Nat)) (r0 : ByteArray) (q a : Nat) (j : Jn) : Prop where
  chain : ChainF s a (F.drop q)
  le : a ≤ s.size
  zero : q = 0 → j = begJ r0 ∧ a = 0
  more : 0 < q → a ≠ 0 ∧ goJ initJ F = goJ (j, a) (F.drop q)
  len : j.l.length ≤ 60
  sized : SizedE j.l

set_option maxRecDepth 10000 in
set_option maxHeartbeats 4000000 in
theorem specRead_num (n : Int) (s : ByteArray) (w : World) (hs : s.size ≤ 1048576) (hn : numB n = false) :
    Calls Tryz.prog 21 #[.int .i64 n, .string s] w (RjP n s w) := by
  have HRB : Hid (rjB n s = false) := by show _ = _; unfold rjB; rw [hn]; rfl
  have HN : Hid ((decide (0 ≤ n) && decide (n ≤ 999)) = false) := hn
  clear hn
  go_enter Tryz.func21, Tryz.ntmps21
  go_wp2_with fail
  refine Calls.mono (specUnframe_q s _ hs) ?_
  rintro e w1 ⟨v, b, rfl, ho1, hb1⟩
  have ZZ := (B6.new w (.int .i64 0) (.int .i64 0) (.int .i64 0) (.int .i64 0) (.int .i64 0) (.slice none 0 0)).up hb1
  have BB := below_new hb1
  clear hb1
  go_wp2_with fail
  refine Calls.mono (l01In_b _ _ _ _ HN.out) ?_
  rintro e w' ⟨rfl, hw⟩
  have hw2 := hw.symm
  subst hw2
  have r0 := ZZ.c0
  have r1 := ZZ.c1
  have r2 := ZZ.c2
  have r3 := ZZ.c3
  have r4 := ZZ.c4
  have r5 := ZZ.c5
  have rf := ZZ.fr
  have Z4 : B6 (((((((w1).setCell ⟨w.heap.size, 0, none⟩ (.int .i64 0)).setCell ⟨w.heap.size, 1, none⟩ (.int .i64 0)).setCell ⟨w.heap.size, 2, none⟩ (.int .i64 0)).setCell ⟨w.heap.size, 3, none⟩ (.int .i64 0)).setCell ⟨w.heap.size, 4, none⟩ (.int .i64 0)).setCell ⟨w.heap.size, 5, none⟩ (.slice none 0 0)) w.heap.size (.int .i64 0) (.int .i64 0) (.int .i64 0) (.int .i64 0) (.int .i64 0) (.slice none 0 0) := ZZ.set (.int .i64 0) (.int .i64 0) (.int .i64 0) (.int .i64 0) (.int .i64 0) (.slice none 0 0)
  have B4 : Below w.heap.size w (((((((w1).setCell ⟨w.heap.size, 0, none⟩ (.int .i64 0)).setCell ⟨w.heap.size, 1, none⟩ (.int .i64 0)).setCell ⟨w.heap.size, 2, none⟩ (.int .i64 0)).setCell ⟨w.heap.size, 3, none⟩ (.int .i64 0)).setCell ⟨w.heap.size, 4, none⟩ (.int .i64 0)).setCell ⟨w.heap.size, 5, none⟩ (.slice none 0 0)) := below_set6 BB (Nat.le_refl _) _ _ _ _ _ _
  go_wp2
  obtain ⟨w4, hw4⟩ : ∃ w4, ((((((w1).setCell ⟨w.heap.size, 0, none⟩ (.int .i64 0)).setCell ⟨w.heap.size, 1, none⟩ (.int .i64 0)).setCell ⟨w.heap.size, 2, none⟩ (.int .i64 0)).setCell ⟨w.heap.size, 3, none⟩ (.int .i64 0)).setCell ⟨w.heap.size, 4, none⟩ (.int .i64 0)).setCell ⟨w.heap.size, 5, none⟩ (.slice none 0 0) = w4 := ⟨_, rfl⟩
  rw [hw4] at Z4 B4 ⊢
  clear hw4
  exact bodyPost_ret (ret_j3 rfl rfl rfl rfl Z4) rfl (RjP_no HRB.out B4)

set_option maxRecDepth 10000 in
set_option maxHeartbeats 4000000 in
theorem specRead_none (n : Int) (s : ByteArray) (w : World) (hs : s.size ≤ 1048576) (hn : numB n = true) (hF : frq s = []) :
    Calls Tryz.prog 21 #[.int .i64 n, .string s] w (RjP n s w) := by
  have HRB : Hid (rjB n s = false) := by show _ = _; unfold rjB rdJ; rw [hF]; simp [goJ, initJ]
  have HN : Hid ((decide (0 ≤ n) && decide (n ≤ 999)) = true) := hn
  have HF : Hid (frq s = []) := hF
  clear hn hF
  go_enter Tryz.func21, Tryz.ntmps21
  go_wp2_with fail
  refine Calls.mono (specUnframe_q s _ hs) ?_
  rintro e w1 ⟨v, b, rfl, ho1, hb1⟩
  rw [HF.out] at ho1
  obtain ⟨la, lc, rfl⟩ := ownsS_empty ho1
  have ZZ := (B6.new w (.int .i64 0) (.int .i64 0) (.int .i64 0) (.int .i64 0) (.int .i64 0) (.slice none 0 0)).up hb1
  have BB := below_new hb1
  clear hb1 ho1
  go_wp2_with fail
  refine Calls.mono (l01In_b _ _ _ _ HN.out) ?_
  rintro e w' ⟨rfl, hw⟩
  have hw2 := hw.symm
  subst hw2
  have r0 := ZZ.c0
  have r1 := ZZ.c1
  have r2 := ZZ.c2
  have r3 := ZZ.c3
  have r4 := ZZ.c4
  have r5 := ZZ.c5
  have rf := ZZ.fr
  have Z4 : B6 (((((((w1).setCell ⟨w.heap.size, 0, none⟩ (.int .i64 0)).setCell ⟨w.heap.size, 1, none⟩ (.int .i64 0)).setCell ⟨w.heap.size, 2, none⟩ (.int .i64 0)).setCell ⟨w.heap.size, 3, none⟩ (.int .i64 0)).setCell ⟨w.heap.size, 4, none⟩ (.int .i64 0)).setCell ⟨w.heap.size, 5, none⟩ (.slice none 0 0)) w.heap.size (.int .i64 0) (.int .i64 0) (.int .i64 0) (.int .i64 0) (.int .i64 0) (.slice none 0 0) := ZZ.set (.int .i64 0) (.int .i64 0) (.int .i64 0) (.int .i64 0) (.int .i64 0) (.slice none 0 0)
  have B4 : Below w.heap.size w (((((((w1).setCell ⟨w.heap.size, 0, none⟩ (.int .i64 0)).setCell ⟨w.heap.size, 1, none⟩ (.int .i64 0)).setCell ⟨w.heap.size, 2, none⟩ (.int .i64 0)).setCell ⟨w.heap.size, 3, none⟩ (.int .i64 0)).setCell ⟨w.heap.size, 4, none⟩ (.int .i64 0)).setCell ⟨w.heap.size, 5, none⟩ (.slice none 0 0)) := below_set6 BB (Nat.le_refl _) _ _ _ _ _ _
  go_wp2
  obtain ⟨w4, hw4⟩ : ∃ w4, ((((((w1).setCell ⟨w.heap.size, 0, none⟩ (.int .i64 0)).setCell ⟨w.heap.size, 1, none⟩ (.int .i64 0)).setCell ⟨w.heap.size, 2, none⟩ (.int .i64 0)).setCell ⟨w.heap.size, 3, none⟩ (.int .i64 0)).setCell ⟨w.heap.size, 4, none⟩ (.int .i64 0)).setCell ⟨w.heap.size, 5, none⟩ (.slice none 0 0) = w4 := ⟨_, rfl⟩
  rw [hw4] at Z4 B4 ⊢
  clear hw4
  exact bodyPost_ret (ret_j3 rfl rfl rfl rfl Z4) rfl (RjP_no HRB.out B4)

end Go.Proofs.YtgpojfkdcdgloaaGreatDoor

namespace Go.Proofs.YtgpojfkdcdgloaaGreatDoor
open Go Go.RowKit

set_option maxRecDepth 10000 in
set_option maxHeartbeats 4000000 in
theorem specRead_two (n : Int) (s : ByteArray) (w : World) (hs : s.size ≤ 1048576) (hs2 : s.size ≤ 20000) (hn : numB n = true) (r0 : ByteArray) (e0 : Nat) (rest : List (ByteArray × Nat)) (hF : frq s = (r0, e0) :: rest) (hr0s : r0.size ≤ 20000) (h2 : twoB 66 r0 = false) :
    Calls Tryz.prog 21 #[.int .i64 n, .string s] w (RjP n s w) := by
  have HRB : Hid (rjB n s = false) := by
    show _ = _
    have hb : stepB initJ r0 = false := by unfold stepB initJ begB; rw [if_pos rfl, h2]; rfl
    unfold rjB rdJ
    rw [hF, goJ_no hb]
    simp [initJ]
  have HN : Hid ((decide (0 ≤ n) && decide (n ≤ 999)) = true) := hn
  have HF : Hid (frq s = (r0, e0) :: rest) := hF
  have HTW : Hid (∀ W, Calls Tryz.prog 40 #[.string r0, .string ⟨#[66]⟩] W fun e w' => e = .returned (.tuple #[.int .i64 0, .int .i64 0, .bool false]) ∧ Below W.heap.size W w') := fun W => by
    have := l07Two_any 66 r0 W hr0s
    rw [h2] at this
    exact this
  clear hn hF h2
  go_enter Tryz.func21, Tryz.ntmps21
  go_wp2_with fail
  refine Calls.mono (specUnframe_q s _ hs) ?_
  rintro e w1 ⟨v, b, rfl, ho1, hb1⟩
  rw [HF.out] at ho1
  obtain ⟨lg, lc, rfl, hlg, hlw, hlc, hcl, hfl⟩ := ownsS_form ho1 (by simp [recs])
  have hr0 : w1.cell? ⟨lg, 0, none⟩ = some (.string r0) := hcl 0 (by simp [recs])
  have HO1 : Hid (ownsS w1 w.heap.size 9 (.slice (some ⟨lg, 0, none⟩) (recs ((r0, e0) :: rest)).length lc) (recs ((r0, e0) :: rest))) := ho1.mono (by simp)
  obtain ⟨m, HM⟩ : ∃ m, Hid ((recs ((r0, e0) :: rest)).length = m) := ⟨_, rfl⟩
  have hm1 : 1 ≤ m := by rw [← HM.out]; simp [recs]
  have hmm : m ≤ 20001 := by rw [← HM.out, recs_len, ← HF.out, frq_in hs2]; have := frs_len s 0; omega
  rw [HM.out] at HO1 hlc ⊢
  have Z1 := (B6.new w (.int .i64 0) (.int .i64 0) (.int .i64 0) (.int .i64 0) (.int .i64 0) (.slice none 0 0)).up hb1
  have B1 := below_new hb1
  clear hb1 hcl hfl ho1
  go_wp2_with fail
  refine Calls.mono (l01In_b _ _ _ _ HN.out) ?_
  rintro e w' ⟨rfl, hw⟩
  have hw2 := hw.symm
  subst hw2
  go_wp2_with fail
  refine Calls.mono (HTW.out _) ?_
  rintro e w2 ⟨rfl, hb2⟩
  have ZZ := (Z1.up hb2).alloc (.cells #[.int .i64 n, .int .i64 0, .int .i64 0, .int .i64 0, .int .i64 0, .slice none 0 0] 30)
  have BB := ba (Below.on B1 hb2) (.cells #[.int .i64 n, .int .i64 0, .int .i64 0, .int .i64 0, .int .i64 0, .slice none 0 0] 30)
  have hl2 : w.heap.size < w2.heap.size := (Z1.up hb2).lt
  obtain ⟨WX, HWX⟩ : ∃ WX, Hid (w2.alloc (.cells #[.int .i64 n, .int .i64 0, .int .i64 0, .int .i64 0, .int .i64 0, .slice none 0 0] 30) = WX) := ⟨_, rfl⟩
  rw [HWX.out] at ZZ BB
  have r0 := ZZ.c0
  have r1 := ZZ.c1
  have r2 := ZZ.c2
  have r3 := ZZ.c3
  have r4 := ZZ.c4
  have r5 := ZZ.c5
  have rf := ZZ.fr
  have Z4 : B6 (((((((WX).setCell ⟨w.heap.size, 0, none⟩ (.int .i64 0)).setCell ⟨w.heap.size, 1, none⟩ (.int .i64 0)).setCell ⟨w.heap.size, 2, none⟩ (.int .i64 0)).setCell ⟨w.heap.size, 3, none⟩ (.int .i64 0)).setCell ⟨w.heap.size, 4, none⟩ (.int .i64 0)).setCell ⟨w.heap.size, 5, none⟩ (.slice none 0 0)) w.heap.size (.int .i64 0) (.int .i64 0) (.int .i64 0) (.int .i64 0) (.int .i64 0) (.slice none 0 0) := ZZ.set (.int .i64 0) (.int .i64 0) (.int .i64 0) (.int .i64 0) (.int .i64 0) (.slice none 0 0)
  have B4 : Below w.heap.size w (((((((WX).setCell ⟨w.heap.size, 0, none⟩ (.int .i64 0)).setCell ⟨w.heap.size, 1, none⟩ (.int .i64 0)).setCell ⟨w.heap.size, 2, none⟩ (.int .i64 0)).setCell ⟨w.heap.size, 3, none⟩ (.int .i64 0)).setCell ⟨w.heap.size, 4, none⟩ (.int .i64 0)).setCell ⟨w.heap.size, 5, none⟩ (.slice none 0 0)) := below_set6 BB (Nat.le_refl _) _ _ _ _ _ _
  go_wp2_with (rw [HWX.out])
  obtain ⟨w4, hw4⟩ : ∃ w4, ((((((WX).setCell ⟨w.heap.size, 0, none⟩ (.int .i64 0)).setCell ⟨w.heap.size, 1, none⟩ (.int .i64 0)).setCell ⟨w.heap.size, 2, none⟩ (.int .i64 0)).setCell ⟨w.heap.size, 3, none⟩ (.int .i64 0)).setCell ⟨w.heap.size, 4, none⟩ (.int .i64 0)).setCell ⟨w.heap.size, 5, none⟩ (.slice none 0 0) = w4 := ⟨_, rfl⟩
  rw [hw4] at Z4 B4 ⊢
  clear hw4
  exact bodyPost_ret (ret_j3 rfl rfl rfl rfl Z4) rfl (RjP_no HRB.out B4)

set_option maxRecDepth 10000 in
set_option maxHeartbeats 4000000 in
theorem specRead_log (n : Int) (s : ByteArray) (w : World) (hs : s.size ≤ 1048576) (hs2 : s.size ≤ 20000) (hn : numB n = true) (r0 : ByteArray) (e0 : Nat) (rest : List (ByteArray × Nat)) (hF : frq s = (r0, e0) :: rest) (hr0s : r0.size ≤ 20000) (h2 : twoB 66 r0 = true) (h3 : okL (twoX r0) (twoY r0) [] = false) :
    Calls Tryz.prog 21 #[.int .i64 n, .string s] w (RjP n s w) := by
  have HRB : Hid (rjB n s = false) := by
    show _ = _
    have hb : stepB initJ r0 = false := by unfold stepB initJ begB; rw [if_pos rfl, h2, h3]; rfl
    unfold rjB rdJ
    rw [hF, goJ_no hb]
    simp [initJ]
  have HN : Hid ((decide (0 ≤ n) && decide (n ≤ 999)) = true) := hn
  have HF : Hid (frq s = (r0, e0) :: rest) := hF
  obtain ⟨X, HX⟩ : ∃ X : Int, Hid ((twoX r0 : Int) = X) := ⟨_, rfl⟩
  obtain ⟨Y, HY⟩ : ∃ Y : Int, Hid ((twoY r0 : Int) = Y) := ⟨_, rfl⟩
  have HTW : Hid (∀ W, Calls Tryz.prog 40 #[.string r0, .string ⟨#[66]⟩] W fun e w' => e = .returned (.tuple #[.int .i64 X, .int .i64 Y, .bool true]) ∧ Below W.heap.size W w') := fun W => by
    have := l07Two_any 66 r0 W hr0s
    rw [h2, if_pos rfl, if_pos rfl, HX.out, HY.out] at this
    exact this
  have CL : Hid (∀ W, Calls Tryz.prog 41 #[.agg #[.int .i64 X, .int .i64 Y, .slice none 0 0]] W fun e w' => e = .returned (.bool false) ∧ Below W.heap.size W w') := fun W => by
    have := specLogOk_any (s := X) (t := Y) (reads_none (α := En) W none 0) (by simp) (fun f hf => by simp at hf)
    rw [← HX.out, ← HY.out, h3] at this
    rw [HX.out, HY.out] at this
    exact this
  clear hn hF h2 h3
  go_enter Tryz.func21, Tryz.ntmps21
  go_wp2_with fail
  refine Calls.mono (specUnframe_q s _ hs) ?_
  rintro e w1 ⟨v, b, rfl, ho1, hb1⟩
  rw [HF.out] at ho1
  obtain ⟨lg, lc, rfl, hlg, hlw, hlc, hcl, hfl⟩ := ownsS_form ho1 (by simp [recs])
  have hr0 : w1.cell? ⟨lg, 0, none⟩ = some (.string r0) := hcl 0 (by simp [recs])
  have HO1 : Hid (ownsS w1 w.heap.size 9 (.slice (some ⟨lg, 0, none⟩) (recs ((r0, e0) :: rest)).length lc) (recs ((r0, e0) :: rest))) := ho1.mono (by simp)
  obtain ⟨m, HM⟩ : ∃ m, Hid ((recs ((r0, e0) :: rest)).length = m) := ⟨_, rfl⟩
  have hm1 : 1 ≤ m := by rw [← HM.out]; simp [recs]
  have hmm : m ≤ 20001 := by rw [← HM.out, recs_len, ← HF.out, frq_in hs2]; have := frs_len s 0; omega
  rw [HM.out] at HO1 hlc ⊢
  have Z1 := (B6.new w (.int .i64 0) (.int .i64 0) (.int .i64 0) (.int .i64 0) (.int .i64 0) (.slice none 0 0)).up hb1
  have B1 := below_new hb1
  clear hb1 hcl hfl ho1
  go_wp2_with fail
  refine Calls.mono (l01In_b _ _ _ _ HN.out) ?_
  rintro e w' ⟨rfl, hw⟩
  have hw2 := hw.symm
  subst hw2
  go_wp2_with fail
  refine Calls.mono (HTW.out _) ?_
  rintro e w2 ⟨rfl, hb2⟩
  have Z2 := (Z1.up hb2).alloc (.cells #[.int .i64 n, .int .i64 0, .int .i64 0, .int .i64 X, .int .i64 Y, .slice none 0 0] 30)
  have B2 := ba (Below.on B1 hb2) (.cells #[.int .i64 n, .int .i64 0, .int .i64 0, .int .i64 X, .int .i64 Y, .slice none 0 0] 30)
  have N2 := B6.new w2 (.int .i64 n) (.int .i64 0) (.int .i64 0) (.int .i64 X) (.int .i64 Y) (.slice none 0 0)
  go_wp2_with fail
  obtain ⟨WX, hWX⟩ : ∃ WX, w2.alloc (.cells #[.int .i64 n, .int .i64 0, .int .i64 0, .int .i64 X, .int .i64 Y, .slice none 0 0] 30) = WX := ⟨_, rfl⟩
  rw [hWX] at Z2 B2 N2 ⊢
  refine Calls.mono (CL.out _) ?_
  rintro e w3 ⟨rfl, hb3⟩
  have ZZ := Z2.up hb3
  have BB := Below.on B2 hb3
  have r0 := ZZ.c0
  have r1 := ZZ.c1
  have r2 := ZZ.c2
  have r3 := ZZ.c3
  have r4 := ZZ.c4
  have r5 := ZZ.c5
  have rf := ZZ.fr
  have Z4 : B6 (((((((w3).setCell ⟨w.heap.size, 0, none⟩ (.int .i64 0)).setCell ⟨w.heap.size, 1, none⟩ (.int .i64 0)).setCell ⟨w.heap.size, 2, none⟩ (.int .i64 0)).setCell ⟨w.heap.size, 3, none⟩ (.int .i64 0)).setCell ⟨w.heap.size, 4, none⟩ (.int .i64 0)).setCell ⟨w.heap.size, 5, none⟩ (.slice none 0 0)) w.heap.size (.int .i64 0) (.int .i64 0) (.int .i64 0) (.int .i64 0) (.int .i64 0) (.slice none 0 0) := ZZ.set (.int .i64 0) (.int .i64 0) (.int .i64 0) (.int .i64 0) (.int .i64 0) (.slice none 0 0)
  have B4 : Below w.heap.size w (((((((w3).setCell ⟨w.heap.size, 0, none⟩ (.int .i64 0)).setCell ⟨w.heap.size, 1, none⟩ (.int .i64 0)).setCell ⟨w.heap.size, 2, none⟩ (.int .i64 0)).setCell ⟨w.heap.size, 3, none⟩ (.int .i64 0)).setCell ⟨w.heap.size, 4, none⟩ (.int .i64 0)).setCell ⟨w.heap.size, 5, none⟩ (.slice none 0 0)) := below_set6 BB (Nat.le_refl _) _ _ _ _ _ _
  go_wp2
  obtain ⟨w4, hw4⟩ : ∃ w4, ((((((w3).setCell ⟨w.heap.size, 0, none⟩ (.int .i64 0)).setCell ⟨w.heap.size, 1, none⟩ (.int .i64 0)).setCell ⟨w.heap.size, 2, none⟩ (.int .i64 0)).setCell ⟨w.heap.size, 3, none⟩ (.int .i64 0)).setCell ⟨w.heap.size, 4, none⟩ (.int .i64 0)).setCell ⟨w.heap.size, 5, none⟩ (.slice none 0 0) = w4 := ⟨_, rfl⟩
  rw [hw4] at Z4 B4 ⊢
  clear hw4
  exact bodyPost_ret (ret_j3 rfl rfl rfl rfl Z4) rfl (RjP_no HRB.out B4)

end Go.Proofs.YtgpojfkdcdgloaaGreatDoor

namespace Go.Proofs.YtgpojfkdcdgloaaGreatDoor
open Go Go.RowKit

theorem rj_done {n : Int} {s : ByteArray} {w w' : World} {j : Jn} {a : Nat} {av : Option Addr} {kv cv : Nat} (h : rdJ s = (j, a) ∧ a ≠ 0) (hn : numB n = true) (hb : Below w.heap.size w w') (ho : ownsR w' w.heap.size 110 (.slice av kv cv) j.l) :
    RjP n s w (.returned (.tuple #[jV n j.t j.v j.s j.st (.slice av kv cv), .int .i64 (a : Int), .bool true])) w' := by
  have hr : rjB n s = true := by
    unfold rjB
    rw [hn, h.1, decide_eq_true h.2]; rfl
  have := RjP_yes (n := n) (s := s) (w := w) (w' := w') (a := av) (k := kv) (c := cv) hr hb (by rw [h.1]; exact ho)
  rw [h.1] at this
  exact this
theorem drop_at {F : List (ByteArray × Nat)} {q : Nat} {x : ByteArray × Nat} (h : F[q]? = some x) : F.drop q = x :: F.drop (q + 1) := by
  have hl := (List.getElem?_eq_some_iff.1 h).1
  rw [List.drop_eq_getElem_cons hl]
  congr 1
  exact (List.getElem?_eq_some_iff.1 h).2
theorem MA.good {s : ByteArray} {F : List (ByteArray × Nat)} {r0 : ByteArray} {q a : Nat} {j : Jn} (h : MA s F r0 q a j) (hq : 0 < q) (hs : s.size ≤ 20000) : JGood (j, a) :=
  ⟨h.len, h.sized, fun h0 => absurd h0 (h.more hq).1, by have := h.le; show a ≤ 20000; omega⟩
theorem MA.first {s : ByteArray} {F : List (ByteArray × Nat)} {r0 : ByteArray} {e0 a : Nat} {j : Jn} (h : MA s F r0 0 a j) (hF : F[0]? = some (r0, e0)) (hb : begB r0 = true) : MA s F r0 1 e0 j ∧ a = 0 ∧ rdF s 0 = some (r0, e0) := by
  obtain ⟨hj, ha⟩ := h.zero rfl
  have e : F.drop 0 = (r0, e0) :: F.drop 1 := drop_at hF
  have hc := h.chain
  rw [e, ha] at hc
  obtain ⟨hc1, hc2⟩ := hc
  have hbd := rdF_bd (Nat.zero_le _) hc1
  have hs : stepB initJ r0 = true := by unfold stepB initJ; rw [if_pos rfl]; exact hb
  have e2 : goJ initJ F = goJ initJ ((r0, e0) :: F.drop 1) := congrArg (goJ initJ) (by rw [← e, List.drop_zero])
  have e3 : stepJ initJ (r0, e0) = (begJ r0, e0) := by unfold stepJ initJ; rw [if_pos rfl]
  have hg : goJ initJ F = goJ (j, e0) (F.drop 1) := by rw [e2, goJ_yes (x := (r0, e0)) hs, e3, hj]
  refine ⟨MA.mk hc2 hbd.2 (fun h => absurd h (by decide)) (fun _ => ⟨?_, hg⟩) h.len h.sized, ha, hc1⟩
  intro h0
  have := hbd.1
  omega
theorem MA.next {s : ByteArray} {F : List (ByteArray × Nat)} {r0 : ByteArray} {q a : Nat} {j : Jn} {x : ByteArray × Nat} (h : MA s F r0 q a j) (hq : 0 < q) (hs : s.size ≤ 20000) (hF : F[q]? = some x) (ht : tellB j x.1 = true) : MA s F r0 (q + 1) x.2 (moreJ j x.1) ∧ rdF s a = some x := by
  have hc := h.chain
  rw [drop_at hF] at hc
  have hbd := rdF_bd h.le (hc.1.trans (by rfl : some x = some (x.1, x.2)))
  obtain ⟨ha, hg⟩ := h.more hq
  have hst : stepB (j, a) x.1 = true := by unfold stepB; rw [if_neg ha]; exact ht
  have hsj : stepJ (j, a) x = (moreJ j x.1, x.2) := by unfold stepJ moreJ; rw [if_neg ha, ht]; rfl
  have hgd := (h.good hq hs).next (x := x) hst (by omega) (by omega)
  rw [hsj] at hgd
  refine ⟨⟨hc.2, hbd.2, fun h => by omega, fun _ => ⟨by omega, ?_⟩, hgd.len, hgd.sized⟩, hc.1⟩
  rw [hg, drop_at hF, goJ_yes hst, hsj]
theorem MA.off {s : ByteArray} {F : List (ByteArray × Nat)} {r0 : ByteArray} {q a : Nat} {j : Jn} {x : ByteArray × Nat} (h : MA s F r0 q a j) (hq : 0 < q) (hF : F[q]? = some x) (ht : tellB j x.1 = false) : goJ initJ F = (j, a) ∧ a ≠ 0 := by
  obtain ⟨ha, hg⟩ := h.more hq
  have hst : stepB (j, a) x.1 = false := by unfold stepB; rw [if_neg ha]; exact ht
  rw [hg, drop_at hF, goJ_no hst]
  exact ⟨rfl, ha⟩
theorem MA.end {s : ByteArray} {F : List (ByteArray × Nat)} {r0 : ByteArray} {q a : Nat} {j : Jn} (h : MA s F r0 q a j) (hq : 0 < q) (hl : F.length ≤ q) : goJ initJ F = (j, a) ∧ a ≠ 0 := by
  obtain ⟨ha, hg⟩ := h.more hq
  rw [hg, List.drop_eq_nil_of_le hl]
  exact ⟨rfl, ha⟩

set_option maxRecDepth 10000 in
set_option maxHeartbeats 4000000 in
theorem specRead_loop (n : Int) (s : ByteArray) (w : World) (hs : s.size ≤ 1048576) (hs2 : s.size ≤ 20000) (hn : numB n = true) (r0 : ByteArray) (e0 : Nat) (rest : List (ByteArray × Nat)) (hF : frq s = (r0, e0) :: rest) (hr0s : r0.size ≤ 20000) (h2 : begB r0 = true) :
    Calls Tryz.prog 21 #[.int .i64 n, .string s] w (RjP n s w) := by
  have h2a : twoB 66 r0 = true := by unfold begB at h2; simp only [Bool.and_eq_true] at h2; exact h2.1
  have h2b : okL (twoX r0) (twoY r0) [] = true := by unfold begB at h2; simp only [Bool.and_eq_true] at h2; exact h2.2
  have HNB : Hid (numB n = true) := hn
  have HN : Hid ((decide (0 ≤ n) && decide (n ≤ 999)) = true) := hn
  have HF : Hid (frq s = (r0, e0) :: rest) := hF
  have HBB : Hid (begB r0 = true) := h2
  obtain ⟨X, HX⟩ : ∃ X : Int, Hid ((twoX r0 : Int) = X) := ⟨_, rfl⟩
  obtain ⟨Y, HY⟩ : ∃ Y : Int, Hid ((twoY r0 : Int) = Y) := ⟨_, rfl⟩
  have HTW : Hid (∀ W, Calls Tryz.prog 40 #[.string r0, .string ⟨#[66]⟩] W fun e w' => e = .returned (.tuple #[.int .i64 X, .int .i64 Y, .bool true]) ∧ Below W.heap.size W w') := fun W => by
    have := l07Two_any 66 r0 W hr0s
    rw [h2a, if_pos rfl, if_pos rfl, HX.out, HY.out] at this
    exact this
  have CL : Hid (∀ W, Calls Tryz.prog 41 #[.agg #[.int .i64 X, .int .i64 Y, .slice none 0 0]] W fun e w' => e = .returned (.bool true) ∧ Below W.heap.size W w') := fun W => by
    have := specLogOk_any (s := X) (t := Y) (reads_none (α := En) W none 0) (by simp) (fun f hf => by simp at hf)
    rw [← HX.out, ← HY.out, h2b] at this
    rw [HX.out, HY.out] at this
    exact this
  obtain ⟨F, HFF⟩ : ∃ F, Hid ((r0, e0) :: rest = F) := ⟨_, rfl⟩
  have HF0 : Hid (F[0]? = some (r0, e0)) := by show _ = _; rw [← HFF.out]; rfl
  have HM0 : Hid (MA s F r0 0 0 (begJ r0)) := by
    refine ⟨?_, Nat.zero_le _, fun _ => ⟨rfl, rfl⟩, fun h => by omega, by simp [begJ], fun f hf => by simp [begJ] at hf⟩
    rw [List.drop_zero, ← HFF.out, ← HF.out, frq_in hs2]
    exact unf_chain s _ 0
  have HRD : Hid (rdJ s = goJ initJ F) := by show goJ initJ (frq s) = _; rw [HF.out, HFF.out]
  clear hn hF h2 h2a h2b
  go_enter Tryz.func21, Tryz.ntmps21
  go_wp2_with fail
  refine Calls.mono (specUnframe_q s _ hs) ?_
  rintro e w1 ⟨v, b, rfl, ho1, hb1⟩
  rw [HF.out] at ho1
  obtain ⟨lg, lc, rfl, hlg, hlw, hlc, hcl, hfl⟩ := ownsS_form ho1 (by simp [recs])
  have hr0 : w1.cell? ⟨lg, 0, none⟩ = some (.string r0) := hcl 0 (by simp [recs])
  have HO1 : Hid (ownsS w1 w.heap.size 9 (.slice (some ⟨lg, 0, none⟩) (recs ((r0, e0) :: rest)).length lc) (recs ((r0, e0) :: rest))) := ho1.mono (by simp)
  obtain ⟨m, HM⟩ : ∃ m, Hid ((recs ((r0, e0) :: rest)).length = m) := ⟨_, rfl⟩
  have hm1 : 1 ≤ m := by rw [← HM.out]; simp [recs]
  have hmm : m ≤ 20001 := by rw [← HM.out, recs_len, ← HF.out, frq_in hs2]; have := frs_len s 0; omega
  rw [HM.out] at HO1 hlc ⊢
  have Z1 := (B6.new w (.int .i64 0) (.int .i64 0) (.int .i64 0) (.int .i64 0) (.int .i64 0) (.slice none 0 0)).up hb1
  have B1 := below_new hb1
  clear hb1 hcl hfl ho1
  go_wp2_with fail
  refine Calls.mono (l01In_b _ _ _ _ HN.out) ?_
  rintro e w' ⟨rfl, hw⟩
  have hw2 := hw.symm
  subst hw2
  go_wp2_with fail
  refine Calls.mono (HTW.out _) ?_
  rintro e w2 ⟨rfl, hb2⟩
  rw [HFF.out] at HO1 HM
  have Z2 := (Z1.up hb2).alloc (.cells #[.int .i64 n, .int .i64 0, .int .i64 0, .int .i64 X, .int .i64 Y, .slice none 0 0] 30)
  have B2 := ba (Below.on B1 hb2) (.cells #[.int .i64 n, .int .i64 0, .int .i64 0, .int .i64 X, .int .i64 Y, .slice none 0 0] 30)
  have N2 := B6.new w2 (.int .i64 n) (.int .i64 0) (.int .i64 0) (.int .i64 X) (.int .i64 Y) (.slice none 0 0)
  have L2 := (HO1.out.all hb2).alloc (.cells #[.int .i64 n, .int .i64 0, .int .i64 0, .int .i64 X, .int .i64 Y, .slice none 0 0] 30)
  go_wp2_with fail
  obtain ⟨WX, hWX⟩ : ∃ WX, w2.alloc (.cells #[.int .i64 n, .int .i64 0, .int .i64 0, .int .i64 X, .int .i64 Y, .slice none 0 0] 30) = WX := ⟨_, rfl⟩
  rw [hWX] at Z2 B2 N2 L2 ⊢
  obtain ⟨g, HG⟩ : ∃ g, Hid (w2.heap.size = g) := ⟨_, rfl⟩
  have hgw : w.heap.size < g := by rw [← HG.out]; exact (Z1.up hb2).lt
  rw [HG.out] at N2 ⊢
  clear hWX hb2 Z1 B1 hr0 HO1
  refine Calls.mono (CL.out _) ?_
  rintro e w3 ⟨rfl, hb3⟩
  have M3 : MI n F w g (.slice (some ⟨lg, 0, none⟩) m lc) (begJ r0) w3 := by
    refine ⟨⟨none, 0, 0, ?_, ownsR_nil _ _ _⟩, L2.all hb3, Z2.up hb3, Below.on B2 hb3⟩
    have := N2.up hb3
    rw [← HX.out, ← HY.out] at this
    exact this
  clear hb3 Z2 B2 N2 L2 CL HTW
  have HLF : Hid (F.length = m) := by show _ = _; rw [← HM.out, recs_len]
  go_wp2
  go_loopw [13, 14] (fun en i wr => ∃ (q a : Nat) (j : Jn), i = .int .i64 q ∧ q ≤ m ∧ en = .int .i64 a ∧ a ≤ 20000 ∧ Hid (MA s F r0 q a j) ∧ MI n F w g (.slice (some ⟨lg, 0, none⟩) m lc) j wr) (fun _ i _ => m - (intOf i).toNat)
  case atStart => exact ⟨0, 0, begJ r0, rfl, Nat.zero_le _, rfl, by omega, HM0, M3⟩
  case round =>
    obtain ⟨q, a, j, rfl, hq, rfl, ha, HMA, hM⟩ := hrel
    have hML := hM.list
    by_cases hlt : q < m
    · obtain ⟨x, hx⟩ : ∃ x, F[q]? = some x := ⟨_, List.getElem?_eq_getElem (by rw [HLF.out]; exact hlt)⟩
      obtain ⟨t, ht, hct, -, hlgw, -⟩ := ownsS_cell hML hlt
      have htx : t = x.1 := by
        have : (recs F)[q]? = some x.1 := by unfold recs; rw [List.getElem?_map, hx]; rfl
        rw [this] at ht
        exact (Option.some.inj ht).symm
      subst htx
      have HXX : Hid (F[q]? = some x) := hx
      clear hx ht
      by_cases hq0 : q = 0
      · subst hq0
        obtain ⟨hn1, ha0, hrd⟩ := HMA.out.first HF0.out HBB.out
        have hxe : x = (r0, e0) := Option.some.inj (HXX.out.symm.trans HF0.out)
        subst hxe
        subst ha0
        obtain ⟨l1, l2, l3⟩ := rdF_len (Nat.zero_le _) hrd
        have hn1le := hn1.le
        have CF : Hid (∀ W, Calls Tryz.prog 43 #[.string r0] W fun e w' => e = .returned (.tuple #[.string (frameT r0), .bool true]) ∧ Below W.heap.size W w') := fun W => specFrame_ok r0 W l2 l3
        have HLN : Hid (((frameT r0).size : Int) = (e0 : Int)) := by show _ = _; rw [l1]; omega
        clear l1
        go_wp2_with fail
        refine Calls.mono (CF.out _) ?_
        rintro e w5 ⟨rfl, hb5⟩
        have hM5 := hM.up hb5
        have hln := HLN.out
        go_wp2
        go_roundw
        case rel => exact ⟨1, e0, j, rfl, by omega, by first | rfl | (congr 1; omega), by omega, hn1, hM5⟩
        case measure => simp [intOf]; omega
      · have hqp : 0 < q := by omega
        have hgi : (0 : Int) < (q : Int) := by omega
        obtain ⟨⟨ja, jk, jc, hj, hoj⟩, hls, hre, hbe⟩ := hM
        have hx1 : x.1.size ≤ 20000 := by
          have hc := HMA.out.chain
          rw [drop_at HXX.out] at hc
          have := rdF_len HMA.out.le (hc.1.trans (by rfl : some x = some (x.1, x.2)))
          omega
        obtain ⟨tq, HTQ⟩ : ∃ tq, Hid (tellB j x.1 = tq) := ⟨_, rfl⟩
        have CM : Hid (Calls Tryz.prog 42 #[.pointer (some ⟨g, 0, none⟩), .string x.1] wr fun e w' => ∃ (a : Option Addr) (k c : Nat), e = .returned (.bool tq) ∧ B6 w' g (.int .i64 n) (.int .i64 (moreJ j x.1).t) (.int .i64 (moreJ j x.1).v) (.int .i64 (moreJ j x.1).s) (.int .i64 (moreJ j x.1).st) (.slice a k c) ∧ ownsR w' w.heap.size 110 (.slice a k c) (moreJ j x.1).l ∧ Save g wr w') := by
          have := l07More_any n j ja jk jc x.1 g w.heap.size wr hj hoj hbe.size HMA.out.len HMA.out.sized hx1
          unfold MoreP at this
          rw [HTQ.out] at this
          exact this
        go_wp2_with fail
        refine Calls.mono CM.out ?_
        rintro e w5 ⟨ka, kk, kc, rfl, hj5, ho5, S5⟩
        have hM5 : MI n F w g (.slice (some ⟨lg, 0, none⟩) m lc) (moreJ j x.1) w5 := ⟨⟨ka, kk, kc, hj5, ho5⟩, hls.save hj S5, hre.save S5 (by omega), Save.under hbe S5 (by omega) hbe.size⟩
        clear hj5 ho5 CM hoj
        cases tq with
        | false =>
          have HE := HMA.out.off hqp HXX.out HTQ.out
          have hmj : moreJ j x.1 = j := by unfold moreJ; rw [HTQ.out]; rfl
          rw [hmj] at hM5
          have HEQ : Hid (rdJ s = (j, a) ∧ a ≠ 0) := by show _ ∧ _; rw [HRD.out]; exact HE
          clear HE hls hre hbe S5 hj
          obtain ⟨⟨av, kv, cv, hj, hoj⟩, hls, hre, hbe⟩ := hM5
          have HOJ : Hid (ownsR w5 w.heap.size 110 (.slice av kv cv) j.l) := hoj
          have j0 := hj.c0
          have j1 := hj.c1
          have j2 := hj.c2
          have j3 := hj.c3
          have j4 := hj.c4
          have j5 := hj.c5
          have r0 := hre.c0
          have r1 := hre.c1
          have r2 := hre.c2
          have r3 := hre.c3
          have r4 := hre.c4
          have r5 := hre.c5
          have rf := hre.fr
          have Z4 : B6 (((((((w5).setCell ⟨w.heap.size, 0, none⟩ (.int .i64 n)).setCell ⟨w.heap.size, 1, none⟩ (.int .i64 j.t)).setCell ⟨w.heap.size, 2, none⟩ (.int .i64 j.v)).setCell ⟨w.heap.size, 3, none⟩ (.int .i64 j.s)).setCell ⟨w.heap.size, 4, none⟩ (.int .i64 j.st)).setCell ⟨w.heap.size, 5, none⟩ (.slice av kv cv)) w.heap.size (.int .i64 n) (.int .i64 j.t) (.int .i64 j.v) (.int .i64 j.s) (.int .i64 j.st) (.slice av kv cv) := hre.set (.int .i64 n) (.int .i64 j.t) (.int .i64 j.v) (.int .i64 j.s) (.int .i64 j.st) (.slice av kv cv)
          have B4 : Below w.heap.size w (((((((w5).setCell ⟨w.heap.size, 0, none⟩ (.int .i64 n)).setCell ⟨w.heap.size, 1, none⟩ (.int .i64 j.t)).setCell ⟨w.heap.size, 2, none⟩ (.int .i64 j.v)).setCell ⟨w.heap.size, 3, none⟩ (.int .i64 j.s)).setCell ⟨w.heap.size, 4, none⟩ (.int .i64 j.st)).setCell ⟨w.heap.size, 5, none⟩ (.slice av kv cv)) := below_set6 hbe (Nat.le_refl _) _ _ _ _ _ _
          have HO4 : Hid (ownsR (((((((w5).setCell ⟨w.heap.size, 0, none⟩ (.int .i64 n)).setCell ⟨w.heap.size, 1, none⟩ (.int .i64 j.t)).setCell ⟨w.heap.size, 2, none⟩ (.int .i64 j.v)).setCell ⟨w.heap.size, 3, none⟩ (.int .i64 j.s)).setCell ⟨w.heap.size, 4, none⟩ (.int .i64 j.st)).setCell ⟨w.heap.size, 5, none⟩ (.slice av kv cv)) w.heap.size 110 (.slice av kv cv) j.l) := ownsR_set6 HOJ.out (not_row6 hre HOJ.out) _ _ _ _ _ _
          clear hoj hls
          go_wp2
          obtain ⟨w9, hw9⟩ : ∃ w9, ((((((w5).setCell ⟨w.heap.size, 0, none⟩ (.int .i64 n)).setCell ⟨w.heap.size, 1, none⟩ (.int .i64 j.t)).setCell ⟨w.heap.size, 2, none⟩ (.int .i64 j.v)).setCell ⟨w.heap.size, 3, none⟩ (.int .i64 j.s)).setCell ⟨w.heap.size, 4, none⟩ (.int .i64 j.st)).setCell ⟨w.heap.size, 5, none⟩ (.slice av kv cv) = w9 := ⟨_, rfl⟩
          rw [hw9] at Z4 B4 HO4 ⊢
          clear hw9
          exact bodyPost_ret (ret_j3 rfl rfl rfl rfl Z4) rfl (rj_done HEQ.out HNB.out B4 HO4.out)

        | true =>
          obtain ⟨hn1, hrd⟩ := HMA.out.next hqp hs2 HXX.out HTQ.out
          obtain ⟨l1, l2, l3⟩ := rdF_len HMA.out.le (hrd.trans (by rfl : some x = some (x.1, x.2)))
          have hbd := rdF_bd HMA.out.le (hrd.trans (by rfl : some x = some (x.1, x.2)))
          have CF : Hid (∀ W, Calls Tryz.prog 43 #[.string x.1] W fun e w' => e = .returned (.tuple #[.string (frameT x.1), .bool true]) ∧ Below W.heap.size W w') := fun W => specFrame_ok x.1 W l2 l3
          have hln : ((frameT x.1).size : Int) = (x.2 : Int) - (a : Int) := by rw [l1]; omega
          have hct5 : w5.cell? ⟨lg, q, none⟩ = some (.string x.1) := by
            obtain ⟨t5, ht5, hct5, _⟩ := ownsS_cell hM5.list hlt
            have : (recs F)[q]? = some x.1 := by unfold recs; rw [List.getElem?_map, HXX.out]; rfl
            rw [this] at ht5
            rw [hct5, ← Option.some.inj ht5]
          clear l1 hls hre hbe S5 hj
          go_wp2_with fail
          refine Calls.mono (CF.out _) ?_
          rintro e w6 ⟨rfl, hb6⟩
          have hM6 := hM5.up hb6
          have hx2 : x.2 ≤ 20000 := by omega
          go_wp2
          go_roundw
          case rel => exact ⟨q + 1, x.2, moreJ j x.1, by go_num, by omega, by congr 1; omega, hx2, hn1, hM6⟩
          case measure => simp [intOf]; omega
    · have hqm : q = m := by omega
      have hq0 : 0 < q := by omega
      have HE := HMA.out.end hq0 (by rw [HLF.out]; omega)
      have HEQ : Hid (rdJ s = (j, a) ∧ a ≠ 0) := by show _ ∧ _; rw [HRD.out]; exact HE
      clear HE
      obtain ⟨⟨av, kv, cv, hj, hoj⟩, hls, hre, hbe⟩ := hM
      have HOJ : Hid (ownsR wr w.heap.size 110 (.slice av kv cv) j.l) := hoj
      have j0 := hj.c0
      have j1 := hj.c1
      have j2 := hj.c2
      have j3 := hj.c3
      have j4 := hj.c4
      have j5 := hj.c5
      have r0 := hre.c0
      have r1 := hre.c1
      have r2 := hre.c2
      have r3 := hre.c3
      have r4 := hre.c4
      have r5 := hre.c5
      have rf := hre.fr
      have Z4 : B6 (((((((wr).setCell ⟨w.heap.size, 0, none⟩ (.int .i64 n)).setCell ⟨w.heap.size, 1, none⟩ (.int .i64 j.t)).setCell ⟨w.heap.size, 2, none⟩ (.int .i64 j.v)).setCell ⟨w.heap.size, 3, none⟩ (.int .i64 j.s)).setCell ⟨w.heap.size, 4, none⟩ (.int .i64 j.st)).setCell ⟨w.heap.size, 5, none⟩ (.slice av kv cv)) w.heap.size (.int .i64 n) (.int .i64 j.t) (.int .i64 j.v) (.int .i64 j.s) (.int .i64 j.st) (.slice av kv cv) := hre.set (.int .i64 n) (.int .i64 j.t) (.int .i64 j.v) (.int .i64 j.s) (.int .i64 j.st) (.slice av kv cv)
      have B4 : Below w.heap.size w (((((((wr).setCell ⟨w.heap.size, 0, none⟩ (.int .i64 n)).setCell ⟨w.heap.size, 1, none⟩ (.int .i64 j.t)).setCell ⟨w.heap.size, 2, none⟩ (.int .i64 j.v)).setCell ⟨w.heap.size, 3, none⟩ (.int .i64 j.s)).setCell ⟨w.heap.size, 4, none⟩ (.int .i64 j.st)).setCell ⟨w.heap.size, 5, none⟩ (.slice av kv cv)) := below_set6 hbe (Nat.le_refl _) _ _ _ _ _ _
      have HO4 : Hid (ownsR (((((((wr).setCell ⟨w.heap.size, 0, none⟩ (.int .i64 n)).setCell ⟨w.heap.size, 1, none⟩ (.int .i64 j.t)).setCell ⟨w.heap.size, 2, none⟩ (.int .i64 j.v)).setCell ⟨w.heap.size, 3, none⟩ (.int .i64 j.s)).setCell ⟨w.heap.size, 4, none⟩ (.int .i64 j.st)).setCell ⟨w.heap.size, 5, none⟩ (.slice av kv cv)) w.heap.size 110 (.slice av kv cv) j.l) := ownsR_set6 HOJ.out (not_row6 hre HOJ.out) _ _ _ _ _ _
      clear hoj hls
      go_wp2
      obtain ⟨w9, hw9⟩ : ∃ w9, ((((((wr).setCell ⟨w.heap.size, 0, none⟩ (.int .i64 n)).setCell ⟨w.heap.size, 1, none⟩ (.int .i64 j.t)).setCell ⟨w.heap.size, 2, none⟩ (.int .i64 j.v)).setCell ⟨w.heap.size, 3, none⟩ (.int .i64 j.s)).setCell ⟨w.heap.size, 4, none⟩ (.int .i64 j.st)).setCell ⟨w.heap.size, 5, none⟩ (.slice av kv cv) = w9 := ⟨_, rfl⟩
      rw [hw9] at Z4 B4 HO4 ⊢
      clear hw9
      exact bodyPost_ret (ret_j3 rfl rfl rfl rfl Z4) rfl (rj_done HEQ.out HNB.out B4 HO4.out)

theorem specReadJournal_any (n : Int) (s : ByteArray) (w : World) (hs : s.size ≤ 1048576) :
    Calls Tryz.prog 21 #[.int .i64 n, .string s] w (RjP n s w) := by
  cases hn : numB n with
  | false => exact specRead_num n s w hs hn
  | true =>
    cases hF : frq s with
    | nil => exact specRead_none n s w hs hn hF
    | cons x rest =>
      obtain ⟨r0, e0⟩ := x
      have hs2 : s.size ≤ 20000 := by
        by_cases h : s.size ≤ 20000
        · exact h
        · rw [frq_long (by omega)] at hF; cases hF
      have hc := unf_chain s (s.size + 1) 0
      have hc2 : ChainF s 0 ((r0, e0) :: rest) := by rw [← hF, frq_in hs2]; exact hc
      have hz := rdF_sz hc2.1
      have hr0s : r0.size ≤ 20000 := by omega
      cases h2 : twoB 66 r0 with
      | false => exact specRead_two n s w hs hs2 hn r0 e0 rest hF hr0s h2
      | true =>
        cases h3 : okL (twoX r0) (twoY r0) [] with
        | false => exact specRead_log n s w hs hs2 hn r0 e0 rest hF hr0s h2 h3
        | true => exact specRead_loop n s w hs hs2 hn r0 e0 rest hF hr0s (by unfold begB; rw [h2, h3]; rfl)
end Go.Proofs.YtgpojfkdcdgloaaGreatDoor
