/-
  What the frames of a journal's file tell, one behind the other (plain mathematics). An entry that came in as an argument, opened. A log that came in as an argument, opened. Journals: which are right, as the model says it; the law's helpers on them (sizes, copies, held against each other, marked): the walks.
-/
import Derived.Test.YtgpojfkdcdgloaaGreatDoorG5
import Derived.Test.YtgpojfkdcdgloaaGreatDoorG6
import Derived.Test.YtgpojfkdcdgloaaGreatDoorG7
import Derived.Test.YtgpojfkdcdgloaaGreatDoorG8
import Derived.Test.YtgpojfkdcdgloaaGreatDoorG1
import Derived.Test.YtgpojfkdcdgloaaGreatDoorInf
import Derived.Test.YtgpojfkdcdgloaaGreatDoorG2
namespace Go.Proofs.YtgpojfkdcdgloaaGreatDoor
open Go Go.RowKit

/-- Whether a record is a mark and two numbers, and which. -/
def twoX (r : ByteArray) : Nat := (rv r 1).1.toNat
def twoY (r : ByteArray) : Nat := (rv r (rv r 1).2.1).1.toNat
def twoB (m : UInt8) (r : ByteArray) : Bool := (rv r 1).2.2 && (rv r (rv r 1).2.1).2.2 && ((pairT m (twoX r) (twoY r)).toList == r.toList)
theorem twoB_no1 {m : UInt8} {r : ByteArray} {x y : Int} (h : rv r 1 = (x, y, false)) : twoB m r = false := by unfold twoB; rw [h]; rfl
theorem twoB_no2 {m : UInt8} {r : ByteArray} {x y x2 y2 : Int} (h : rv r 1 = (x, y, true)) (h2 : rv r y = (x2, y2, false)) : twoB m r = false := by unfold twoB; rw [h]; dsimp only; rw [h2]; rfl
theorem twoB_in {m : UInt8} {r : ByteArray} {X Y X2 Y2 : Nat} (h : rv r 1 = ((X : Int), (Y : Int), true)) (h2 : rv r (Y : Int) = ((X2 : Int), (Y2 : Int), true)) : twoB m r = ((pairT m X X2).toList == r.toList) ∧ twoX r = X ∧ twoY r = X2 := by
  have e1 : twoX r = X := by unfold twoX; rw [h]; simp
  have e2 : twoY r = X2 := by unfold twoY; rw [h]; dsimp only; rw [h2]; simp
  refine ⟨?_, e1, e2⟩
  unfold twoB
  rw [e1, e2, h]
  dsimp only
  rw [h2]
  simp
theorem list_eq {a b : ByteArray} (h : (a.toList == b.toList) = true) : a = b := by
  rcases Decidable.em (a = b) with h2 | h2
  · exact h2
  · rw [ne_list h2] at h; cases h
theorem kAt_one (m : UInt8) (t : ByteArray) : kAt ((⟨#[m]⟩ : ByteArray) ++ t) 0 = m.toNat := by
  have h : 0 < ((⟨#[m]⟩ : ByteArray) ++ t).size := by rw [ByteArray.size_append, show (⟨#[m]⟩ : ByteArray).size = 1 from rfl]; omega
  rw [kAt_in h]
  congr 1
theorem twoB_first {m : UInt8} {r : ByteArray} (h : twoB m r = true) : kAt r 0 = m.toNat := by
  unfold twoB at h
  simp only [Bool.and_eq_true] at h
  rw [← list_eq h.2]
  unfold pairT
  rw [ByteArray.append_assoc]
  exact kAt_one m _
/-- What a record of an entry tells. -/
def rdI (r : ByteArray) : Nat := (rv r 1).1.toNat
def rdT (r : ByteArray) : Nat := (rv r (rv r 1).2.1).1.toNat
def rdA (r : ByteArray) : Nat := (rv r (rv r 1).2.1).2.1.toNat
def rdEn (r : ByteArray) : En := ⟨rdT r, kAt r (rdA r), dAt r (rdA r)⟩
def rdB (r : ByteArray) : Bool := (rv r 1).2.2 && (rv r (rv r 1).2.1).2.2 && decide ((rv r (rv r 1).2.1).2.1 < r.size) && okF r (rdI r) (rdT r) (rdA r)
theorem rdV_eq (r : ByteArray) : rdV r = if rdB r then .tuple #[.int .i64 (rdI r), .agg #[.int .i64 (rdEn r).term, .int .i64 (rdEn r).kind, .string (rdEn r).data], .bool true] else zeroV := by
  unfold rdV rdB
  by_cases h : (rv r 1).2.2 = true ∧ (rv r (rv r 1).2.1).2.2 = true ∧ (rv r (rv r 1).2.1).2.1 < r.size
  · rw [if_pos h, h.1, h.2.1, decide_eq_true h.2.2]
    simp only [Bool.true_and]
    rfl
  · rw [if_neg h]
    have : ((rv r 1).2.2 && (rv r (rv r 1).2.1).2.2 && decide ((rv r (rv r 1).2.1).2.1 < r.size)) = false := by
      rw [Bool.eq_false_iff]
      intro h2
      simp only [Bool.and_eq_true, decide_eq_true_eq] at h2
      exact h ⟨h2.1.1, h2.1.2, h2.2⟩
    rw [this]
    rfl
theorem rdB_ok {r : ByteArray} (h : rdB r = true) : okX (rdI r) (rdEn r).term (rdEn r).kind (rdEn r).data = true ∧ kAt r 0 = 69 := by
  unfold rdB at h
  simp only [Bool.and_eq_true] at h
  have h2 := h.2
  unfold okF at h2
  simp only [Bool.and_eq_true] at h2
  refine ⟨h2.1, ?_⟩
  rw [← list_eq h2.2]
  have e : textX (rdI r) (rdT r) (kAt r (rdA r)) (dAt r (rdA r)) = textE (rdI r) (rdT r) (kAt r (rdA r)) (dAt r (rdA r)) := by unfold textX; rw [h2.1]; rfl
  rw [e]
  unfold textE rawE
  simp only [ByteArray.append_assoc]
  exact kAt_one 69 _

/-- A journal but for its number. -/
structure Jn where
  t : Int
  v : Int
  s : Int
  st : Int
  l : List En
/-- One more record behind the first one. -/
def tellB (j : Jn) (r : ByteArray) : Bool := if kAt r 0 = 72 then twoB 72 r && hdB (twoX r) (twoY r) else rdB r && putB j.s j.st j.l (rdI r) (rdEn r)
def tellJ (j : Jn) (r : ByteArray) : Jn := if kAt r 0 = 72 then ⟨twoX r, twoY r, j.s, j.st, j.l⟩ else ⟨j.t, j.v, j.s, j.st, putsL j.s j.l (rdI r) (rdEn r)⟩
/-- The first record. -/
def begB (r : ByteArray) : Bool := twoB 66 r && okL (twoX r) (twoY r) []
def begJ (r : ByteArray) : Jn := ⟨0, 0, twoX r, twoY r, []⟩
def stepB (z : Jn × Nat) (r : ByteArray) : Bool := if z.2 = 0 then begB r else tellB z.1 r
def stepJ (z : Jn × Nat) (x : ByteArray × Nat) : Jn × Nat := if z.2 = 0 then (begJ x.1, x.2) else (tellJ z.1 x.1, x.2)
def goJ : Jn × Nat → List (ByteArray × Nat) → Jn × Nat
  | z, [] => z
  | z, x :: l => if stepB z x.1 then goJ (stepJ z x) l else z
def initJ : Jn × Nat := (⟨0, 0, 0, 0, []⟩, 0)
/-- What a file tells: a journal, and the place behind the last frame that is one of its own (0: none). -/
def rdJ (s : ByteArray) : Jn × Nat := goJ initJ (frq s)

/-- What holds of a journal that is being read. -/
structure JGood (z : Jn × Nat) : Prop where
  len : z.1.l.length ≤ 60
  sized : SizedE z.1.l
  first : z.2 = 0 → z = initJ
  place : z.2 ≤ 20000
theorem JGood.init : JGood initJ := ⟨by simp [initJ], fun f hf => by simp [initJ] at hf, fun _ => rfl, by simp [initJ]⟩
theorem okL_sized {s t : Int} {l : List En} (h : okL s t l = true) : l.length ≤ 60 ∧ SizedE l := by
  obtain ⟨_, _, _, _, h4, _, h6⟩ := okL_all h
  refine ⟨h4, fun f hf => ?_⟩
  obtain ⟨j, hj⟩ := List.getElem?_of_mem hf
  have hx := okL_okX h j f hj
  obtain ⟨_, _, _, _, _, h7, _⟩ := okX_out hx
  omega
theorem JGood.next {z : Jn × Nat} {x : ByteArray × Nat} (h : JGood z) (hb : stepB z x.1 = true) (h1 : 1 ≤ x.2) (h2 : x.2 ≤ 20000) : JGood (stepJ z x) := by
  unfold stepB at hb
  unfold stepJ
  split
  · exact ⟨by simp [begJ], fun f hf => by simp [begJ] at hf, fun h0 => by simp only at h0; omega, h2⟩
  · rename_i hz
    rw [if_neg hz] at hb
    unfold tellB at hb
    unfold tellJ
    split
    · exact ⟨h.len, h.sized, fun h0 => by simp only at h0; omega, h2⟩
    · rename_i hk
      rw [if_neg hk] at hb
      simp only [Bool.and_eq_true, putB] at hb
      have := okL_sized hb.2.2
      exact ⟨this.1, this.2, fun h0 => by simp only at h0; omega, h2⟩
theorem goJ_yes {z : Jn × Nat} {x : ByteArray × Nat} {l : List (ByteArray × Nat)} (h : stepB z x.1 = true) : goJ z (x :: l) = goJ (stepJ z x) l := by simp [goJ, h]
theorem goJ_no {z : Jn × Nat} {x : ByteArray × Nat} {l : List (ByteArray × Nat)} (h : stepB z x.1 = false) : goJ z (x :: l) = z := by simp [goJ, h]

end Go.Proofs.YtgpojfkdcdgloaaGreatDoor

namespace Go.Proofs.YtgpojfkdcdgloaaGreatDoor
open Go Go.RowKit Go.ChangeShapes Go.WideShapes

theorem cells9 : Tryz.prog.cellsOf 9 = 1 := by kernel_rfl
theorem cells3 : Tryz.prog.cellsOf 3 = 1 := by kernel_rfl
end Go.Proofs.YtgpojfkdcdgloaaGreatDoor

namespace Go.Proofs.YtgpojfkdcdgloaaGreatDoor
open Go Go.RowKit Go.ChangeShapes Go.WideShapes

theorem int_max {k : Int} (h : (Lit.int .i64 k).wf = true) : k ≤ 9223372036854775807 := by
  simp only [Lit.wf, IntKind.min, IntKind.max, IntKind.signed, IntKind.bits, Bool.and_eq_true, decide_eq_true_eq, if_true] at h
  omega
end Go.Proofs.YtgpojfkdcdgloaaGreatDoor

namespace Go.Proofs.YtgpojfkdcdgloaaGreatDoor
open Go Go.RowKit

theorem l01In_b (x a b : Int) (w : World) {q : Bool} (hq : (decide (a ≤ x) && decide (x ≤ b)) = q) :
    Calls Tryz.prog 36 #[.int .i64 x, .int .i64 a, .int .i64 b] w fun e w' => e = .returned (.bool q) ∧ w' = w := by
  subst hq
  by_cases h : a ≤ x ∧ x ≤ b
  · rw [decide_eq_true h.1, decide_eq_true h.2]; exact l01In_yes x a b w h.1 h.2
  · have e : (decide (a ≤ x) && decide (x ≤ b)) = false := by
      by_cases h1 : a ≤ x
      · rw [decide_eq_false (show ¬ x ≤ b from fun h2 => h ⟨h1, h2⟩), Bool.and_false]
      · rw [decide_eq_false h1, Bool.false_and]
    rw [e]; exact l01In_no x a b w (by omega)

set_option maxRecDepth 10000 in
set_option maxHeartbeats 1000000 in
theorem specJournalOk_try (n t v s st : Int) (ao : Option Addr) (k c : Nat) (l : List En) (w : World) (hr : Reads w (.slice ao k c) l) (hk : k ≤ 1048577) (hz : SizedE l) :
    Calls Tryz.prog 68 #[jV n t v s st (.slice ao k c)] w fun e w' => e = .returned (.bool (jokB n t v s st l)) ∧ Below w.heap.size w w' := by
  have HR : Hid (Reads w (.slice ao k c) l) := hr
  have HZ : Hid (SizedE l) := hz
  have HL : Hid (l.length ≤ 1048577) := by show _ ≤ _; rw [← hr.len]; exact hk
  clear hr hz
  obtain ⟨q1, H1⟩ : ∃ q, Hid ((decide (0 ≤ n) && decide (n ≤ 999)) = q) := ⟨_, rfl⟩
  obtain ⟨q2, H2⟩ : ∃ q, Hid ((decide (0 ≤ t) && decide (t ≤ 100000)) = q) := ⟨_, rfl⟩
  obtain ⟨q3, H3⟩ : ∃ q, Hid ((decide (0 ≤ v) && decide (v ≤ 4)) = q) := ⟨_, rfl⟩
  have HB : Hid (jokB n t v s st l = (q1 && (q2 && q3) && okL s st l)) := by
    show _ = _
    unfold jokB numB hdB
    rw [H1.out, ← H3.out, ← H2.out]
    simp only [Bool.and_assoc]
  rw [HB.out]
  have C1 : Hid (∀ w, Calls Tryz.prog 36 #[.int .i64 n, .int .i64 0, .int .i64 999] w fun e w' => e = .returned (.bool q1) ∧ w' = w) := fun w => l01In_b _ _ _ w H1.out
  have C2 : Hid (∀ w, Calls Tryz.prog 36 #[.int .i64 t, .int .i64 0, .int .i64 100000] w fun e w' => e = .returned (.bool q2) ∧ w' = w) := fun w => l01In_b _ _ _ w H2.out
  have C3 : Hid (∀ w, Calls Tryz.prog 36 #[.int .i64 v, .int .i64 0, .int .i64 4] w fun e w' => e = .returned (.bool q3) ∧ w' = w) := fun w => l01In_b _ _ _ w H3.out
  cases q1 with
  | false =>
    go_enter Tryz.func68, Tryz.ntmps68
    go_wp2_with (go_at_call 36; with_reducible refine Calls.mono (C1.out _) ?_; rintro e w' ⟨rfl, hw⟩; have hw2 := hw.symm; subst hw2)
    go_ret
    exact ⟨rfl, ba (Below.refl _ _) _⟩
  | true =>
    cases q2 with
    | false =>
      go_enter Tryz.func68, Tryz.ntmps68
      go_wp2_with (first | (go_at_call 36; with_reducible refine Calls.mono (C1.out _) ?_; rintro e w' ⟨rfl, hw⟩; have hw2 := hw.symm; subst hw2) | (go_at_call 36; with_reducible refine Calls.mono (C2.out _) ?_; rintro e w' ⟨rfl, hw⟩; have hw2 := hw.symm; subst hw2))
      go_ret
      exact ⟨rfl, ba (Below.refl _ _) _⟩
    | true =>
      cases q3 with
      | false =>
        go_enter Tryz.func68, Tryz.ntmps68
        go_wp2_with (first | (go_at_call 36; with_reducible refine Calls.mono (C1.out _) ?_; rintro e w' ⟨rfl, hw⟩; have hw2 := hw.symm; subst hw2) | (go_at_call 36; with_reducible refine Calls.mono (C2.out _) ?_; rintro e w' ⟨rfl, hw⟩; have hw2 := hw.symm; subst hw2) | (go_at_call 36; with_reducible refine Calls.mono (C3.out _) ?_; rintro e w' ⟨rfl, hw⟩; have hw2 := hw.symm; subst hw2))
        go_ret
        exact ⟨rfl, ba (Below.refl _ _) _⟩
      | true =>
        go_enter Tryz.func68, Tryz.ntmps68
        go_wp2_with (first | (go_at_call 36; with_reducible refine Calls.mono (C1.out _) ?_; rintro e w' ⟨rfl, hw⟩; have hw2 := hw.symm; subst hw2) | (go_at_call 36; with_reducible refine Calls.mono (C2.out _) ?_; rintro e w' ⟨rfl, hw⟩; have hw2 := hw.symm; subst hw2) | (go_at_call 36; with_reducible refine Calls.mono (C3.out _) ?_; rintro e w' ⟨rfl, hw⟩; have hw2 := hw.symm; subst hw2) | (go_at_call 41; refine (specLogOk_any (HR.out.alloc _) HL.out HZ.out).mono ?_; rintro e w3 ⟨rfl, hb3⟩))
        go_ret
        exact ⟨rfl, below_new hb3⟩
theorem specJournalOk_any {n t v s st : Int} {w : World} {x : Value} {l : List En} (hr : Reads w x l) (hk : l.length ≤ 1048577) (hz : SizedE l) :
    Calls Tryz.prog 68 #[jV n t v s st x] w fun e w' => e = .returned (.bool (jokB n t v s st l)) ∧ Below w.heap.size w w' := by
  obtain ⟨ao, c, rfl, _⟩ := id hr
  exact specJournalOk_try n t v s st ao _ c l w hr hk hz

theorem ret_jou {fn : Func} {p : Tmp} {w : World} {g : Nat} {a b c d e f : Value} {tmps : Array Value} (h : fn.results = #[.cell p 30]) (hp : tmps.getD p undef = .pointer (some ⟨g, 0, none⟩)) (h0 : w.cell? ⟨g, 0, none⟩ = some a) (h1 : w.cell? ⟨g, 1, none⟩ = some b) (h2 : w.cell? ⟨g, 2, none⟩ = some c) (h3 : w.cell? ⟨g, 3, none⟩ = some d) (h4 : w.cell? ⟨g, 4, none⟩ = some e) (h5 : w.cell? ⟨g, 5, none⟩ = some f) :
    (results fn tmps).run Tryz.prog w = .ok (.agg #[a, b, c, d, e, f]) w := by
  have hp' : tmps[p]?.getD undef = .pointer (some ⟨g, 0, none⟩) := by simpa using hp
  simp [results, h, hp', h0, h1, h2, h3, h4, h5, asAddr, go_sem]
/-- The block of a journal that is wholly there. -/
theorem cells6_new {w w' : World} {a b c d e f : Value} {t : TypeId} (hb : Below (w.alloc (.cells #[a, b, c, d, e, f] t)).heap.size (w.alloc (.cells #[a, b, c, d, e, f] t)) w') :
    w'.cell? ⟨w.heap.size, 0, none⟩ = some a ∧ w'.cell? ⟨w.heap.size, 1, none⟩ = some b ∧ w'.cell? ⟨w.heap.size, 2, none⟩ = some c ∧ w'.cell? ⟨w.heap.size, 3, none⟩ = some d ∧ w'.cell? ⟨w.heap.size, 4, none⟩ = some e ∧ w'.cell? ⟨w.heap.size, 5, none⟩ = some f :=
  ⟨(hb.cell (by simp)).trans (by simp [go_sem]), (hb.cell (by simp)).trans (by simp [go_sem]), (hb.cell (by simp)).trans (by simp [go_sem]), (hb.cell (by simp)).trans (by simp [go_sem]), (hb.cell (by simp)).trans (by simp [go_sem]), (hb.cell (by simp)).trans (by simp [go_sem])⟩
end Go.Proofs.YtgpojfkdcdgloaaGreatDoor
