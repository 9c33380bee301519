/-
  Journals: a record of a mark and two numbers, as the model reads it: the walk. Journals: one more record, as the model takes it: the walks. Journals: one more entry, as the model takes it: the walk.
-/
import Derived.Test.YtgpojfkdcdgloaaGreatDoorG9
import Derived.Test.YtgpojfkdcdgloaaGreatDoorG12
import Derived.Test.YtgpojfkdcdgloaaGreatDoorG13
import Derived.BigRegion
import Derived.Deep.RegionWith
import Derived.Deep.RegionHeld3
namespace Go.Proofs.YtgpojfkdcdgloaaGreatDoor
open Go Go.RowKit

theorem two_good {m : UInt8} {r t1 : ByteArray} {a1 a2 a3 x2 x3 : Nat} {b1 b2 : Bool} (h1 : takeS r 0 false 1 = (t1, a1, b1)) (h2 : varS r a1 b1 = (x2, a2, b2)) (h3 : varS r a2 b2 = (x3, a3, false)) :
    twoB m r = ((pairT m x2 x3).toList == r.toList) ∧ twoX r = x2 ∧ twoY r = x3 := by
  obtain ⟨rfl, h4⟩ := varS_ok h3
  obtain ⟨rfl, h5⟩ := varS_ok h2
  obtain ⟨-, -, -, h6⟩ := takeS_ok h1
  have e1 : a1 = 1 := by omega
  subst e1
  exact twoB_in (m := m) h5 h4
theorem varS_fail {s : ByteArray} {a x a' : Nat} {b : Bool} (h : varS s a b = (x, a', true)) : (b = true ∨ (rv s a).2.2 = false) := by
  cases b with
  | true => exact .inl rfl
  | false =>
    right
    rcases hr : rv s a with ⟨X, Y, z⟩
    cases z with
    | false => rfl
    | true =>
      obtain ⟨X', Y', rfl, rfl, -⟩ := rv_in hr
      rw [varS_yes hr] at h
      simp at h
theorem two_bad {m : UInt8} {r t1 : ByteArray} {a1 a2 a3 x2 x3 : Nat} {b1 b2 : Bool} (h1 : takeS r 0 false 1 = (t1, a1, b1)) (h2 : varS r a1 b1 = (x2, a2, b2)) (h3 : varS r a2 b2 = (x3, a3, true)) : twoB m r = false := by
  by_cases hz : 1 ≤ r.size
  · have e1 : takeS r 0 false 1 = (r.extract 0 1, 1, false) := takeS_yes (a := 0) (n := 1) (by omega)
    rw [e1] at h1
    simp only [Prod.mk.injEq] at h1
    obtain ⟨-, rfl, rfl⟩ := h1
    cases b2 with
    | true =>
      rcases varS_fail h2 with h | h
      · cases h
      · rcases hr : rv r 1 with ⟨X, Y, z⟩
        have h' : (rv r 1).2.2 = false := h
        rw [hr] at h'
        simp only at h'
        subst h'
        exact twoB_no1 hr
    | false =>
      obtain ⟨-, h5⟩ := varS_ok h2
      rcases varS_fail h3 with h | h
      · cases h
      · rcases hr : rv r a2 with ⟨X, Y, z⟩
        rw [hr] at h
        simp only at h
        subst h
        exact twoB_no2 h5 hr
  · have hr : rv r 1 = (0, 0, false) := rv_bad_eq (.inr (by omega))
    exact twoB_no1 hr

set_option maxRecDepth 10000 in
set_option maxHeartbeats 4000000 in
theorem l07Two_any (m : UInt8) (r : ByteArray) (w : World) (hr : r.size ≤ 20000) :
    Calls Tryz.prog 40 #[.string r, .string ⟨#[m]⟩] w fun e w' => e = .returned (.tuple #[.int .i64 (if twoB m r then (twoX r : Int) else 0), .int .i64 (if twoB m r then (twoY r : Int) else 0), .bool (twoB m r)]) ∧ Below w.heap.size w w' := by
  obtain ⟨ans, HA⟩ : ∃ ans : Value, Hid (Value.tuple #[.int .i64 (if twoB m r then (twoX r : Int) else 0), .int .i64 (if twoB m r then (twoY r : Int) else 0), .bool (twoB m r)] = ans) := ⟨_, rfl⟩
  rw [HA.out]
  go_enter Tryz.func40, Tryz.ntmps40
  go_wp2_with fail
  refine (take1_any w.heap.size r 0 false _ (heap_last _ _) (by omega) (Nat.zero_le _)).mono ?_
  rintro e w1 ⟨t1, a1, b1, rfl, ht1, ha1, C1, S1⟩
  have B1 := Save.under (B := w.heap.size) (ba (Below.refl _ w) _) S1 (Nat.le_refl _) (by simp)
  have HT1 : Hid (takeS r 0 false 1 = (t1, a1, b1)) := ht1
  have C1 : Hid (Cur w1 w.heap.size r a1 b1) := C1
  clear S1 ht1
  go_wp2_with fail
  refine (var_any w.heap.size r a1 b1 _ C1.out (by omega) ha1).mono ?_
  rintro e w2 ⟨x2, a2, b2, rfl, ht2, ha2, hx2, C2, S2⟩
  have B2 := Save.under (B := w.heap.size) B1 S2 (Nat.le_refl _) B1.size
  have HT2 : Hid (varS r a1 b1 = (x2, a2, b2)) := ht2
  have C2 : Hid (Cur w2 w.heap.size r a2 b2) := C2
  clear S2 ht2 B1 C1
  go_wp2_with fail
  refine (var_any w.heap.size r a2 b2 _ C2.out (by omega) ha2).mono ?_
  rintro e w3 ⟨x3, a3, b3, rfl, ht3, ha3, hx3, C3, S3⟩
  have B3 := Save.under (B := w.heap.size) B2 S3 (Nat.le_refl _) B2.size
  have HT3 : Hid (varS r a2 b2 = (x3, a3, b3)) := ht3
  have C3 : Hid (Cur w3 w.heap.size r a3 b3) := C3
  clear S3 ht3 B2 C2
  obtain ⟨c0, c1, c2, cf⟩ := cur_cells C3.out
  cases b3 with
  | true =>
    have HB : Hid (twoB m r = false) := two_bad HT1.out HT2.out HT3.out
    have ha : ans = .tuple #[.int .i64 0, .int .i64 0, .bool false] := by rw [← HA.out, HB.out]; rfl
    subst ha
    go_wp2
    go_ret3
    exact ⟨rfl, B3⟩
  | false =>
    have HB : Hid (twoB m r = ((pairT m x2 x3).toList == r.toList) ∧ twoX r = x2 ∧ twoY r = x3) := two_good HT1.out HT2.out HT3.out
    have p1 := run_pair1 m hx2
    have p2 := run_pair2 m hx2 hx3
    have CA : Hid (∀ w, Calls Tryz.prog 62 #[.int .i64 x2] w fun e w' => e = .returned (.string (bstr (varI x2))) ∧ Below w.heap.size w w') := fun w => l01Var_any x2 w hx2
    have CB : Hid (∀ w, Calls Tryz.prog 62 #[.int .i64 x3] w fun e w' => e = .returned (.string (bstr (varI x3))) ∧ Below w.heap.size w w') := fun w => l01Var_any x3 w hx3
    obtain ⟨q, HQ⟩ : ∃ q, Hid (((pairT m x2 x3).toList == r.toList) = q) := ⟨_, rfl⟩
    have hq := HQ.out
    rw [HQ.out] at HB
    cases q with
    | true =>
      have ha : ans = .tuple #[.int .i64 x2, .int .i64 x3, .bool true] := by rw [← HA.out, HB.out.1, HB.out.2.1, HB.out.2.2]; rfl
      subst ha
      go_wp2_with fail
      refine Calls.mono (CA.out _) ?_
      rintro e w4 ⟨rfl, hb4⟩
      go_wp2_with fail
      refine Calls.mono (CB.out _) ?_
      rintro e w5 ⟨rfl, hb5⟩
      go_wp2
      go_ret3
      exact ⟨rfl, Below.on (Below.on B3 hb4) hb5⟩
    | false =>
      have ha : ans = .tuple #[.int .i64 0, .int .i64 0, .bool false] := by rw [← HA.out, HB.out.1]; rfl
      subst ha
      go_wp2_with fail
      refine Calls.mono (CA.out _) ?_
      rintro e w4 ⟨rfl, hb4⟩
      go_wp2_with fail
      refine Calls.mono (CB.out _) ?_
      rintro e w5 ⟨rfl, hb5⟩
      go_wp2
      go_ret3
      exact ⟨rfl, Below.on (Below.on B3 hb4) hb5⟩
end Go.Proofs.YtgpojfkdcdgloaaGreatDoor

namespace Go.Proofs.YtgpojfkdcdgloaaGreatDoor
open Go Go.RowKit

/-- What a journal is behind a record that may be none of its own. -/
def moreJ (j : Jn) (r : ByteArray) : Jn := if tellB j r then tellJ j r else j
/-- What is answered, and left. -/
def MoreP (n : Int) (j : Jn) (r : ByteArray) (g B : Nat) (w : World) (e : Ending) (w' : World) : Prop :=
  ∃ (a : Option Addr) (k c : Nat), e = .returned (.bool (tellB j r)) ∧ B6 w' g (.int .i64 n) (.int .i64 (moreJ j r).t) (.int .i64 (moreJ j r).v) (.int .i64 (moreJ j r).s) (.int .i64 (moreJ j r).st) (.slice a k c) ∧ ownsR w' B 110 (.slice a k c) (moreJ j r).l ∧ Save g w w'
theorem Save.up {g : Nat} {w W w' : World} (h : Below w.heap.size w W) (hs : Save g W w') : Save g w w' := (Save.of_below h).trans hs
theorem tell_head {j : Jn} {r : ByteArray} (h : twoB 72 r = true) : tellB j r = hdB (twoX r) (twoY r) ∧ tellJ j r = ⟨twoX r, twoY r, j.s, j.st, j.l⟩ := by
  have hk : kAt r 0 = 72 := twoB_first h
  unfold tellB tellJ
  rw [if_pos hk, if_pos hk, h]
  exact ⟨by simp, rfl⟩
theorem tell_not {j : Jn} {r : ByteArray} (h : twoB 72 r = false) (h2 : rdB r = false) : tellB j r = false := by
  unfold tellB
  split
  · rw [h]; rfl
  · rw [h2]; rfl
theorem tell_entry {j : Jn} {r : ByteArray} (h2 : rdB r = true) : tellB j r = putB j.s j.st j.l (rdI r) (rdEn r) ∧ tellJ j r = ⟨j.t, j.v, j.s, j.st, putsL j.s j.l (rdI r) (rdEn r)⟩ := by
  have hk : kAt r 0 ≠ 72 := by rw [(rdB_ok h2).2]; decide
  unfold tellB tellJ
  rw [if_neg hk, if_neg hk, h2]
  exact ⟨by simp, rfl⟩

set_option maxRecDepth 10000 in
set_option maxHeartbeats 4000000 in
theorem more_head (n : Int) (j : Jn) (ao : Option Addr) (k c : Nat) (r : ByteArray) (g B : Nat) (w : World) (hj : B6 w g (.int .i64 n) (.int .i64 j.t) (.int .i64 j.v) (.int .i64 j.s) (.int .i64 j.st) (.slice ao k c)) (ho : ownsR w B 110 (.slice ao k c) j.l) (hr : r.size ≤ 20000) (h : twoB 72 r = true) :
    Calls Tryz.prog 42 #[.pointer (some ⟨g, 0, none⟩), .string r] w (MoreP n j r g B w) := by
  have HH := tell_head (j := j) h
  have HT : Hid (tellB j r = hdB (twoX r) (twoY r) ∧ tellJ j r = ⟨twoX r, twoY r, j.s, j.st, j.l⟩) := HH
  have CT : Hid (∀ w, Calls Tryz.prog 40 #[.string r, .string ⟨#[72]⟩] w fun e w' => e = .returned (.tuple #[.int .i64 (twoX r : Int), .int .i64 (twoY r : Int), .bool true]) ∧ Below w.heap.size w w') := fun w => by
    have := l07Two_any 72 r w hr
    rw [h] at this
    exact this
  clear HH h
  obtain ⟨x, HX⟩ : ∃ x : Int, Hid ((twoX r : Int) = x) := ⟨_, rfl⟩
  obtain ⟨y, HY⟩ : ∃ y : Int, Hid ((twoY r : Int) = y) := ⟨_, rfl⟩
  rw [HX.out, HY.out] at HT CT
  obtain ⟨q1, H1⟩ : ∃ q, Hid ((decide (0 ≤ x) && decide (x ≤ 100000)) = q) := ⟨_, rfl⟩
  obtain ⟨q2, H2⟩ : ∃ q, Hid ((decide (0 ≤ y) && decide (y ≤ 4)) = q) := ⟨_, rfl⟩
  have HQ : Hid (tellB j r = (q1 && q2)) := by
    show _ = _
    rw [HT.out.1]
    unfold hdB
    rw [← H1.out, ← H2.out, Bool.and_assoc]
  have C1 : Hid (∀ w, Calls Tryz.prog 36 #[.int .i64 x, .int .i64 0, .int .i64 100000] w fun e w' => e = .returned (.bool q1) ∧ w' = w) := fun w => l01In_b _ _ _ w H1.out
  have C2 : Hid (∀ w, Calls Tryz.prog 36 #[.int .i64 y, .int .i64 0, .int .i64 4] w fun e w' => e = .returned (.bool q2) ∧ w' = w) := fun w => l01In_b _ _ _ w H2.out
  have HO : Hid (ownsR w B 110 (.slice ao k c) j.l) := ho
  clear ho
  go_enter Tryz.func42, Tryz.ntmps42
  go_wp2_with fail
  refine Calls.mono (CT.out _) ?_
  rintro e w1 ⟨rfl, hb1⟩
  have J1 := hj.up hb1
  go_wp2_with fail
  refine Calls.mono (C1.out _) ?_
  rintro e w' ⟨rfl, hw⟩
  have hw2 := hw.symm
  subst hw2
  cases q1 with
  | false =>
    have HN : Hid (tellB j r = false) := HQ.out
    go_wp2
    go_ret
    refine ⟨ao, k, c, by rw [HN.out]; rfl, ?_, ?_, Save.of_below hb1⟩
    · unfold moreJ; rw [HN.out]; exact J1
    · unfold moreJ; rw [HN.out]; exact HO.out.all hb1
  | true =>
    go_wp2_with fail
    refine Calls.mono (C2.out _) ?_
    rintro e w' ⟨rfl, hw⟩
    have hw2 := hw.symm
    subst hw2
    cases q2 with
    | false =>
      have HN : Hid (tellB j r = false) := HQ.out
      go_wp2
      go_ret
      refine ⟨ao, k, c, by rw [HN.out]; rfl, ?_, ?_, Save.of_below hb1⟩
      · unfold moreJ; rw [HN.out]; exact J1
      · unfold moreJ; rw [HN.out]; exact HO.out.all hb1
    | true =>
      have HN : Hid (tellB j r = true) := HQ.out
      have c1 := J1.c1
      have c2 := J1.c2
      have cf := J1.fr
      have J3 := (J1.s1 (.int .i64 x)).s2 (.int .i64 y)
      have S3 : Save g w ((w1.setCell ⟨g, 1, none⟩ (.int .i64 x)).setCell ⟨g, 2, none⟩ (.int .i64 y)) := ((Save.of_below hb1).setCell (p := ⟨g, 1, none⟩) rfl _).setCell (p := ⟨g, 2, none⟩) rfl _
      have O3 : ownsR ((w1.setCell ⟨g, 1, none⟩ (.int .i64 x)).setCell ⟨g, 2, none⟩ (.int .i64 y)) B 110 (.slice ao k c) j.l := by
        have o1 := HO.out.all hb1
        have hne := not_row6 J1 o1
        have kk : ∀ {V : World} {j' : Nat} {u : Value}, ownsR V B 110 (.slice ao k c) j.l → ownsR (V.setCell ⟨g, j', none⟩ u) B 110 (.slice ao k c) j.l := fun hV => World.ownsRow.kept hV (grown_set _ _ _ _) (.inr (fun h => hne h.symm))
        exact kk (kk o1)
      go_wp2
      obtain ⟨w4, hw4⟩ : ∃ w4, (w1.setCell ⟨g, 1, none⟩ (.int .i64 x)).setCell ⟨g, 2, none⟩ (.int .i64 y) = w4 := ⟨_, rfl⟩
      rw [hw4] at J3 S3 O3 ⊢
      clear hw4
      go_ret
      refine ⟨ao, k, c, by rw [HN.out]; rfl, ?_, ?_, S3⟩
      · unfold moreJ; rw [HN.out, if_pos rfl, HT.out.2]; exact J3
      · unfold moreJ; rw [HN.out, if_pos rfl, HT.out.2]; exact O3

set_option maxRecDepth 10000 in
set_option maxHeartbeats 4000000 in
theorem more_not (n : Int) (j : Jn) (ao : Option Addr) (k c : Nat) (r : ByteArray) (g B : Nat) (w : World) (hj : B6 w g (.int .i64 n) (.int .i64 j.t) (.int .i64 j.v) (.int .i64 j.s) (.int .i64 j.st) (.slice ao k c)) (ho : ownsR w B 110 (.slice ao k c) j.l) (hr : r.size ≤ 20000) (h : twoB 72 r = false) (h2 : rdB r = false) :
    Calls Tryz.prog 42 #[.pointer (some ⟨g, 0, none⟩), .string r] w (MoreP n j r g B w) := by
  have HN : Hid (tellB j r = false) := tell_not h h2
  have HO : Hid (ownsR w B 110 (.slice ao k c) j.l) := ho
  have CT : Hid (∀ w, Calls Tryz.prog 40 #[.string r, .string ⟨#[72]⟩] w fun e w' => e = .returned (.tuple #[.int .i64 0, .int .i64 0, .bool false]) ∧ Below w.heap.size w w') := fun w => by
    have := l07Two_any 72 r w hr
    rw [h] at this
    exact this
  have CR : Hid (∀ W, Calls Tryz.prog 64 #[.string r] W fun e w' => e = .returned (.tuple #[.int .i64 0, .agg #[.int .i64 0, .int .i64 0, .string ByteArray.empty], .bool false]) ∧ Below W.heap.size W w') := fun W => by
    have := specReadEntry_any r W (by omega)
    rw [rdV_eq, h2] at this
    exact this
  clear h h2 ho
  go_enter Tryz.func42, Tryz.ntmps42
  go_wp2_with fail
  refine Calls.mono (CT.out _) ?_
  rintro e w1 ⟨rfl, hb1⟩
  go_wp2_with fail
  refine Calls.mono (CR.out _) ?_
  rintro e w2 ⟨rfl, hb2⟩
  have B2 := Below.on hb1 hb2
  go_wp2
  go_ret
  have B3 := ba B2 (.cells #[.int .i64 0, .int .i64 0, .string ByteArray.empty] 110)
  refine ⟨ao, k, c, by rw [HN.out]; rfl, ?_, ?_, Save.of_below B3⟩
  · unfold moreJ; rw [HN.out]; exact hj.up B3
  · unfold moreJ; rw [HN.out]; exact HO.out.all B3
end Go.Proofs.YtgpojfkdcdgloaaGreatDoor

namespace Go.Proofs.YtgpojfkdcdgloaaGreatDoor
open Go Go.RowKit

set_option maxRecDepth 10000 in
set_option maxHeartbeats 4000000 in
theorem more_entry (n : Int) (j : Jn) (ao : Option Addr) (k c : Nat) (r : ByteArray) (g B : Nat) (w : World) (hj : B6 w g (.int .i64 n) (.int .i64 j.t) (.int .i64 j.v) (.int .i64 j.s) (.int .i64 j.st) (.slice ao k c)) (ho : ownsR w B 110 (.slice ao k c) j.l) (hB : B ≤ w.heap.size) (hl : j.l.length ≤ 60) (hz : SizedE j.l) (hr : r.size ≤ 20000) (h : twoB 72 r = false) (h2 : rdB r = true) :
    Calls Tryz.prog 42 #[.pointer (some ⟨g, 0, none⟩), .string r] w (MoreP n j r g B w) := by
  have HT : Hid (tellB j r = putB j.s j.st j.l (rdI r) (rdEn r) ∧ tellJ j r = ⟨j.t, j.v, j.s, j.st, putsL j.s j.l (rdI r) (rdEn r)⟩) := tell_entry h2
  have HO : Hid (ownsR w B 110 (.slice ao k c) j.l) := ho
  have HZ : Hid (SizedE j.l) := hz
  have HD : Hid ((rdEn r).data.size ≤ 1048576) := by
    obtain ⟨_, _, _, _, _, h6, _⟩ := okX_out (rdB_ok h2).1
    show _ ≤ _; omega
  have HC : Hid (k = j.l.length ∧ k ≤ c) := by
    obtain ⟨a', c', e, hc⟩ := ho.cap
    simp only [Value.slice.injEq] at e
    obtain ⟨_, rfl, rfl⟩ := e
    exact ⟨rfl, hc⟩
  have CT : Hid (∀ w, Calls Tryz.prog 40 #[.string r, .string ⟨#[72]⟩] w fun e w' => e = .returned (.tuple #[.int .i64 0, .int .i64 0, .bool false]) ∧ Below w.heap.size w w') := fun w => by
    have := l07Two_any 72 r w hr
    rw [h] at this
    exact this
  have CR : Hid (∀ W, Calls Tryz.prog 64 #[.string r] W fun e w' => e = .returned (.tuple #[.int .i64 (rdI r), .agg #[.int .i64 (rdEn r).term, .int .i64 (rdEn r).kind, .string (rdEn r).data], .bool true]) ∧ Below W.heap.size W w') := fun W => by
    have := specReadEntry_any r W (by omega)
    rw [rdV_eq, h2] at this
    exact this
  have CP : Hid (∀ W, Below w.heap.size w W → Calls Tryz.prog 65 #[.agg #[.int .i64 j.s, .int .i64 j.st, .slice ao k c], .int .i64 (rdI r), .agg #[.int .i64 (rdEn r).term, .int .i64 (rdEn r).kind, .string (rdEn r).data]] W fun e w' => ∃ v, e = .returned (.tuple #[.agg #[.int .i64 (putS j.s j.st j.l (rdI r) (rdEn r)), .int .i64 (putT j.s j.st j.l (rdI r) (rdEn r)), v], .bool (putB j.s j.st j.l (rdI r) (rdEn r))]) ∧ ownsR w' W.heap.size 110 v (putE j.s j.st j.l (rdI r) (rdEn r)) ∧ Below W.heap.size W w') := fun W hb =>
    specLogPut_try j.s j.st (rdI r) (rdEn r).term (rdEn r).kind (rdEn r).data ao k c j.l W (HO.out.reads.below hb) HC.out.2 (by have := HC.out.1; omega) HZ.out HD.out
  obtain ⟨ps, HPS⟩ : ∃ q, Hid (putS j.s j.st j.l (rdI r) (rdEn r) = q) := ⟨_, rfl⟩
  obtain ⟨pt, HPT⟩ : ∃ q, Hid (putT j.s j.st j.l (rdI r) (rdEn r) = q) := ⟨_, rfl⟩
  obtain ⟨q, HQ⟩ : ∃ q, Hid (putB j.s j.st j.l (rdI r) (rdEn r) = q) := ⟨_, rfl⟩
  rw [HPS.out, HPT.out, HQ.out] at CP
  rw [HQ.out] at HT
  clear h h2 ho hz
  go_enter Tryz.func42, Tryz.ntmps42
  go_wp2_with fail
  refine Calls.mono (CT.out _) ?_
  rintro e w1 ⟨rfl, hb1⟩
  go_wp2_with fail
  refine Calls.mono (CR.out _) ?_
  rintro e w2 ⟨rfl, hb2⟩
  have B2 := ba (Below.on hb1 hb2) (.cells #[.int .i64 (rdEn r).term, .int .i64 (rdEn r).kind, .string (rdEn r).data] 110)
  have J2 := hj.up B2
  have e0 : (w2.alloc (.cells #[.int .i64 (rdEn r).term, .int .i64 (rdEn r).kind, .string (rdEn r).data] 110)).cell? ⟨w2.heap.size, 0, none⟩ = some (.int .i64 (rdEn r).term) := by simp [go_sem]
  have e1 : (w2.alloc (.cells #[.int .i64 (rdEn r).term, .int .i64 (rdEn r).kind, .string (rdEn r).data] 110)).cell? ⟨w2.heap.size, 1, none⟩ = some (.int .i64 (rdEn r).kind) := by simp [go_sem]
  have e2 : (w2.alloc (.cells #[.int .i64 (rdEn r).term, .int .i64 (rdEn r).kind, .string (rdEn r).data] 110)).cell? ⟨w2.heap.size, 2, none⟩ = some (.string (rdEn r).data) := by simp [go_sem]
  obtain ⟨WX, hWX⟩ : ∃ WX, w2.alloc (.cells #[.int .i64 (rdEn r).term, .int .i64 (rdEn r).kind, .string (rdEn r).data] 110) = WX := ⟨_, rfl⟩
  have hzx : WX.heap.size = w2.heap.size + 1 := by rw [← hWX]; simp
  rw [hWX] at B2 J2 e0 e1 e2
  have c3 := J2.c3
  have c4 := J2.c4
  have c5 := J2.c5
  have hgX := J2.lt
  go_wp2
  clear hWX hb1 hb2
  have K3 := Below.cellOf (B := WX.heap.size) (W := WX) (p := ⟨g, 3, none⟩) (v := .int .i64 j.s) hgX c3
  have K4 := Below.cellOf (B := WX.heap.size) (W := WX) (p := ⟨g, 4, none⟩) (v := .int .i64 j.st) hgX c4
  have K5 := Below.cellOf (B := WX.heap.size) (W := WX) (p := ⟨g, 5, none⟩) (v := .slice ao k c) hgX c5
  have E0 := Below.cellOf (B := WX.heap.size) (W := WX) (p := ⟨w2.heap.size, 0, none⟩) (v := .int .i64 (rdEn r).term) (by show w2.heap.size < _; omega) e0
  have E1 := Below.cellOf (B := WX.heap.size) (W := WX) (p := ⟨w2.heap.size, 1, none⟩) (v := .int .i64 (rdEn r).kind) (by show w2.heap.size < _; omega) e1
  have E2 := Below.cellOf (B := WX.heap.size) (W := WX) (p := ⟨w2.heap.size, 2, none⟩) (v := .string (rdEn r).data) (by show w2.heap.size < _; omega) e2
  obtain ⟨pe, HPE⟩ : ∃ q, Hid (putE j.s j.st j.l (rdI r) (rdEn r) = q) := ⟨_, rfl⟩
  rw [HPE.out] at CP
  have CP2 : Hid (∀ W, Below WX.heap.size WX W → Calls Tryz.prog 65 #[.agg #[.int .i64 j.s, .int .i64 j.st, .slice ao k c], .int .i64 (rdI r), .agg #[.int .i64 (rdEn r).term, .int .i64 (rdEn r).kind, .string (rdEn r).data]] W fun e w' => ∃ v, e = .returned (.tuple #[.agg #[.int .i64 ps, .int .i64 pt, v], .bool q]) ∧ ownsR w' W.heap.size 110 v pe ∧ Below W.heap.size W w') := fun W hb => CP.out W (Below.on B2 hb)
  clear hzx
  refine wp_puts (α := Nat × Option Addr × Nat × Nat) (fun x => [(45, .pointer (some ⟨g, 0, none⟩)), (46, .pointer (some ⟨g, 0, none⟩)), (47, .pointer (some ⟨g, 3, none⟩)), (48, .agg #[.int .i64 j.s, .int .i64 j.st, .slice ao k c]), (49, .int .i64 (rdI r)), (50, .agg #[.int .i64 (rdEn r).term, .int .i64 (rdEn r).kind, .string (rdEn r).data]), (51, .tuple #[.agg #[.int .i64 ps, .int .i64 pt, .slice x.2.1 x.2.2.1 x.2.2.2], .bool q]), (44, .tuple #[.agg #[.int .i64 ps, .int .i64 pt, .slice x.2.1 x.2.2.1 x.2.2.2], .bool q]), (52, .agg #[.int .i64 ps, .int .i64 pt, .slice x.2.1 x.2.2.1 x.2.2.2]), (53, .bool q), (11, .pointer (some ⟨x.1, 0, none⟩)), (12, .bool q)]) (fun x w' => WX.heap.size ≤ x.1 ∧ w'.heap[x.1]? = some (.cells #[.int .i64 ps, .int .i64 pt, .slice x.2.1 x.2.2.1 x.2.2.2] 28) ∧ ownsR w' WX.heap.size 110 (.slice x.2.1 x.2.2.1 x.2.2.2) pe ∧ Below WX.heap.size WX w') ?_ ?_
  · go_region_held3 (fun w' => Below WX.heap.size WX w') ((first | assumption | exact (Below.refl _ _).drew | exact hS5 | exact Below.alloc hS5 hS5.size _ | exact Below.alloc (by assumption) (Below.size (by assumption)) _ | exact ((Below.setCell hS5 (Nat.le_refl _) _).setCell (Nat.le_refl _) _).setCell (Nat.le_refl _) _)) ((go_at_call 65; refine (CP2.out _ (by assumption)).mono ?_; rintro e w3 ⟨v5, rfl, ho5, hb5⟩; obtain ⟨a5, k5, c5, rfl⟩ := ho5.slice3; have hS5 := keep_on (B := WX.heap.size) (W := WX) hb5 (by assumption) (Nat.le_refl _); (try (have hE0 := heap_new hb5; obtain ⟨p0, p1, p2, pf⟩ := cur_cells hE0)); (try (have hE0 := heap_newd hb5; obtain ⟨p0, p1, p2, pf⟩ := cur_cells hE0))))
    all_goals first | refine ⟨rfl, (w3.heap.size, a5, k5, c5), ?_, hS5.size, heap_last _ _, (ho5.mono (Nat.le_refl _)).alloc _, Below.alloc hS5 hS5.size _⟩ | refine ⟨rfl, (WX.heap.size, a5, k5, c5), ?_, Nat.le_refl _, cur_set2 (cur_set1 (cur_set0 hE0 _) _) _, ownsR.mono (ownsR.setBelow (ownsR.setBelow (ownsR.setBelow ho5 (by show WX.heap.size < (WX.alloc _).heap.size; simp) _) (by show WX.heap.size < (WX.alloc _).heap.size; simp) _) (by show WX.heap.size < (WX.alloc _).heap.size; simp) _) (by show WX.heap.size ≤ (WX.alloc _).heap.size; simp), ((Below.setCell hS5 (p := ⟨WX.heap.size, 0, none⟩) (Nat.le_refl _) _).setCell (p := ⟨WX.heap.size, 1, none⟩) (Nat.le_refl _) _).setCell (p := ⟨WX.heap.size, 2, none⟩) (Nat.le_refl _) _⟩
    all_goals kernel_rfl
  rintro ⟨E, av, kv, cv⟩ w3 ⟨hE, E3, ho3, hb3⟩
  simp only at hE E3 ho3
  simp only [putAll]
  have B3 := Below.on B2 hb3
  have J3 := J2.up hb3
  have HO3 : Hid (ownsR w3 B 110 (.slice av kv cv) pe) := ho3.mono (Nat.le_trans hB B2.size)
  have HO4 : Hid (ownsR w3 B 110 (.slice ao k c) j.l) := HO.out.all B3
  clear hb3 K3 K4 K5 E0 E1 E2 e0 e1 e2 c3 c4 c5 CP CP2 CT CR ho3
  obtain ⟨f0, f1, f2, ff⟩ := cur_cells E3
  cases q with
  | false =>
    have HN : Hid (tellB j r = false) := HT.out.1
    go_wp2
    go_ret
    refine ⟨ao, k, c, by rw [HN.out]; rfl, ?_, ?_, Save.of_below B3⟩
    · unfold moreJ; rw [HN.out]; exact J3
    · unfold moreJ; rw [HN.out]; exact HO4.out
  | true =>
    have HN : Hid (tellB j r = true) := HT.out.1
    have y3 := J3.c3
    have y4 := J3.c4
    have y5 := J3.c5
    have yf := J3.fr
    have J4 := ((J3.s3 (.int .i64 ps)).s4 (.int .i64 pt)).s5 (.slice av kv cv)
    have S4 : Save g w (((w3.setCell ⟨g, 3, none⟩ (.int .i64 ps)).setCell ⟨g, 4, none⟩ (.int .i64 pt)).setCell ⟨g, 5, none⟩ (.slice av kv cv)) := (((Save.of_below B3).setCell (p := ⟨g, 3, none⟩) rfl _).setCell (p := ⟨g, 4, none⟩) rfl _).setCell (p := ⟨g, 5, none⟩) rfl _
    have O4 : ownsR (((w3.setCell ⟨g, 3, none⟩ (.int .i64 ps)).setCell ⟨g, 4, none⟩ (.int .i64 pt)).setCell ⟨g, 5, none⟩ (.slice av kv cv)) B 110 (.slice av kv cv) pe := by
      have hne := not_row6 J3 HO3.out
      have kk : ∀ {V : World} {j' : Nat} {u : Value}, ownsR V B 110 (.slice av kv cv) pe → ownsR (V.setCell ⟨g, j', none⟩ u) B 110 (.slice av kv cv) pe := fun hV => World.ownsRow.kept hV (grown_set _ _ _ _) (.inr (fun h => hne h.symm))
      exact kk (kk (kk HO3.out))
    go_wp2
    obtain ⟨w4, hw4⟩ : ∃ w4, ((w3.setCell ⟨g, 3, none⟩ (.int .i64 ps)).setCell ⟨g, 4, none⟩ (.int .i64 pt)).setCell ⟨g, 5, none⟩ (.slice av kv cv) = w4 := ⟨_, rfl⟩
    rw [hw4] at J4 S4 O4 ⊢
    clear hw4
    go_ret
    have e1 : pe = putsL j.s j.l (rdI r) (rdEn r) := by rw [← HPE.out]; unfold putE; rw [HQ.out]; rfl
    have e2 : ps = j.s := by rw [← HPS.out]; unfold putS; rw [HQ.out]; rfl
    have e3 : pt = j.st := by rw [← HPT.out]; unfold putT; rw [HQ.out]; rfl
    refine ⟨av, kv, cv, by rw [HN.out]; rfl, ?_, ?_, S4⟩
    · unfold moreJ; rw [HN.out, if_pos rfl, HT.out.2, ← e2, ← e3] ; exact J4
    · unfold moreJ; rw [HN.out, if_pos rfl, HT.out.2, ← e1]; exact O4

theorem l07More_any (n : Int) (j : Jn) (ao : Option Addr) (k c : Nat) (r : ByteArray) (g B : Nat) (w : World) (hj : B6 w g (.int .i64 n) (.int .i64 j.t) (.int .i64 j.v) (.int .i64 j.s) (.int .i64 j.st) (.slice ao k c)) (ho : ownsR w B 110 (.slice ao k c) j.l) (hB : B ≤ w.heap.size) (hl : j.l.length ≤ 60) (hz : SizedE j.l) (hr : r.size ≤ 20000) :
    Calls Tryz.prog 42 #[.pointer (some ⟨g, 0, none⟩), .string r] w (MoreP n j r g B w) := by
  cases h : twoB 72 r with
  | true => exact more_head n j ao k c r g B w hj ho hr h
  | false =>
    cases h2 : rdB r with
    | false => exact more_not n j ao k c r g B w hj ho hr h h2
    | true => exact more_entry n j ao k c r g B w hj ho hB hl hz hr h h2
end Go.Proofs.YtgpojfkdcdgloaaGreatDoor
