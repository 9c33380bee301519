/-
  Journals: a record of a mark and two numbers, as the model reads it: the walk. Journals: one more record, as the model takes it: the walks. Journals: one more entry, as the model takes it: the walk. Journals: a file that is read, as the program answers of it: the walk. Journals: a file that is read, as the model reads it: the walk. Journals: a file that is read, as the model reads it, frame by frame: the walk. Journals: a file that is read, as the model reads it, record by record: the walk. The law on a journal's file that is read: the walk.
-/
import Derived.Test.YtijmaplejpnggaaGreatDoorQ7
import Derived.Test.YtijmaplejpnggaaGreatDoorQ5
import Derived.BigRegion
import Derived.Deep.RegionWith
import Derived.Deep.RegionHeld3
import Derived.Test.YtijmaplejpnggaaGreatDoorQ8
import Derived.Test.YtijmaplejpnggaaGreatDoorQ3
import Derived.Test.YtijmaplejpnggaaGreatDoorQ6
namespace Go.Proofs.YtijmaplejpnggaaGreatDoor
open Go Go.RowKit

theorem two_good {m : UInt8} {r t1 : ByteArray} {a1 a2 a3 x2 x3 : Nat} {b1 b2 : Bool} (h1 : takeS r 0 false 1 = (t1, a1, b1)) (h2 : varS r a1 b1 = (x2, a2, b2)) (h3 : varS r a2 b2 = (x3, a3, false)) :
    twoB m r = ((pairT m x2 x3).toList == r.toList) ∧ twoX r = x2 ∧ twoY r = x3 := by
  obtain ⟨rfl, h4⟩ := varS_ok h3
  obtain ⟨rfl, h5⟩ := varS_ok h2
  obtain ⟨-, -, -, h6⟩ := takeS_ok h1
  have e1 : a1 = 1 := by omega
  subst e1
  exact twoB_in (m := m) h5 h4
theorem varS_fail {s : ByteArray} {a x a' : Nat} {b : Bool} (h : varS s a b = (x, a', true)) : (b = true ∨ (rv s a).2.2 = false) := by
  cases b with
  | true => exact .inl rfl
  | false =>
    right
    rcases hr : rv s a with ⟨X, Y, z⟩
    cases z with
    | false => rfl
    | true =>
      obtain ⟨X', Y', rfl, rfl, -⟩ := rv_in hr
      rw [varS_yes hr] at h
      simp at h
theorem two_bad {m : UInt8} {r t1 : ByteArray} {a1 a2 a3 x2 x3 : Nat} {b1 b2 : Bool} (h1 : takeS r 0 false 1 = (t1, a1, b1)) (h2 : varS r a1 b1 = (x2, a2, b2)) (h3 : varS r a2 b2 = (x3, a3, true)) : twoB m r = false := by
  by_cases hz : 1 ≤ r.size
  · have e1 : takeS r 0 false 1 = (r.extract 0 1, 1, false) := takeS_yes (a := 0) (n := 1) (by omega)
    rw [e1] at h1
    simp only [Prod.mk.injEq] at h1
    obtain ⟨-, rfl, rfl⟩ := h1
    cases b2 with
    | true =>
      rcases varS_fail h2 with h | h
      · cases h
      · rcases hr : rv r 1 with ⟨X, Y, z⟩
        have h' : (rv r 1).2.2 = false := h
        rw [hr] at h'
        simp only at h'
        subst h'
        exact twoB_no1 hr
    | false =>
      obtain ⟨-, h5⟩ := varS_ok h2
      rcases varS_fail h3 with h | h
      · cases h
      · rcases hr : rv r a2 with ⟨X, Y, z⟩
        rw [hr] at h
        simp only at h
        subst h
        exact twoB_no2 h5 hr
  · have hr : rv r 1 = (0, 0, false) := rv_bad_eq (.inr (by omega))
    exact twoB_no1 hr

set_option maxRecDepth 10000 in
set_option maxHeartbeats 4000000 in
theorem l07Two_any (m : UInt8) (r : ByteArray) (w : World) (hr : r.size ≤ 20000) :
    Calls Tryz.prog 26 #[.string r, .string ⟨#[m]⟩] w fun e w' => e = .returned (.tuple #[.int .i64 (if twoB m r then (twoX r : Int) else 0), .int .i64 (if twoB m r then (twoY r : Int) else 0), .bool (twoB m r)]) ∧ Below w.heap.size w w' := by
  obtain ⟨ans, HA⟩ : ∃ ans : Value, Hid (Value.tuple #[.int .i64 (if twoB m r then (twoX r : Int) else 0), .int .i64 (if twoB m r then (twoY r : Int) else 0), .bool (twoB m r)] = ans) := ⟨_, rfl⟩
  rw [HA.out]
  go_enter Tryz.func26, Tryz.ntmps26
  go_wp2_with fail
  refine (take1_any w.heap.size r 0 false _ (heap_last _ _) (by omega) (Nat.zero_le _)).mono ?_
  rintro e w1 ⟨t1, a1, b1, rfl, ht1, ha1, C1, S1⟩
  have B1 := Save.under (B := w.heap.size) (ba (Below.refl _ w) _) S1 (Nat.le_refl _) (by simp)
  have HT1 : Hid (takeS r 0 false 1 = (t1, a1, b1)) := ht1
  have C1 : Hid (Cur w1 w.heap.size r a1 b1) := C1
  clear S1 ht1
  go_wp2_with fail
  refine (var_any w.heap.size r a1 b1 _ C1.out (by omega) ha1).mono ?_
  rintro e w2 ⟨x2, a2, b2, rfl, ht2, ha2, hx2, C2, S2⟩
  have B2 := Save.under (B := w.heap.size) B1 S2 (Nat.le_refl _) B1.size
  have HT2 : Hid (varS r a1 b1 = (x2, a2, b2)) := ht2
  have C2 : Hid (Cur w2 w.heap.size r a2 b2) := C2
  clear S2 ht2 B1 C1
  go_wp2_with fail
  refine (var_any w.heap.size r a2 b2 _ C2.out (by omega) ha2).mono ?_
  rintro e w3 ⟨x3, a3, b3, rfl, ht3, ha3, hx3, C3, S3⟩
  have B3 := Save.under (B := w.heap.size) B2 S3 (Nat.le_refl _) B2.size
  have HT3 : Hid (varS r a2 b2 = (x3, a3, b3)) := ht3
  have C3 : Hid (Cur w3 w.heap.size r a3 b3) := C3
  clear S3 ht3 B2 C2
  obtain ⟨c0, c1, c2, cf⟩ := cur_cells C3.out
  cases b3 with
  | true =>
    have HB : Hid (twoB m r = false) := two_bad HT1.out HT2.out HT3.out
    have ha : ans = .tuple #[.int .i64 0, .int .i64 0, .bool false] := by rw [← HA.out, HB.out]; rfl
    subst ha
    go_wp2
    go_ret3
    exact ⟨rfl, B3⟩
  | false =>
    have HB : Hid (twoB m r = ((pairT m x2 x3).toList == r.toList) ∧ twoX r = x2 ∧ twoY r = x3) := two_good HT1.out HT2.out HT3.out
    have p1 := run_pair1 m hx2
    have p2 := run_pair2 m hx2 hx3
    have CA : Hid (∀ w, Calls Tryz.prog 59 #[.int .i64 x2] w fun e w' => e = .returned (.string (bstr (varI x2))) ∧ Below w.heap.size w w') := fun w => l01Var_any x2 w hx2
    have CB : Hid (∀ w, Calls Tryz.prog 59 #[.int .i64 x3] w fun e w' => e = .returned (.string (bstr (varI x3))) ∧ Below w.heap.size w w') := fun w => l01Var_any x3 w hx3
    obtain ⟨q, HQ⟩ : ∃ q, Hid (((pairT m x2 x3).toList == r.toList) = q) := ⟨_, rfl⟩
    have hq := HQ.out
    rw [HQ.out] at HB
    cases q with
    | true =>
      have ha : ans = .tuple #[.int .i64 x2, .int .i64 x3, .bool true] := by rw [← HA.out, HB.out.1, HB.out.2.1, HB.out.2.2]; rfl
      subst ha
      go_wp2_with fail
      refine Calls.mono (CA.out _) ?_
      rintro e w4 ⟨rfl, hb4⟩
      go_wp2_with fail
      refine Calls.mono (CB.out _) ?_
      rintro e w5 ⟨rfl, hb5⟩
      go_wp2
      go_ret3
      exact ⟨rfl, Below.on (Below.on B3 hb4) hb5⟩
    | false =>
      have ha : ans = .tuple #[.int .i64 0, .int .i64 0, .bool false] := by rw [← HA.out, HB.out.1]; rfl
      subst ha
      go_wp2_with fail
      refine Calls.mono (CA.out _) ?_
      rintro e w4 ⟨rfl, hb4⟩
      go_wp2_with fail
      refine Calls.mono (CB.out _) ?_
      rintro e w5 ⟨rfl, hb5⟩
      go_wp2
      go_ret3
      exact ⟨rfl, Below.on (Below.on B3 hb4) hb5⟩
end Go.Proofs.YtijmaplejpnggaaGreatDoor

namespace Go.Proofs.YtijmaplejpnggaaGreatDoor
open Go Go.RowKit

/-- What a journal is behind a record that may be none of its own. -/
def moreJ (j : Jn) (r : ByteArray) : Jn := if tellB j r then tellJ j r else j
/-- What is answered, and left. -/
def MoreP (n : Int) (j : Jn) (r : ByteArray) (g B : Nat) (w : World) (e : Ending) (w' : World) : Prop :=
  ∃ (a : Option Addr) (k c : Nat), e = .returned (.bool (tellB j r)) ∧ B6 w' g (.int .i64 n) (.int .i64 (moreJ j r).t) (.int .i64 (moreJ j r).v) (.int .i64 (moreJ j r).s) (.int .i64 (moreJ j r).st) (.slice a k c) ∧ ownsR w' B 84 (.slice a k c) (moreJ j r).l ∧ Save g w w'
theorem Save.up {g : Nat} {w W w' : World} (h : Below w.heap.size w W) (hs : Save g W w') : Save g w w' := (Save.of_below h).trans hs
theorem tell_head {j : Jn} {r : ByteArray} (h : twoB 72 r = true) : tellB j r = hdB (twoX r) (twoY r) ∧ tellJ j r = ⟨twoX r, twoY r, j.s, j.st, j.l⟩ := by
  have hk : kAt r 0 = 72 := twoB_first h
  unfold tellB tellJ
  rw [if_pos hk, if_pos hk, h]
  exact ⟨by simp, rfl⟩
theorem tell_not {j : Jn} {r : ByteArray} (h : twoB 72 r = false) (h2 : rdB r = false) : tellB j r = false := by
  unfold tellB
  split
  · rw [h]; rfl
  · rw [h2]; rfl
theorem tell_entry {j : Jn} {r : ByteArray} (h2 : rdB r = true) : tellB j r = putB j.s j.st j.l (rdI r) (rdEn r) ∧ tellJ j r = ⟨j.t, j.v, j.s, j.st, putsL j.s j.l (rdI r) (rdEn r)⟩ := by
  have hk : kAt r 0 ≠ 72 := by rw [(rdB_ok h2).2]; decide
  unfold tellB tellJ
  rw [if_neg hk, if_neg hk, h2]
  exact ⟨by simp, rfl⟩

set_option maxRecDepth 10000 in
set_option maxHeartbeats 4000000 in
theorem more_head (n : Int) (j : Jn) (ao : Option Addr) (k c : Nat) (r : ByteArray) (g B : Nat) (w : World) (hj : B6 w g (.int .i64 n) (.int .i64 j.t) (.int .i64 j.v) (.int .i64 j.s) (.int .i64 j.st) (.slice ao k c)) (ho : ownsR w B 84 (.slice ao k c) j.l) (hr : r.size ≤ 20000) (h : twoB 72 r = true) :
    Calls Tryz.prog 28 #[.pointer (some ⟨g, 0, none⟩), .string r] w (MoreP n j r g B w) := by
  have HH := tell_head (j := j) h
  have HT : Hid (tellB j r = hdB (twoX r) (twoY r) ∧ tellJ j r = ⟨twoX r, twoY r, j.s, j.st, j.l⟩) := HH
  have CT : Hid (∀ w, Calls Tryz.prog 26 #[.string r, .string ⟨#[72]⟩] w fun e w' => e = .returned (.tuple #[.int .i64 (twoX r : Int), .int .i64 (twoY r : Int), .bool true]) ∧ Below w.heap.size w w') := fun w => by
    have := l07Two_any 72 r w hr
    rw [h] at this
    exact this
  clear HH h
  obtain ⟨x, HX⟩ : ∃ x : Int, Hid ((twoX r : Int) = x) := ⟨_, rfl⟩
  obtain ⟨y, HY⟩ : ∃ y : Int, Hid ((twoY r : Int) = y) := ⟨_, rfl⟩
  rw [HX.out, HY.out] at HT CT
  obtain ⟨q1, H1⟩ : ∃ q, Hid ((decide (0 ≤ x) && decide (x ≤ 100000)) = q) := ⟨_, rfl⟩
  obtain ⟨q2, H2⟩ : ∃ q, Hid ((decide (0 ≤ y) && decide (y ≤ 4)) = q) := ⟨_, rfl⟩
  have HQ : Hid (tellB j r = (q1 && q2)) := by
    show _ = _
    rw [HT.out.1]
    unfold hdB
    rw [← H1.out, ← H2.out, Bool.and_assoc]
  have C1 : Hid (∀ w, Calls Tryz.prog 25 #[.int .i64 x, .int .i64 0, .int .i64 100000] w fun e w' => e = .returned (.bool q1) ∧ w' = w) := fun w => l01In_b _ _ _ w H1.out
  have C2 : Hid (∀ w, Calls Tryz.prog 25 #[.int .i64 y, .int .i64 0, .int .i64 4] w fun e w' => e = .returned (.bool q2) ∧ w' = w) := fun w => l01In_b _ _ _ w H2.out
  have HO : Hid (ownsR w B 84 (.slice ao k c) j.l) := ho
  clear ho
  go_enter Tryz.func28, Tryz.ntmps28
  go_wp2_with fail
  refine Calls.mono (CT.out _) ?_
  rintro e w1 ⟨rfl, hb1⟩
  have J1 := hj.up hb1
  go_wp2_with fail
  refine Calls.mono (C1.out _) ?_
  rintro e w' ⟨rfl, hw⟩
  have hw2 := hw.symm
  subst hw2
  cases q1 with
  | false =>
    have HN : Hid (tellB j r = false) := HQ.out
    go_wp2
    go_ret
    refine ⟨ao, k, c, by rw [HN.out]; rfl, ?_, ?_, Save.of_below hb1⟩
    · unfold moreJ; rw [HN.out]; exact J1
    · unfold moreJ; rw [HN.out]; exact HO.out.all hb1
  | true =>
    go_wp2_with fail
    refine Calls.mono (C2.out _) ?_
    rintro e w' ⟨rfl, hw⟩
    have hw2 := hw.symm
    subst hw2
    cases q2 with
    | false =>
      have HN : Hid (tellB j r = false) := HQ.out
      go_wp2
      go_ret
      refine ⟨ao, k, c, by rw [HN.out]; rfl, ?_, ?_, Save.of_below hb1⟩
      · unfold moreJ; rw [HN.out]; exact J1
      · unfold moreJ; rw [HN.out]; exact HO.out.all hb1
    | true =>
      have HN : Hid (tellB j r = true) := HQ.out
      have c1 := J1.c1
      have c2 := J1.c2
      have cf := J1.fr
      have J3 := (J1.s1 (.int .i64 x)).s2 (.int .i64 y)
      have S3 : Save g w ((w1.setCell ⟨g, 1, none⟩ (.int .i64 x)).setCell ⟨g, 2, none⟩ (.int .i64 y)) := ((Save.of_below hb1).setCell (p := ⟨g, 1, none⟩) rfl _).setCell (p := ⟨g, 2, none⟩) rfl _
      have O3 : ownsR ((w1.setCell ⟨g, 1, none⟩ (.int .i64 x)).setCell ⟨g, 2, none⟩ (.int .i64 y)) B 84 (.slice ao k c) j.l := by
        have o1 := HO.out.all hb1
        have hne := not_row6 J1 o1
        have kk : ∀ {V : World} {j' : Nat} {u : Value}, ownsR V B 84 (.slice ao k c) j.l → ownsR (V.setCell ⟨g, j', none⟩ u) B 84 (.slice ao k c) j.l := fun hV => World.ownsRow.kept hV (grown_set _ _ _ _) (.inr (fun h => hne h.symm))
        exact kk (kk o1)
      go_wp2
      obtain ⟨w4, hw4⟩ : ∃ w4, (w1.setCell ⟨g, 1, none⟩ (.int .i64 x)).setCell ⟨g, 2, none⟩ (.int .i64 y) = w4 := ⟨_, rfl⟩
      rw [hw4] at J3 S3 O3 ⊢
      clear hw4
      go_ret
      refine ⟨ao, k, c, by rw [HN.out]; rfl, ?_, ?_, S3⟩
      · unfold moreJ; rw [HN.out, if_pos rfl, HT.out.2]; exact J3
      · unfold moreJ; rw [HN.out, if_pos rfl, HT.out.2]; exact O3

set_option maxRecDepth 10000 in
set_option maxHeartbeats 4000000 in
theorem more_not (n : Int) (j : Jn) (ao : Option Addr) (k c : Nat) (r : ByteArray) (g B : Nat) (w : World) (hj : B6 w g (.int .i64 n) (.int .i64 j.t) (.int .i64 j.v) (.int .i64 j.s) (.int .i64 j.st) (.slice ao k c)) (ho : ownsR w B 84 (.slice ao k c) j.l) (hr : r.size ≤ 20000) (h : twoB 72 r = false) (h2 : rdB r = false) :
    Calls Tryz.prog 28 #[.pointer (some ⟨g, 0, none⟩), .string r] w (MoreP n j r g B w) := by
  have HN : Hid (tellB j r = false) := tell_not h h2
  have HO : Hid (ownsR w B 84 (.slice ao k c) j.l) := ho
  have CT : Hid (∀ w, Calls Tryz.prog 26 #[.string r, .string ⟨#[72]⟩] w fun e w' => e = .returned (.tuple #[.int .i64 0, .int .i64 0, .bool false]) ∧ Below w.heap.size w w') := fun w => by
    have := l07Two_any 72 r w hr
    rw [h] at this
    exact this
  have CR : Hid (∀ W, Calls Tryz.prog 61 #[.string r] W fun e w' => e = .returned (.tuple #[.int .i64 0, .agg #[.int .i64 0, .int .i64 0, .string ByteArray.empty], .bool false]) ∧ Below W.heap.size W w') := fun W => by
    have := specReadEntry_any r W (by omega)
    rw [rdV_eq, h2] at this
    exact this
  clear h h2 ho
  go_enter Tryz.func28, Tryz.ntmps28
  go_wp2_with fail
  refine Calls.mono (CT.out _) ?_
  rintro e w1 ⟨rfl, hb1⟩
  go_wp2_with fail
  refine Calls.mono (CR.out _) ?_
  rintro e w2 ⟨rfl, hb2⟩
  have B2 := Below.on hb1 hb2
  go_wp2
  go_ret
  have B3 := ba B2 (.cells #[.int .i64 0, .int .i64 0, .string ByteArray.empty] 84)
  refine ⟨ao, k, c, by rw [HN.out]; rfl, ?_, ?_, Save.of_below B3⟩
  · unfold moreJ; rw [HN.out]; exact hj.up B3
  · unfold moreJ; rw [HN.out]; exact HO.out.all B3
end Go.Proofs.YtijmaplejpnggaaGreatDoor

namespace Go.Proofs.YtijmaplejpnggaaGreatDoor
open Go Go.RowKit

set_option maxRecDepth 10000 in
set_option maxHeartbeats 4000000 in
theorem more_entry (n : Int) (j : Jn) (ao : Option Addr) (k c : Nat) (r : ByteArray) (g B : Nat) (w : World) (hj : B6 w g (.int .i64 n) (.int .i64 j.t) (.int .i64 j.v) (.int .i64 j.s) (.int .i64 j.st) (.slice ao k c)) (ho : ownsR w B 84 (.slice ao k c) j.l) (hB : B ≤ w.heap.size) (hl : j.l.length ≤ 60) (hz : SizedE j.l) (hr : r.size ≤ 20000) (h : twoB 72 r = false) (h2 : rdB r = true) :
    Calls Tryz.prog 28 #[.pointer (some ⟨g, 0, none⟩), .string r] w (MoreP n j r g B w) := by
  have HT : Hid (tellB j r = putB j.s j.st j.l (rdI r) (rdEn r) ∧ tellJ j r = ⟨j.t, j.v, j.s, j.st, putsL j.s j.l (rdI r) (rdEn r)⟩) := tell_entry h2
  have HO : Hid (ownsR w B 84 (.slice ao k c) j.l) := ho
  have HZ : Hid (SizedE j.l) := hz
  have HD : Hid ((rdEn r).data.size ≤ 1048576) := by
    obtain ⟨_, _, _, _, _, h6, _⟩ := okX_out (rdB_ok h2).1
    show _ ≤ _; omega
  have HC : Hid (k = j.l.length ∧ k ≤ c) := by
    obtain ⟨a', c', e, hc⟩ := ho.cap
    simp only [Value.slice.injEq] at e
    obtain ⟨_, rfl, rfl⟩ := e
    exact ⟨rfl, hc⟩
  have CT : Hid (∀ w, Calls Tryz.prog 26 #[.string r, .string ⟨#[72]⟩] w fun e w' => e = .returned (.tuple #[.int .i64 0, .int .i64 0, .bool false]) ∧ Below w.heap.size w w') := fun w => by
    have := l07Two_any 72 r w hr
    rw [h] at this
    exact this
  have CR : Hid (∀ W, Calls Tryz.prog 61 #[.string r] W fun e w' => e = .returned (.tuple #[.int .i64 (rdI r), .agg #[.int .i64 (rdEn r).term, .int .i64 (rdEn r).kind, .string (rdEn r).data], .bool true]) ∧ Below W.heap.size W w') := fun W => by
    have := specReadEntry_any r W (by omega)
    rw [rdV_eq, h2] at this
    exact this
  have CP : Hid (∀ W, Below w.heap.size w W → Calls Tryz.prog 62 #[.agg #[.int .i64 j.s, .int .i64 j.st, .slice ao k c], .int .i64 (rdI r), .agg #[.int .i64 (rdEn r).term, .int .i64 (rdEn r).kind, .string (rdEn r).data]] W fun e w' => ∃ v, e = .returned (.tuple #[.agg #[.int .i64 (putS j.s j.st j.l (rdI r) (rdEn r)), .int .i64 (putT j.s j.st j.l (rdI r) (rdEn r)), v], .bool (putB j.s j.st j.l (rdI r) (rdEn r))]) ∧ ownsR w' W.heap.size 84 v (putE j.s j.st j.l (rdI r) (rdEn r)) ∧ Below W.heap.size W w') := fun W hb =>
    specLogPut_try j.s j.st (rdI r) (rdEn r).term (rdEn r).kind (rdEn r).data ao k c j.l W (HO.out.reads.below hb) HC.out.2 (by have := HC.out.1; omega) HZ.out HD.out
  obtain ⟨ps, HPS⟩ : ∃ q, Hid (putS j.s j.st j.l (rdI r) (rdEn r) = q) := ⟨_, rfl⟩
  obtain ⟨pt, HPT⟩ : ∃ q, Hid (putT j.s j.st j.l (rdI r) (rdEn r) = q) := ⟨_, rfl⟩
  obtain ⟨q, HQ⟩ : ∃ q, Hid (putB j.s j.st j.l (rdI r) (rdEn r) = q) := ⟨_, rfl⟩
  rw [HPS.out, HPT.out, HQ.out] at CP
  rw [HQ.out] at HT
  clear h h2 ho hz
  go_enter Tryz.func28, Tryz.ntmps28
  go_wp2_with fail
  refine Calls.mono (CT.out _) ?_
  rintro e w1 ⟨rfl, hb1⟩
  go_wp2_with fail
  refine Calls.mono (CR.out _) ?_
  rintro e w2 ⟨rfl, hb2⟩
  have B2 := ba (Below.on hb1 hb2) (.cells #[.int .i64 (rdEn r).term, .int .i64 (rdEn r).kind, .string (rdEn r).data] 84)
  have J2 := hj.up B2
  have e0 : (w2.alloc (.cells #[.int .i64 (rdEn r).term, .int .i64 (rdEn r).kind, .string (rdEn r).data] 84)).cell? ⟨w2.heap.size, 0, none⟩ = some (.int .i64 (rdEn r).term) := by simp [go_sem]
  have e1 : (w2.alloc (.cells #[.int .i64 (rdEn r).term, .int .i64 (rdEn r).kind, .string (rdEn r).data] 84)).cell? ⟨w2.heap.size, 1, none⟩ = some (.int .i64 (rdEn r).kind) := by simp [go_sem]
  have e2 : (w2.alloc (.cells #[.int .i64 (rdEn r).term, .int .i64 (rdEn r).kind, .string (rdEn r).data] 84)).cell? ⟨w2.heap.size, 2, none⟩ = some (.string (rdEn r).data) := by simp [go_sem]
  obtain ⟨WX, hWX⟩ : ∃ WX, w2.alloc (.cells #[.int .i64 (rdEn r).term, .int .i64 (rdEn r).kind, .string (rdEn r).data] 84) = WX := ⟨_, rfl⟩
  have hzx : WX.heap.size = w2.heap.size + 1 := by rw [← hWX]; simp
  rw [hWX] at B2 J2 e0 e1 e2
  have c3 := J2.c3
  have c4 := J2.c4
  have c5 := J2.c5
  have hgX := J2.lt
  go_wp2
  clear hWX hb1 hb2
  have K3 := Below.cellOf (B := WX.heap.size) (W := WX) (p := ⟨g, 3, none⟩) (v := .int .i64 j.s) hgX c3
  have K4 := Below.cellOf (B := WX.heap.size) (W := WX) (p := ⟨g, 4, none⟩) (v := .int .i64 j.st) hgX c4
  have K5 := Below.cellOf (B := WX.heap.size) (W := WX) (p := ⟨g, 5, none⟩) (v := .slice ao k c) hgX c5
  have E0 := Below.cellOf (B := WX.heap.size) (W := WX) (p := ⟨w2.heap.size, 0, none⟩) (v := .int .i64 (rdEn r).term) (by show w2.heap.size < _; omega) e0
  have E1 := Below.cellOf (B := WX.heap.size) (W := WX) (p := ⟨w2.heap.size, 1, none⟩) (v := .int .i64 (rdEn r).kind) (by show w2.heap.size < _; omega) e1
  have E2 := Below.cellOf (B := WX.heap.size) (W := WX) (p := ⟨w2.heap.size, 2, none⟩) (v := .string (rdEn r).data) (by show w2.heap.size < _; omega) e2
  obtain ⟨pe, HPE⟩ : ∃ q, Hid (putE j.s j.st j.l (rdI r) (rdEn r) = q) := ⟨_, rfl⟩
  rw [HPE.out] at CP
  have CP2 : Hid (∀ W, Below WX.heap.size WX W → Calls Tryz.prog 62 #[.agg #[.int .i64 j.s, .int .i64 j.st, .slice ao k c], .int .i64 (rdI r), .agg #[.int .i64 (rdEn r).term, .int .i64 (rdEn r).kind, .string (rdEn r).data]] W fun e w' => ∃ v, e = .returned (.tuple #[.agg #[.int .i64 ps, .int .i64 pt, v], .bool q]) ∧ ownsR w' W.heap.size 84 v pe ∧ Below W.heap.size W w') := fun W hb => CP.out W (Below.on B2 hb)
  clear hzx
  refine wp_puts (α := Nat × Option Addr × Nat × Nat) (fun x => [(45, .pointer (some ⟨g, 0, none⟩)), (46, .pointer (some ⟨g, 0, none⟩)), (47, .pointer (some ⟨g, 3, none⟩)), (48, .agg #[.int .i64 j.s, .int .i64 j.st, .slice ao k c]), (49, .int .i64 (rdI r)), (50, .agg #[.int .i64 (rdEn r).term, .int .i64 (rdEn r).kind, .string (rdEn r).data]), (51, .tuple #[.agg #[.int .i64 ps, .int .i64 pt, .slice x.2.1 x.2.2.1 x.2.2.2], .bool q]), (44, .tuple #[.agg #[.int .i64 ps, .int .i64 pt, .slice x.2.1 x.2.2.1 x.2.2.2], .bool q]), (52, .agg #[.int .i64 ps, .int .i64 pt, .slice x.2.1 x.2.2.1 x.2.2.2]), (53, .bool q), (11, .pointer (some ⟨x.1, 0, none⟩)), (12, .bool q)]) (fun x w' => WX.heap.size ≤ x.1 ∧ w'.heap[x.1]? = some (.cells #[.int .i64 ps, .int .i64 pt, .slice x.2.1 x.2.2.1 x.2.2.2] 24) ∧ ownsR w' WX.heap.size 84 (.slice x.2.1 x.2.2.1 x.2.2.2) pe ∧ Below WX.heap.size WX w') ?_ ?_
  · go_region_held3 (fun w' => Below WX.heap.size WX w') ((first | assumption | exact (Below.refl _ _).drew | exact hS5 | exact Below.alloc hS5 hS5.size _ | exact Below.alloc (by assumption) (Below.size (by assumption)) _ | exact ((Below.setCell hS5 (Nat.le_refl _) _).setCell (Nat.le_refl _) _).setCell (Nat.le_refl _) _)) ((go_at_call 62; refine (CP2.out _ (by assumption)).mono ?_; rintro e w3 ⟨v5, rfl, ho5, hb5⟩; obtain ⟨a5, k5, c5, rfl⟩ := ho5.slice3; have hS5 := keep_on (B := WX.heap.size) (W := WX) hb5 (by assumption) (Nat.le_refl _); (try (have hE0 := heap_new hb5; obtain ⟨p0, p1, p2, pf⟩ := cur_cells hE0)); (try (have hE0 := heap_newd hb5; obtain ⟨p0, p1, p2, pf⟩ := cur_cells hE0))))
    all_goals first | refine ⟨rfl, (w3.heap.size, a5, k5, c5), ?_, hS5.size, heap_last _ _, (ho5.mono (Nat.le_refl _)).alloc _, Below.alloc hS5 hS5.size _⟩ | refine ⟨rfl, (WX.heap.size, a5, k5, c5), ?_, Nat.le_refl _, cur_set2 (cur_set1 (cur_set0 hE0 _) _) _, ownsR.mono (ownsR.setBelow (ownsR.setBelow (ownsR.setBelow ho5 (by show WX.heap.size < (WX.alloc _).heap.size; simp) _) (by show WX.heap.size < (WX.alloc _).heap.size; simp) _) (by show WX.heap.size < (WX.alloc _).heap.size; simp) _) (by show WX.heap.size ≤ (WX.alloc _).heap.size; simp), ((Below.setCell hS5 (p := ⟨WX.heap.size, 0, none⟩) (Nat.le_refl _) _).setCell (p := ⟨WX.heap.size, 1, none⟩) (Nat.le_refl _) _).setCell (p := ⟨WX.heap.size, 2, none⟩) (Nat.le_refl _) _⟩
    all_goals kernel_rfl
  rintro ⟨E, av, kv, cv⟩ w3 ⟨hE, E3, ho3, hb3⟩
  simp only at hE E3 ho3
  simp only [putAll]
  have B3 := Below.on B2 hb3
  have J3 := J2.up hb3
  have HO3 : Hid (ownsR w3 B 84 (.slice av kv cv) pe) := ho3.mono (Nat.le_trans hB B2.size)
  have HO4 : Hid (ownsR w3 B 84 (.slice ao k c) j.l) := HO.out.all B3
  clear hb3 K3 K4 K5 E0 E1 E2 e0 e1 e2 c3 c4 c5 CP CP2 CT CR ho3
  obtain ⟨f0, f1, f2, ff⟩ := cur_cells E3
  cases q with
  | false =>
    have HN : Hid (tellB j r = false) := HT.out.1
    go_wp2
    go_ret
    refine ⟨ao, k, c, by rw [HN.out]; rfl, ?_, ?_, Save.of_below B3⟩
    · unfold moreJ; rw [HN.out]; exact J3
    · unfold moreJ; rw [HN.out]; exact HO4.out
  | true =>
    have HN : Hid (tellB j r = true) := HT.out.1
    have y3 := J3.c3
    have y4 := J3.c4
    have y5 := J3.c5
    have yf := J3.fr
    have J4 := ((J3.s3 (.int .i64 ps)).s4 (.int .i64 pt)).s5 (.slice av kv cv)
    have S4 : Save g w (((w3.setCell ⟨g, 3, none⟩ (.int .i64 ps)).setCell ⟨g, 4, none⟩ (.int .i64 pt)).setCell ⟨g, 5, none⟩ (.slice av kv cv)) := (((Save.of_below B3).setCell (p := ⟨g, 3, none⟩) rfl _).setCell (p := ⟨g, 4, none⟩) rfl _).setCell (p := ⟨g, 5, none⟩) rfl _
    have O4 : ownsR (((w3.setCell ⟨g, 3, none⟩ (.int .i64 ps)).setCell ⟨g, 4, none⟩ (.int .i64 pt)).setCell ⟨g, 5, none⟩ (.slice av kv cv)) B 84 (.slice av kv cv) pe := by
      have hne := not_row6 J3 HO3.out
      have kk : ∀ {V : World} {j' : Nat} {u : Value}, ownsR V B 84 (.slice av kv cv) pe → ownsR (V.setCell ⟨g, j', none⟩ u) B 84 (.slice av kv cv) pe := fun hV => World.ownsRow.kept hV (grown_set _ _ _ _) (.inr (fun h => hne h.symm))
      exact kk (kk (kk HO3.out))
    go_wp2
    obtain ⟨w4, hw4⟩ : ∃ w4, ((w3.setCell ⟨g, 3, none⟩ (.int .i64 ps)).setCell ⟨g, 4, none⟩ (.int .i64 pt)).setCell ⟨g, 5, none⟩ (.slice av kv cv) = w4 := ⟨_, rfl⟩
    rw [hw4] at J4 S4 O4 ⊢
    clear hw4
    go_ret
    have e1 : pe = putsL j.s j.l (rdI r) (rdEn r) := by rw [← HPE.out]; unfold putE; rw [HQ.out]; rfl
    have e2 : ps = j.s := by rw [← HPS.out]; unfold putS; rw [HQ.out]; rfl
    have e3 : pt = j.st := by rw [← HPT.out]; unfold putT; rw [HQ.out]; rfl
    refine ⟨av, kv, cv, by rw [HN.out]; rfl, ?_, ?_, S4⟩
    · unfold moreJ; rw [HN.out, if_pos rfl, HT.out.2, ← e2, ← e3] ; exact J4
    · unfold moreJ; rw [HN.out, if_pos rfl, HT.out.2, ← e1]; exact O4

theorem l07More_any (n : Int) (j : Jn) (ao : Option Addr) (k c : Nat) (r : ByteArray) (g B : Nat) (w : World) (hj : B6 w g (.int .i64 n) (.int .i64 j.t) (.int .i64 j.v) (.int .i64 j.s) (.int .i64 j.st) (.slice ao k c)) (ho : ownsR w B 84 (.slice ao k c) j.l) (hB : B ≤ w.heap.size) (hl : j.l.length ≤ 60) (hz : SizedE j.l) (hr : r.size ≤ 20000) :
    Calls Tryz.prog 28 #[.pointer (some ⟨g, 0, none⟩), .string r] w (MoreP n j r g B w) := by
  cases h : twoB 72 r with
  | true => exact more_head n j ao k c r g B w hj ho hr h
  | false =>
    cases h2 : rdB r with
    | false => exact more_not n j ao k c r g B w hj ho hr h h2
    | true => exact more_entry n j ao k c r g B w hj ho hB hl hz hr h h2
end Go.Proofs.YtijmaplejpnggaaGreatDoor

namespace Go.Proofs.YtijmaplejpnggaaGreatDoor
open Go Go.RowKit

/-- What is read of a file: whether it is a journal's, the journal, and the place behind it. -/
def rjB (n : Int) (s : ByteArray) : Bool := numB n && decide ((rdJ s).2 ≠ 0)
def rjN (n : Int) (s : ByteArray) : Int := if rjB n s then n else 0
def rjJ (n : Int) (s : ByteArray) : Jn := if rjB n s then (rdJ s).1 else ⟨0, 0, 0, 0, []⟩
def rjP (n : Int) (s : ByteArray) : Nat := if rjB n s then (rdJ s).2 else 0
/-- What is answered of it. -/
def RjP (n : Int) (s : ByteArray) (w : World) (e : Ending) (w' : World) : Prop :=
  ∃ a k c, e = .returned (.tuple #[jV (rjN n s) (rjJ n s).t (rjJ n s).v (rjJ n s).s (rjJ n s).st (.slice a k c), .int .i64 (rjP n s : Int), .bool (rjB n s)]) ∧ ownsR w' w.heap.size 84 (.slice a k c) (rjJ n s).l ∧ Below w.heap.size w w'
theorem RjP_no {n : Int} {s : ByteArray} {w w' : World} (h : rjB n s = false) (hb : Below w.heap.size w w') : RjP n s w (.returned (.tuple #[jV 0 0 0 0 0 (.slice none 0 0), .int .i64 0, .bool false])) w' := by
  unfold RjP rjN rjJ rjP
  rw [h]
  exact ⟨none, 0, 0, rfl, ownsR_nil _ _ _, hb⟩
theorem RjP_yes {n : Int} {s : ByteArray} {w w' : World} {a : Option Addr} {k c : Nat} (h : rjB n s = true) (hb : Below w.heap.size w w') (ho : ownsR w' w.heap.size 84 (.slice a k c) (rdJ s).1.l) : RjP n s w (.returned (.tuple #[jV n (rdJ s).1.t (rdJ s).1.v (rdJ s).1.s (rdJ s).1.st (.slice a k c), .int .i64 ((rdJ s).2 : Int), .bool true])) w' := by
  unfold RjP rjN rjJ rjP
  rw [h]
  exact ⟨a, k, c, rfl, ho, hb⟩

set_option maxRecDepth 10000 in
set_option maxHeartbeats 2000000 in
theorem readJournal_no (n : Int) (s : ByteArray) (w : World) (hn : numB n = false) (hp : PowIs w) :
    Calls Tryz.prog 30 #[.int .i64 n, .string s] w fun e w' => e = .returned (.tuple #[jV 0 0 0 0 0 (.slice none 0 0), .int .i64 0, faultV 1]) ∧ Below w.heap.size w w' := by
  have HN : Hid (numB n = false) := hn
  clear hn
  go_enter Tryz.func30, Tryz.ntmps30
  go_wp2_with fail
  refine Calls.mono (journalName_no HN.out _ (hp.below (ba (Below.refl _ _) _))) ?_
  rintro e w3 ⟨rfl, hb1⟩
  have Z3 := (B6.new w (.int .i64 0) (.int .i64 0) (.int .i64 0) (.int .i64 0) (.int .i64 0) (.slice none 0 0)).up hb1
  have B3 := below_new hb1
  clear hb1
  have r0 := Z3.c0
  have r1 := Z3.c1
  have r2 := Z3.c2
  have r3 := Z3.c3
  have r4 := Z3.c4
  have r5 := Z3.c5
  have rf := Z3.fr
  have Z4 : B6 (((((((w3).setCell ⟨w.heap.size, 0, none⟩ (.int .i64 0)).setCell ⟨w.heap.size, 1, none⟩ (.int .i64 0)).setCell ⟨w.heap.size, 2, none⟩ (.int .i64 0)).setCell ⟨w.heap.size, 3, none⟩ (.int .i64 0)).setCell ⟨w.heap.size, 4, none⟩ (.int .i64 0)).setCell ⟨w.heap.size, 5, none⟩ (.slice none 0 0)) w.heap.size (.int .i64 0) (.int .i64 0) (.int .i64 0) (.int .i64 0) (.int .i64 0) (.slice none 0 0) := Z3.set (.int .i64 0) (.int .i64 0) (.int .i64 0) (.int .i64 0) (.int .i64 0) (.slice none 0 0)
  have B4 : Below w.heap.size w (((((((w3).setCell ⟨w.heap.size, 0, none⟩ (.int .i64 0)).setCell ⟨w.heap.size, 1, none⟩ (.int .i64 0)).setCell ⟨w.heap.size, 2, none⟩ (.int .i64 0)).setCell ⟨w.heap.size, 3, none⟩ (.int .i64 0)).setCell ⟨w.heap.size, 4, none⟩ (.int .i64 0)).setCell ⟨w.heap.size, 5, none⟩ (.slice none 0 0)) := below_set6 B3 (Nat.le_refl _) _ _ _ _ _ _
  go_wp2
  obtain ⟨w4, hw4⟩ : ∃ w4, ((((((w3).setCell ⟨w.heap.size, 0, none⟩ (.int .i64 0)).setCell ⟨w.heap.size, 1, none⟩ (.int .i64 0)).setCell ⟨w.heap.size, 2, none⟩ (.int .i64 0)).setCell ⟨w.heap.size, 3, none⟩ (.int .i64 0)).setCell ⟨w.heap.size, 4, none⟩ (.int .i64 0)).setCell ⟨w.heap.size, 5, none⟩ (.slice none 0 0) = w4 := ⟨_, rfl⟩
  rw [hw4] at Z4 B4 ⊢
  clear hw4
  exact bodyPost_ret (ret_j3 rfl rfl rfl rfl Z4) rfl ⟨rfl, B4⟩

/-- The program's reading, all its answers in one form. -/
theorem readJournal1 (n : Int) (s : ByteArray) (w : World) (hs : s.size ≤ 1048576) (hp : PowIs w) (ht : TableIs w) :
    Calls Tryz.prog 30 #[.int .i64 n, .string s] w fun e w' => ∃ (n1 t1 v1 s1 u1 : Int) (a1 : Option Addr) (k1 c1 : Nat), e = .returned (.tuple #[jV n1 t1 v1 s1 u1 (.slice a1 k1 c1), .int .i64 (rjP n s : Int), if rjB n s then (if rjP n s < s.size then faultV 3 else .nilIface) else if numB n then faultV 2 else faultV 1]) ∧
      (n1 = rjN n s ∧ t1 = (rjJ n s).t ∧ v1 = (rjJ n s).v ∧ s1 = (rjJ n s).s ∧ u1 = (rjJ n s).st) ∧ ownsR w' w.heap.size 84 (.slice a1 k1 c1) (rjJ n s).l ∧ Below w.heap.size w w' := by
  cases hn : numB n with
  | false =>
    refine (readJournal_no n s w hn hp).mono ?_
    rintro e w' ⟨rfl, hb⟩
    have hr : rjB n s = false := by unfold rjB; rw [hn]; rfl
    unfold rjN rjJ rjP
    rw [hr]
    exact ⟨0, 0, 0, 0, 0, none, 0, 0, rfl, ⟨rfl, rfl, rfl, rfl, rfl⟩, ownsR_nil _ _ _, hb⟩
  | true =>
    refine (readJournal_in n s w hs hn hp ht).mono ?_
    rintro e w' ⟨hb, h0, h1⟩
    by_cases hz : (rdJ s).2 = 0
    · have hr : rjB n s = false := by unfold rjB; rw [hn, decide_eq_false (by simpa using hz)]; rfl
      rw [h0 hz]
      unfold rjN rjJ rjP
      rw [hr]
      exact ⟨0, 0, 0, 0, 0, none, 0, 0, rfl, ⟨rfl, rfl, rfl, rfl, rfl⟩, ownsR_nil _ _ _, hb⟩
    · have hr : rjB n s = true := by unfold rjB; rw [hn, decide_eq_true hz]; rfl
      obtain ⟨a, k, c, rfl, ho⟩ := h1 hz
      unfold rjN rjJ rjP
      rw [hr]
      exact ⟨n, _, _, _, _, a, k, c, rfl, ⟨rfl, rfl, rfl, rfl, rfl⟩, ho, hb⟩

set_option maxRecDepth 10000 in
set_option maxHeartbeats 4000000 in
theorem rj_bad (n : Int) (s : ByteArray) (w : World) (c : Int) (P : Int) (L : List En) (hc : c = 1 ∨ c = 2) (he : ErrIs w)
    (HC : Hid (∀ W, Below w.heap.size w W → Calls Tryz.prog 30 #[.int .i64 n, .string s] W fun e w' => ∃ (n1 t1 v1 s1 u1 : Int) (a1 : Option Addr) (k1 c1 : Nat), e = .returned (.tuple #[jV n1 t1 v1 s1 u1 (.slice a1 k1 c1), .int .i64 P, faultV c]) ∧ Hid (ownsR w' w.heap.size 84 (.slice a1 k1 c1) L) ∧ Below W.heap.size W w')) :
    Calls Tryz.prog 7 #[.int .i64 n, .string s] w fun e w' => e = .returned (.tuple #[jV 0 0 0 0 0 (.slice none 0 0), .int .i64 0, .bool false]) ∧ Below w.heap.size w w' := by
  have HE : Hid (ErrIs w) := he
  clear he
  rcases hc with rfl | rfl
  · skip
    go_enter Tryz.func7, Tryz.ntmps7
    go_wp2_with fail
    refine Calls.mono (HC.out _ (ba (Below.refl _ _) _)) ?_
    rintro e w1 ⟨n1, t1, v1, s1, u1, a1, k1, c1, rfl, HO1, hb1⟩
    have Z1 := (B6.new w (.int .i64 0) (.int .i64 0) (.int .i64 0) (.int .i64 0) (.int .i64 0) (.slice none 0 0)).up hb1
    have B1 := below_new hb1
    have Z2 := Z1.alloc (.cells #[.int .i64 n1, .int .i64 t1, .int .i64 v1, .int .i64 s1, .int .i64 u1, .slice a1 k1 c1] 26)
    have N2 := B6.new w1 (.int .i64 n1) (.int .i64 t1) (.int .i64 v1) (.int .i64 s1) (.int .i64 u1) (.slice a1 k1 c1)
    have B2 := ba B1 (.cells #[.int .i64 n1, .int .i64 t1, .int .i64 v1, .int .i64 s1, .int .i64 u1, .slice a1 k1 c1] 26)
    have HO2 : Hid (ownsR (w1.alloc (.cells #[.int .i64 n1, .int .i64 t1, .int .i64 v1, .int .i64 s1, .int .i64 u1, .slice a1 k1 c1] 26)) w.heap.size 84 (.slice a1 k1 c1) L) := HO1.out.alloc _
    obtain ⟨WX, hWX⟩ : ∃ WX, w1.alloc (.cells #[.int .i64 n1, .int .i64 t1, .int .i64 v1, .int .i64 s1, .int .i64 u1, .slice a1 k1 c1] 26) = WX := ⟨_, rfl⟩
    rw [hWX] at Z2 N2 B2 HO2
    go_wp2_with fail
    refine Calls.mono (codeOf_fault _ _ (HE.out.below B2)) ?_
    rintro e w3 ⟨rfl, hb3⟩
    have Z3 := Z2.up hb3
    have N3 := N2.up hb3
    have B3 := Below.on B2 hb3
    have HO3 : Hid (ownsR w3 w.heap.size 84 (.slice a1 k1 c1) L) := HO2.out.all hb3
    clear hb3 hb1 Z1 B1 HO1 Z2 N2 B2 HO2 hWX
    have r0 := Z3.c0
    have r1 := Z3.c1
    have r2 := Z3.c2
    have r3 := Z3.c3
    have r4 := Z3.c4
    have r5 := Z3.c5
    have rf := Z3.fr
    have m0 := N3.c0
    have m1 := N3.c1
    have m2 := N3.c2
    have m3 := N3.c3
    have m4 := N3.c4
    have m5 := N3.c5
    have Z4 : B6 (((((((w3).setCell ⟨w.heap.size, 0, none⟩ (.int .i64 0)).setCell ⟨w.heap.size, 1, none⟩ (.int .i64 0)).setCell ⟨w.heap.size, 2, none⟩ (.int .i64 0)).setCell ⟨w.heap.size, 3, none⟩ (.int .i64 0)).setCell ⟨w.heap.size, 4, none⟩ (.int .i64 0)).setCell ⟨w.heap.size, 5, none⟩ (.slice none 0 0)) w.heap.size (.int .i64 0) (.int .i64 0) (.int .i64 0) (.int .i64 0) (.int .i64 0) (.slice none 0 0) := Z3.set (.int .i64 0) (.int .i64 0) (.int .i64 0) (.int .i64 0) (.int .i64 0) (.slice none 0 0)
    have B4 : Below w.heap.size w (((((((w3).setCell ⟨w.heap.size, 0, none⟩ (.int .i64 0)).setCell ⟨w.heap.size, 1, none⟩ (.int .i64 0)).setCell ⟨w.heap.size, 2, none⟩ (.int .i64 0)).setCell ⟨w.heap.size, 3, none⟩ (.int .i64 0)).setCell ⟨w.heap.size, 4, none⟩ (.int .i64 0)).setCell ⟨w.heap.size, 5, none⟩ (.slice none 0 0)) := below_set6 B3 (Nat.le_refl _) _ _ _ _ _ _
    have HO4 : Hid (ownsR (((((((w3).setCell ⟨w.heap.size, 0, none⟩ (.int .i64 0)).setCell ⟨w.heap.size, 1, none⟩ (.int .i64 0)).setCell ⟨w.heap.size, 2, none⟩ (.int .i64 0)).setCell ⟨w.heap.size, 3, none⟩ (.int .i64 0)).setCell ⟨w.heap.size, 4, none⟩ (.int .i64 0)).setCell ⟨w.heap.size, 5, none⟩ (.slice none 0 0)) w.heap.size 84 (.slice a1 k1 c1) L) := ownsR_set6 HO3.out (not_row6 Z3 HO3.out) _ _ _ _ _ _
    go_wp2
    obtain ⟨w4, hw4⟩ : ∃ w4, ((((((w3).setCell ⟨w.heap.size, 0, none⟩ (.int .i64 0)).setCell ⟨w.heap.size, 1, none⟩ (.int .i64 0)).setCell ⟨w.heap.size, 2, none⟩ (.int .i64 0)).setCell ⟨w.heap.size, 3, none⟩ (.int .i64 0)).setCell ⟨w.heap.size, 4, none⟩ (.int .i64 0)).setCell ⟨w.heap.size, 5, none⟩ (.slice none 0 0) = w4 := ⟨_, rfl⟩
    rw [hw4] at Z4 B4 HO4 ⊢
    clear hw4
    exact bodyPost_ret (ret_j3 rfl rfl rfl rfl Z4) rfl ⟨rfl, B4⟩
  · skip
    go_enter Tryz.func7, Tryz.ntmps7
    go_wp2_with fail
    refine Calls.mono (HC.out _ (ba (Below.refl _ _) _)) ?_
    rintro e w1 ⟨n1, t1, v1, s1, u1, a1, k1, c1, rfl, HO1, hb1⟩
    have Z1 := (B6.new w (.int .i64 0) (.int .i64 0) (.int .i64 0) (.int .i64 0) (.int .i64 0) (.slice none 0 0)).up hb1
    have B1 := below_new hb1
    have Z2 := Z1.alloc (.cells #[.int .i64 n1, .int .i64 t1, .int .i64 v1, .int .i64 s1, .int .i64 u1, .slice a1 k1 c1] 26)
    have N2 := B6.new w1 (.int .i64 n1) (.int .i64 t1) (.int .i64 v1) (.int .i64 s1) (.int .i64 u1) (.slice a1 k1 c1)
    have B2 := ba B1 (.cells #[.int .i64 n1, .int .i64 t1, .int .i64 v1, .int .i64 s1, .int .i64 u1, .slice a1 k1 c1] 26)
    have HO2 : Hid (ownsR (w1.alloc (.cells #[.int .i64 n1, .int .i64 t1, .int .i64 v1, .int .i64 s1, .int .i64 u1, .slice a1 k1 c1] 26)) w.heap.size 84 (.slice a1 k1 c1) L) := HO1.out.alloc _
    obtain ⟨WX, hWX⟩ : ∃ WX, w1.alloc (.cells #[.int .i64 n1, .int .i64 t1, .int .i64 v1, .int .i64 s1, .int .i64 u1, .slice a1 k1 c1] 26) = WX := ⟨_, rfl⟩
    rw [hWX] at Z2 N2 B2 HO2
    go_wp2_with fail
    refine Calls.mono (codeOf_fault _ _ (HE.out.below B2)) ?_
    rintro e w3 ⟨rfl, hb3⟩
    have Z3 := Z2.up hb3
    have N3 := N2.up hb3
    have B3 := Below.on B2 hb3
    have HO3 : Hid (ownsR w3 w.heap.size 84 (.slice a1 k1 c1) L) := HO2.out.all hb3
    clear hb3 hb1 Z1 B1 HO1 Z2 N2 B2 HO2 hWX
    have r0 := Z3.c0
    have r1 := Z3.c1
    have r2 := Z3.c2
    have r3 := Z3.c3
    have r4 := Z3.c4
    have r5 := Z3.c5
    have rf := Z3.fr
    have m0 := N3.c0
    have m1 := N3.c1
    have m2 := N3.c2
    have m3 := N3.c3
    have m4 := N3.c4
    have m5 := N3.c5
    have Z4 : B6 (((((((w3).setCell ⟨w.heap.size, 0, none⟩ (.int .i64 0)).setCell ⟨w.heap.size, 1, none⟩ (.int .i64 0)).setCell ⟨w.heap.size, 2, none⟩ (.int .i64 0)).setCell ⟨w.heap.size, 3, none⟩ (.int .i64 0)).setCell ⟨w.heap.size, 4, none⟩ (.int .i64 0)).setCell ⟨w.heap.size, 5, none⟩ (.slice none 0 0)) w.heap.size (.int .i64 0) (.int .i64 0) (.int .i64 0) (.int .i64 0) (.int .i64 0) (.slice none 0 0) := Z3.set (.int .i64 0) (.int .i64 0) (.int .i64 0) (.int .i64 0) (.int .i64 0) (.slice none 0 0)
    have B4 : Below w.heap.size w (((((((w3).setCell ⟨w.heap.size, 0, none⟩ (.int .i64 0)).setCell ⟨w.heap.size, 1, none⟩ (.int .i64 0)).setCell ⟨w.heap.size, 2, none⟩ (.int .i64 0)).setCell ⟨w.heap.size, 3, none⟩ (.int .i64 0)).setCell ⟨w.heap.size, 4, none⟩ (.int .i64 0)).setCell ⟨w.heap.size, 5, none⟩ (.slice none 0 0)) := below_set6 B3 (Nat.le_refl _) _ _ _ _ _ _
    have HO4 : Hid (ownsR (((((((w3).setCell ⟨w.heap.size, 0, none⟩ (.int .i64 0)).setCell ⟨w.heap.size, 1, none⟩ (.int .i64 0)).setCell ⟨w.heap.size, 2, none⟩ (.int .i64 0)).setCell ⟨w.heap.size, 3, none⟩ (.int .i64 0)).setCell ⟨w.heap.size, 4, none⟩ (.int .i64 0)).setCell ⟨w.heap.size, 5, none⟩ (.slice none 0 0)) w.heap.size 84 (.slice a1 k1 c1) L) := ownsR_set6 HO3.out (not_row6 Z3 HO3.out) _ _ _ _ _ _
    go_wp2
    obtain ⟨w4, hw4⟩ : ∃ w4, ((((((w3).setCell ⟨w.heap.size, 0, none⟩ (.int .i64 0)).setCell ⟨w.heap.size, 1, none⟩ (.int .i64 0)).setCell ⟨w.heap.size, 2, none⟩ (.int .i64 0)).setCell ⟨w.heap.size, 3, none⟩ (.int .i64 0)).setCell ⟨w.heap.size, 4, none⟩ (.int .i64 0)).setCell ⟨w.heap.size, 5, none⟩ (.slice none 0 0) = w4 := ⟨_, rfl⟩
    rw [hw4] at Z4 B4 HO4 ⊢
    clear hw4
    exact bodyPost_ret (ret_j3 rfl rfl rfl rfl Z4) rfl ⟨rfl, B4⟩

set_option maxRecDepth 10000 in
set_option maxHeartbeats 4000000 in
theorem rj_left (n : Int) (s : ByteArray) (w : World) (P : Int) (L : List En) (he : ErrIs w) (R : Int → Int → Int → Int → Int → Prop)
    (HC : Hid (∀ W, Below w.heap.size w W → Calls Tryz.prog 30 #[.int .i64 n, .string s] W fun e w' => ∃ (n1 t1 v1 s1 u1 : Int) (a1 : Option Addr) (k1 c1 : Nat), e = .returned (.tuple #[jV n1 t1 v1 s1 u1 (.slice a1 k1 c1), .int .i64 P, faultV 3]) ∧ Hid (R n1 t1 v1 s1 u1 ∧ ownsR w' w.heap.size 84 (.slice a1 k1 c1) L) ∧ Below W.heap.size W w')) :
    Calls Tryz.prog 7 #[.int .i64 n, .string s] w fun e w' => ∃ (n1 t1 v1 s1 u1 : Int) (a1 : Option Addr) (k1 c1 : Nat), e = .returned (.tuple #[jV n1 t1 v1 s1 u1 (.slice a1 k1 c1), .int .i64 P, .bool true]) ∧ R n1 t1 v1 s1 u1 ∧ ownsR w' w.heap.size 84 (.slice a1 k1 c1) L ∧ Below w.heap.size w w' := by
  have HE : Hid (ErrIs w) := he
  clear he
  go_enter Tryz.func7, Tryz.ntmps7
  go_wp2_with fail
  refine Calls.mono (HC.out _ (ba (Below.refl _ _) _)) ?_
  rintro e w1 ⟨n1, t1, v1, s1, u1, a1, k1, c1, rfl, HRO, hb1⟩
  have HRR : Hid (R n1 t1 v1 s1 u1) := HRO.out.1
  have HO1 : Hid (ownsR w1 w.heap.size 84 (.slice a1 k1 c1) L) := HRO.out.2
  clear HRO
  have Z1 := (B6.new w (.int .i64 0) (.int .i64 0) (.int .i64 0) (.int .i64 0) (.int .i64 0) (.slice none 0 0)).up hb1
  have B1 := below_new hb1
  have Z2 := Z1.alloc (.cells #[.int .i64 n1, .int .i64 t1, .int .i64 v1, .int .i64 s1, .int .i64 u1, .slice a1 k1 c1] 26)
  have N2 := B6.new w1 (.int .i64 n1) (.int .i64 t1) (.int .i64 v1) (.int .i64 s1) (.int .i64 u1) (.slice a1 k1 c1)
  have B2 := ba B1 (.cells #[.int .i64 n1, .int .i64 t1, .int .i64 v1, .int .i64 s1, .int .i64 u1, .slice a1 k1 c1] 26)
  have HO2 : Hid (ownsR (w1.alloc (.cells #[.int .i64 n1, .int .i64 t1, .int .i64 v1, .int .i64 s1, .int .i64 u1, .slice a1 k1 c1] 26)) w.heap.size 84 (.slice a1 k1 c1) L) := HO1.out.alloc _
  obtain ⟨WX, hWX⟩ : ∃ WX, w1.alloc (.cells #[.int .i64 n1, .int .i64 t1, .int .i64 v1, .int .i64 s1, .int .i64 u1, .slice a1 k1 c1] 26) = WX := ⟨_, rfl⟩
  rw [hWX] at Z2 N2 B2 HO2
  go_wp2_with fail
  refine Calls.mono (codeOf_fault _ _ (HE.out.below B2)) ?_
  rintro e w3 ⟨rfl, hb3⟩
  have Z3 := Z2.up hb3
  have N3 := N2.up hb3
  have B3 := Below.on B2 hb3
  have HO3 : Hid (ownsR w3 w.heap.size 84 (.slice a1 k1 c1) L) := HO2.out.all hb3
  clear hb3 hb1 Z1 B1 HO1 Z2 N2 B2 HO2 hWX
  have r0 := Z3.c0
  have r1 := Z3.c1
  have r2 := Z3.c2
  have r3 := Z3.c3
  have r4 := Z3.c4
  have r5 := Z3.c5
  have rf := Z3.fr
  have m0 := N3.c0
  have m1 := N3.c1
  have m2 := N3.c2
  have m3 := N3.c3
  have m4 := N3.c4
  have m5 := N3.c5
  have Z4 : B6 (((((((w3).setCell ⟨w.heap.size, 0, none⟩ (.int .i64 n1)).setCell ⟨w.heap.size, 1, none⟩ (.int .i64 t1)).setCell ⟨w.heap.size, 2, none⟩ (.int .i64 v1)).setCell ⟨w.heap.size, 3, none⟩ (.int .i64 s1)).setCell ⟨w.heap.size, 4, none⟩ (.int .i64 u1)).setCell ⟨w.heap.size, 5, none⟩ (.slice a1 k1 c1)) w.heap.size (.int .i64 n1) (.int .i64 t1) (.int .i64 v1) (.int .i64 s1) (.int .i64 u1) (.slice a1 k1 c1) := Z3.set (.int .i64 n1) (.int .i64 t1) (.int .i64 v1) (.int .i64 s1) (.int .i64 u1) (.slice a1 k1 c1)
  have B4 : Below w.heap.size w (((((((w3).setCell ⟨w.heap.size, 0, none⟩ (.int .i64 n1)).setCell ⟨w.heap.size, 1, none⟩ (.int .i64 t1)).setCell ⟨w.heap.size, 2, none⟩ (.int .i64 v1)).setCell ⟨w.heap.size, 3, none⟩ (.int .i64 s1)).setCell ⟨w.heap.size, 4, none⟩ (.int .i64 u1)).setCell ⟨w.heap.size, 5, none⟩ (.slice a1 k1 c1)) := below_set6 B3 (Nat.le_refl _) _ _ _ _ _ _
  have HO4 : Hid (ownsR (((((((w3).setCell ⟨w.heap.size, 0, none⟩ (.int .i64 n1)).setCell ⟨w.heap.size, 1, none⟩ (.int .i64 t1)).setCell ⟨w.heap.size, 2, none⟩ (.int .i64 v1)).setCell ⟨w.heap.size, 3, none⟩ (.int .i64 s1)).setCell ⟨w.heap.size, 4, none⟩ (.int .i64 u1)).setCell ⟨w.heap.size, 5, none⟩ (.slice a1 k1 c1)) w.heap.size 84 (.slice a1 k1 c1) L) := ownsR_set6 HO3.out (not_row6 Z3 HO3.out) _ _ _ _ _ _
  go_wp2
  obtain ⟨w4, hw4⟩ : ∃ w4, ((((((w3).setCell ⟨w.heap.size, 0, none⟩ (.int .i64 n1)).setCell ⟨w.heap.size, 1, none⟩ (.int .i64 t1)).setCell ⟨w.heap.size, 2, none⟩ (.int .i64 v1)).setCell ⟨w.heap.size, 3, none⟩ (.int .i64 s1)).setCell ⟨w.heap.size, 4, none⟩ (.int .i64 u1)).setCell ⟨w.heap.size, 5, none⟩ (.slice a1 k1 c1) = w4 := ⟨_, rfl⟩
  rw [hw4] at Z4 B4 HO4 ⊢
  clear hw4
  exact bodyPost_ret (ret_j3 rfl rfl rfl rfl Z4) rfl ⟨n1, t1, v1, s1, u1, a1, k1, c1, rfl, HRR.out, HO4.out, B4⟩

set_option maxRecDepth 10000 in
set_option maxHeartbeats 4000000 in
theorem rj_whole (n : Int) (s : ByteArray) (w : World) (P : Int) (L : List En) (R : Int → Int → Int → Int → Int → Prop)
    (HC : Hid (∀ W, Below w.heap.size w W → Calls Tryz.prog 30 #[.int .i64 n, .string s] W fun e w' => ∃ (n1 t1 v1 s1 u1 : Int) (a1 : Option Addr) (k1 c1 : Nat), e = .returned (.tuple #[jV n1 t1 v1 s1 u1 (.slice a1 k1 c1), .int .i64 P, .nilIface]) ∧ Hid (R n1 t1 v1 s1 u1 ∧ ownsR w' w.heap.size 84 (.slice a1 k1 c1) L) ∧ Below W.heap.size W w')) :
    Calls Tryz.prog 7 #[.int .i64 n, .string s] w fun e w' => ∃ (n1 t1 v1 s1 u1 : Int) (a1 : Option Addr) (k1 c1 : Nat), e = .returned (.tuple #[jV n1 t1 v1 s1 u1 (.slice a1 k1 c1), .int .i64 P, .bool true]) ∧ R n1 t1 v1 s1 u1 ∧ ownsR w' w.heap.size 84 (.slice a1 k1 c1) L ∧ Below w.heap.size w w' := by
  go_enter Tryz.func7, Tryz.ntmps7
  go_wp2_with fail
  refine Calls.mono (HC.out _ (ba (Below.refl _ _) _)) ?_
  rintro e w1 ⟨n1, t1, v1, s1, u1, a1, k1, c1, rfl, HRO, hb1⟩
  have HRR : Hid (R n1 t1 v1 s1 u1) := HRO.out.1
  have HO1 : Hid (ownsR w1 w.heap.size 84 (.slice a1 k1 c1) L) := HRO.out.2
  clear HRO
  have Z1 := (B6.new w (.int .i64 0) (.int .i64 0) (.int .i64 0) (.int .i64 0) (.int .i64 0) (.slice none 0 0)).up hb1
  have B1 := below_new hb1
  have Z2 := Z1.alloc (.cells #[.int .i64 n1, .int .i64 t1, .int .i64 v1, .int .i64 s1, .int .i64 u1, .slice a1 k1 c1] 26)
  have N2 := B6.new w1 (.int .i64 n1) (.int .i64 t1) (.int .i64 v1) (.int .i64 s1) (.int .i64 u1) (.slice a1 k1 c1)
  have B2 := ba B1 (.cells #[.int .i64 n1, .int .i64 t1, .int .i64 v1, .int .i64 s1, .int .i64 u1, .slice a1 k1 c1] 26)
  have HO2 : Hid (ownsR (w1.alloc (.cells #[.int .i64 n1, .int .i64 t1, .int .i64 v1, .int .i64 s1, .int .i64 u1, .slice a1 k1 c1] 26)) w.heap.size 84 (.slice a1 k1 c1) L) := HO1.out.alloc _
  obtain ⟨WX, hWX⟩ : ∃ WX, w1.alloc (.cells #[.int .i64 n1, .int .i64 t1, .int .i64 v1, .int .i64 s1, .int .i64 u1, .slice a1 k1 c1] 26) = WX := ⟨_, rfl⟩
  rw [hWX] at Z2 N2 B2 HO2
  go_wp2_with fail
  refine Calls.mono (codeOf_nil _) ?_
  rintro e w3 ⟨rfl, hb3⟩
  have Z3 := Z2.up hb3
  have N3 := N2.up hb3
  have B3 := Below.on B2 hb3
  have HO3 : Hid (ownsR w3 w.heap.size 84 (.slice a1 k1 c1) L) := HO2.out.all hb3
  clear hb3 hb1 Z1 B1 HO1 Z2 N2 B2 HO2 hWX
  have r0 := Z3.c0
  have r1 := Z3.c1
  have r2 := Z3.c2
  have r3 := Z3.c3
  have r4 := Z3.c4
  have r5 := Z3.c5
  have rf := Z3.fr
  have m0 := N3.c0
  have m1 := N3.c1
  have m2 := N3.c2
  have m3 := N3.c3
  have m4 := N3.c4
  have m5 := N3.c5
  have Z4 : B6 (((((((w3).setCell ⟨w.heap.size, 0, none⟩ (.int .i64 n1)).setCell ⟨w.heap.size, 1, none⟩ (.int .i64 t1)).setCell ⟨w.heap.size, 2, none⟩ (.int .i64 v1)).setCell ⟨w.heap.size, 3, none⟩ (.int .i64 s1)).setCell ⟨w.heap.size, 4, none⟩ (.int .i64 u1)).setCell ⟨w.heap.size, 5, none⟩ (.slice a1 k1 c1)) w.heap.size (.int .i64 n1) (.int .i64 t1) (.int .i64 v1) (.int .i64 s1) (.int .i64 u1) (.slice a1 k1 c1) := Z3.set (.int .i64 n1) (.int .i64 t1) (.int .i64 v1) (.int .i64 s1) (.int .i64 u1) (.slice a1 k1 c1)
  have B4 : Below w.heap.size w (((((((w3).setCell ⟨w.heap.size, 0, none⟩ (.int .i64 n1)).setCell ⟨w.heap.size, 1, none⟩ (.int .i64 t1)).setCell ⟨w.heap.size, 2, none⟩ (.int .i64 v1)).setCell ⟨w.heap.size, 3, none⟩ (.int .i64 s1)).setCell ⟨w.heap.size, 4, none⟩ (.int .i64 u1)).setCell ⟨w.heap.size, 5, none⟩ (.slice a1 k1 c1)) := below_set6 B3 (Nat.le_refl _) _ _ _ _ _ _
  have HO4 : Hid (ownsR (((((((w3).setCell ⟨w.heap.size, 0, none⟩ (.int .i64 n1)).setCell ⟨w.heap.size, 1, none⟩ (.int .i64 t1)).setCell ⟨w.heap.size, 2, none⟩ (.int .i64 v1)).setCell ⟨w.heap.size, 3, none⟩ (.int .i64 s1)).setCell ⟨w.heap.size, 4, none⟩ (.int .i64 u1)).setCell ⟨w.heap.size, 5, none⟩ (.slice a1 k1 c1)) w.heap.size 84 (.slice a1 k1 c1) L) := ownsR_set6 HO3.out (not_row6 Z3 HO3.out) _ _ _ _ _ _
  go_wp2
  obtain ⟨w4, hw4⟩ : ∃ w4, ((((((w3).setCell ⟨w.heap.size, 0, none⟩ (.int .i64 n1)).setCell ⟨w.heap.size, 1, none⟩ (.int .i64 t1)).setCell ⟨w.heap.size, 2, none⟩ (.int .i64 v1)).setCell ⟨w.heap.size, 3, none⟩ (.int .i64 s1)).setCell ⟨w.heap.size, 4, none⟩ (.int .i64 u1)).setCell ⟨w.heap.size, 5, none⟩ (.slice a1 k1 c1) = w4 := ⟨_, rfl⟩
  rw [hw4] at Z4 B4 HO4 ⊢
  clear hw4
  exact bodyPost_ret (ret_j3 rfl rfl rfl rfl Z4) rfl ⟨n1, t1, v1, s1, u1, a1, k1, c1, rfl, HRR.out, HO4.out, B4⟩


theorem readJournal2 (n : Int) (s : ByteArray) (w : World) (hs : s.size ≤ 1048576) (hp : PowIs w) (ht : TableIs w) (he : ErrIs w) :
    Calls Tryz.prog 7 #[.int .i64 n, .string s] w (RjP n s w) := by
  have base : ∀ W, Below w.heap.size w W → Calls Tryz.prog 30 #[.int .i64 n, .string s] W fun e w' => ∃ (n1 t1 v1 s1 u1 : Int) (a1 : Option Addr) (k1 c1 : Nat), e = .returned (.tuple #[jV n1 t1 v1 s1 u1 (.slice a1 k1 c1), .int .i64 (rjP n s : Int), if rjB n s then (if rjP n s < s.size then faultV 3 else .nilIface) else if numB n then faultV 2 else faultV 1]) ∧
      (n1 = rjN n s ∧ t1 = (rjJ n s).t ∧ v1 = (rjJ n s).v ∧ s1 = (rjJ n s).s ∧ u1 = (rjJ n s).st) ∧ ownsR w' w.heap.size 84 (.slice a1 k1 c1) (rjJ n s).l ∧ Below W.heap.size W w' := fun W hb =>
    (readJournal1 n s W hs (hp.below hb) (ht.below hb)).mono fun e w' ⟨n1, t1, v1, s1, u1, a1, k1, c1, h1, h2, h3, h4⟩ => ⟨n1, t1, v1, s1, u1, a1, k1, c1, h1, h2, h3.mono hb.size, h4⟩
  cases hr : rjB n s with
  | false =>
    have key : ∀ c : Int, (if numB n then faultV 2 else faultV 1) = faultV c → (c = 1 ∨ c = 2) → Calls Tryz.prog 7 #[.int .i64 n, .string s] w (RjP n s w) := fun c hc hc2 => by
      refine (rj_bad n s w c (rjP n s) (rjJ n s).l hc2 he (fun W hb => (base W hb).mono ?_)).mono ?_
      · rintro e w' ⟨n1, t1, v1, s1, u1, a1, k1, c1, h1, -, h3, h4⟩
        rw [hr, if_neg (by simp), hc] at h1
        exact ⟨n1, t1, v1, s1, u1, a1, k1, c1, h1, h3, h4⟩
      · rintro e w' ⟨rfl, hb⟩
        exact RjP_no hr hb
    cases hn : numB n with
    | true => exact key 2 (by rw [hn]; rfl) (.inr rfl)
    | false => exact key 1 (by rw [hn]; rfl) (.inl rfl)
  | true =>
    have fin : ∀ e w', (∃ (n1 t1 v1 s1 u1 : Int) (a1 : Option Addr) (k1 c1 : Nat), e = .returned (.tuple #[jV n1 t1 v1 s1 u1 (.slice a1 k1 c1), .int .i64 (rjP n s : Int), .bool true]) ∧ (n1 = rjN n s ∧ t1 = (rjJ n s).t ∧ v1 = (rjJ n s).v ∧ s1 = (rjJ n s).s ∧ u1 = (rjJ n s).st) ∧ ownsR w' w.heap.size 84 (.slice a1 k1 c1) (rjJ n s).l ∧ Below w.heap.size w w') → RjP n s w e w' := by
      rintro e w' ⟨n1, t1, v1, s1, u1, a1, k1, c1, rfl, ⟨rfl, rfl, rfl, rfl, rfl⟩, h3, h4⟩
      exact ⟨a1, k1, c1, by rw [hr], h3, h4⟩
    by_cases hl : rjP n s < s.size
    · refine (rj_left n s w (rjP n s) (rjJ n s).l he (fun n1 t1 v1 s1 u1 => n1 = rjN n s ∧ t1 = (rjJ n s).t ∧ v1 = (rjJ n s).v ∧ s1 = (rjJ n s).s ∧ u1 = (rjJ n s).st) (fun W hb => (base W hb).mono ?_)).mono fin
      rintro e w' ⟨n1, t1, v1, s1, u1, a1, k1, c1, h1, h2, h3, h4⟩
      rw [hr, if_pos rfl, if_pos hl] at h1
      exact ⟨n1, t1, v1, s1, u1, a1, k1, c1, h1, ⟨h2, h3⟩, h4⟩
    · refine (rj_whole n s w (rjP n s) (rjJ n s).l (fun n1 t1 v1 s1 u1 => n1 = rjN n s ∧ t1 = (rjJ n s).t ∧ v1 = (rjJ n s).v ∧ s1 = (rjJ n s).s ∧ u1 = (rjJ n s).st) (fun W hb => (base W hb).mono ?_)).mono fin
      rintro e w' ⟨n1, t1, v1, s1, u1, a1, k1, c1, h1, h2, h3, h4⟩
      rw [hr, if_pos rfl, if_neg hl] at h1
      exact ⟨n1, t1, v1, s1, u1, a1, k1, c1, h1, ⟨h2, h3⟩, h4⟩
end Go.Proofs.YtijmaplejpnggaaGreatDoor

namespace Go.Proofs.YtijmaplejpnggaaGreatDoor
open Go Go.RowKit

theorem specUnframe_q (s : ByteArray) (w : World) (hs : s.size ≤ 1048576) :
    Calls Tryz.prog 24 #[.string s] w fun e w' => ∃ (v : Value) (b : Int), e = .returned (.tuple #[v, .int .i64 b]) ∧ ownsS w' w.heap.size 9 v (recs (frq s)) ∧ Below w.heap.size w w' := by
  by_cases h : s.size ≤ 20000
  · refine (specUnframe_any s w h).mono ?_
    rintro e w' ⟨v, he, ho, hb⟩
    exact ⟨v, _, he, by rw [frq_in h]; exact ho, hb⟩
  · refine (specUnframe_long s w (by omega) (by omega)).mono ?_
    rintro e w' ⟨v, he, ho, hb⟩
    exact ⟨v, _, he, by rw [frq_long (by omega)]; exact ho, hb⟩

/-- Frames that follow one another, from a place on. -/
def ChainF (s : ByteArray) : Nat → List (ByteArray × Nat) → Prop
  | _, [] => True
  | a, x :: l => rdF s a = some x ∧ ChainF s x.2 l
theorem unf_chain (s : ByteArray) : ∀ (f a : Nat), ChainF s a (unf s f a)
  | 0, _ => trivial
  | f + 1, a => by
    unfold unf
    cases h : rdF s a with
    | none => trivial
    | some x => exact ⟨h, unf_chain s f x.2⟩
theorem rdF_len {s : ByteArray} {a e : Nat} {t : ByteArray} (ha : a ≤ s.size) (h : rdF s a = some (t, e)) : (frameT t).size = e - a ∧ 1 ≤ t.size ∧ t.size ≤ 9000 := by
  have hbd := rdF_bd ha h
  unfold rdF at h
  split at h
  · rename_i h0
    split at h
    · rename_i h1
      have hb := rv_bd s a ha h0.1
      simp only [Option.some.injEq, Prod.mk.injEq] at h
      obtain ⟨ht, he⟩ := h
      have h3 := h1.2.2
      rw [ht, he] at h3
      refine ⟨by rw [h3, ByteArray.size_extract]; omega, ?_, ?_⟩
      · rw [← ht, ByteArray.size_extract]; omega
      · rw [← ht, ByteArray.size_extract]; omega
    · simp at h
  · simp at h
theorem ownsS.save {w w' : World} {B g : Nat} {v : Value} {l : List ByteArray} {x0 x1 x2 x3 x4 x5 : Value} (h : ownsS w B 9 v l) (hg : B6 w g x0 x1 x2 x3 x4 x5) (hs : Save g w w') : ownsS w' B 9 v l :=
  World.ownsRow.kept h ⟨hs.os, hs.tape, hs.output, hs.size, fun k hk hne => hs.block k hk (fun e => hne (by rw [e]))⟩ (.inr (fun e => row_type h hg (by decide) e.symm))
theorem B6.save {w w' : World} {b g : Nat} {x0 x1 x2 x3 x4 x5 : Value} (h : B6 w b x0 x1 x2 x3 x4 x5) (hs : Save g w w') (hne : b ≠ g) : B6 w' b x0 x1 x2 x3 x4 x5 := (hs.block b h.lt hne).trans h

/-- What lies there while the model reads a file. -/
structure MI (n : Int) (F : List (ByteArray × Nat)) (w : World) (g : Nat) (v : Value) (j : Jn) (W : World) : Prop where
  jb : ∃ a k c, B6 W g (.int .i64 n) (.int .i64 j.t) (.int .i64 j.v) (.int .i64 j.s) (.int .i64 j.st) (.slice a k c) ∧ ownsR W w.heap.size 84 (.slice a k c) j.l
  list : ownsS W w.heap.size 9 v (recs F)
  res : B6 W w.heap.size (.int .i64 0) (.int .i64 0) (.int .i64 0) (.int .i64 0) (.int .i64 0) (.slice none 0 0)
  bel : Below w.heap.size w W
theorem MI.up {n : Int} {F : List (ByteArray × Nat)} {w : World} {g : Nat} {v : Value} {j : Jn} {W W' : World} (h : MI n F w g v j W) (hb : Below W.heap.size W W') : MI n F w g v j W' := by
  obtain ⟨⟨a, k, c, h1, h2⟩, h3, h4, h5⟩ := h
  exact ⟨⟨a, k, c, h1.up hb, h2.all hb⟩, h3.all hb, h4.up hb, Below.on h5 hb⟩

/-- Where the model's reading stands. -/
structure MA (s : ByteArray) (F : List (ByteArray × Nat)) (r0 : ByteArray) (q a : Nat) (j : Jn) : Prop where
  chain : ChainF s a (F.drop q)
  le : a ≤ s.size
  zero : q = 0 → j = begJ r0 ∧ a = 0
  more : 0 < q → a ≠ 0 ∧ goJ initJ F = goJ (j, a) (F.drop q)
  len : j.l.length ≤ 60
  sized : SizedE j.l

set_option maxRecDepth 10000 in
set_option maxHeartbeats 4000000 in
theorem specRead_num (n : Int) (s : ByteArray) (w : World) (hs : s.size ≤ 1048576) (hn : numB n = false) :
    Calls Tryz.prog 6 #[.int .i64 n, .string s] w (RjP n s w) := by
  have HRB : Hid (rjB n s = false) := by show _ = _; unfold rjB; rw [hn]; rfl
  have HN : Hid ((decide (0 ≤ n) && decide (n ≤ 999)) = false) := hn
  clear hn
  go_enter Tryz.func6, Tryz.ntmps6
  go_wp2_with fail
  refine Calls.mono (specUnframe_q s _ hs) ?_
  rintro e w1 ⟨v, b, rfl, ho1, hb1⟩
  have ZZ := (B6.new w (.int .i64 0) (.int .i64 0) (.int .i64 0) (.int .i64 0) (.int .i64 0) (.slice none 0 0)).up hb1
  have BB := below_new hb1
  clear hb1
  go_wp2_with fail
  refine Calls.mono (l01In_b _ _ _ _ HN.out) ?_
  rintro e w' ⟨rfl, hw⟩
  have hw2 := hw.symm
  subst hw2
  have r0 := ZZ.c0
  have r1 := ZZ.c1
  have r2 := ZZ.c2
  have r3 := ZZ.c3
  have r4 := ZZ.c4
  have r5 := ZZ.c5
  have rf := ZZ.fr
  have Z4 : B6 (((((((w1).setCell ⟨w.heap.size, 0, none⟩ (.int .i64 0)).setCell ⟨w.heap.size, 1, none⟩ (.int .i64 0)).setCell ⟨w.heap.size, 2, none⟩ (.int .i64 0)).setCell ⟨w.heap.size, 3, none⟩ (.int .i64 0)).setCell ⟨w.heap.size, 4, none⟩ (.int .i64 0)).setCell ⟨w.heap.size, 5, none⟩ (.slice none 0 0)) w.heap.size (.int .i64 0) (.int .i64 0) (.int .i64 0) (.int .i64 0) (.int .i64 0) (.slice none 0 0) := ZZ.set (.int .i64 0) (.int .i64 0) (.int .i64 0) (.int .i64 0) (.int .i64 0) (.slice none 0 0)
  have B4 : Below w.heap.size w (((((((w1).setCell ⟨w.heap.size, 0, none⟩ (.int .i64 0)).setCell ⟨w.heap.size, 1, none⟩ (.int .i64 0)).setCell ⟨w.heap.size, 2, none⟩ (.int .i64 0)).setCell ⟨w.heap.size, 3, none⟩ (.int .i64 0)).setCell ⟨w.heap.size, 4, none⟩ (.int .i64 0)).setCell ⟨w.heap.size, 5, none⟩ (.slice none 0 0)) := below_set6 BB (Nat.le_refl _) _ _ _ _ _ _
  go_wp2
  obtain ⟨w4, hw4⟩ : ∃ w4, ((((((w1).setCell ⟨w.heap.size, 0, none⟩ (.int .i64 0)).setCell ⟨w.heap.size, 1, none⟩ (.int .i64 0)).setCell ⟨w.heap.size, 2, none⟩ (.int .i64 0)).setCell ⟨w.heap.size, 3, none⟩ (.int .i64 0)).setCell ⟨w.heap.size, 4, none⟩ (.int .i64 0)).setCell ⟨w.heap.size, 5, none⟩ (.slice none 0 0) = w4 := ⟨_, rfl⟩
  rw [hw4] at Z4 B4 ⊢
  clear hw4
  exact bodyPost_ret (ret_j3 rfl rfl rfl rfl Z4) rfl (RjP_no HRB.out B4)

set_option maxRecDepth 10000 in
set_option maxHeartbeats 4000000 in
theorem specRead_none (n : Int) (s : ByteArray) (w : World) (hs : s.size ≤ 1048576) (hn : numB n = true) (hF : frq s = []) :
    Calls Tryz.prog 6 #[.int .i64 n, .string s] w (RjP n s w) := by
  have HRB : Hid (rjB n s = false) := by show _ = _; unfold rjB rdJ; rw [hF]; simp [goJ, initJ]
  have HN : Hid ((decide (0 ≤ n) && decide (n ≤ 999)) = true) := hn
  have HF : Hid (frq s = []) := hF
  clear hn hF
  go_enter Tryz.func6, Tryz.ntmps6
  go_wp2_with fail
  refine Calls.mono (specUnframe_q s _ hs) ?_
  rintro e w1 ⟨v, b, rfl, ho1, hb1⟩
  rw [HF.out] at ho1
  obtain ⟨la, lc, rfl⟩ := ownsS_empty ho1
  have ZZ := (B6.new w (.int .i64 0) (.int .i64 0) (.int .i64 0) (.int .i64 0) (.int .i64 0) (.slice none 0 0)).up hb1
  have BB := below_new hb1
  clear hb1 ho1
  go_wp2_with fail
  refine Calls.mono (l01In_b _ _ _ _ HN.out) ?_
  rintro e w' ⟨rfl, hw⟩
  have hw2 := hw.symm
  subst hw2
  have r0 := ZZ.c0
  have r1 := ZZ.c1
  have r2 := ZZ.c2
  have r3 := ZZ.c3
  have r4 := ZZ.c4
  have r5 := ZZ.c5
  have rf := ZZ.fr
  have Z4 : B6 (((((((w1).setCell ⟨w.heap.size, 0, none⟩ (.int .i64 0)).setCell ⟨w.heap.size, 1, none⟩ (.int .i64 0)).setCell ⟨w.heap.size, 2, none⟩ (.int .i64 0)).setCell ⟨w.heap.size, 3, none⟩ (.int .i64 0)).setCell ⟨w.heap.size, 4, none⟩ (.int .i64 0)).setCell ⟨w.heap.size, 5, none⟩ (.slice none 0 0)) w.heap.size (.int .i64 0) (.int .i64 0) (.int .i64 0) (.int .i64 0) (.int .i64 0) (.slice none 0 0) := ZZ.set (.int .i64 0) (.int .i64 0) (.int .i64 0) (.int .i64 0) (.int .i64 0) (.slice none 0 0)
  have B4 : Below w.heap.size w (((((((w1).setCell ⟨w.heap.size, 0, none⟩ (.int .i64 0)).setCell ⟨w.heap.size, 1, none⟩ (.int .i64 0)).setCell ⟨w.heap.size, 2, none⟩ (.int .i64 0)).setCell ⟨w.heap.size, 3, none⟩ (.int .i64 0)).setCell ⟨w.heap.size, 4, none⟩ (.int .i64 0)).setCell ⟨w.heap.size, 5, none⟩ (.slice none 0 0)) := below_set6 BB (Nat.le_refl _) _ _ _ _ _ _
  go_wp2
  obtain ⟨w4, hw4⟩ : ∃ w4, ((((((w1).setCell ⟨w.heap.size, 0, none⟩ (.int .i64 0)).setCell ⟨w.heap.size, 1, none⟩ (.int .i64 0)).setCell ⟨w.heap.size, 2, none⟩ (.int .i64 0)).setCell ⟨w.heap.size, 3, none⟩ (.int .i64 0)).setCell ⟨w.heap.size, 4, none⟩ (.int .i64 0)).setCell ⟨w.heap.size, 5, none⟩ (.slice none 0 0) = w4 := ⟨_, rfl⟩
  rw [hw4] at Z4 B4 ⊢
  clear hw4
  exact bodyPost_ret (ret_j3 rfl rfl rfl rfl Z4) rfl (RjP_no HRB.out B4)

end Go.Proofs.YtijmaplejpnggaaGreatDoor

namespace Go.Proofs.YtijmaplejpnggaaGreatDoor
open Go Go.RowKit

set_option maxRecDepth 10000 in
set_option maxHeartbeats 4000000 in
theorem specRead_two (n : Int) (s : ByteArray) (w : World) (hs : s.size ≤ 1048576) (hs2 : s.size ≤ 20000) (hn : numB n = true) (r0 : ByteArray) (e0 : Nat) (rest : List (ByteArray × Nat)) (hF : frq s = (r0, e0) :: rest) (hr0s : r0.size ≤ 20000) (h2 : twoB 66 r0 = false) :
    Calls Tryz.prog 6 #[.int .i64 n, .string s] w (RjP n s w) := by
  have HRB : Hid (rjB n s = false) := by
    show _ = _
    have hb : stepB initJ r0 = false := by unfold stepB initJ begB; rw [if_pos rfl, h2]; rfl
    unfold rjB rdJ
    rw [hF, goJ_no hb]
    simp [initJ]
  have HN : Hid ((decide (0 ≤ n) && decide (n ≤ 999)) = true) := hn
  have HF : Hid (frq s = (r0, e0) :: rest) := hF
  have HTW : Hid (∀ W, Calls Tryz.prog 26 #[.string r0, .string ⟨#[66]⟩] W fun e w' => e = .returned (.tuple #[.int .i64 0, .int .i64 0, .bool false]) ∧ Below W.heap.size W w') := fun W => by
    have := l07Two_any 66 r0 W hr0s
    rw [h2] at this
    exact this
  clear hn hF h2
  go_enter Tryz.func6, Tryz.ntmps6
  go_wp2_with fail
  refine Calls.mono (specUnframe_q s _ hs) ?_
  rintro e w1 ⟨v, b, rfl, ho1, hb1⟩
  rw [HF.out] at ho1
  obtain ⟨lg, lc, rfl, hlg, hlw, hlc, hcl, hfl⟩ := ownsS_form ho1 (by simp [recs])
  have hr0 : w1.cell? ⟨lg, 0, none⟩ = some (.string r0) := hcl 0 (by simp [recs])
  have HO1 : Hid (ownsS w1 w.heap.size 9 (.slice (some ⟨lg, 0, none⟩) (recs ((r0, e0) :: rest)).length lc) (recs ((r0, e0) :: rest))) := ho1.mono (by simp)
  obtain ⟨m, HM⟩ : ∃ m, Hid ((recs ((r0, e0) :: rest)).length = m) := ⟨_, rfl⟩
  have hm1 : 1 ≤ m := by rw [← HM.out]; simp [recs]
  have hmm : m ≤ 20001 := by rw [← HM.out, recs_len, ← HF.out, frq_in hs2]; have := frs_len s 0; omega
  rw [HM.out] at HO1 hlc ⊢
  have Z1 := (B6.new w (.int .i64 0) (.int .i64 0) (.int .i64 0) (.int .i64 0) (.int .i64 0) (.slice none 0 0)).up hb1
  have B1 := below_new hb1
  clear hb1 hcl hfl ho1
  go_wp2_with fail
  refine Calls.mono (l01In_b _ _ _ _ HN.out) ?_
  rintro e w' ⟨rfl, hw⟩
  have hw2 := hw.symm
  subst hw2
  go_wp2_with fail
  refine Calls.mono (HTW.out _) ?_
  rintro e w2 ⟨rfl, hb2⟩
  have ZZ := (Z1.up hb2).alloc (.cells #[.int .i64 n, .int .i64 0, .int .i64 0, .int .i64 0, .int .i64 0, .slice none 0 0] 26)
  have BB := ba (Below.on B1 hb2) (.cells #[.int .i64 n, .int .i64 0, .int .i64 0, .int .i64 0, .int .i64 0, .slice none 0 0] 26)
  have hl2 : w.heap.size < w2.heap.size := (Z1.up hb2).lt
  obtain ⟨WX, HWX⟩ : ∃ WX, Hid (w2.alloc (.cells #[.int .i64 n, .int .i64 0, .int .i64 0, .int .i64 0, .int .i64 0, .slice none 0 0] 26) = WX) := ⟨_, rfl⟩
  rw [HWX.out] at ZZ BB
  have r0 := ZZ.c0
  have r1 := ZZ.c1
  have r2 := ZZ.c2
  have r3 := ZZ.c3
  have r4 := ZZ.c4
  have r5 := ZZ.c5
  have rf := ZZ.fr
  have Z4 : B6 (((((((WX).setCell ⟨w.heap.size, 0, none⟩ (.int .i64 0)).setCell ⟨w.heap.size, 1, none⟩ (.int .i64 0)).setCell ⟨w.heap.size, 2, none⟩ (.int .i64 0)).setCell ⟨w.heap.size, 3, none⟩ (.int .i64 0)).setCell ⟨w.heap.size, 4, none⟩ (.int .i64 0)).setCell ⟨w.heap.size, 5, none⟩ (.slice none 0 0)) w.heap.size (.int .i64 0) (.int .i64 0) (.int .i64 0) (.int .i64 0) (.int .i64 0) (.slice none 0 0) := ZZ.set (.int .i64 0) (.int .i64 0) (.int .i64 0) (.int .i64 0) (.int .i64 0) (.slice none 0 0)
  have B4 : Below w.heap.size w (((((((WX).setCell ⟨w.heap.size, 0, none⟩ (.int .i64 0)).setCell ⟨w.heap.size, 1, none⟩ (.int .i64 0)).setCell ⟨w.heap.size, 2, none⟩ (.int .i64 0)).setCell ⟨w.heap.size, 3, none⟩ (.int .i64 0)).setCell ⟨w.heap.size, 4, none⟩ (.int .i64 0)).setCell ⟨w.heap.size, 5, none⟩ (.slice none 0 0)) := below_set6 BB (Nat.le_refl _) _ _ _ _ _ _
  go_wp2_with (rw [HWX.out])
  obtain ⟨w4, hw4⟩ : ∃ w4, ((((((WX).setCell ⟨w.heap.size, 0, none⟩ (.int .i64 0)).setCell ⟨w.heap.size, 1, none⟩ (.int .i64 0)).setCell ⟨w.heap.size, 2, none⟩ (.int .i64 0)).setCell ⟨w.heap.size, 3, none⟩ (.int .i64 0)).setCell ⟨w.heap.size, 4, none⟩ (.int .i64 0)).setCell ⟨w.heap.size, 5, none⟩ (.slice none 0 0) = w4 := ⟨_, rfl⟩
  rw [hw4] at Z4 B4 ⊢
  clear hw4
  exact bodyPost_ret (ret_j3 rfl rfl rfl rfl Z4) rfl (RjP_no HRB.out B4)

set_option maxRecDepth 10000 in
set_option maxHeartbeats 4000000 in
theorem specRead_log (n : Int) (s : ByteArray) (w : World) (hs : s.size ≤ 1048576) (hs2 : s.size ≤ 20000) (hn : numB n = true) (r0 : ByteArray) (e0 : Nat) (rest : List (ByteArray × Nat)) (hF : frq s = (r0, e0) :: rest) (hr0s : r0.size ≤ 20000) (h2 : twoB 66 r0 = true) (h3 : okL (twoX r0) (twoY r0) [] = false) :
    Calls Tryz.prog 6 #[.int .i64 n, .string s] w (RjP n s w) := by
  have HRB : Hid (rjB n s = false) := by
    show _ = _
    have hb : stepB initJ r0 = false := by unfold stepB initJ begB; rw [if_pos rfl, h2, h3]; rfl
    unfold rjB rdJ
    rw [hF, goJ_no hb]
    simp [initJ]
  have HN : Hid ((decide (0 ≤ n) && decide (n ≤ 999)) = true) := hn
  have HF : Hid (frq s = (r0, e0) :: rest) := hF
  obtain ⟨X, HX⟩ : ∃ X : Int, Hid ((twoX r0 : Int) = X) := ⟨_, rfl⟩
  obtain ⟨Y, HY⟩ : ∃ Y : Int, Hid ((twoY r0 : Int) = Y) := ⟨_, rfl⟩
  have HTW : Hid (∀ W, Calls Tryz.prog 26 #[.string r0, .string ⟨#[66]⟩] W fun e w' => e = .returned (.tuple #[.int .i64 X, .int .i64 Y, .bool true]) ∧ Below W.heap.size W w') := fun W => by
    have := l07Two_any 66 r0 W hr0s
    rw [h2, if_pos rfl, if_pos rfl, HX.out, HY.out] at this
    exact this
  have CL : Hid (∀ W, Calls Tryz.prog 27 #[.agg #[.int .i64 X, .int .i64 Y, .slice none 0 0]] W fun e w' => e = .returned (.bool false) ∧ Below W.heap.size W w') := fun W => by
    have := specLogOk_any (s := X) (t := Y) (reads_none (α := En) W none 0) (by simp) (fun f hf => by simp at hf)
    rw [← HX.out, ← HY.out, h3] at this
    rw [HX.out, HY.out] at this
    exact this
  clear hn hF h2 h3
  go_enter Tryz.func6, Tryz.ntmps6
  go_wp2_with fail
  refine Calls.mono (specUnframe_q s _ hs) ?_
  rintro e w1 ⟨v, b, rfl, ho1, hb1⟩
  rw [HF.out] at ho1
  obtain ⟨lg, lc, rfl, hlg, hlw, hlc, hcl, hfl⟩ := ownsS_form ho1 (by simp [recs])
  have hr0 : w1.cell? ⟨lg, 0, none⟩ = some (.string r0) := hcl 0 (by simp [recs])
  have HO1 : Hid (ownsS w1 w.heap.size 9 (.slice (some ⟨lg, 0, none⟩) (recs ((r0, e0) :: rest)).length lc) (recs ((r0, e0) :: rest))) := ho1.mono (by simp)
  obtain ⟨m, HM⟩ : ∃ m, Hid ((recs ((r0, e0) :: rest)).length = m) := ⟨_, rfl⟩
  have hm1 : 1 ≤ m := by rw [← HM.out]; simp [recs]
  have hmm : m ≤ 20001 := by rw [← HM.out, recs_len, ← HF.out, frq_in hs2]; have := frs_len s 0; omega
  rw [HM.out] at HO1 hlc ⊢
  have Z1 := (B6.new w (.int .i64 0) (.int .i64 0) (.int .i64 0) (.int .i64 0) (.int .i64 0) (.slice none 0 0)).up hb1
  have B1 := below_new hb1
  clear hb1 hcl hfl ho1
  go_wp2_with fail
  refine Calls.mono (l01In_b _ _ _ _ HN.out) ?_
  rintro e w' ⟨rfl, hw⟩
  have hw2 := hw.symm
  subst hw2
  go_wp2_with fail
  refine Calls.mono (HTW.out _) ?_
  rintro e w2 ⟨rfl, hb2⟩
  have Z2 := (Z1.up hb2).alloc (.cells #[.int .i64 n, .int .i64 0, .int .i64 0, .int .i64 X, .int .i64 Y, .slice none 0 0] 26)
  have B2 := ba (Below.on B1 hb2) (.cells #[.int .i64 n, .int .i64 0, .int .i64 0, .int .i64 X, .int .i64 Y, .slice none 0 0] 26)
  have N2 := B6.new w2 (.int .i64 n) (.int .i64 0) (.int .i64 0) (.int .i64 X) (.int .i64 Y) (.slice none 0 0)
  go_wp2_with fail
  obtain ⟨WX, hWX⟩ : ∃ WX, w2.alloc (.cells #[.int .i64 n, .int .i64 0, .int .i64 0, .int .i64 X, .int .i64 Y, .slice none 0 0] 26) = WX := ⟨_, rfl⟩
  rw [hWX] at Z2 B2 N2 ⊢
  refine Calls.mono (CL.out _) ?_
  rintro e w3 ⟨rfl, hb3⟩
  have ZZ := Z2.up hb3
  have BB := Below.on B2 hb3
  have r0 := ZZ.c0
  have r1 := ZZ.c1
  have r2 := ZZ.c2
  have r3 := ZZ.c3
  have r4 := ZZ.c4
  have r5 := ZZ.c5
  have rf := ZZ.fr
  have Z4 : B6 (((((((w3).setCell ⟨w.heap.size, 0, none⟩ (.int .i64 0)).setCell ⟨w.heap.size, 1, none⟩ (.int .i64 0)).setCell ⟨w.heap.size, 2, none⟩ (.int .i64 0)).setCell ⟨w.heap.size, 3, none⟩ (.int .i64 0)).setCell ⟨w.heap.size, 4, none⟩ (.int .i64 0)).setCell ⟨w.heap.size, 5, none⟩ (.slice none 0 0)) w.heap.size (.int .i64 0) (.int .i64 0) (.int .i64 0) (.int .i64 0) (.int .i64 0) (.slice none 0 0) := ZZ.set (.int .i64 0) (.int .i64 0) (.int .i64 0) (.int .i64 0) (.int .i64 0) (.slice none 0 0)
  have B4 : Below w.heap.size w (((((((w3).setCell ⟨w.heap.size, 0, none⟩ (.int .i64 0)).setCell ⟨w.heap.size, 1, none⟩ (.int .i64 0)).setCell ⟨w.heap.size, 2, none⟩ (.int .i64 0)).setCell ⟨w.heap.size, 3, none⟩ (.int .i64 0)).setCell ⟨w.heap.size, 4, none⟩ (.int .i64 0)).setCell ⟨w.heap.size, 5, none⟩ (.slice none 0 0)) := below_set6 BB (Nat.le_refl _) _ _ _ _ _ _
  go_wp2
  obtain ⟨w4, hw4⟩ : ∃ w4, ((((((w3).setCell ⟨w.heap.size, 0, none⟩ (.int .i64 0)).setCell ⟨w.heap.size, 1, none⟩ (.int .i64 0)).setCell ⟨w.heap.size, 2, none⟩ (.int .i64 0)).setCell ⟨w.heap.size, 3, none⟩ (.int .i64 0)).setCell ⟨w.heap.size, 4, none⟩ (.int .i64 0)).setCell ⟨w.heap.size, 5, none⟩ (.slice none 0 0) = w4 := ⟨_, rfl⟩
  rw [hw4] at Z4 B4 ⊢
  clear hw4
  exact bodyPost_ret (ret_j3 rfl rfl rfl rfl Z4) rfl (RjP_no HRB.out B4)

end Go.Proofs.YtijmaplejpnggaaGreatDoor

namespace Go.Proofs.YtijmaplejpnggaaGreatDoor
open Go Go.RowKit

theorem rj_done {n : Int} {s : ByteArray} {w w' : World} {j : Jn} {a : Nat} {av : Option Addr} {kv cv : Nat} (h : rdJ s = (j, a) ∧ a ≠ 0) (hn : numB n = true) (hb : Below w.heap.size w w') (ho : ownsR w' w.heap.size 84 (.slice av kv cv) j.l) :
    RjP n s w (.returned (.tuple #[jV n j.t j.v j.s j.st (.slice av kv cv), .int .i64 (a : Int), .bool true])) w' := by
  have hr : rjB n s = true := by
    unfold rjB
    rw [hn, h.1, decide_eq_true h.2]; rfl
  have := RjP_yes (n := n) (s := s) (w := w) (w' := w') (a := av) (k := kv) (c := cv) hr hb (by rw [h.1]; exact ho)
  rw [h.1] at this
  exact this
theorem drop_at {F : List (ByteArray × Nat)} {q : Nat} {x : ByteArray × Nat} (h : F[q]? = some x) : F.drop q = x :: F.drop (q + 1) := by
  have hl := (List.getElem?_eq_some_iff.1 h).1
  rw [List.drop_eq_getElem_cons hl]
  congr 1
  exact (List.getElem?_eq_some_iff.1 h).2
theorem MA.good {s : ByteArray} {F : List (ByteArray × Nat)} {r0 : ByteArray} {q a : Nat} {j : Jn} (h : MA s F r0 q a j) (hq : 0 < q) (hs : s.size ≤ 20000) : JGood (j, a) :=
  ⟨h.len, h.sized, fun h0 => absurd h0 (h.more hq).1, by have := h.le; show a ≤ 20000; omega⟩
theorem MA.first {s : ByteArray} {F : List (ByteArray × Nat)} {r0 : ByteArray} {e0 a : Nat} {j : Jn} (h : MA s F r0 0 a j) (hF : F[0]? = some (r0, e0)) (hb : begB r0 = true) : MA s F r0 1 e0 j ∧ a = 0 ∧ rdF s 0 = some (r0, e0) := by
  obtain ⟨hj, ha⟩ := h.zero rfl
  have e : F.drop 0 = (r0, e0) :: F.drop 1 := drop_at hF
  have hc := h.chain
  rw [e, ha] at hc
  obtain ⟨hc1, hc2⟩ := hc
  have hbd := rdF_bd (Nat.zero_le _) hc1
  have hs : stepB initJ r0 = true := by unfold stepB initJ; rw [if_pos rfl]; exact hb
  have e2 : goJ initJ F = goJ initJ ((r0, e0) :: F.drop 1) := congrArg (goJ initJ) (by rw [← e, List.drop_zero])
  have e3 : stepJ initJ (r0, e0) = (begJ r0, e0) := by unfold stepJ initJ; rw [if_pos rfl]
  have hg : goJ initJ F = goJ (j, e0) (F.drop 1) := by rw [e2, goJ_yes (x := (r0, e0)) hs, e3, hj]
  refine ⟨MA.mk hc2 hbd.2 (fun h => absurd h (by decide)) (fun _ => ⟨?_, hg⟩) h.len h.sized, ha, hc1⟩
  intro h0
  have := hbd.1
  omega
theorem MA.next {s : ByteArray} {F : List (ByteArray × Nat)} {r0 : ByteArray} {q a : Nat} {j : Jn} {x : ByteArray × Nat} (h : MA s F r0 q a j) (hq : 0 < q) (hs : s.size ≤ 20000) (hF : F[q]? = some x) (ht : tellB j x.1 = true) : MA s F r0 (q + 1) x.2 (moreJ j x.1) ∧ rdF s a = some x := by
  have hc := h.chain
  rw [drop_at hF] at hc
  have hbd := rdF_bd h.le (hc.1.trans (by rfl : some x = some (x.1, x.2)))
  obtain ⟨ha, hg⟩ := h.more hq
  have hst : stepB (j, a) x.1 = true := by unfold stepB; rw [if_neg ha]; exact ht
  have hsj : stepJ (j, a) x = (moreJ j x.1, x.2) := by unfold stepJ moreJ; rw [if_neg ha, ht]; rfl
  have hgd := (h.good hq hs).next (x := x) hst (by omega) (by omega)
  rw [hsj] at hgd
  refine ⟨⟨hc.2, hbd.2, fun h => by omega, fun _ => ⟨by omega, ?_⟩, hgd.len, hgd.sized⟩, hc.1⟩
  rw [hg, drop_at hF, goJ_yes hst, hsj]
theorem MA.off {s : ByteArray} {F : List (ByteArray × Nat)} {r0 : ByteArray} {q a : Nat} {j : Jn} {x : ByteArray × Nat} (h : MA s F r0 q a j) (hq : 0 < q) (hF : F[q]? = some x) (ht : tellB j x.1 = false) : goJ initJ F = (j, a) ∧ a ≠ 0 := by
  obtain ⟨ha, hg⟩ := h.more hq
  have hst : stepB (j, a) x.1 = false := by unfold stepB; rw [if_neg ha]; exact ht
  rw [hg, drop_at hF, goJ_no hst]
  exact ⟨rfl, ha⟩
theorem MA.end {s : ByteArray} {F : List (ByteArray × Nat)} {r0 : ByteArray} {q a : Nat} {j : Jn} (h : MA s F r0 q a j) (hq : 0 < q) (hl : F.length ≤ q) : goJ initJ F = (j, a) ∧ a ≠ 0 := by
  obtain ⟨ha, hg⟩ := h.more hq
  rw [hg, List.drop_eq_nil_of_le hl]
  exact ⟨rfl, ha⟩

set_option maxRecDepth 10000 in
set_option maxHeartbeats 4000000 in
theorem specRead_loop (n : Int) (s : ByteArray) (w : World) (hs : s.size ≤ 1048576) (hs2 : s.size ≤ 20000) (hn : numB n = true) (r0 : ByteArray) (e0 : Nat) (rest : List (ByteArray × Nat)) (hF : frq s = (r0, e0) :: rest) (hr0s : r0.size ≤ 20000) (h2 : begB r0 = true) :
    Calls Tryz.prog 6 #[.int .i64 n, .string s] w (RjP n s w) := by
  have h2a : twoB 66 r0 = true := by unfold begB at h2; simp only [Bool.and_eq_true] at h2; exact h2.1
  have h2b : okL (twoX r0) (twoY r0) [] = true := by unfold begB at h2; simp only [Bool.and_eq_true] at h2; exact h2.2
  have HNB : Hid (numB n = true) := hn
  have HN : Hid ((decide (0 ≤ n) && decide (n ≤ 999)) = true) := hn
  have HF : Hid (frq s = (r0, e0) :: rest) := hF
  have HBB : Hid (begB r0 = true) := h2
  obtain ⟨X, HX⟩ : ∃ X : Int, Hid ((twoX r0 : Int) = X) := ⟨_, rfl⟩
  obtain ⟨Y, HY⟩ : ∃ Y : Int, Hid ((twoY r0 : Int) = Y) := ⟨_, rfl⟩
  have HTW : Hid (∀ W, Calls Tryz.prog 26 #[.string r0, .string ⟨#[66]⟩] W fun e w' => e = .returned (.tuple #[.int .i64 X, .int .i64 Y, .bool true]) ∧ Below W.heap.size W w') := fun W => by
    have := l07Two_any 66 r0 W hr0s
    rw [h2a, if_pos rfl, if_pos rfl, HX.out, HY.out] at this
    exact this
  have CL : Hid (∀ W, Calls Tryz.prog 27 #[.agg #[.int .i64 X, .int .i64 Y, .slice none 0 0]] W fun e w' => e = .returned (.bool true) ∧ Below W.heap.size W w') := fun W => by
    have := specLogOk_any (s := X) (t := Y) (reads_none (α := En) W none 0) (by simp) (fun f hf => by simp at hf)
    rw [← HX.out, ← HY.out, h2b] at this
    rw [HX.out, HY.out] at this
    exact this
  obtain ⟨F, HFF⟩ : ∃ F, Hid ((r0, e0) :: rest = F) := ⟨_, rfl⟩
  have HF0 : Hid (F[0]? = some (r0, e0)) := by show _ = _; rw [← HFF.out]; rfl
  have HM0 : Hid (MA s F r0 0 0 (begJ r0)) := by
    refine ⟨?_, Nat.zero_le _, fun _ => ⟨rfl, rfl⟩, fun h => by omega, by simp [begJ], fun f hf => by simp [begJ] at hf⟩
    rw [List.drop_zero, ← HFF.out, ← HF.out, frq_in hs2]
    exact unf_chain s _ 0
  have HRD : Hid (rdJ s = goJ initJ F) := by show goJ initJ (frq s) = _; rw [HF.out, HFF.out]
  clear hn hF h2 h2a h2b
  go_enter Tryz.func6, Tryz.ntmps6
  go_wp2_with fail
  refine Calls.mono (specUnframe_q s _ hs) ?_
  rintro e w1 ⟨v, b, rfl, ho1, hb1⟩
  rw [HF.out] at ho1
  obtain ⟨lg, lc, rfl, hlg, hlw, hlc, hcl, hfl⟩ := ownsS_form ho1 (by simp [recs])
  have hr0 : w1.cell? ⟨lg, 0, none⟩ = some (.string r0) := hcl 0 (by simp [recs])
  have HO1 : Hid (ownsS w1 w.heap.size 9 (.slice (some ⟨lg, 0, none⟩) (recs ((r0, e0) :: rest)).length lc) (recs ((r0, e0) :: rest))) := ho1.mono (by simp)
  obtain ⟨m, HM⟩ : ∃ m, Hid ((recs ((r0, e0) :: rest)).length = m) := ⟨_, rfl⟩
  have hm1 : 1 ≤ m := by rw [← HM.out]; simp [recs]
  have hmm : m ≤ 20001 := by rw [← HM.out, recs_len, ← HF.out, frq_in hs2]; have := frs_len s 0; omega
  rw [HM.out] at HO1 hlc ⊢
  have Z1 := (B6.new w (.int .i64 0) (.int .i64 0) (.int .i64 0) (.int .i64 0) (.int .i64 0) (.slice none 0 0)).up hb1
  have B1 := below_new hb1
  clear hb1 hcl hfl ho1
  go_wp2_with fail
  refine Calls.mono (l01In_b _ _ _ _ HN.out) ?_
  rintro e w' ⟨rfl, hw⟩
  have hw2 := hw.symm
  subst hw2
  go_wp2_with fail
  refine Calls.mono (HTW.out _) ?_
  rintro e w2 ⟨rfl, hb2⟩
  rw [HFF.out] at HO1 HM
  have Z2 := (Z1.up hb2).alloc (.cells #[.int .i64 n, .int .i64 0, .int .i64 0, .int .i64 X, .int .i64 Y, .slice none 0 0] 26)
  have B2 := ba (Below.on B1 hb2) (.cells #[.int .i64 n, .int .i64 0, .int .i64 0, .int .i64 X, .int .i64 Y, .slice none 0 0] 26)
  have N2 := B6.new w2 (.int .i64 n) (.int .i64 0) (.int .i64 0) (.int .i64 X) (.int .i64 Y) (.slice none 0 0)
  have L2 := (HO1.out.all hb2).alloc (.cells #[.int .i64 n, .int .i64 0, .int .i64 0, .int .i64 X, .int .i64 Y, .slice none 0 0] 26)
  go_wp2_with fail
  obtain ⟨WX, hWX⟩ : ∃ WX, w2.alloc (.cells #[.int .i64 n, .int .i64 0, .int .i64 0, .int .i64 X, .int .i64 Y, .slice none 0 0] 26) = WX := ⟨_, rfl⟩
  rw [hWX] at Z2 B2 N2 L2 ⊢
  obtain ⟨g, HG⟩ : ∃ g, Hid (w2.heap.size = g) := ⟨_, rfl⟩
  have hgw : w.heap.size < g := by rw [← HG.out]; exact (Z1.up hb2).lt
  rw [HG.out] at N2 ⊢
  clear hWX hb2 Z1 B1 hr0 HO1
  refine Calls.mono (CL.out _) ?_
  rintro e w3 ⟨rfl, hb3⟩
  have M3 : MI n F w g (.slice (some ⟨lg, 0, none⟩) m lc) (begJ r0) w3 := by
    refine ⟨⟨none, 0, 0, ?_, ownsR_nil _ _ _⟩, L2.all hb3, Z2.up hb3, Below.on B2 hb3⟩
    have := N2.up hb3
    rw [← HX.out, ← HY.out] at this
    exact this
  clear hb3 Z2 B2 N2 L2 CL HTW
  have HLF : Hid (F.length = m) := by show _ = _; rw [← HM.out, recs_len]
  go_wp2
  go_loopw [13, 14] (fun en i wr => ∃ (q a : Nat) (j : Jn), i = .int .i64 q ∧ q ≤ m ∧ en = .int .i64 a ∧ a ≤ 20000 ∧ Hid (MA s F r0 q a j) ∧ MI n F w g (.slice (some ⟨lg, 0, none⟩) m lc) j wr) (fun _ i _ => m - (intOf i).toNat)
  case atStart => exact ⟨0, 0, begJ r0, rfl, Nat.zero_le _, rfl, by omega, HM0, M3⟩
  case round =>
    obtain ⟨q, a, j, rfl, hq, rfl, ha, HMA, hM⟩ := hrel
    have hML := hM.list
    by_cases hlt : q < m
    · obtain ⟨x, hx⟩ : ∃ x, F[q]? = some x := ⟨_, List.getElem?_eq_getElem (by rw [HLF.out]; exact hlt)⟩
      obtain ⟨t, ht, hct, -, hlgw, -⟩ := ownsS_cell hML hlt
      have htx : t = x.1 := by
        have : (recs F)[q]? = some x.1 := by unfold recs; rw [List.getElem?_map, hx]; rfl
        rw [this] at ht
        exact (Option.some.inj ht).symm
      subst htx
      have HXX : Hid (F[q]? = some x) := hx
      clear hx ht
      by_cases hq0 : q = 0
      · subst hq0
        obtain ⟨hn1, ha0, hrd⟩ := HMA.out.first HF0.out HBB.out
        have hxe : x = (r0, e0) := Option.some.inj (HXX.out.symm.trans HF0.out)
        subst hxe
        subst ha0
        obtain ⟨l1, l2, l3⟩ := rdF_len (Nat.zero_le _) hrd
        have hn1le := hn1.le
        have CF : Hid (∀ W, Calls Tryz.prog 29 #[.string r0] W fun e w' => e = .returned (.tuple #[.string (frameT r0), .bool true]) ∧ Below W.heap.size W w') := fun W => specFrame_ok r0 W l2 l3
        have HLN : Hid (((frameT r0).size : Int) = (e0 : Int)) := by show _ = _; rw [l1]; omega
        clear l1
        go_wp2_with fail
        refine Calls.mono (CF.out _) ?_
        rintro e w5 ⟨rfl, hb5⟩
        have hM5 := hM.up hb5
        have hln := HLN.out
        go_wp2
        go_roundw
        case rel => exact ⟨1, e0, j, rfl, by omega, by first | rfl | (congr 1; omega), by omega, hn1, hM5⟩
        case measure => simp [intOf]; omega
      · have hqp : 0 < q := by omega
        have hgi : (0 : Int) < (q : Int) := by omega
        obtain ⟨⟨ja, jk, jc, hj, hoj⟩, hls, hre, hbe⟩ := hM
        have hx1 : x.1.size ≤ 20000 := by
          have hc := HMA.out.chain
          rw [drop_at HXX.out] at hc
          have := rdF_len HMA.out.le (hc.1.trans (by rfl : some x = some (x.1, x.2)))
          omega
        obtain ⟨tq, HTQ⟩ : ∃ tq, Hid (tellB j x.1 = tq) := ⟨_, rfl⟩
        have CM : Hid (Calls Tryz.prog 28 #[.pointer (some ⟨g, 0, none⟩), .string x.1] wr fun e w' => ∃ (a : Option Addr) (k c : Nat), e = .returned (.bool tq) ∧ B6 w' g (.int .i64 n) (.int .i64 (moreJ j x.1).t) (.int .i64 (moreJ j x.1).v) (.int .i64 (moreJ j x.1).s) (.int .i64 (moreJ j x.1).st) (.slice a k c) ∧ ownsR w' w.heap.size 84 (.slice a k c) (moreJ j x.1).l ∧ Save g wr w') := by
          have := l07More_any n j ja jk jc x.1 g w.heap.size wr hj hoj hbe.size HMA.out.len HMA.out.sized hx1
          unfold MoreP at this
          rw [HTQ.out] at this
          exact this
        go_wp2_with fail
        refine Calls.mono CM.out ?_
        rintro e w5 ⟨ka, kk, kc, rfl, hj5, ho5, S5⟩
        have hM5 : MI n F w g (.slice (some ⟨lg, 0, none⟩) m lc) (moreJ j x.1) w5 := ⟨⟨ka, kk, kc, hj5, ho5⟩, hls.save hj S5, hre.save S5 (by omega), Save.under hbe S5 (by omega) hbe.size⟩
        clear hj5 ho5 CM hoj
        cases tq with
        | false =>
          have HE := HMA.out.off hqp HXX.out HTQ.out
          have hmj : moreJ j x.1 = j := by unfold moreJ; rw [HTQ.out]; rfl
          rw [hmj] at hM5
          have HEQ : Hid (rdJ s = (j, a) ∧ a ≠ 0) := by show _ ∧ _; rw [HRD.out]; exact HE
          clear HE hls hre hbe S5 hj
          obtain ⟨⟨av, kv, cv, hj, hoj⟩, hls, hre, hbe⟩ := hM5
          have HOJ : Hid (ownsR w5 w.heap.size 84 (.slice av kv cv) j.l) := hoj
          have j0 := hj.c0
          have j1 := hj.c1
          have j2 := hj.c2
          have j3 := hj.c3
          have j4 := hj.c4
          have j5 := hj.c5
          have r0 := hre.c0
          have r1 := hre.c1
          have r2 := hre.c2
          have r3 := hre.c3
          have r4 := hre.c4
          have r5 := hre.c5
          have rf := hre.fr
          have Z4 : B6 (((((((w5).setCell ⟨w.heap.size, 0, none⟩ (.int .i64 n)).setCell ⟨w.heap.size, 1, none⟩ (.int .i64 j.t)).setCell ⟨w.heap.size, 2, none⟩ (.int .i64 j.v)).setCell ⟨w.heap.size, 3, none⟩ (.int .i64 j.s)).setCell ⟨w.heap.size, 4, none⟩ (.int .i64 j.st)).setCell ⟨w.heap.size, 5, none⟩ (.slice av kv cv)) w.heap.size (.int .i64 n) (.int .i64 j.t) (.int .i64 j.v) (.int .i64 j.s) (.int .i64 j.st) (.slice av kv cv) := hre.set (.int .i64 n) (.int .i64 j.t) (.int .i64 j.v) (.int .i64 j.s) (.int .i64 j.st) (.slice av kv cv)
          have B4 : Below w.heap.size w (((((((w5).setCell ⟨w.heap.size, 0, none⟩ (.int .i64 n)).setCell ⟨w.heap.size, 1, none⟩ (.int .i64 j.t)).setCell ⟨w.heap.size, 2, none⟩ (.int .i64 j.v)).setCell ⟨w.heap.size, 3, none⟩ (.int .i64 j.s)).setCell ⟨w.heap.size, 4, none⟩ (.int .i64 j.st)).setCell ⟨w.heap.size, 5, none⟩ (.slice av kv cv)) := below_set6 hbe (Nat.le_refl _) _ _ _ _ _ _
          have HO4 : Hid (ownsR (((((((w5).setCell ⟨w.heap.size, 0, none⟩ (.int .i64 n)).setCell ⟨w.heap.size, 1, none⟩ (.int .i64 j.t)).setCell ⟨w.heap.size, 2, none⟩ (.int .i64 j.v)).setCell ⟨w.heap.size, 3, none⟩ (.int .i64 j.s)).setCell ⟨w.heap.size, 4, none⟩ (.int .i64 j.st)).setCell ⟨w.heap.size, 5, none⟩ (.slice av kv cv)) w.heap.size 84 (.slice av kv cv) j.l) := ownsR_set6 HOJ.out (not_row6 hre HOJ.out) _ _ _ _ _ _
          clear hoj hls
          go_wp2
          obtain ⟨w9, hw9⟩ : ∃ w9, ((((((w5).setCell ⟨w.heap.size, 0, none⟩ (.int .i64 n)).setCell ⟨w.heap.size, 1, none⟩ (.int .i64 j.t)).setCell ⟨w.heap.size, 2, none⟩ (.int .i64 j.v)).setCell ⟨w.heap.size, 3, none⟩ (.int .i64 j.s)).setCell ⟨w.heap.size, 4, none⟩ (.int .i64 j.st)).setCell ⟨w.heap.size, 5, none⟩ (.slice av kv cv) = w9 := ⟨_, rfl⟩
          rw [hw9] at Z4 B4 HO4 ⊢
          clear hw9
          exact bodyPost_ret (ret_j3 rfl rfl rfl rfl Z4) rfl (rj_done HEQ.out HNB.out B4 HO4.out)

        | true =>
          obtain ⟨hn1, hrd⟩ := HMA.out.next hqp hs2 HXX.out HTQ.out
          obtain ⟨l1, l2, l3⟩ := rdF_len HMA.out.le (hrd.trans (by rfl : some x = some (x.1, x.2)))
          have hbd := rdF_bd HMA.out.le (hrd.trans (by rfl : some x = some (x.1, x.2)))
          have CF : Hid (∀ W, Calls Tryz.prog 29 #[.string x.1] W fun e w' => e = .returned (.tuple #[.string (frameT x.1), .bool true]) ∧ Below W.heap.size W w') := fun W => specFrame_ok x.1 W l2 l3
          have hln : ((frameT x.1).size : Int) = (x.2 : Int) - (a : Int) := by rw [l1]; omega
          have hct5 : w5.cell? ⟨lg, q, none⟩ = some (.string x.1) := by
            obtain ⟨t5, ht5, hct5, _⟩ := ownsS_cell hM5.list hlt
            have : (recs F)[q]? = some x.1 := by unfold recs; rw [List.getElem?_map, HXX.out]; rfl
            rw [this] at ht5
            rw [hct5, ← Option.some.inj ht5]
          clear l1 hls hre hbe S5 hj
          go_wp2_with fail
          refine Calls.mono (CF.out _) ?_
          rintro e w6 ⟨rfl, hb6⟩
          have hM6 := hM5.up hb6
          have hx2 : x.2 ≤ 20000 := by omega
          go_wp2
          go_roundw
          case rel => exact ⟨q + 1, x.2, moreJ j x.1, by go_num, by omega, by congr 1; omega, hx2, hn1, hM6⟩
          case measure => simp [intOf]; omega
    · have hqm : q = m := by omega
      have hq0 : 0 < q := by omega
      have HE := HMA.out.end hq0 (by rw [HLF.out]; omega)
      have HEQ : Hid (rdJ s = (j, a) ∧ a ≠ 0) := by show _ ∧ _; rw [HRD.out]; exact HE
      clear HE
      obtain ⟨⟨av, kv, cv, hj, hoj⟩, hls, hre, hbe⟩ := hM
      have HOJ : Hid (ownsR wr w.heap.size 84 (.slice av kv cv) j.l) := hoj
      have j0 := hj.c0
      have j1 := hj.c1
      have j2 := hj.c2
      have j3 := hj.c3
      have j4 := hj.c4
      have j5 := hj.c5
      have r0 := hre.c0
      have r1 := hre.c1
      have r2 := hre.c2
      have r3 := hre.c3
      have r4 := hre.c4
      have r5 := hre.c5
      have rf := hre.fr
      have Z4 : B6 (((((((wr).setCell ⟨w.heap.size, 0, none⟩ (.int .i64 n)).setCell ⟨w.heap.size, 1, none⟩ (.int .i64 j.t)).setCell ⟨w.heap.size, 2, none⟩ (.int .i64 j.v)).setCell ⟨w.heap.size, 3, none⟩ (.int .i64 j.s)).setCell ⟨w.heap.size, 4, none⟩ (.int .i64 j.st)).setCell ⟨w.heap.size, 5, none⟩ (.slice av kv cv)) w.heap.size (.int .i64 n) (.int .i64 j.t) (.int .i64 j.v) (.int .i64 j.s) (.int .i64 j.st) (.slice av kv cv) := hre.set (.int .i64 n) (.int .i64 j.t) (.int .i64 j.v) (.int .i64 j.s) (.int .i64 j.st) (.slice av kv cv)
      have B4 : Below w.heap.size w (((((((wr).setCell ⟨w.heap.size, 0, none⟩ (.int .i64 n)).setCell ⟨w.heap.size, 1, none⟩ (.int .i64 j.t)).setCell ⟨w.heap.size, 2, none⟩ (.int .i64 j.v)).setCell ⟨w.heap.size, 3, none⟩ (.int .i64 j.s)).setCell ⟨w.heap.size, 4, none⟩ (.int .i64 j.st)).setCell ⟨w.heap.size, 5, none⟩ (.slice av kv cv)) := below_set6 hbe (Nat.le_refl _) _ _ _ _ _ _
      have HO4 : Hid (ownsR (((((((wr).setCell ⟨w.heap.size, 0, none⟩ (.int .i64 n)).setCell ⟨w.heap.size, 1, none⟩ (.int .i64 j.t)).setCell ⟨w.heap.size, 2, none⟩ (.int .i64 j.v)).setCell ⟨w.heap.size, 3, none⟩ (.int .i64 j.s)).setCell ⟨w.heap.size, 4, none⟩ (.int .i64 j.st)).setCell ⟨w.heap.size, 5, none⟩ (.slice av kv cv)) w.heap.size 84 (.slice av kv cv) j.l) := ownsR_set6 HOJ.out (not_row6 hre HOJ.out) _ _ _ _ _ _
      clear hoj hls
      go_wp2
      obtain ⟨w9, hw9⟩ : ∃ w9, ((((((wr).setCell ⟨w.heap.size, 0, none⟩ (.int .i64 n)).setCell ⟨w.heap.size, 1, none⟩ (.int .i64 j.t)).setCell ⟨w.heap.size, 2, none⟩ (.int .i64 j.v)).setCell ⟨w.heap.size, 3, none⟩ (.int .i64 j.s)).setCell ⟨w.heap.size, 4, none⟩ (.int .i64 j.st)).setCell ⟨w.heap.size, 5, none⟩ (.slice av kv cv) = w9 := ⟨_, rfl⟩
      rw [hw9] at Z4 B4 HO4 ⊢
      clear hw9
      exact bodyPost_ret (ret_j3 rfl rfl rfl rfl Z4) rfl (rj_done HEQ.out HNB.out B4 HO4.out)

theorem specReadJournal_any (n : Int) (s : ByteArray) (w : World) (hs : s.size ≤ 1048576) :
    Calls Tryz.prog 6 #[.int .i64 n, .string s] w (RjP n s w) := by
  cases hn : numB n with
  | false => exact specRead_num n s w hs hn
  | true =>
    cases hF : frq s with
    | nil => exact specRead_none n s w hs hn hF
    | cons x rest =>
      obtain ⟨r0, e0⟩ := x
      have hs2 : s.size ≤ 20000 := by
        by_cases h : s.size ≤ 20000
        · exact h
        · rw [frq_long (by omega)] at hF; cases hF
      have hc := unf_chain s (s.size + 1) 0
      have hc2 : ChainF s 0 ((r0, e0) :: rest) := by rw [← hF, frq_in hs2]; exact hc
      have hz := rdF_sz hc2.1
      have hr0s : r0.size ≤ 20000 := by omega
      cases h2 : twoB 66 r0 with
      | false => exact specRead_two n s w hs hs2 hn r0 e0 rest hF hr0s h2
      | true =>
        cases h3 : okL (twoX r0) (twoY r0) [] with
        | false => exact specRead_log n s w hs hs2 hn r0 e0 rest hF hr0s h2 h3
        | true => exact specRead_loop n s w hs hs2 hn r0 e0 rest hF hr0s (by unfold begB; rw [h2, h3]; rfl)
end Go.Proofs.YtijmaplejpnggaaGreatDoor

namespace Go.Proofs.YtijmaplejpnggaaGreatDoor
open Go Go.RowKit

theorem goJ_good : ∀ (l : List (ByteArray × Nat)) (z : Jn × Nat), (∀ x ∈ l, 1 ≤ x.2 ∧ x.2 ≤ 20000) → JGood z → JGood (goJ z l)
  | [], _, _, h => h
  | x :: l, z, hl, h => by
    unfold goJ
    split
    · rename_i hb
      exact goJ_good l _ (fun y hy => hl y (List.mem_cons_of_mem _ hy)) (h.next hb (hl x List.mem_cons_self).1 (hl x List.mem_cons_self).2)
    · exact h
theorem chain_mem (s : ByteArray) (hs : s.size ≤ 20000) : ∀ (l : List (ByteArray × Nat)) (a : Nat), a ≤ s.size → ChainF s a l → ∀ x ∈ l, 1 ≤ x.2 ∧ x.2 ≤ 20000
  | [], _, _, _, x, hx => by cases hx
  | y :: l, a, ha, hc, x, hx => by
    have hbd := rdF_bd ha (hc.1.trans (by rfl : some y = some (y.1, y.2)))
    rcases List.mem_cons.1 hx with rfl | h
    · omega
    · exact chain_mem s hs l y.2 hbd.2 hc.2 x h
theorem rdJ_good (s : ByteArray) : JGood (rdJ s) := by
  unfold rdJ
  refine goJ_good _ _ ?_ JGood.init
  by_cases h : s.size ≤ 20000
  · rw [frq_in h]
    exact chain_mem s h _ 0 (Nat.zero_le _) (unf_chain s _ 0)
  · rw [frq_long (by omega)]
    intro x hx; cases hx
theorem rjJ_len (n : Int) (s : ByteArray) : (rjJ n s).l.length ≤ 60 := by
  unfold rjJ
  split
  · exact (rdJ_good s).len
  · simp

set_option maxRecDepth 10000 in
set_option maxHeartbeats 4000000 in
theorem law_ReadJournal (n : Int) (s : ByteArray) (w : World) (hs0 : s.size ≤ maxLen) (hp : PowIs w) (ht : TableIs w) (he : ErrIs w) :
    Calls Tryz.prog 3 #[.int .i64 n, .string s] w fun e w' => e = .returned (.bool true) ∧ Below w.heap.size w w' := by
  unfold maxLen at hs0
  by_cases hs : (1048576 : Int) < (s.size : Int)
  · go_enter Tryz.func3, Tryz.ntmps3
    go_wp2
    go_ret
    exact ⟨rfl, Below.refl _ _⟩
  · have HS : Hid (s.size ≤ 1048576) := by show _ ≤ _; omega
    have HP : Hid (PowIs w) := hp
    have HT : Hid (TableIs w) := ht
    have HE : Hid (ErrIs w) := he
    obtain ⟨q, HQ⟩ : ∃ q, Hid (rjB n s = q) := ⟨_, rfl⟩
    obtain ⟨jn, H1⟩ : ∃ q, Hid (rjN n s = q) := ⟨_, rfl⟩
    obtain ⟨jt, H2⟩ : ∃ q, Hid ((rjJ n s).t = q) := ⟨_, rfl⟩
    obtain ⟨jv, H3⟩ : ∃ q, Hid ((rjJ n s).v = q) := ⟨_, rfl⟩
    obtain ⟨js, H4⟩ : ∃ q, Hid ((rjJ n s).s = q) := ⟨_, rfl⟩
    obtain ⟨ju, H5⟩ : ∃ q, Hid ((rjJ n s).st = q) := ⟨_, rfl⟩
    obtain ⟨jp, H6⟩ : ∃ q, Hid (rjP n s = q) := ⟨_, rfl⟩
    obtain ⟨L, H7⟩ : ∃ q, Hid ((rjJ n s).l = q) := ⟨_, rfl⟩
    have HLO : Hid (L.length ≤ 60) := by show _ ≤ _; rw [← H7.out]; exact rjJ_len n s
    have cv : ∀ W e w', RjP n s W e w' → ∃ v, e = .returned (.tuple #[jV jn jt jv js ju v, .int .i64 (jp : Int), .bool q]) ∧ ownsR w' W.heap.size 84 v L ∧ Below W.heap.size W w' := fun W e w' h => by
      obtain ⟨a, k, c, h1, h2, h3⟩ := h
      rw [HQ.out, H1.out, H2.out, H3.out, H4.out, H5.out, H6.out] at h1
      rw [H7.out] at h2
      exact ⟨_, h1, h2, h3⟩
    have CS : Hid (∀ W, Calls Tryz.prog 6 #[.int .i64 n, .string s] W fun e w' => ∃ v, e = .returned (.tuple #[jV jn jt jv js ju v, .int .i64 (jp : Int), .bool q]) ∧ ownsR w' W.heap.size 84 v L ∧ Below W.heap.size W w') := fun W => (specReadJournal_any n s W HS.out).mono fun e w' h => cv W e w' h
    have CI : Hid (∀ W, PowIs W → TableIs W → ErrIs W → Calls Tryz.prog 7 #[.int .i64 n, .string s] W fun e w' => ∃ v, e = .returned (.tuple #[jV jn jt jv js ju v, .int .i64 (jp : Int), .bool q]) ∧ ownsR w' W.heap.size 84 v L ∧ Below W.heap.size W w') := fun W h1 h2 h3 => (readJournal2 n s W HS.out h1 h2 h3).mono fun e w' h => cv W e w' h
    clear hp ht he cv
    have B0 : Below w.heap.size w w := Below.refl _ _
    go_enter Tryz.func3, Tryz.ntmps3
    go_wp2_with fail
    refine (CS.out _).mono ?_
    rintro e w1 ⟨v1, rfl, ho1, hb1⟩
    obtain ⟨a1, n1, d1, rfl⟩ := ho1.slice3
    have B1 : Below w.heap.size w w1 := B0.trans (hb1.mono B0.size)
    have O_w_1 : Hid (ownsR w1 w.heap.size 84 (.slice a1 n1 d1) (L)) := ho1.mono B0.size
    clear B0 hb1 ho1
    go_wp2_with fail
    refine (CI.out _ ((HP.out.below B1).below (ba (Below.refl _ _) _)) ((HT.out.below B1).below (ba (Below.refl _ _) _)) ((HE.out.below B1).below (ba (Below.refl _ _) _))).mono ?_
    rintro e w2 ⟨v2, rfl, ho2, hb2⟩
    obtain ⟨a2, n2, d2, rfl⟩ := ho2.slice3
    have ap_w_g := apart_new (O_w_1.out.alloc _) ho2
    have ap_g_w := apart_old (O_w_1.out.alloc _) ho2
    have ac_w_g := cell_apart (p := ⟨w1.heap.size, 0, none⟩) (u := .int .i64 jn) (w := (w1.alloc (Obj.cells #[.int .i64 jn, .int .i64 jt, .int .i64 jv, .int .i64 js, .int .i64 ju, .slice a1 n1 d1] 26))) (by simp [go_sem]) ho2
    obtain ⟨c_w0_2, c_w1_2, c_w2_2, c_w3_2, c_w4_2, c_w5_2⟩ := cells6_new hb2
    have ac_w_w := cell_apart_new O_w_1.out
    have hb2 := below_new hb2
    have O_w_2 : Hid (ownsR w2 w.heap.size 84 (.slice a1 n1 d1) (L)) := O_w_1.out.all hb2
    have B2 : Below w.heap.size w w2 := B1.trans (hb2.mono B1.size)
    have O_g_2 : Hid (ownsR w2 w.heap.size 84 (.slice a2 n2 d2) (L)) := ho2.mono (by have := B1.size; simp; omega)
    clear O_w_1 B1 hb2 ho2
    have sz_w : w1.heap.size < w2.heap.size := World.block_lt_of_cell? _ _ c_w0_2
    go_wp2_with fail
    refine (eqJournal_any jn jt jv js ju _ _ L _ (ownsR.reads (O_g_2.out.alloc _)) (ownsR.reads (O_w_2.out.alloc _)) (Nat.le_trans HLO.out (by decide))).mono ?_
    rintro e w3 ⟨rfl, hb3⟩
    obtain ⟨c_g0_3, c_g1_3, c_g2_3, c_g3_3, c_g4_3, c_g5_3⟩ := cells6_new hb3
    have ac_g_w := cell_apart_new O_w_2.out
    have ac_g_g := cell_apart_new O_g_2.out
    have hb3 := below_new hb3
    have c_w0_3 := cell_up hb3 c_w0_2
    have c_w1_3 := cell_up hb3 c_w1_2
    have c_w2_3 := cell_up hb3 c_w2_2
    have c_w3_3 := cell_up hb3 c_w3_2
    have c_w4_3 := cell_up hb3 c_w4_2
    have c_w5_3 := cell_up hb3 c_w5_2
    have O_w_3 : Hid (ownsR w3 w.heap.size 84 (.slice a1 n1 d1) (L)) := O_w_2.out.all hb3
    have O_g_3 : Hid (ownsR w3 w.heap.size 84 (.slice a2 n2 d2) (L)) := O_g_2.out.all hb3
    have B3 : Below w.heap.size w w3 := B2.trans (hb3.mono B2.size)
    clear c_w0_2 c_w1_2 c_w2_2 c_w3_2 c_w4_2 c_w5_2 sz_w O_w_2 O_g_2 B2 hb3
    go_wp2_with fail
    refine (markJournal_any (n := jn) (t := jt) (v := jv) (s := js) (st := ju) (x := 1) O_g_3.out (Nat.le_trans HLO.out (by decide)) (by decide) (by decide)).mono ?_
    rintro e w4 ⟨rfl, hm4, hg4⟩
    have c_w0_4 := cell_other c_w0_3 hg4 ac_w_g
    have c_w1_4 := cell_other c_w1_3 hg4 ac_w_g
    have c_w2_4 := cell_other c_w2_3 hg4 ac_w_g
    have c_w3_4 := cell_other c_w3_3 hg4 ac_w_g
    have c_w4_4 := cell_other c_w4_3 hg4 ac_w_g
    have c_w5_4 := cell_other c_w5_3 hg4 ac_w_g
    have c_g0_4 := cell_other c_g0_3 hg4 ac_g_g
    have c_g1_4 := cell_other c_g1_3 hg4 ac_g_g
    have c_g2_4 := cell_other c_g2_3 hg4 ac_g_g
    have c_g3_4 := cell_other c_g3_3 hg4 ac_g_g
    have c_g4_4 := cell_other c_g4_3 hg4 ac_g_g
    have c_g5_4 := cell_other c_g5_3 hg4 ac_g_g
    have O_w_4 : Hid (ownsR w4 w.heap.size 84 (.slice a1 n1 d1) (L)) := O_w_3.out.other hg4 ap_w_g
    have B4 : Below w.heap.size w w4 := below_marked B3 O_g_3.out hg4
    have O_g_4 : Hid (ownsR w4 w.heap.size 84 (.slice a2 n2 d2) (marksEn 1 L.length)) := hm4
    clear c_w0_3 c_w1_3 c_w2_3 c_w3_3 c_w4_3 c_w5_3 c_g0_3 c_g1_3 c_g2_3 c_g3_3 c_g4_3 c_g5_3 O_w_3 B3 hm4 O_g_3 hg4
    go_wp2_with fail
    refine (heldJournal_any (n := jn) (t := jt) (v := jv) (s := js) (st := ju) (x := 1) (ownsR.reads O_g_4.out) (Nat.le_trans HLO.out (by decide)) (by decide) (by decide)).mono ?_
    rintro e w5 ⟨rfl, hb5⟩
    have c_w0_5 := cell_up hb5 c_w0_4
    have c_w1_5 := cell_up hb5 c_w1_4
    have c_w2_5 := cell_up hb5 c_w2_4
    have c_w3_5 := cell_up hb5 c_w3_4
    have c_w4_5 := cell_up hb5 c_w4_4
    have c_w5_5 := cell_up hb5 c_w5_4
    have c_g0_5 := cell_up hb5 c_g0_4
    have c_g1_5 := cell_up hb5 c_g1_4
    have c_g2_5 := cell_up hb5 c_g2_4
    have c_g3_5 := cell_up hb5 c_g3_4
    have c_g4_5 := cell_up hb5 c_g4_4
    have c_g5_5 := cell_up hb5 c_g5_4
    have O_w_5 : Hid (ownsR w5 w.heap.size 84 (.slice a1 n1 d1) (L)) := O_w_4.out.all hb5
    have O_g_5 : Hid (ownsR w5 w.heap.size 84 (.slice a2 n2 d2) (marksEn 1 L.length)) := O_g_4.out.all hb5
    have B5 : Below w.heap.size w w5 := B4.trans (hb5.mono B4.size)
    clear c_w0_4 c_w1_4 c_w2_4 c_w3_4 c_w4_4 c_w5_4 c_g0_4 c_g1_4 c_g2_4 c_g3_4 c_g4_4 c_g5_4 O_w_4 O_g_4 B4 hb5
    go_wp2_with fail
    refine (CI.out _ (HP.out.below B5) (HT.out.below B5) (HE.out.below B5)).mono ?_
    rintro e w6 ⟨v6, rfl, ho6, hb6⟩
    obtain ⟨a6, n6, d6, rfl⟩ := ho6.slice3
    have ap_w_h := apart_new O_w_5.out ho6
    have ap_h_w := apart_old O_w_5.out ho6
    have ap_g_h := apart_new O_g_5.out ho6
    have ap_h_g := apart_old O_g_5.out ho6
    have ac_w_h := cell_apart c_w0_5 ho6
    have ac_g_h := cell_apart c_g0_5 ho6
    have c_w0_6 := cell_up hb6 c_w0_5
    have c_w1_6 := cell_up hb6 c_w1_5
    have c_w2_6 := cell_up hb6 c_w2_5
    have c_w3_6 := cell_up hb6 c_w3_5
    have c_w4_6 := cell_up hb6 c_w4_5
    have c_w5_6 := cell_up hb6 c_w5_5
    have c_g0_6 := cell_up hb6 c_g0_5
    have c_g1_6 := cell_up hb6 c_g1_5
    have c_g2_6 := cell_up hb6 c_g2_5
    have c_g3_6 := cell_up hb6 c_g3_5
    have c_g4_6 := cell_up hb6 c_g4_5
    have c_g5_6 := cell_up hb6 c_g5_5
    have O_w_6 : Hid (ownsR w6 w.heap.size 84 (.slice a1 n1 d1) (L)) := O_w_5.out.all hb6
    have O_g_6 : Hid (ownsR w6 w.heap.size 84 (.slice a2 n2 d2) (marksEn 1 L.length)) := O_g_5.out.all hb6
    have B6 : Below w.heap.size w w6 := B5.trans (hb6.mono B5.size)
    have O_h_6 : Hid (ownsR w6 w.heap.size 84 (.slice a6 n6 d6) (L)) := ho6.mono B5.size
    clear c_w0_5 c_w1_5 c_w2_5 c_w3_5 c_w4_5 c_w5_5 c_g0_5 c_g1_5 c_g2_5 c_g3_5 c_g4_5 c_g5_5 O_w_5 O_g_5 B5 hb6 ho6
    have sz_w : w1.heap.size < w6.heap.size := World.block_lt_of_cell? _ _ c_w0_6
    have sz_g : w2.heap.size < w6.heap.size := World.block_lt_of_cell? _ _ c_g0_6
    go_wp2_with fail
    refine (eqJournal_any jn jt jv js ju _ _ L _ (ownsR.reads (O_h_6.out.alloc _)) (ownsR.reads (O_w_6.out.alloc _)) (Nat.le_trans HLO.out (by decide))).mono ?_
    rintro e w7 ⟨rfl, hb7⟩
    obtain ⟨c_h0_7, c_h1_7, c_h2_7, c_h3_7, c_h4_7, c_h5_7⟩ := cells6_new hb7
    have ac_h_w := cell_apart_new O_w_6.out
    have ac_h_g := cell_apart_new O_g_6.out
    have ac_h_h := cell_apart_new O_h_6.out
    have hb7 := below_new hb7
    have c_w0_7 := cell_up hb7 c_w0_6
    have c_w1_7 := cell_up hb7 c_w1_6
    have c_w2_7 := cell_up hb7 c_w2_6
    have c_w3_7 := cell_up hb7 c_w3_6
    have c_w4_7 := cell_up hb7 c_w4_6
    have c_w5_7 := cell_up hb7 c_w5_6
    have c_g0_7 := cell_up hb7 c_g0_6
    have c_g1_7 := cell_up hb7 c_g1_6
    have c_g2_7 := cell_up hb7 c_g2_6
    have c_g3_7 := cell_up hb7 c_g3_6
    have c_g4_7 := cell_up hb7 c_g4_6
    have c_g5_7 := cell_up hb7 c_g5_6
    have O_w_7 : Hid (ownsR w7 w.heap.size 84 (.slice a1 n1 d1) (L)) := O_w_6.out.all hb7
    have O_g_7 : Hid (ownsR w7 w.heap.size 84 (.slice a2 n2 d2) (marksEn 1 L.length)) := O_g_6.out.all hb7
    have O_h_7 : Hid (ownsR w7 w.heap.size 84 (.slice a6 n6 d6) (L)) := O_h_6.out.all hb7
    have B7 : Below w.heap.size w w7 := B6.trans (hb7.mono B6.size)
    clear c_w0_6 c_w1_6 c_w2_6 c_w3_6 c_w4_6 c_w5_6 c_g0_6 c_g1_6 c_g2_6 c_g3_6 c_g4_6 c_g5_6 sz_w sz_g O_w_6 O_g_6 O_h_6 B6 hb7
    go_wp2_with fail
    refine (heldJournal_any (n := jn) (t := jt) (v := jv) (s := js) (st := ju) (x := 1) (ownsR.reads O_g_7.out) (Nat.le_trans HLO.out (by decide)) (by decide) (by decide)).mono ?_
    rintro e w8 ⟨rfl, hb8⟩
    have c_w0_8 := cell_up hb8 c_w0_7
    have c_w1_8 := cell_up hb8 c_w1_7
    have c_w2_8 := cell_up hb8 c_w2_7
    have c_w3_8 := cell_up hb8 c_w3_7
    have c_w4_8 := cell_up hb8 c_w4_7
    have c_w5_8 := cell_up hb8 c_w5_7
    have c_g0_8 := cell_up hb8 c_g0_7
    have c_g1_8 := cell_up hb8 c_g1_7
    have c_g2_8 := cell_up hb8 c_g2_7
    have c_g3_8 := cell_up hb8 c_g3_7
    have c_g4_8 := cell_up hb8 c_g4_7
    have c_g5_8 := cell_up hb8 c_g5_7
    have c_h0_8 := cell_up hb8 c_h0_7
    have c_h1_8 := cell_up hb8 c_h1_7
    have c_h2_8 := cell_up hb8 c_h2_7
    have c_h3_8 := cell_up hb8 c_h3_7
    have c_h4_8 := cell_up hb8 c_h4_7
    have c_h5_8 := cell_up hb8 c_h5_7
    have O_w_8 : Hid (ownsR w8 w.heap.size 84 (.slice a1 n1 d1) (L)) := O_w_7.out.all hb8
    have O_g_8 : Hid (ownsR w8 w.heap.size 84 (.slice a2 n2 d2) (marksEn 1 L.length)) := O_g_7.out.all hb8
    have O_h_8 : Hid (ownsR w8 w.heap.size 84 (.slice a6 n6 d6) (L)) := O_h_7.out.all hb8
    have B8 : Below w.heap.size w w8 := B7.trans (hb8.mono B7.size)
    clear c_w0_7 c_w1_7 c_w2_7 c_w3_7 c_w4_7 c_w5_7 c_g0_7 c_g1_7 c_g2_7 c_g3_7 c_g4_7 c_g5_7 c_h0_7 c_h1_7 c_h2_7 c_h3_7 c_h4_7 c_h5_7 O_w_7 O_g_7 O_h_7 B7 hb8
    go_wp2
    go_ret
    exact ⟨rfl, B8⟩
end Go.Proofs.YtijmaplejpnggaaGreatDoor
