/-
  Journals: one more record, as the program takes it: the walk. Journals: a record that is none of theirs, as the program takes it: the walk. Journals: an entry more, as the program takes it: the walk. Journals: a file that is read, as the program does it: the walk over its frames.
-/
import Derived.Test.YtgpojfkdcdgloaaGreatDoorG12
import Derived.Test.YtgpojfkdcdgloaaGreatDoorG8
import Derived.Test.YtgpojfkdcdgloaaGreatDoorG2
import Derived.BigRegion
namespace Go.Proofs.YtgpojfkdcdgloaaGreatDoor
open Go Go.RowKit

/-- What a journal is behind one more record. -/
def toldB (j : Jn) (r : ByteArray) (first : Bool) : Bool := if first then begB r else tellB j r
def toldJ (j : Jn) (r : ByteArray) (first : Bool) : Jn := if first then begJ r else tellJ j r
/-- What is answered of one more record. -/
def ToldP (n : Int) (j : Jn) (r : ByteArray) (first : Bool) (B : Nat) (w : World) (e : Ending) (w' : World) : Prop :=
  ∃ (n' t' v' s' st' : Int) (a' : Option Addr) (k' c' : Nat), e = .returned (.tuple #[jV n' t' v' s' st' (.slice a' k' c'), .bool (toldB j r first)]) ∧ Below w.heap.size w w' ∧
    (toldB j r first = true → n' = n ∧ t' = (toldJ j r first).t ∧ v' = (toldJ j r first).v ∧ s' = (toldJ j r first).s ∧ st' = (toldJ j r first).st ∧ ownsR w' B 110 (.slice a' k' c') (toldJ j r first).l)

set_option maxRecDepth 10000 in
set_option maxHeartbeats 4000000 in
theorem told_first (n : Int) (j : Jn) (ao : Option Addr) (k c : Nat) (r : ByteArray) (B : Nat) (w : World) (hr : r.size ≤ 20000) (ht : j.t = 0) (hv : j.v = 0) :
    Calls Tryz.prog 76 #[jV n j.t j.v j.s j.st (.slice ao k c), .string r, .bool true] w (ToldP n j r true B w) := by
  have HT : Hid (j.t = 0) := ht
  have HV : Hid (j.v = 0) := hv
  clear ht hv
  obtain ⟨q, HQ⟩ : ∃ q, Hid (begB r = q) := ⟨_, rfl⟩
  go_enter Tryz.func76, Tryz.ntmps76
  go_wp2_with fail
  have J0 := (B6.new w (.int .i64 n) (.int .i64 j.t) (.int .i64 j.v) (.int .i64 j.s) (.int .i64 j.st) (.slice ao k c)).alloc (.cells #[.int .i64 0, .int .i64 0, .int .i64 0, .int .i64 0, .int .i64 0, .slice none 0 0] 30)
  have Z0 : B6 ((w.alloc (.cells #[.int .i64 n, .int .i64 j.t, .int .i64 j.v, .int .i64 j.s, .int .i64 j.st, .slice ao k c] 30)).alloc (.cells #[.int .i64 0, .int .i64 0, .int .i64 0, .int .i64 0, .int .i64 0, .slice none 0 0] 30)) (w.heap.size + 1) (.int .i64 0) (.int .i64 0) (.int .i64 0) (.int .i64 0) (.int .i64 0) (.slice none 0 0) := by
    have := B6.new (w.alloc (.cells #[.int .i64 n, .int .i64 j.t, .int .i64 j.v, .int .i64 j.s, .int .i64 j.st, .slice ao k c] 30)) (.int .i64 0) (.int .i64 0) (.int .i64 0) (.int .i64 0) (.int .i64 0) (.slice none 0 0)
    simpa using this
  have B0 : Below w.heap.size w ((w.alloc (.cells #[.int .i64 n, .int .i64 j.t, .int .i64 j.v, .int .i64 j.s, .int .i64 j.st, .slice ao k c] 30)).alloc (.cells #[.int .i64 0, .int .i64 0, .int .i64 0, .int .i64 0, .int .i64 0, .slice none 0 0] 30)) := ba (ba (Below.refl _ _) _) _
  obtain ⟨W, hW⟩ : ∃ W, (w.alloc (.cells #[.int .i64 n, .int .i64 j.t, .int .i64 j.v, .int .i64 j.s, .int .i64 j.st, .slice ao k c] 30)).alloc (.cells #[.int .i64 0, .int .i64 0, .int .i64 0, .int .i64 0, .int .i64 0, .slice none 0 0] 30) = W := ⟨_, rfl⟩
  rw [hW] at J0 Z0 B0 ⊢
  clear hW
  refine Calls.mono (begun_any n j.t j.v j.s j.st ao k c r _ hr) ?_
  rw [HQ.out]
  rintro e w1 ⟨x, y, rfl, hb1, hxy⟩
  have HXY : Hid (twoB 66 r = true → x = twoX r ∧ y = twoY r) := hxy
  clear hxy
  have Z1 := Z0.up hb1
  have B1 := Below.on B0 hb1
  clear hb1 Z0 B0 J0
  have a0 := Z1.c0
  have a1 := Z1.c1
  have a2 := Z1.c2
  have a3 := Z1.c3
  have a4 := Z1.c4
  have a5 := Z1.c5
  have af := Z1.fr
  have Z4 : B6 (((((((w1).setCell ⟨w.heap.size + 1, 0, none⟩ (.int .i64 n)).setCell ⟨w.heap.size + 1, 1, none⟩ (.int .i64 j.t)).setCell ⟨w.heap.size + 1, 2, none⟩ (.int .i64 j.v)).setCell ⟨w.heap.size + 1, 3, none⟩ (.int .i64 x)).setCell ⟨w.heap.size + 1, 4, none⟩ (.int .i64 y)).setCell ⟨w.heap.size + 1, 5, none⟩ (.slice none 0 0)) (w.heap.size + 1) (.int .i64 n) (.int .i64 j.t) (.int .i64 j.v) (.int .i64 x) (.int .i64 y) (.slice none 0 0) := Z1.set (.int .i64 n) (.int .i64 j.t) (.int .i64 j.v) (.int .i64 x) (.int .i64 y) (.slice none 0 0)
  have B4 : Below w.heap.size w (((((((w1).setCell ⟨w.heap.size + 1, 0, none⟩ (.int .i64 n)).setCell ⟨w.heap.size + 1, 1, none⟩ (.int .i64 j.t)).setCell ⟨w.heap.size + 1, 2, none⟩ (.int .i64 j.v)).setCell ⟨w.heap.size + 1, 3, none⟩ (.int .i64 x)).setCell ⟨w.heap.size + 1, 4, none⟩ (.int .i64 y)).setCell ⟨w.heap.size + 1, 5, none⟩ (.slice none 0 0)) := below_set6 B1 (Nat.le_succ _) _ _ _ _ _ _
  go_wp2
  obtain ⟨w4, hw4⟩ : ∃ w4, ((((((w1).setCell ⟨w.heap.size + 1, 0, none⟩ (.int .i64 n)).setCell ⟨w.heap.size + 1, 1, none⟩ (.int .i64 j.t)).setCell ⟨w.heap.size + 1, 2, none⟩ (.int .i64 j.v)).setCell ⟨w.heap.size + 1, 3, none⟩ (.int .i64 x)).setCell ⟨w.heap.size + 1, 4, none⟩ (.int .i64 y)).setCell ⟨w.heap.size + 1, 5, none⟩ (.slice none 0 0) = w4 := ⟨_, rfl⟩
  rw [hw4] at Z4 B4 ⊢
  clear hw4
  refine bodyPost_ret (ret_j2 rfl rfl rfl Z4) rfl ⟨n, j.t, j.v, x, y, none, 0, 0, ?_, B4, fun hq => ?_⟩
  · unfold toldB; rw [if_pos rfl, HQ.out]; rfl
  · unfold toldB at hq
    rw [if_pos rfl] at hq
    have h2 : twoB 66 r = true := by unfold begB at hq; simp only [Bool.and_eq_true] at hq; exact hq.1
    unfold toldJ
    rw [if_pos rfl]
    exact ⟨rfl, HT.out, HV.out, (HXY.out h2).1, (HXY.out h2).2, ownsR_nil _ _ _⟩

set_option maxRecDepth 10000 in
set_option maxHeartbeats 4000000 in
theorem told_head (n : Int) (j : Jn) (ao : Option Addr) (k c : Nat) (r : ByteArray) (B : Nat) (w : World) (ho : ownsR w B 110 (.slice ao k c) j.l) (hr : r.size ≤ 20000) (hk : kAt r 0 = 72) :
    Calls Tryz.prog 76 #[jV n j.t j.v j.s j.st (.slice ao k c), .string r, .bool false] w (ToldP n j r false B w) := by
  have HK : Hid (kAt r 0 = 72) := hk
  have HO : Hid (ownsR w B 110 (.slice ao k c) j.l) := ho
  have CH : Hid (∀ W, Calls Tryz.prog 93 #[.string r, .string ⟨#[72]⟩] W fun e w' => e = .returned (.bool true) ∧ w' = W) := fun W => by
    have := hasH_any r W hr
    rw [decide_eq_true HK.out] at this
    exact this
  clear hk ho
  obtain ⟨q, HQ⟩ : ∃ q, Hid ((twoB 72 r && hdB (twoX r) (twoY r)) = q) := ⟨_, rfl⟩
  go_enter Tryz.func76, Tryz.ntmps76
  go_wp2_with fail
  have J0 := (B6.new w (.int .i64 n) (.int .i64 j.t) (.int .i64 j.v) (.int .i64 j.s) (.int .i64 j.st) (.slice ao k c)).alloc (.cells #[.int .i64 0, .int .i64 0, .int .i64 0, .int .i64 0, .int .i64 0, .slice none 0 0] 30)
  have Z0 : B6 ((w.alloc (.cells #[.int .i64 n, .int .i64 j.t, .int .i64 j.v, .int .i64 j.s, .int .i64 j.st, .slice ao k c] 30)).alloc (.cells #[.int .i64 0, .int .i64 0, .int .i64 0, .int .i64 0, .int .i64 0, .slice none 0 0] 30)) (w.heap.size + 1) (.int .i64 0) (.int .i64 0) (.int .i64 0) (.int .i64 0) (.int .i64 0) (.slice none 0 0) := by
    have := B6.new (w.alloc (.cells #[.int .i64 n, .int .i64 j.t, .int .i64 j.v, .int .i64 j.s, .int .i64 j.st, .slice ao k c] 30)) (.int .i64 0) (.int .i64 0) (.int .i64 0) (.int .i64 0) (.int .i64 0) (.slice none 0 0)
    simpa using this
  have B0 : Below w.heap.size w ((w.alloc (.cells #[.int .i64 n, .int .i64 j.t, .int .i64 j.v, .int .i64 j.s, .int .i64 j.st, .slice ao k c] 30)).alloc (.cells #[.int .i64 0, .int .i64 0, .int .i64 0, .int .i64 0, .int .i64 0, .slice none 0 0] 30)) := ba (ba (Below.refl _ _) _) _
  obtain ⟨W, hW⟩ : ∃ W, (w.alloc (.cells #[.int .i64 n, .int .i64 j.t, .int .i64 j.v, .int .i64 j.s, .int .i64 j.st, .slice ao k c] 30)).alloc (.cells #[.int .i64 0, .int .i64 0, .int .i64 0, .int .i64 0, .int .i64 0, .slice none 0 0] 30) = W := ⟨_, rfl⟩
  rw [hW] at J0 Z0 B0 ⊢
  clear hW
  refine Calls.mono (CH.out _) ?_
  rintro e w' ⟨rfl, hw⟩
  have hw2 := hw.symm
  subst hw2
  have i0 := J0.c0
  have i1 := J0.c1
  have i2 := J0.c2
  have i3 := J0.c3
  have i4 := J0.c4
  have i5 := J0.c5
  go_wp2_with fail
  refine Calls.mono (headed_any n j.t j.v j.s j.st ao k c r _ hr) ?_
  rw [HQ.out]
  rintro e w1 ⟨x, y, rfl, hb1, hxy⟩
  have HXY : Hid (twoB 72 r = true → x = twoX r ∧ y = twoY r) := hxy
  clear hxy
  have Z1 := Z0.up hb1
  have B1 := Below.on B0 hb1
  clear hb1 Z0 B0 J0 i0 i1 i2 i3 i4 i5
  have a0 := Z1.c0
  have a1 := Z1.c1
  have a2 := Z1.c2
  have a3 := Z1.c3
  have a4 := Z1.c4
  have a5 := Z1.c5
  have af := Z1.fr
  have Z4 : B6 (((((((w1).setCell ⟨w.heap.size + 1, 0, none⟩ (.int .i64 n)).setCell ⟨w.heap.size + 1, 1, none⟩ (.int .i64 x)).setCell ⟨w.heap.size + 1, 2, none⟩ (.int .i64 y)).setCell ⟨w.heap.size + 1, 3, none⟩ (.int .i64 j.s)).setCell ⟨w.heap.size + 1, 4, none⟩ (.int .i64 j.st)).setCell ⟨w.heap.size + 1, 5, none⟩ (.slice ao k c)) (w.heap.size + 1) (.int .i64 n) (.int .i64 x) (.int .i64 y) (.int .i64 j.s) (.int .i64 j.st) (.slice ao k c) := Z1.set (.int .i64 n) (.int .i64 x) (.int .i64 y) (.int .i64 j.s) (.int .i64 j.st) (.slice ao k c)
  have B4 : Below w.heap.size w (((((((w1).setCell ⟨w.heap.size + 1, 0, none⟩ (.int .i64 n)).setCell ⟨w.heap.size + 1, 1, none⟩ (.int .i64 x)).setCell ⟨w.heap.size + 1, 2, none⟩ (.int .i64 y)).setCell ⟨w.heap.size + 1, 3, none⟩ (.int .i64 j.s)).setCell ⟨w.heap.size + 1, 4, none⟩ (.int .i64 j.st)).setCell ⟨w.heap.size + 1, 5, none⟩ (.slice ao k c)) := below_set6 B1 (Nat.le_succ _) _ _ _ _ _ _
  go_wp2
  obtain ⟨w4, hw4⟩ : ∃ w4, ((((((w1).setCell ⟨w.heap.size + 1, 0, none⟩ (.int .i64 n)).setCell ⟨w.heap.size + 1, 1, none⟩ (.int .i64 x)).setCell ⟨w.heap.size + 1, 2, none⟩ (.int .i64 y)).setCell ⟨w.heap.size + 1, 3, none⟩ (.int .i64 j.s)).setCell ⟨w.heap.size + 1, 4, none⟩ (.int .i64 j.st)).setCell ⟨w.heap.size + 1, 5, none⟩ (.slice ao k c) = w4 := ⟨_, rfl⟩
  rw [hw4] at Z4 B4 ⊢
  clear hw4
  refine bodyPost_ret (ret_j2 rfl rfl rfl Z4) rfl ⟨n, x, y, j.s, j.st, ao, k, c, ?_, B4, fun hq => ?_⟩
  · unfold toldB tellB; rw [if_neg (by simp), if_pos HK.out, HQ.out]; rfl
  · unfold toldB tellB at hq
    rw [if_neg (by simp), if_pos HK.out] at hq
    simp only [Bool.and_eq_true] at hq
    unfold toldJ tellJ
    rw [if_neg (by simp), if_pos HK.out]
    exact ⟨rfl, (HXY.out hq.1).1, (HXY.out hq.1).2, rfl, rfl, HO.out.all B4⟩

end Go.Proofs.YtgpojfkdcdgloaaGreatDoor

namespace Go.Proofs.YtgpojfkdcdgloaaGreatDoor
open Go Go.RowKit

set_option maxRecDepth 10000 in
set_option maxHeartbeats 4000000 in
theorem told_not (n : Int) (j : Jn) (ao : Option Addr) (k c : Nat) (r : ByteArray) (B : Nat) (w : World) (hr : r.size ≤ 20000) (hk : kAt r 0 ≠ 72) (he : rdB r = false) :
    Calls Tryz.prog 76 #[jV n j.t j.v j.s j.st (.slice ao k c), .string r, .bool false] w (ToldP n j r false B w) := by
  have HK : Hid (kAt r 0 ≠ 72) := hk
  have HE : Hid (rdB r = false) := he
  have CH : Hid (∀ W, Calls Tryz.prog 93 #[.string r, .string ⟨#[72]⟩] W fun e w' => e = .returned (.bool false) ∧ w' = W) := fun W => by
    have := hasH_any r W hr
    rw [decide_eq_false HK.out] at this
    exact this
  have CR : Hid (∀ W, Calls Tryz.prog 95 #[.string r] W fun e w' => e = .returned (.tuple #[.int .i64 0, .agg #[.int .i64 0, .int .i64 0, .string ByteArray.empty], .bool false]) ∧ Below W.heap.size W w') := fun W => by
    have := readEntry_any r W (by omega)
    rw [rdV_eq, HE.out] at this
    exact this
  clear hk he
  go_enter Tryz.func76, Tryz.ntmps76
  go_wp2_with fail
  have J0 := (B6.new w (.int .i64 n) (.int .i64 j.t) (.int .i64 j.v) (.int .i64 j.s) (.int .i64 j.st) (.slice ao k c)).alloc (.cells #[.int .i64 0, .int .i64 0, .int .i64 0, .int .i64 0, .int .i64 0, .slice none 0 0] 30)
  have Z0 : B6 ((w.alloc (.cells #[.int .i64 n, .int .i64 j.t, .int .i64 j.v, .int .i64 j.s, .int .i64 j.st, .slice ao k c] 30)).alloc (.cells #[.int .i64 0, .int .i64 0, .int .i64 0, .int .i64 0, .int .i64 0, .slice none 0 0] 30)) (w.heap.size + 1) (.int .i64 0) (.int .i64 0) (.int .i64 0) (.int .i64 0) (.int .i64 0) (.slice none 0 0) := by
    have := B6.new (w.alloc (.cells #[.int .i64 n, .int .i64 j.t, .int .i64 j.v, .int .i64 j.s, .int .i64 j.st, .slice ao k c] 30)) (.int .i64 0) (.int .i64 0) (.int .i64 0) (.int .i64 0) (.int .i64 0) (.slice none 0 0)
    simpa using this
  have B0 : Below w.heap.size w ((w.alloc (.cells #[.int .i64 n, .int .i64 j.t, .int .i64 j.v, .int .i64 j.s, .int .i64 j.st, .slice ao k c] 30)).alloc (.cells #[.int .i64 0, .int .i64 0, .int .i64 0, .int .i64 0, .int .i64 0, .slice none 0 0] 30)) := ba (ba (Below.refl _ _) _) _
  obtain ⟨W, hW⟩ : ∃ W, (w.alloc (.cells #[.int .i64 n, .int .i64 j.t, .int .i64 j.v, .int .i64 j.s, .int .i64 j.st, .slice ao k c] 30)).alloc (.cells #[.int .i64 0, .int .i64 0, .int .i64 0, .int .i64 0, .int .i64 0, .slice none 0 0] 30) = W := ⟨_, rfl⟩
  rw [hW] at J0 Z0 B0 ⊢
  clear hW
  refine Calls.mono (CH.out _) ?_
  rintro e w' ⟨rfl, hw⟩
  have hw2 := hw.symm
  subst hw2
  go_wp2_with fail
  refine Calls.mono (CR.out _) ?_
  rintro e w1 ⟨rfl, hb1⟩
  have Z1 := (Z0.up hb1).alloc (.cells #[.int .i64 0, .int .i64 0, .string ByteArray.empty] 110)
  have B1 := ba (Below.on B0 hb1) (.cells #[.int .i64 0, .int .i64 0, .string ByteArray.empty] 110)
  have hl1 : w.heap.size + 1 < w1.heap.size := (Z0.up hb1).lt
  have e0 : (w1.alloc (.cells #[.int .i64 0, .int .i64 0, .string ByteArray.empty] 110)).cell? ⟨w1.heap.size, 0, none⟩ = some (.int .i64 0) := by simp [go_sem]
  have e1 : (w1.alloc (.cells #[.int .i64 0, .int .i64 0, .string ByteArray.empty] 110)).cell? ⟨w1.heap.size, 1, none⟩ = some (.int .i64 0) := by simp [go_sem]
  have e2 : (w1.alloc (.cells #[.int .i64 0, .int .i64 0, .string ByteArray.empty] 110)).cell? ⟨w1.heap.size, 2, none⟩ = some (.string ByteArray.empty) := by simp [go_sem]
  have g0 : (w1.alloc (.cells #[.int .i64 0, .int .i64 0, .string ByteArray.empty] 110)).frozen? ⟨w1.heap.size, 0, none⟩ = false := by simp [go_sem]
  have g1 : (w1.alloc (.cells #[.int .i64 0, .int .i64 0, .string ByteArray.empty] 110)).frozen? ⟨w1.heap.size, 1, none⟩ = false := by simp [go_sem]
  have g2 : (w1.alloc (.cells #[.int .i64 0, .int .i64 0, .string ByteArray.empty] 110)).frozen? ⟨w1.heap.size, 2, none⟩ = false := by simp [go_sem]
  obtain ⟨WX, hWX⟩ : ∃ WX, w1.alloc (.cells #[.int .i64 0, .int .i64 0, .string ByteArray.empty] 110) = WX := ⟨_, rfl⟩
  rw [hWX] at Z1 B1 e0 e1 e2 g0 g1 g2
  clear hb1 Z0 B0 J0
  have a0 := Z1.c0
  have a1 := Z1.c1
  have a2 := Z1.c2
  have a3 := Z1.c3
  have a4 := Z1.c4
  have a5 := Z1.c5
  have af := Z1.fr
  have Z4 : B6 (((((((WX).setCell ⟨w.heap.size + 1, 0, none⟩ (.int .i64 0)).setCell ⟨w.heap.size + 1, 1, none⟩ (.int .i64 0)).setCell ⟨w.heap.size + 1, 2, none⟩ (.int .i64 0)).setCell ⟨w.heap.size + 1, 3, none⟩ (.int .i64 0)).setCell ⟨w.heap.size + 1, 4, none⟩ (.int .i64 0)).setCell ⟨w.heap.size + 1, 5, none⟩ (.slice none 0 0)) (w.heap.size + 1) (.int .i64 0) (.int .i64 0) (.int .i64 0) (.int .i64 0) (.int .i64 0) (.slice none 0 0) := Z1.set (.int .i64 0) (.int .i64 0) (.int .i64 0) (.int .i64 0) (.int .i64 0) (.slice none 0 0)
  have B4 : Below w.heap.size w (((((((WX).setCell ⟨w.heap.size + 1, 0, none⟩ (.int .i64 0)).setCell ⟨w.heap.size + 1, 1, none⟩ (.int .i64 0)).setCell ⟨w.heap.size + 1, 2, none⟩ (.int .i64 0)).setCell ⟨w.heap.size + 1, 3, none⟩ (.int .i64 0)).setCell ⟨w.heap.size + 1, 4, none⟩ (.int .i64 0)).setCell ⟨w.heap.size + 1, 5, none⟩ (.slice none 0 0)) := below_set6 B1 (Nat.le_succ _) _ _ _ _ _ _
  go_wp2
  obtain ⟨w4, hw4⟩ : ∃ w4, ((((((WX).setCell ⟨w.heap.size + 1, 0, none⟩ (.int .i64 0)).setCell ⟨w.heap.size + 1, 1, none⟩ (.int .i64 0)).setCell ⟨w.heap.size + 1, 2, none⟩ (.int .i64 0)).setCell ⟨w.heap.size + 1, 3, none⟩ (.int .i64 0)).setCell ⟨w.heap.size + 1, 4, none⟩ (.int .i64 0)).setCell ⟨w.heap.size + 1, 5, none⟩ (.slice none 0 0) = w4 := ⟨_, rfl⟩
  rw [hw4] at Z4 B4 ⊢
  clear hw4
  have HF : Hid (toldB j r false = false) := by show _ = _; unfold toldB tellB; rw [if_neg (by simp), if_neg HK.out, HE.out]; rfl
  refine bodyPost_ret (ret_j2 rfl rfl rfl Z4) rfl ⟨0, 0, 0, 0, 0, none, 0, 0, ?_, B4, fun hq => ?_⟩
  · rw [HF.out]; rfl
  · rw [HF.out] at hq; cases hq

end Go.Proofs.YtgpojfkdcdgloaaGreatDoor

namespace Go.Proofs.YtgpojfkdcdgloaaGreatDoor
open Go Go.RowKit

set_option maxRecDepth 10000 in
set_option maxHeartbeats 4000000 in
theorem told_entry (n : Int) (j : Jn) (ao : Option Addr) (k c : Nat) (r : ByteArray) (B : Nat) (w : World) (ho : ownsR w B 110 (.slice ao k c) j.l) (hB : B ≤ w.heap.size) (hl : j.l.length ≤ 60) (hz : SizedE j.l) (hr : r.size ≤ 20000) (hk : kAt r 0 ≠ 72) (he : rdB r = true) :
    Calls Tryz.prog 76 #[jV n j.t j.v j.s j.st (.slice ao k c), .string r, .bool false] w (ToldP n j r false B w) := by
  have HK : Hid (kAt r 0 ≠ 72) := hk
  have HE : Hid (rdB r = true) := he
  have HO : Hid (ownsR w B 110 (.slice ao k c) j.l) := ho
  have HZ : Hid (SizedE j.l) := hz
  have HD : Hid ((rdEn r).data.size ≤ 1048576) := by
    obtain ⟨_, _, _, _, _, h6, _⟩ := okX_out (rdB_ok he).1
    show _ ≤ _; omega
  have HC : Hid (k = j.l.length ∧ k ≤ c) := by
    obtain ⟨a', c', e, hc⟩ := ho.cap
    simp only [Value.slice.injEq] at e
    obtain ⟨_, rfl, rfl⟩ := e
    exact ⟨rfl, hc⟩
  have CH : Hid (∀ W, Calls Tryz.prog 93 #[.string r, .string ⟨#[72]⟩] W fun e w' => e = .returned (.bool false) ∧ w' = W) := fun W => by
    have := hasH_any r W hr
    rw [decide_eq_false HK.out] at this
    exact this
  have CR : Hid (∀ W, Calls Tryz.prog 95 #[.string r] W fun e w' => e = .returned (.tuple #[.int .i64 (rdI r), .agg #[.int .i64 (rdEn r).term, .int .i64 (rdEn r).kind, .string (rdEn r).data], .bool true]) ∧ Below W.heap.size W w') := fun W => by
    have := readEntry_any r W (by omega)
    rw [rdV_eq, HE.out] at this
    exact this
  have CP : Hid (∀ W, Below w.heap.size w W → Calls Tryz.prog 96 #[.agg #[.int .i64 j.s, .int .i64 j.st, .slice ao k c], .int .i64 (rdI r), .agg #[.int .i64 (rdEn r).term, .int .i64 (rdEn r).kind, .string (rdEn r).data]] W fun e w' => ∃ v, e = .returned (.tuple #[.agg #[.int .i64 (putS j.s j.st j.l (rdI r) (rdEn r)), .int .i64 (putT j.s j.st j.l (rdI r) (rdEn r)), v], .bool (putB j.s j.st j.l (rdI r) (rdEn r))]) ∧ ownsR w' W.heap.size 110 v (putE j.s j.st j.l (rdI r) (rdEn r)) ∧ Below W.heap.size W w') := fun W hb =>
    logPut_try j.s j.st (rdI r) (rdEn r).term (rdEn r).kind (rdEn r).data ao k c j.l W (HO.out.reads.below hb) HC.out.2 (by have := HC.out.1; omega) HZ.out HD.out
  obtain ⟨ps, HPS⟩ : ∃ q, Hid (putS j.s j.st j.l (rdI r) (rdEn r) = q) := ⟨_, rfl⟩
  obtain ⟨pt, HPT⟩ : ∃ q, Hid (putT j.s j.st j.l (rdI r) (rdEn r) = q) := ⟨_, rfl⟩
  obtain ⟨q, HQ⟩ : ∃ q, Hid (putB j.s j.st j.l (rdI r) (rdEn r) = q) := ⟨_, rfl⟩
  rw [HPS.out, HPT.out, HQ.out] at CP
  clear hk he ho hz
  go_enter Tryz.func76, Tryz.ntmps76
  go_wp2_with fail
  have J0 := (B6.new w (.int .i64 n) (.int .i64 j.t) (.int .i64 j.v) (.int .i64 j.s) (.int .i64 j.st) (.slice ao k c)).alloc (.cells #[.int .i64 0, .int .i64 0, .int .i64 0, .int .i64 0, .int .i64 0, .slice none 0 0] 30)
  have Z0 : B6 ((w.alloc (.cells #[.int .i64 n, .int .i64 j.t, .int .i64 j.v, .int .i64 j.s, .int .i64 j.st, .slice ao k c] 30)).alloc (.cells #[.int .i64 0, .int .i64 0, .int .i64 0, .int .i64 0, .int .i64 0, .slice none 0 0] 30)) (w.heap.size + 1) (.int .i64 0) (.int .i64 0) (.int .i64 0) (.int .i64 0) (.int .i64 0) (.slice none 0 0) := by
    have := B6.new (w.alloc (.cells #[.int .i64 n, .int .i64 j.t, .int .i64 j.v, .int .i64 j.s, .int .i64 j.st, .slice ao k c] 30)) (.int .i64 0) (.int .i64 0) (.int .i64 0) (.int .i64 0) (.int .i64 0) (.slice none 0 0)
    simpa using this
  have B0 : Below w.heap.size w ((w.alloc (.cells #[.int .i64 n, .int .i64 j.t, .int .i64 j.v, .int .i64 j.s, .int .i64 j.st, .slice ao k c] 30)).alloc (.cells #[.int .i64 0, .int .i64 0, .int .i64 0, .int .i64 0, .int .i64 0, .slice none 0 0] 30)) := ba (ba (Below.refl _ _) _) _
  obtain ⟨W, hW⟩ : ∃ W, (w.alloc (.cells #[.int .i64 n, .int .i64 j.t, .int .i64 j.v, .int .i64 j.s, .int .i64 j.st, .slice ao k c] 30)).alloc (.cells #[.int .i64 0, .int .i64 0, .int .i64 0, .int .i64 0, .int .i64 0, .slice none 0 0] 30) = W := ⟨_, rfl⟩
  rw [hW] at J0 Z0 B0 ⊢
  clear hW
  refine Calls.mono (CH.out _) ?_
  rintro e w' ⟨rfl, hw⟩
  have hw2 := hw.symm
  subst hw2
  go_wp2_with fail
  refine Calls.mono (CR.out _) ?_
  rintro e w1 ⟨rfl, hb1⟩
  have J1 := J0.up hb1
  have Z1 := Z0.up hb1
  have B1 := Below.on B0 hb1
  have hl1 : w.heap.size + 1 < w1.heap.size := Z1.lt
  have hl0 : w.heap.size < w1.heap.size := Nat.lt_of_succ_lt hl1
  clear hb1 Z0 B0 J0
  have i0 := J1.c0
  have i1 := J1.c1
  have i2 := J1.c2
  have i3 := J1.c3
  have i4 := J1.c4
  have i5 := J1.c5
  go_wp2_with fail
  have J2 := J1.alloc (.cells #[.int .i64 (rdEn r).term, .int .i64 (rdEn r).kind, .string (rdEn r).data] 110)
  have Z2 := Z1.alloc (.cells #[.int .i64 (rdEn r).term, .int .i64 (rdEn r).kind, .string (rdEn r).data] 110)
  have B2 := ba B1 (.cells #[.int .i64 (rdEn r).term, .int .i64 (rdEn r).kind, .string (rdEn r).data] 110)
  refine Calls.mono (CP.out _ B2) ?_
  rintro e w2 ⟨v5, rfl, ho5, hb2⟩
  obtain ⟨av, kv, cv, rfl⟩ := ho5.slice3
  have HO5 : Hid (ownsR w2 B 110 (.slice av kv cv) (putE j.s j.st j.l (rdI r) (rdEn r))) := ho5.mono (Nat.le_trans hB B2.size)
  have J3 := J2.up hb2
  have Z3 := Z2.up hb2
  have B3 := Below.on B2 hb2
  clear hb2 J2 Z2 B2 J1 Z1 B1 i0 i1 i2 i3 i4 i5 hl1 hl0 ho5
  have i0 := J3.c0
  have i1 := J3.c1
  have i2 := J3.c2
  have i3 := J3.c3
  have i4 := J3.c4
  have i5 := J3.c5
  have ifr := J3.fr
  have a0 := Z3.c0
  have a1 := Z3.c1
  have a2 := Z3.c2
  have a3 := Z3.c3
  have a4 := Z3.c4
  have a5 := Z3.c5
  have af := Z3.fr
  have J4 := ((J3.s3 (.int .i64 ps)).s4 (.int .i64 pt)).s5 (.slice av kv cv)
  have Z4 := ((Z3.far (p := ⟨w.heap.size, 3, none⟩) (by simp) (.int .i64 ps)).far (p := ⟨w.heap.size, 4, none⟩) (by simp) (.int .i64 pt)).far (p := ⟨w.heap.size, 5, none⟩) (by simp) (.slice av kv cv)
  have B4 : Below w.heap.size w ((((w2).setCell ⟨w.heap.size, 3, none⟩ (.int .i64 ps)).setCell ⟨w.heap.size, 4, none⟩ (.int .i64 pt)).setCell ⟨w.heap.size, 5, none⟩ (.slice av kv cv)) := Below.setCell (Below.setCell (Below.setCell B3 (Nat.le_refl _) _) (Nat.le_refl _) _) (Nat.le_refl _) _
  have HO6 : Hid (ownsR ((((w2).setCell ⟨w.heap.size, 3, none⟩ (.int .i64 ps)).setCell ⟨w.heap.size, 4, none⟩ (.int .i64 pt)).setCell ⟨w.heap.size, 5, none⟩ (.slice av kv cv)) B 110 (.slice av kv cv) (putE j.s j.st j.l (rdI r) (rdEn r))) := by
    have hne := not_row6 J3 HO5.out
    have kk : ∀ {V : World} {j' : Nat} {u : Value}, ownsR V B 110 (.slice av kv cv) (putE j.s j.st j.l (rdI r) (rdEn r)) → ownsR (V.setCell ⟨w.heap.size, j', none⟩ u) B 110 (.slice av kv cv) (putE j.s j.st j.l (rdI r) (rdEn r)) := fun hV => World.ownsRow.kept hV (grown_set _ _ _ _) (.inr (fun h => hne h.symm))
    exact kk (kk (kk HO5.out))
  have Z5 : B6 (((((((((((w2).setCell ⟨w.heap.size, 3, none⟩ (.int .i64 ps)).setCell ⟨w.heap.size, 4, none⟩ (.int .i64 pt)).setCell ⟨w.heap.size, 5, none⟩ (.slice av kv cv))).setCell ⟨w.heap.size + 1, 0, none⟩ (.int .i64 n)).setCell ⟨w.heap.size + 1, 1, none⟩ (.int .i64 j.t)).setCell ⟨w.heap.size + 1, 2, none⟩ (.int .i64 j.v)).setCell ⟨w.heap.size + 1, 3, none⟩ (.int .i64 ps)).setCell ⟨w.heap.size + 1, 4, none⟩ (.int .i64 pt)).setCell ⟨w.heap.size + 1, 5, none⟩ (.slice av kv cv)) (w.heap.size + 1) (.int .i64 n) (.int .i64 j.t) (.int .i64 j.v) (.int .i64 ps) (.int .i64 pt) (.slice av kv cv) := Z4.set (.int .i64 n) (.int .i64 j.t) (.int .i64 j.v) (.int .i64 ps) (.int .i64 pt) (.slice av kv cv)
  have B5 : Below w.heap.size w (((((((((((w2).setCell ⟨w.heap.size, 3, none⟩ (.int .i64 ps)).setCell ⟨w.heap.size, 4, none⟩ (.int .i64 pt)).setCell ⟨w.heap.size, 5, none⟩ (.slice av kv cv))).setCell ⟨w.heap.size + 1, 0, none⟩ (.int .i64 n)).setCell ⟨w.heap.size + 1, 1, none⟩ (.int .i64 j.t)).setCell ⟨w.heap.size + 1, 2, none⟩ (.int .i64 j.v)).setCell ⟨w.heap.size + 1, 3, none⟩ (.int .i64 ps)).setCell ⟨w.heap.size + 1, 4, none⟩ (.int .i64 pt)).setCell ⟨w.heap.size + 1, 5, none⟩ (.slice av kv cv)) := below_set6 (b := w.heap.size + 1) B4 (Nat.le_succ _) (.int .i64 n) (.int .i64 j.t) (.int .i64 j.v) (.int .i64 ps) (.int .i64 pt) (.slice av kv cv)
  have HO7 : Hid (ownsR (((((((((((w2).setCell ⟨w.heap.size, 3, none⟩ (.int .i64 ps)).setCell ⟨w.heap.size, 4, none⟩ (.int .i64 pt)).setCell ⟨w.heap.size, 5, none⟩ (.slice av kv cv))).setCell ⟨w.heap.size + 1, 0, none⟩ (.int .i64 n)).setCell ⟨w.heap.size + 1, 1, none⟩ (.int .i64 j.t)).setCell ⟨w.heap.size + 1, 2, none⟩ (.int .i64 j.v)).setCell ⟨w.heap.size + 1, 3, none⟩ (.int .i64 ps)).setCell ⟨w.heap.size + 1, 4, none⟩ (.int .i64 pt)).setCell ⟨w.heap.size + 1, 5, none⟩ (.slice av kv cv)) B 110 (.slice av kv cv) (putE j.s j.st j.l (rdI r) (rdEn r))) := ownsR_set6 HO6.out (not_row6 Z4 HO6.out) _ _ _ _ _ _
  clear Z4 B4 J4 HO6
  go_wp2
  obtain ⟨w4, hw4⟩ : ∃ w4, ((((((((((w2).setCell ⟨w.heap.size, 3, none⟩ (.int .i64 ps)).setCell ⟨w.heap.size, 4, none⟩ (.int .i64 pt)).setCell ⟨w.heap.size, 5, none⟩ (.slice av kv cv))).setCell ⟨w.heap.size + 1, 0, none⟩ (.int .i64 n)).setCell ⟨w.heap.size + 1, 1, none⟩ (.int .i64 j.t)).setCell ⟨w.heap.size + 1, 2, none⟩ (.int .i64 j.v)).setCell ⟨w.heap.size + 1, 3, none⟩ (.int .i64 ps)).setCell ⟨w.heap.size + 1, 4, none⟩ (.int .i64 pt)).setCell ⟨w.heap.size + 1, 5, none⟩ (.slice av kv cv) = w4 := ⟨_, rfl⟩
  rw [hw4] at Z5 B5 HO7 ⊢
  clear hw4
  refine bodyPost_ret (ret_j2 rfl rfl rfl Z5) rfl ⟨n, j.t, j.v, ps, pt, av, kv, cv, ?_, B5, fun hq => ?_⟩
  · unfold toldB tellB; rw [if_neg (by simp), if_neg HK.out, HE.out, HQ.out]; rfl
  · unfold toldB tellB at hq
    rw [if_neg (by simp), if_neg HK.out] at hq
    simp only [Bool.and_eq_true] at hq
    have e1 : putE j.s j.st j.l (rdI r) (rdEn r) = putsL j.s j.l (rdI r) (rdEn r) := by unfold putE; rw [hq.2]; rfl
    have e2 : ps = j.s := by rw [← HPS.out]; unfold putS; rw [hq.2]; rfl
    have e3 : pt = j.st := by rw [← HPT.out]; unfold putT; rw [hq.2]; rfl
    unfold toldJ tellJ
    rw [if_neg (by simp), if_neg HK.out]
    exact ⟨rfl, rfl, rfl, e2, e3, by rw [← e1]; exact HO7.out⟩

theorem told_any (n : Int) (j : Jn) (ao : Option Addr) (k c : Nat) (r : ByteArray) (first : Bool) (B : Nat) (w : World) (ho : ownsR w B 110 (.slice ao k c) j.l) (hB : B ≤ w.heap.size) (hl : j.l.length ≤ 60) (hz : SizedE j.l) (hr : r.size ≤ 20000) (hj : first = true → j.t = 0 ∧ j.v = 0) :
    Calls Tryz.prog 76 #[jV n j.t j.v j.s j.st (.slice ao k c), .string r, .bool first] w (ToldP n j r first B w) := by
  cases first with
  | true => exact told_first n j ao k c r B w hr (hj rfl).1 (hj rfl).2
  | false =>
    by_cases hk : kAt r 0 = 72
    · exact told_head n j ao k c r B w ho hr hk
    · cases he : rdB r with
      | false => exact told_not n j ao k c r B w hr hk he
      | true => exact told_entry n j ao k c r B w ho hB hl hz hr hk he
end Go.Proofs.YtgpojfkdcdgloaaGreatDoor

namespace Go.Proofs.YtgpojfkdcdgloaaGreatDoor
open Go Go.RowKit Go.Shelf
attribute [local go_sem] Oper.semAt_some

/-- What lies there while a file is read: the journal so far, and the place behind it. -/
structure RI (n : Int) (s : ByteArray) (w : World) (g : Nat) (z : Jn × Nat) (W : World) : Prop where
  jb : ∃ a k c, B6 W g (.int .i64 n) (.int .i64 z.1.t) (.int .i64 z.1.v) (.int .i64 z.1.s) (.int .i64 z.1.st) (.slice a k c) ∧ ownsR W w.heap.size 110 (.slice a k c) z.1.l
  res : B6 W w.heap.size (.int .i64 0) (.int .i64 0) (.int .i64 0) (.int .i64 0) (.int .i64 0) (.slice none 0 0)
  bh : Boxed W (g + 1) 3 (.int .i64 (z.2 : Int))
  file : Boxed W (g + 1 + 1) 9 (.string s)
  bel : Below w.heap.size w W

theorem cells_kept {W W' : World} {row : Option Nat} {b : Nat} {cs : Array Value} {t : TypeId} (h : W.heap[b]? = some (.cells cs t)) (hg : W.grownBy W' row) (hr : ∀ r, row = some r → ∃ o : Obj, W.heap[r]? = some o ∧ o.isCells = false) : W'.heap[b]? = some (.cells cs t) := by
  refine (hg.block b (Array.getElem?_eq_some_iff.1 h).1 fun e => ?_).trans h
  obtain ⟨o, ho, hc⟩ := hr b e.symm
  rw [h] at ho
  simp only [Option.some.injEq] at ho
  subst ho
  simp [Obj.isCells] at hc
theorem owns_kept {W W' : World} {row : Option Nat} {B : Nat} {v : Value} {l : List En} (h : ownsR W B 110 v l) (hg : W.grownBy W' row) (hr : ∀ r, row = some r → ∃ o : Obj, W.heap[r]? = some o ∧ o.isCells = false) : ownsR W' B 110 v l := by
  refine World.ownsRow.kept h hg ?_
  obtain ⟨_, h2⟩ := h
  rcases h2 with ⟨rfl, _⟩ | ⟨g', cap, cur, rfl, _, hgg, _⟩
  · exact .inl rfl
  · refine .inr fun e => ?_
    obtain ⟨o, ho, hc⟩ := hr g' e.symm
    rw [hgg] at ho
    simp only [Option.some.injEq] at ho
    subst ho
    simp [Obj.isCells] at hc
theorem RI.own {n : Int} {s : ByteArray} {w : World} {g : Nat} {z : Jn × Nat} {W W' : World} {row : Option Nat} {B : Nat} (h : RI n s w g z W) (hB : w.heap.size ≤ B) (hg : W.grownBy W' row) (hr : ∀ r, row = some r → B ≤ r ∧ ∃ o : Obj, W.heap[r]? = some o ∧ o.isCells = false) : RI n s w g z W' := by
  have hr2 : ∀ r, row = some r → ∃ o : Obj, W.heap[r]? = some o ∧ o.isCells = false := fun r e => (hr r e).2
  obtain ⟨⟨a, k, c, h1, h2⟩, h3, h4, h5, h6⟩ := h
  exact ⟨⟨a, k, c, cells_kept h1 hg hr2, owns_kept h2 hg hr2⟩, cells_kept h3 hg hr2, cells_kept h4 hg hr2, cells_kept h5 hg hr2, h6.grown hg h6.size (fun k e => Nat.le_trans hB (hr k e).1)⟩

/-- Between two rounds. -/
def RJ (n : Int) (s : ByteArray) (w : World) (g : Nat) (pre : List Fx) (W : World) : Prop :=
  ∃ z : Jn × Nat, Hid (∀ rest, goJ initJ (valsF pre ++ rest) = goJ z rest) ∧ Hid (JGood z) ∧ RI n s w g z W
/-- Behind a round that has left. -/
def RX (n : Int) (s : ByteArray) (w : World) (g : Nat) (pre : List Fx) (W : World) : Prop :=
  ∃ z : Jn × Nat, Hid (∀ rest, goJ initJ (valsF pre ++ rest) = z) ∧ Hid (JGood z) ∧ RI n s w g z W
theorem RJ_own (n : Int) (s : ByteArray) (w : World) (g B : Nat) (hB : w.heap.size ≤ B) : OwnFrom B (RJ n s w g) := fun _ _ _ _ ⟨z, h1, h2, h3⟩ hg hr => ⟨z, h1, h2, h3.own hB hg hr⟩
theorem RX_own (n : Int) (s : ByteArray) (w : World) (g B : Nat) (hB : w.heap.size ≤ B) : OwnFrom B (RX n s w g) := fun _ _ _ _ ⟨z, h1, h2, h3⟩ hg hr => ⟨z, h1, h2, h3.own hB hg hr⟩
theorem goJ_on {z : Jn × Nat} {pre : List Fx} {x : Fx} (h : ∀ rest, goJ initJ (valsF pre ++ rest) = goJ z rest) (hs : stepB z x.1.1 = true) : ∀ rest, goJ initJ (valsF (pre ++ [x]) ++ rest) = goJ (stepJ z x.1) rest := fun rest => by
  rw [valsF_snoc, List.append_assoc, h, List.singleton_append, goJ_yes hs]
theorem goJ_off {z : Jn × Nat} {pre : List Fx} {x : Fx} (h : ∀ rest, goJ initJ (valsF pre ++ rest) = goJ z rest) (hs : stepB z x.1.1 = false) : ∀ rest, goJ initJ (valsF (pre ++ [x]) ++ rest) = z := fun rest => by
  rw [valsF_snoc, List.append_assoc, h, List.singleton_append, goJ_no hs]
theorem keeps_below {W W' : World} (h : Below W.heap.size W W') : KeepsOthers W W' := ⟨h.size, fun k _ hk _ => (h.block k (Array.getElem?_eq_some_iff.1 hk).1).trans hk⟩

theorem cells_far6 {W : World} {b g : Nat} {cs : Array Value} {t : TypeId} (h : W.heap[b]? = some (.cells cs t)) (hb : g ≠ b) (u0 u1 u2 u3 u4 u5 : Value) : (set6 W g u0 u1 u2 u3 u4 u5).heap[b]? = some (.cells cs t) := by
  have k : ∀ {V : World} {j : Nat} {u : Value}, V.heap[b]? = some (.cells cs t) → (V.setCell ⟨g, j, none⟩ u).heap[b]? = some (.cells cs t) := fun hV => (heap_setCell_other _ ⟨g, _, none⟩ b _ (fun e => hb e.symm)).trans hV
  exact k (k (k (k (k (k h)))))
theorem obj_far6 {W : World} {b g : Nat} {o : Obj} (h : W.heap[b]? = some o) (hb : g ≠ b) (u0 u1 u2 u3 u4 u5 : Value) : (set6 W g u0 u1 u2 u3 u4 u5).heap[b]? = some o := by
  have k : ∀ {V : World} {j : Nat} {u : Value}, V.heap[b]? = some o → (V.setCell ⟨g, j, none⟩ u).heap[b]? = some o := fun hV => (heap_setCell_other _ ⟨g, _, none⟩ b _ (fun e => hb e.symm)).trans hV
  exact k (k (k (k (k (k h)))))
theorem B6.put {W : World} {b D : Nat} {x0 x1 x2 x3 x4 x5 : Value} (h : B6 W b x0 x1 x2 x3 x4 x5) (o : Obj) (hD : b ≠ D) : B6 (W.putObj D o) b x0 x1 x2 x3 x4 x5 :=
  ((grownBy_putObj' W D o).block b h.lt (fun e => hD (by simpa using e))).trans h
theorem heap_drew (W : World) : W.drew.heap = W.heap := rfl
theorem obj_far6d {W : World} {b g : Nat} {o : Obj} (h : W.heap[b]? = some o) (hb : g ≠ b) (u0 u1 u2 u3 u4 u5 : Value) : (set6 W g u0 u1 u2 u3 u4 u5).drew.heap[b]? = some o := by
  rw [heap_drew]; exact obj_far6 h hb u0 u1 u2 u3 u4 u5
theorem keeps_set6 {A W : World} {g : Nat} (h : KeepsOthers A W) (u0 u1 u2 u3 u4 u5 : Value) : KeepsOthers A (set6 W g u0 u1 u2 u3 u4 u5) :=
  (((((h.trans (KeepsOthers.setCell _ _ _)).trans (KeepsOthers.setCell _ _ _)).trans (KeepsOthers.setCell _ _ _)).trans (KeepsOthers.setCell _ _ _)).trans (KeepsOthers.setCell _ _ _)).trans (KeepsOthers.setCell _ _ _)
theorem not_rowE {w : World} {B b : Nat} {v : Value} {l : List En} {cs : Array Value} {t : TypeId} (h : w.heap[b]? = some (.cells cs t)) (ho : ownsR w B 110 v l) (hne : t ≠ 110) : some b ≠ v.ownBlock := by
  intro he
  obtain ⟨_, h2⟩ := ho
  rcases h2 with ⟨rfl, _⟩ | ⟨g', cap, cur, rfl, _, hg, _⟩
  · simp [Value.ownBlock] at he
  · simp only [Value.ownBlock, Option.some.injEq] at he
    subst he
    rw [h] at hg
    simp only [Option.some.injEq, Obj.cells.injEq] at hg
    exact hne hg.2.1

/-- What is answered of a file. -/
def ReadP (n : Int) (s : ByteArray) (w : World) (e : Ending) (w' : World) : Prop :=
  Below w.heap.size w w' ∧ ((rdJ s).2 = 0 → e = .returned (.tuple #[jV 0 0 0 0 0 (.slice none 0 0), .int .i64 0, faultV 2])) ∧
    ((rdJ s).2 ≠ 0 → ∃ a k c, e = .returned (.tuple #[jV n (rdJ s).1.t (rdJ s).1.v (rdJ s).1.s (rdJ s).1.st (.slice a k c), .int .i64 ((rdJ s).2 : Int), if (rdJ s).2 < s.size then faultV 3 else .nilIface]) ∧ ownsR w' w.heap.size 110 (.slice a k c) (rdJ s).1.l)

theorem W0_boxes (w1 : World) (n : Int) (s : ByteArray) : B6 (((w1.alloc (.cells #[.int .i64 n, .int .i64 0, .int .i64 0, .int .i64 0, .int .i64 0, .slice none 0 0] 30)).alloc (.cells #[.int .i64 0] 3)).alloc (.cells #[.string s] 9)) w1.heap.size (.int .i64 n) (.int .i64 0) (.int .i64 0) (.int .i64 0) (.int .i64 0) (.slice none 0 0) ∧
    Boxed (((w1.alloc (.cells #[.int .i64 n, .int .i64 0, .int .i64 0, .int .i64 0, .int .i64 0, .slice none 0 0] 30)).alloc (.cells #[.int .i64 0] 3)).alloc (.cells #[.string s] 9)) (w1.heap.size + 1) 3 (.int .i64 0) ∧ Boxed (((w1.alloc (.cells #[.int .i64 n, .int .i64 0, .int .i64 0, .int .i64 0, .int .i64 0, .slice none 0 0] 30)).alloc (.cells #[.int .i64 0] 3)).alloc (.cells #[.string s] 9)) (w1.heap.size + 1 + 1) 9 (.string s) := by
  refine ⟨((B6.new w1 _ _ _ _ _ _).alloc _).alloc _, ?_, ?_⟩
  · have := (Boxed.new (w1.alloc (.cells #[.int .i64 n, .int .i64 0, .int .i64 0, .int .i64 0, .int .i64 0, .slice none 0 0] 30)) 3 (.int .i64 0)).alloc (.cells #[.string s] 9)
    simpa using this
  · have := Boxed.new ((w1.alloc (.cells #[.int .i64 n, .int .i64 0, .int .i64 0, .int .i64 0, .int .i64 0, .slice none 0 0] 30)).alloc (.cells #[.int .i64 0] 3)) 9 (.string s)
    simpa using this

set_option maxRecDepth 100000 in
set_option maxHeartbeats 4000000 in
theorem readJournal_in (n : Int) (s : ByteArray) (w : World) (hs : s.size ≤ 1048576) (hn : numB n = true) (hp : PowIs w) (ht : TableIs w) : Calls Tryz.prog 50 #[.int .i64 n, .string s] w (ReadP n s w) := by
  refine (callsIn_wide (n := 3)).1 ?_
  obtain ⟨hq, hq2⟩ := empty_not (jname_ne hn)
  refine callsIn_of_wp_marks Tryz.func50 rfl trivial ?_ rfl
  simp only [Tryz.ntmps50, List.size_toArray, List.length_cons, List.length_nil, Nat.reduceAdd, Nat.reduceSub, Array.replicate_succ, Array.replicate_zero, List.push_toArray, List.append_toArray, List.nil_append, List.cons_append]
  gi_wp2_with (first | (refine ⟨trivial, ?_⟩; gi_at_call 49; refine (callsIn_wide.2 (journalName_any n _ (hp.below (ba (Below.refl _ _) _)))).mono ?_; rintro e w1 ⟨rfl, hb1⟩) | (refine ⟨trivial, ?_⟩; gi_at_call 75; refine (framesOf_in 2 s _).mono ?_; rintro e w' ⟨rfl, rfl⟩))
  have HT : Hid (TableIs w) := ht
  clear ht hp hq hq2
  have Z1 : B6 w1 w.heap.size (.int .i64 0) (.int .i64 0) (.int .i64 0) (.int .i64 0) (.int .i64 0) (.slice none 0 0) := (B6.new w _ _ _ _ _ _).up hb1
  have hB1 : Below w.heap.size w w1 := below_new hb1
  have hsz1 : w.heap.size < w1.heap.size := Z1.lt
  obtain ⟨hb2, hb3, hb4⟩ := W0_boxes w1 n s
  have hB0 : Below w.heap.size w (((w1.alloc (.cells #[.int .i64 n, .int .i64 0, .int .i64 0, .int .i64 0, .int .i64 0, .slice none 0 0] 30)).alloc (.cells #[.int .i64 0] 3)).alloc (.cells #[.string s] 9)) := ba (ba (ba hB1 _) _) _
  have Z0 : B6 (((w1.alloc (.cells #[.int .i64 n, .int .i64 0, .int .i64 0, .int .i64 0, .int .i64 0, .slice none 0 0] 30)).alloc (.cells #[.int .i64 0] 3)).alloc (.cells #[.string s] 9)) w.heap.size (.int .i64 0) (.int .i64 0) (.int .i64 0) (.int .i64 0) (.int .i64 0) (.slice none 0 0) := ((Z1.alloc _).alloc _).alloc _
  obtain ⟨W0, hW0⟩ : ∃ W0, ((w1.alloc (.cells #[.int .i64 n, .int .i64 0, .int .i64 0, .int .i64 0, .int .i64 0, .slice none 0 0] 30)).alloc (.cells #[.int .i64 0] 3)).alloc (.cells #[.string s] 9) = W0 := ⟨_, rfl⟩
  have hsz0 : W0.heap.size = w1.heap.size + 1 + 1 + 1 := by rw [← hW0]; simp
  rw [hW0] at hb2 hb3 hb4 hB0 Z0 ⊢
  obtain ⟨g, HG⟩ : ∃ g, Hid (w1.heap.size = g) := ⟨_, rfl⟩
  rw [HG.out] at hb2 hb3 hb4 hsz0 hsz1 ⊢
  clear hW0 hb1 hB1 Z1
  refine wpIn_rangeFunc_ownG rfl (by omega) (gf := 90) (lb := #[.pointer (some ⟨g + 1 + 1, 0, none⟩)]) rfl trivial (enters_of Tryz.func90 (by kernel_rfl) rfl)
    (frames_stops 2 (by omega) (g + 1 + 1) s hs w W0 HT.out (by omega) hb4.cell hB0) kpF_t (kpF_b (by omega) (by omega)) (Below.refl _ _) (fun _ => rfl)
    (RJ n s w g) (fun c pre W => c = .exit 0 ∧ RX n s w g pre W) (RJ_own n s w g _ (by omega)) (fun c => fun _ _ _ _ hs hg hr => ⟨hs.1, RX_own n s w g _ (by omega) _ _ _ _ hs.2 hg hr⟩)
    ⟨initJ, fun rest => rfl, JGood.init, ⟨⟨none, 0, 0, hb2, ownsR_nil _ _ _⟩, Z0, hb3, hb4, hB0⟩⟩
    (fun x => { tmps := #[.int .i64 n, .string s, undef, undef, .pointer (some ⟨w.heap.size, 0, none⟩), .int .i64 0, .nilIface, .pointer (some ⟨g, 0, none⟩), .pointer (some ⟨g + 1, 0, none⟩), .string x.1.1, .int .i64 x.1.2, undef, undef, .int .i64 n, .string (jname n), .bool false, undef, undef, undef, .int .i64 n, .agg #[.int .i64 n, .int .i64 0, .int .i64 0, .int .i64 0, .int .i64 0, .slice none 0 0], .string s, .func (.func 90) #[] #[.pointer (some ⟨g + 1 + 1, 0, none⟩)], .string x.1.1, .int .i64 x.1.2, undef, undef, undef, undef, undef, undef, undef, undef, undef, undef, undef, undef, undef, undef, undef, undef, undef, undef, undef, undef, undef, undef, undef, undef, undef, undef, undef, undef, undef], defers := [] }) ?assign ?body ?done ?stop
  case assign =>
    intro l x W K hK
    simp only [encF]
    gi_wp2
    exact hK
  case body =>
    rintro l pre x W ⟨z, HZ, HJ, ⟨⟨a, k, c, hj, ho⟩, hres, hbh, hfile, hB⟩⟩ hlt
    have hx1 := x.2.1
    have hgW : g + 1 + 1 < W.heap.size := hfile.lt
    have hfst : ∀ first : Bool, first = true → z.2 = 0 → z.1.t = 0 ∧ z.1.v = 0 := fun _ _ h0 => by rw [HJ.out.first h0]; exact ⟨rfl, rfl⟩
    have j0 := hj.c0
    have j1 := hj.c1
    have j2 := hj.c2
    have j3 := hj.c3
    have j4 := hj.c4
    have j5 := hj.c5
    have b0 := hbh.cell
    obtain ⟨fst, HF⟩ : ∃ fst, Hid (decide (z.2 = 0) = fst) := ⟨_, rfl⟩
    have hfeq : ((z.2 : Int) == 0) = fst := by
      rw [← HF.out]
      rw [Bool.eq_iff_iff]; simp
    have HTB : Hid (toldB z.1 x.1.1 fst = stepB z x.1.1 ∧ (toldJ z.1 x.1.1 fst, x.1.2) = stepJ z x.1) := by
      show _ ∧ _
      unfold toldB stepB toldJ stepJ
      rw [← HF.out]
      by_cases h0 : z.2 = 0
      · simp [h0]
      · simp [h0]
    obtain ⟨q, HQ⟩ : ∃ q, Hid (toldB z.1 x.1.1 fst = q) := ⟨_, rfl⟩
    have HTC : Hid (∀ V, ownsR V w.heap.size 110 (.slice a k c) z.1.l → w.heap.size ≤ V.heap.size → Calls Tryz.prog 76 #[jV n z.1.t z.1.v z.1.s z.1.st (.slice a k c), .string x.1.1, .bool fst] V fun e w' => ∃ (n' t' v' s' st' : Int) (a' : Option Addr) (k' c' : Nat), e = .returned (.tuple #[jV n' t' v' s' st' (.slice a' k' c'), .bool q]) ∧ Below V.heap.size V w' ∧
        (q = true → n' = n ∧ t' = (toldJ z.1 x.1.1 fst).t ∧ v' = (toldJ z.1 x.1.1 fst).v ∧ s' = (toldJ z.1 x.1.1 fst).s ∧ st' = (toldJ z.1 x.1.1 fst).st ∧ ownsR w' w.heap.size 110 (.slice a' k' c') (toldJ z.1 x.1.1 fst).l)) := fun V h1 h2 => by
      have := told_any n z.1 a k c x.1.1 fst w.heap.size V h1 h2 HJ.out.len HJ.out.sized hx1 (fun h => hfst fst h (by rw [← HF.out] at h; simpa using h))
      unfold ToldP at this
      rw [HQ.out] at this
      exact this
    cases q with
    | false =>
      have HST : Hid (stepB z x.1.1 = false) := HTB.out.1.symm.trans HQ.out
      gi_wp2_with (refine ⟨trivial, ?_⟩; gi_at_call 76; refine (CallsIn.inRound l (callsIn_wide.2 (HTC.out _ ho hB.size))).mono ?_; rintro e w2 ⟨n1, t1, v1, s1, u1, a1, k1, c1, rfl, hb5, hok⟩; clear hok)
      have hb6 : Below W.heap.size W (w2.alloc (.cells #[.int .i64 n1, .int .i64 t1, .int .i64 v1, .int .i64 s1, .int .i64 u1, .slice a1 k1 c1] 30)) := ba hb5 _
      exact ⟨(keeps_below hb6).from _, rfl, z, goJ_off HZ.out HST.out, HJ, ⟨⟨a, k, c, hj.up hb6, ho.all hb6⟩, hres.up hb6, (hb6.block _ hbh.lt).trans hbh, (hb6.block _ hfile.lt).trans hfile, Below.on hB hb6⟩⟩
    | true =>
      have HST : Hid (stepB z x.1.1 = true) := HTB.out.1.symm.trans HQ.out
      gi_wp2_with (refine ⟨trivial, ?_⟩; gi_at_call 76; refine (CallsIn.inRound l (callsIn_wide.2 (HTC.out _ ho hB.size))).mono ?_; rintro e w2 ⟨n1, t1, v1, s1, u1, a1, k1, c1, rfl, hb5, hok⟩; have HK := (show Hid _ from hok rfl); clear hok; have hb6 : Below W.heap.size W (w2.alloc (.cells #[.int .i64 n1, .int .i64 t1, .int .i64 v1, .int .i64 s1, .int .i64 u1, .slice a1 k1 c1] 30)) := ba hb5 _; have N2 := B6.new w2 (.int .i64 n1) (.int .i64 t1) (.int .i64 v1) (.int .i64 s1) (.int .i64 u1) (.slice a1 k1 c1); have hm6 : w2.heap.size < (w2.alloc (.cells #[.int .i64 n1, .int .i64 t1, .int .i64 v1, .int .i64 s1, .int .i64 u1, .slice a1 k1 c1] 30)).heap.size := N2.lt; have hmw : g + 1 + 1 < w2.heap.size := Nat.lt_of_lt_of_le hgW hb5.size; obtain ⟨WX, hWX⟩ : ∃ WX, w2.alloc (.cells #[.int .i64 n1, .int .i64 t1, .int .i64 v1, .int .i64 s1, .int .i64 u1, .slice a1 k1 c1] 30) = WX := ⟨_, rfl⟩; rw [hWX] at hb6 N2 hm6; have J2 := hj.up hb6; have jf := J2.fr; have y0 := J2.c0; have y1 := J2.c1; have y2 := J2.c2; have y3 := J2.c3; have y4 := J2.c4; have y5 := J2.c5; have z0 := N2.c0; have z1 := N2.c1; have z2 := N2.c2; have z3 := N2.c3; have z4 := N2.c4; have z5 := N2.c5; have bh2 : Boxed WX (g + 1) 3 (.int .i64 (z.2 : Int)) := (hb6.block _ hbh.lt).trans hbh; have bc2 := bh2.cell; have bf2 := bh2.frozen)
      have ho2 : ownsR WX w.heap.size 110 (.slice a1 k1 c1) (toldJ z.1 x.1.1 fst).l := by rw [← hWX]; exact HK.out.2.2.2.2.2.alloc _
      have J3 := J2.set (.int .i64 n1) (.int .i64 t1) (.int .i64 v1) (.int .i64 s1) (.int .i64 u1) (.slice a1 k1 c1)
      have J4 := J3.far (p := ⟨g + 1, 0, none⟩) (by simp) (.int .i64 (x.1.2 : Int))
      have bh3 : Boxed (((((((WX).setCell ⟨g, 0, none⟩ (.int .i64 n1)).setCell ⟨g, 1, none⟩ (.int .i64 t1)).setCell ⟨g, 2, none⟩ (.int .i64 v1)).setCell ⟨g, 3, none⟩ (.int .i64 s1)).setCell ⟨g, 4, none⟩ (.int .i64 u1)).setCell ⟨g, 5, none⟩ (.slice a1 k1 c1)) (g + 1) 3 (.int .i64 (z.2 : Int)) := cells_far6 bh2 (by omega) _ _ _ _ _ _
      have bh4 := bh3.set (.int .i64 (x.1.2 : Int))
      have fl2 : Boxed WX (g + 1 + 1) 9 (.string s) := (hb6.block _ hfile.lt).trans hfile
      have fl3 : Boxed (((((((WX).setCell ⟨g, 0, none⟩ (.int .i64 n1)).setCell ⟨g, 1, none⟩ (.int .i64 t1)).setCell ⟨g, 2, none⟩ (.int .i64 v1)).setCell ⟨g, 3, none⟩ (.int .i64 s1)).setCell ⟨g, 4, none⟩ (.int .i64 u1)).setCell ⟨g, 5, none⟩ (.slice a1 k1 c1)) (g + 1 + 1) 9 (.string s) := cells_far6 fl2 (by omega) _ _ _ _ _ _
      have fl4 := fl3.other (B' := g + 1) (by omega) (.int .i64 (x.1.2 : Int))
      have rs3 : B6 (((((((WX).setCell ⟨g, 0, none⟩ (.int .i64 n1)).setCell ⟨g, 1, none⟩ (.int .i64 t1)).setCell ⟨g, 2, none⟩ (.int .i64 v1)).setCell ⟨g, 3, none⟩ (.int .i64 s1)).setCell ⟨g, 4, none⟩ (.int .i64 u1)).setCell ⟨g, 5, none⟩ (.slice a1 k1 c1)) w.heap.size (.int .i64 0) (.int .i64 0) (.int .i64 0) (.int .i64 0) (.int .i64 0) (.slice none 0 0) := cells_far6 (hres.up hb6) (by omega) _ _ _ _ _ _
      have rs4 := rs3.far (p := ⟨g + 1, 0, none⟩) (by show g + 1 ≠ w.heap.size; omega) (.int .i64 (x.1.2 : Int))
      have ho3 := ownsR_set6 ho2 (not_row6 J2 ho2) (.int .i64 n1) (.int .i64 t1) (.int .i64 v1) (.int .i64 s1) (.int .i64 u1) (.slice a1 k1 c1)
      have ho4 : ownsR ((((((((WX).setCell ⟨g, 0, none⟩ (.int .i64 n1)).setCell ⟨g, 1, none⟩ (.int .i64 t1)).setCell ⟨g, 2, none⟩ (.int .i64 v1)).setCell ⟨g, 3, none⟩ (.int .i64 s1)).setCell ⟨g, 4, none⟩ (.int .i64 u1)).setCell ⟨g, 5, none⟩ (.slice a1 k1 c1)).setCell ⟨g + 1, 0, none⟩ (.int .i64 (x.1.2 : Int))) w.heap.size 110 (.slice a1 k1 c1) (toldJ z.1 x.1.1 fst).l := World.ownsRow.kept ho3 (grown_set _ _ _ _) (.inr (fun e => not_rowE bh3 ho3 (by decide) e.symm))
      have bw1 : Below w.heap.size W (((((((WX).setCell ⟨g, 0, none⟩ (.int .i64 n1)).setCell ⟨g, 1, none⟩ (.int .i64 t1)).setCell ⟨g, 2, none⟩ (.int .i64 v1)).setCell ⟨g, 3, none⟩ (.int .i64 s1)).setCell ⟨g, 4, none⟩ (.int .i64 u1)).setCell ⟨g, 5, none⟩ (.slice a1 k1 c1)) := below_set6 (hb6.mono hB.size) (by omega) _ _ _ _ _ _
      have bw2 : Below w.heap.size W ((((((((WX).setCell ⟨g, 0, none⟩ (.int .i64 n1)).setCell ⟨g, 1, none⟩ (.int .i64 t1)).setCell ⟨g, 2, none⟩ (.int .i64 v1)).setCell ⟨g, 3, none⟩ (.int .i64 s1)).setCell ⟨g, 4, none⟩ (.int .i64 u1)).setCell ⟨g, 5, none⟩ (.slice a1 k1 c1)).setCell ⟨g + 1, 0, none⟩ (.int .i64 (x.1.2 : Int))) := Below.setCell bw1 (by show w.heap.size ≤ g + 1; omega) _
      have kp : KeepsOthers W ((((((((WX).setCell ⟨g, 0, none⟩ (.int .i64 n1)).setCell ⟨g, 1, none⟩ (.int .i64 t1)).setCell ⟨g, 2, none⟩ (.int .i64 v1)).setCell ⟨g, 3, none⟩ (.int .i64 s1)).setCell ⟨g, 4, none⟩ (.int .i64 u1)).setCell ⟨g, 5, none⟩ (.slice a1 k1 c1)).setCell ⟨g + 1, 0, none⟩ (.int .i64 (x.1.2 : Int))) := (keeps_set6 (keeps_below hb6) _ _ _ _ _ _).trans (KeepsOthers.setCell _ _ _)
      refine ⟨kp.from _, ⟨bw2, fl4.cell.trans hfile.cell.symm⟩, stepJ z x.1, goJ_on HZ.out HST.out, HJ.out.next HST.out x.2.2.1 x.2.2.2, ?_⟩
      rw [← HTB.out.2]
      obtain ⟨e1, e2, e3, e4, e5, _⟩ := HK.out
      refine ⟨⟨a1, k1, c1, ?_, ho4⟩, rs4, bh4, fl4, hB.trans bw2⟩
      rw [e1, e2, e3, e4, e5] at J4 ⊢
      exact J4
  case done =>
    rintro D ys W hD hys ⟨z, HZ, HJ, ⟨⟨a, k, c, hj, ho⟩, hres, hbh, hfile, hB⟩⟩ hK
    have HR : Hid (rdJ s = z) := by
      show goJ initJ (frq s) = z
      have := HZ.out []
      rw [List.append_nil, hys] at this
      exact this
    clear HZ hys
    have j0 := hj.c0
    have j1 := hj.c1
    have j2 := hj.c2
    have j3 := hj.c3
    have j4 := hj.c4
    have j5 := hj.c5
    have b0 := hbh.cell
    have r0 := hres.c0
    have r1 := hres.c1
    have r2 := hres.c2
    have r3 := hres.c3
    have r4 := hres.c4
    have r5 := hres.c5
    have rf := hres.fr
    have hDg : g + 1 + 1 < D := by omega
    by_cases h0 : z.2 = 0
    · have h0b : ((z.2 : Int) == 0) = true := by rw [h0]; rfl
      have Z5 : B6 (((((((W).setCell ⟨w.heap.size, 0, none⟩ (.int .i64 0)).setCell ⟨w.heap.size, 1, none⟩ (.int .i64 0)).setCell ⟨w.heap.size, 2, none⟩ (.int .i64 0)).setCell ⟨w.heap.size, 3, none⟩ (.int .i64 0)).setCell ⟨w.heap.size, 4, none⟩ (.int .i64 0)).setCell ⟨w.heap.size, 5, none⟩ (.slice none 0 0)) w.heap.size (.int .i64 0) (.int .i64 0) (.int .i64 0) (.int .i64 0) (.int .i64 0) (.slice none 0 0) := (hres.set (.int .i64 0) (.int .i64 0) (.int .i64 0) (.int .i64 0) (.int .i64 0) (.slice none 0 0))
      have B5 : Below w.heap.size w (((((((W).setCell ⟨w.heap.size, 0, none⟩ (.int .i64 0)).setCell ⟨w.heap.size, 1, none⟩ (.int .i64 0)).setCell ⟨w.heap.size, 2, none⟩ (.int .i64 0)).setCell ⟨w.heap.size, 3, none⟩ (.int .i64 0)).setCell ⟨w.heap.size, 4, none⟩ (.int .i64 0)).setCell ⟨w.heap.size, 5, none⟩ (.slice none 0 0)) := (below_set6 hB (Nat.le_refl _) _ _ _ _ _ _)
      have K5 : (((((((W).setCell ⟨w.heap.size, 0, none⟩ (.int .i64 0)).setCell ⟨w.heap.size, 1, none⟩ (.int .i64 0)).setCell ⟨w.heap.size, 2, none⟩ (.int .i64 0)).setCell ⟨w.heap.size, 3, none⟩ (.int .i64 0)).setCell ⟨w.heap.size, 4, none⟩ (.int .i64 0)).setCell ⟨w.heap.size, 5, none⟩ (.slice none 0 0)).heap[D]? = some (.deferred (some [])) := obj_far6 hK (by omega) _ _ _ _ _ _
      gi_wp2
      obtain ⟨w5, hw5⟩ : ∃ w5, ((((((W).setCell ⟨w.heap.size, 0, none⟩ (.int .i64 0)).setCell ⟨w.heap.size, 1, none⟩ (.int .i64 0)).setCell ⟨w.heap.size, 2, none⟩ (.int .i64 0)).setCell ⟨w.heap.size, 3, none⟩ (.int .i64 0)).setCell ⟨w.heap.size, 4, none⟩ (.int .i64 0)).setCell ⟨w.heap.size, 5, none⟩ (.slice none 0 0) = w5 := ⟨_, rfl⟩
      rw [hw5] at Z5 B5 K5 ⊢
      clear hw5
      refine ⟨by simp, .inl ⟨_, _, rfl, run_takeDeferred K5, ?_⟩⟩
      refine ⟨_, ret_j3 rfl rfl rfl rfl (Z5.put _ (by omega)), B5.trans (belowK_b (w := w) (Nat.le_refl _) _ D _ _ (by omega) K5 rfl rfl), ?_, ?_⟩
      · rw [HR.out]; intro _; rfl
      · rw [HR.out]; intro h; exact absurd h0 h
    · have h0b : ((z.2 : Int) == 0) = false := by rw [Bool.eq_false_iff]; intro h; apply h0; simpa using h
      by_cases hl : z.2 < s.size
      · have hl2 : (z.2 : Int) < (s.size : Int) := by omega
        have Z5 : B6 ((((((((W).setCell ⟨w.heap.size, 0, none⟩ (.int .i64 n)).setCell ⟨w.heap.size, 1, none⟩ (.int .i64 z.1.t)).setCell ⟨w.heap.size, 2, none⟩ (.int .i64 z.1.v)).setCell ⟨w.heap.size, 3, none⟩ (.int .i64 z.1.s)).setCell ⟨w.heap.size, 4, none⟩ (.int .i64 z.1.st)).setCell ⟨w.heap.size, 5, none⟩ (.slice a k c)).drew) w.heap.size (.int .i64 n) (.int .i64 z.1.t) (.int .i64 z.1.v) (.int .i64 z.1.s) (.int .i64 z.1.st) (.slice a k c) := (hres.set (.int .i64 n) (.int .i64 z.1.t) (.int .i64 z.1.v) (.int .i64 z.1.s) (.int .i64 z.1.st) (.slice a k c)).drew
        have B5 : Below w.heap.size w ((((((((W).setCell ⟨w.heap.size, 0, none⟩ (.int .i64 n)).setCell ⟨w.heap.size, 1, none⟩ (.int .i64 z.1.t)).setCell ⟨w.heap.size, 2, none⟩ (.int .i64 z.1.v)).setCell ⟨w.heap.size, 3, none⟩ (.int .i64 z.1.s)).setCell ⟨w.heap.size, 4, none⟩ (.int .i64 z.1.st)).setCell ⟨w.heap.size, 5, none⟩ (.slice a k c)).drew) := Below.drew (below_set6 hB (Nat.le_refl _) _ _ _ _ _ _)
        have K5 : ((((((((W).setCell ⟨w.heap.size, 0, none⟩ (.int .i64 n)).setCell ⟨w.heap.size, 1, none⟩ (.int .i64 z.1.t)).setCell ⟨w.heap.size, 2, none⟩ (.int .i64 z.1.v)).setCell ⟨w.heap.size, 3, none⟩ (.int .i64 z.1.s)).setCell ⟨w.heap.size, 4, none⟩ (.int .i64 z.1.st)).setCell ⟨w.heap.size, 5, none⟩ (.slice a k c)).drew).heap[D]? = some (.deferred (some [])) := obj_far6d hK (by omega) _ _ _ _ _ _
        have O5 : ownsR ((((((((W).setCell ⟨w.heap.size, 0, none⟩ (.int .i64 n)).setCell ⟨w.heap.size, 1, none⟩ (.int .i64 z.1.t)).setCell ⟨w.heap.size, 2, none⟩ (.int .i64 z.1.v)).setCell ⟨w.heap.size, 3, none⟩ (.int .i64 z.1.s)).setCell ⟨w.heap.size, 4, none⟩ (.int .i64 z.1.st)).setCell ⟨w.heap.size, 5, none⟩ (.slice a k c)).drew) w.heap.size 110 (.slice a k c) z.1.l := ownsR.drew (ownsR_set6 ho (not_row6 hres ho) _ _ _ _ _ _)
        gi_wp2
        refine wpIn_wide.2 ?_
        go_region
        obtain ⟨w5, hw5⟩ : ∃ w5, (((((((W).setCell ⟨w.heap.size, 0, none⟩ (.int .i64 n)).setCell ⟨w.heap.size, 1, none⟩ (.int .i64 z.1.t)).setCell ⟨w.heap.size, 2, none⟩ (.int .i64 z.1.v)).setCell ⟨w.heap.size, 3, none⟩ (.int .i64 z.1.s)).setCell ⟨w.heap.size, 4, none⟩ (.int .i64 z.1.st)).setCell ⟨w.heap.size, 5, none⟩ (.slice a k c)).drew = w5 := ⟨_, rfl⟩
        rw [hw5] at Z5 B5 K5 O5 ⊢
        clear hw5
        gi_wp2
        refine ⟨by simp, .inl ⟨_, _, rfl, run_takeDeferred K5, ?_⟩⟩
        refine ⟨_, ret_j3 rfl rfl rfl rfl (Z5.put _ (by omega)), B5.trans (belowK_b (w := w) (Nat.le_refl _) _ D _ _ (by omega) K5 rfl rfl), ?_, ?_⟩
        · rw [HR.out]; intro h; exact absurd h h0
        · rw [HR.out]; intro _
          exact ⟨a, k, c, by rw [if_pos hl]; rfl, ownsRow_putObj O5 _ K5 rfl⟩
      · have hl2 : ¬ (z.2 : Int) < (s.size : Int) := by omega
        have Z5 : B6 ((((((((W).setCell ⟨w.heap.size, 0, none⟩ (.int .i64 n)).setCell ⟨w.heap.size, 1, none⟩ (.int .i64 z.1.t)).setCell ⟨w.heap.size, 2, none⟩ (.int .i64 z.1.v)).setCell ⟨w.heap.size, 3, none⟩ (.int .i64 z.1.s)).setCell ⟨w.heap.size, 4, none⟩ (.int .i64 z.1.st)).setCell ⟨w.heap.size, 5, none⟩ (.slice a k c)).drew) w.heap.size (.int .i64 n) (.int .i64 z.1.t) (.int .i64 z.1.v) (.int .i64 z.1.s) (.int .i64 z.1.st) (.slice a k c) := (hres.set (.int .i64 n) (.int .i64 z.1.t) (.int .i64 z.1.v) (.int .i64 z.1.s) (.int .i64 z.1.st) (.slice a k c)).drew
        have B5 : Below w.heap.size w ((((((((W).setCell ⟨w.heap.size, 0, none⟩ (.int .i64 n)).setCell ⟨w.heap.size, 1, none⟩ (.int .i64 z.1.t)).setCell ⟨w.heap.size, 2, none⟩ (.int .i64 z.1.v)).setCell ⟨w.heap.size, 3, none⟩ (.int .i64 z.1.s)).setCell ⟨w.heap.size, 4, none⟩ (.int .i64 z.1.st)).setCell ⟨w.heap.size, 5, none⟩ (.slice a k c)).drew) := Below.drew (below_set6 hB (Nat.le_refl _) _ _ _ _ _ _)
        have K5 : ((((((((W).setCell ⟨w.heap.size, 0, none⟩ (.int .i64 n)).setCell ⟨w.heap.size, 1, none⟩ (.int .i64 z.1.t)).setCell ⟨w.heap.size, 2, none⟩ (.int .i64 z.1.v)).setCell ⟨w.heap.size, 3, none⟩ (.int .i64 z.1.s)).setCell ⟨w.heap.size, 4, none⟩ (.int .i64 z.1.st)).setCell ⟨w.heap.size, 5, none⟩ (.slice a k c)).drew).heap[D]? = some (.deferred (some [])) := obj_far6d hK (by omega) _ _ _ _ _ _
        have O5 : ownsR ((((((((W).setCell ⟨w.heap.size, 0, none⟩ (.int .i64 n)).setCell ⟨w.heap.size, 1, none⟩ (.int .i64 z.1.t)).setCell ⟨w.heap.size, 2, none⟩ (.int .i64 z.1.v)).setCell ⟨w.heap.size, 3, none⟩ (.int .i64 z.1.s)).setCell ⟨w.heap.size, 4, none⟩ (.int .i64 z.1.st)).setCell ⟨w.heap.size, 5, none⟩ (.slice a k c)).drew) w.heap.size 110 (.slice a k c) z.1.l := ownsR.drew (ownsR_set6 ho (not_row6 hres ho) _ _ _ _ _ _)
        gi_wp2
        refine wpIn_wide.2 ?_
        go_region
        obtain ⟨w5, hw5⟩ : ∃ w5, (((((((W).setCell ⟨w.heap.size, 0, none⟩ (.int .i64 n)).setCell ⟨w.heap.size, 1, none⟩ (.int .i64 z.1.t)).setCell ⟨w.heap.size, 2, none⟩ (.int .i64 z.1.v)).setCell ⟨w.heap.size, 3, none⟩ (.int .i64 z.1.s)).setCell ⟨w.heap.size, 4, none⟩ (.int .i64 z.1.st)).setCell ⟨w.heap.size, 5, none⟩ (.slice a k c)).drew = w5 := ⟨_, rfl⟩
        rw [hw5] at Z5 B5 K5 O5 ⊢
        clear hw5
        gi_wp2
        refine ⟨by simp, .inl ⟨_, _, rfl, run_takeDeferred K5, ?_⟩⟩
        refine ⟨_, ret_j3 rfl rfl rfl rfl (Z5.put _ (by omega)), B5.trans (belowK_b (w := w) (Nat.le_refl _) _ D _ _ (by omega) K5 rfl rfl), ?_, ?_⟩
        · rw [HR.out]; intro h; exact absurd h h0
        · rw [HR.out]; intro _
          exact ⟨a, k, c, by rw [if_neg hl]; rfl, ownsRow_putObj O5 _ K5 rfl⟩
  case stop =>
    rintro D cd pre W hD hpre ⟨rfl, z, HZ, HJ, ⟨⟨a, k, c, hj, ho⟩, hres, hbh, hfile, hB⟩⟩ hK
    have HR : Hid (rdJ s = z) := by
      show goJ initJ (frq s) = z
      obtain ⟨rest, hrest⟩ := hpre
      rw [← hrest]
      exact HZ.out rest
    clear HZ hpre
    have j0 := hj.c0
    have j1 := hj.c1
    have j2 := hj.c2
    have j3 := hj.c3
    have j4 := hj.c4
    have j5 := hj.c5
    have b0 := hbh.cell
    have r0 := hres.c0
    have r1 := hres.c1
    have r2 := hres.c2
    have r3 := hres.c3
    have r4 := hres.c4
    have r5 := hres.c5
    have rf := hres.fr
    have hDg : g + 1 + 1 < D := by omega
    by_cases h0 : z.2 = 0
    · have h0b : ((z.2 : Int) == 0) = true := by rw [h0]; rfl
      have Z5 : B6 (((((((W).setCell ⟨w.heap.size, 0, none⟩ (.int .i64 0)).setCell ⟨w.heap.size, 1, none⟩ (.int .i64 0)).setCell ⟨w.heap.size, 2, none⟩ (.int .i64 0)).setCell ⟨w.heap.size, 3, none⟩ (.int .i64 0)).setCell ⟨w.heap.size, 4, none⟩ (.int .i64 0)).setCell ⟨w.heap.size, 5, none⟩ (.slice none 0 0)) w.heap.size (.int .i64 0) (.int .i64 0) (.int .i64 0) (.int .i64 0) (.int .i64 0) (.slice none 0 0) := (hres.set (.int .i64 0) (.int .i64 0) (.int .i64 0) (.int .i64 0) (.int .i64 0) (.slice none 0 0))
      have B5 : Below w.heap.size w (((((((W).setCell ⟨w.heap.size, 0, none⟩ (.int .i64 0)).setCell ⟨w.heap.size, 1, none⟩ (.int .i64 0)).setCell ⟨w.heap.size, 2, none⟩ (.int .i64 0)).setCell ⟨w.heap.size, 3, none⟩ (.int .i64 0)).setCell ⟨w.heap.size, 4, none⟩ (.int .i64 0)).setCell ⟨w.heap.size, 5, none⟩ (.slice none 0 0)) := (below_set6 hB (Nat.le_refl _) _ _ _ _ _ _)
      have K5 : (((((((W).setCell ⟨w.heap.size, 0, none⟩ (.int .i64 0)).setCell ⟨w.heap.size, 1, none⟩ (.int .i64 0)).setCell ⟨w.heap.size, 2, none⟩ (.int .i64 0)).setCell ⟨w.heap.size, 3, none⟩ (.int .i64 0)).setCell ⟨w.heap.size, 4, none⟩ (.int .i64 0)).setCell ⟨w.heap.size, 5, none⟩ (.slice none 0 0)).heap[D]? = some (.deferred (some [])) := obj_far6 hK (by omega) _ _ _ _ _ _
      gi_wp2
      obtain ⟨w5, hw5⟩ : ∃ w5, ((((((W).setCell ⟨w.heap.size, 0, none⟩ (.int .i64 0)).setCell ⟨w.heap.size, 1, none⟩ (.int .i64 0)).setCell ⟨w.heap.size, 2, none⟩ (.int .i64 0)).setCell ⟨w.heap.size, 3, none⟩ (.int .i64 0)).setCell ⟨w.heap.size, 4, none⟩ (.int .i64 0)).setCell ⟨w.heap.size, 5, none⟩ (.slice none 0 0) = w5 := ⟨_, rfl⟩
      rw [hw5] at Z5 B5 K5 ⊢
      clear hw5
      refine ⟨by simp, .inl ⟨_, _, rfl, run_takeDeferred K5, ?_⟩⟩
      refine ⟨_, ret_j3 rfl rfl rfl rfl (Z5.put _ (by omega)), B5.trans (belowK_b (w := w) (Nat.le_refl _) _ D _ _ (by omega) K5 rfl rfl), ?_, ?_⟩
      · rw [HR.out]; intro _; rfl
      · rw [HR.out]; intro h; exact absurd h0 h
    · have h0b : ((z.2 : Int) == 0) = false := by rw [Bool.eq_false_iff]; intro h; apply h0; simpa using h
      by_cases hl : z.2 < s.size
      · have hl2 : (z.2 : Int) < (s.size : Int) := by omega
        have Z5 : B6 ((((((((W).setCell ⟨w.heap.size, 0, none⟩ (.int .i64 n)).setCell ⟨w.heap.size, 1, none⟩ (.int .i64 z.1.t)).setCell ⟨w.heap.size, 2, none⟩ (.int .i64 z.1.v)).setCell ⟨w.heap.size, 3, none⟩ (.int .i64 z.1.s)).setCell ⟨w.heap.size, 4, none⟩ (.int .i64 z.1.st)).setCell ⟨w.heap.size, 5, none⟩ (.slice a k c)).drew) w.heap.size (.int .i64 n) (.int .i64 z.1.t) (.int .i64 z.1.v) (.int .i64 z.1.s) (.int .i64 z.1.st) (.slice a k c) := (hres.set (.int .i64 n) (.int .i64 z.1.t) (.int .i64 z.1.v) (.int .i64 z.1.s) (.int .i64 z.1.st) (.slice a k c)).drew
        have B5 : Below w.heap.size w ((((((((W).setCell ⟨w.heap.size, 0, none⟩ (.int .i64 n)).setCell ⟨w.heap.size, 1, none⟩ (.int .i64 z.1.t)).setCell ⟨w.heap.size, 2, none⟩ (.int .i64 z.1.v)).setCell ⟨w.heap.size, 3, none⟩ (.int .i64 z.1.s)).setCell ⟨w.heap.size, 4, none⟩ (.int .i64 z.1.st)).setCell ⟨w.heap.size, 5, none⟩ (.slice a k c)).drew) := Below.drew (below_set6 hB (Nat.le_refl _) _ _ _ _ _ _)
        have K5 : ((((((((W).setCell ⟨w.heap.size, 0, none⟩ (.int .i64 n)).setCell ⟨w.heap.size, 1, none⟩ (.int .i64 z.1.t)).setCell ⟨w.heap.size, 2, none⟩ (.int .i64 z.1.v)).setCell ⟨w.heap.size, 3, none⟩ (.int .i64 z.1.s)).setCell ⟨w.heap.size, 4, none⟩ (.int .i64 z.1.st)).setCell ⟨w.heap.size, 5, none⟩ (.slice a k c)).drew).heap[D]? = some (.deferred (some [])) := obj_far6d hK (by omega) _ _ _ _ _ _
        have O5 : ownsR ((((((((W).setCell ⟨w.heap.size, 0, none⟩ (.int .i64 n)).setCell ⟨w.heap.size, 1, none⟩ (.int .i64 z.1.t)).setCell ⟨w.heap.size, 2, none⟩ (.int .i64 z.1.v)).setCell ⟨w.heap.size, 3, none⟩ (.int .i64 z.1.s)).setCell ⟨w.heap.size, 4, none⟩ (.int .i64 z.1.st)).setCell ⟨w.heap.size, 5, none⟩ (.slice a k c)).drew) w.heap.size 110 (.slice a k c) z.1.l := ownsR.drew (ownsR_set6 ho (not_row6 hres ho) _ _ _ _ _ _)
        gi_wp2
        refine wpIn_wide.2 ?_
        go_region
        obtain ⟨w5, hw5⟩ : ∃ w5, (((((((W).setCell ⟨w.heap.size, 0, none⟩ (.int .i64 n)).setCell ⟨w.heap.size, 1, none⟩ (.int .i64 z.1.t)).setCell ⟨w.heap.size, 2, none⟩ (.int .i64 z.1.v)).setCell ⟨w.heap.size, 3, none⟩ (.int .i64 z.1.s)).setCell ⟨w.heap.size, 4, none⟩ (.int .i64 z.1.st)).setCell ⟨w.heap.size, 5, none⟩ (.slice a k c)).drew = w5 := ⟨_, rfl⟩
        rw [hw5] at Z5 B5 K5 O5 ⊢
        clear hw5
        gi_wp2
        refine ⟨by simp, .inl ⟨_, _, rfl, run_takeDeferred K5, ?_⟩⟩
        refine ⟨_, ret_j3 rfl rfl rfl rfl (Z5.put _ (by omega)), B5.trans (belowK_b (w := w) (Nat.le_refl _) _ D _ _ (by omega) K5 rfl rfl), ?_, ?_⟩
        · rw [HR.out]; intro h; exact absurd h h0
        · rw [HR.out]; intro _
          exact ⟨a, k, c, by rw [if_pos hl]; rfl, ownsRow_putObj O5 _ K5 rfl⟩
      · have hl2 : ¬ (z.2 : Int) < (s.size : Int) := by omega
        have Z5 : B6 ((((((((W).setCell ⟨w.heap.size, 0, none⟩ (.int .i64 n)).setCell ⟨w.heap.size, 1, none⟩ (.int .i64 z.1.t)).setCell ⟨w.heap.size, 2, none⟩ (.int .i64 z.1.v)).setCell ⟨w.heap.size, 3, none⟩ (.int .i64 z.1.s)).setCell ⟨w.heap.size, 4, none⟩ (.int .i64 z.1.st)).setCell ⟨w.heap.size, 5, none⟩ (.slice a k c)).drew) w.heap.size (.int .i64 n) (.int .i64 z.1.t) (.int .i64 z.1.v) (.int .i64 z.1.s) (.int .i64 z.1.st) (.slice a k c) := (hres.set (.int .i64 n) (.int .i64 z.1.t) (.int .i64 z.1.v) (.int .i64 z.1.s) (.int .i64 z.1.st) (.slice a k c)).drew
        have B5 : Below w.heap.size w ((((((((W).setCell ⟨w.heap.size, 0, none⟩ (.int .i64 n)).setCell ⟨w.heap.size, 1, none⟩ (.int .i64 z.1.t)).setCell ⟨w.heap.size, 2, none⟩ (.int .i64 z.1.v)).setCell ⟨w.heap.size, 3, none⟩ (.int .i64 z.1.s)).setCell ⟨w.heap.size, 4, none⟩ (.int .i64 z.1.st)).setCell ⟨w.heap.size, 5, none⟩ (.slice a k c)).drew) := Below.drew (below_set6 hB (Nat.le_refl _) _ _ _ _ _ _)
        have K5 : ((((((((W).setCell ⟨w.heap.size, 0, none⟩ (.int .i64 n)).setCell ⟨w.heap.size, 1, none⟩ (.int .i64 z.1.t)).setCell ⟨w.heap.size, 2, none⟩ (.int .i64 z.1.v)).setCell ⟨w.heap.size, 3, none⟩ (.int .i64 z.1.s)).setCell ⟨w.heap.size, 4, none⟩ (.int .i64 z.1.st)).setCell ⟨w.heap.size, 5, none⟩ (.slice a k c)).drew).heap[D]? = some (.deferred (some [])) := obj_far6d hK (by omega) _ _ _ _ _ _
        have O5 : ownsR ((((((((W).setCell ⟨w.heap.size, 0, none⟩ (.int .i64 n)).setCell ⟨w.heap.size, 1, none⟩ (.int .i64 z.1.t)).setCell ⟨w.heap.size, 2, none⟩ (.int .i64 z.1.v)).setCell ⟨w.heap.size, 3, none⟩ (.int .i64 z.1.s)).setCell ⟨w.heap.size, 4, none⟩ (.int .i64 z.1.st)).setCell ⟨w.heap.size, 5, none⟩ (.slice a k c)).drew) w.heap.size 110 (.slice a k c) z.1.l := ownsR.drew (ownsR_set6 ho (not_row6 hres ho) _ _ _ _ _ _)
        gi_wp2
        refine wpIn_wide.2 ?_
        go_region
        obtain ⟨w5, hw5⟩ : ∃ w5, (((((((W).setCell ⟨w.heap.size, 0, none⟩ (.int .i64 n)).setCell ⟨w.heap.size, 1, none⟩ (.int .i64 z.1.t)).setCell ⟨w.heap.size, 2, none⟩ (.int .i64 z.1.v)).setCell ⟨w.heap.size, 3, none⟩ (.int .i64 z.1.s)).setCell ⟨w.heap.size, 4, none⟩ (.int .i64 z.1.st)).setCell ⟨w.heap.size, 5, none⟩ (.slice a k c)).drew = w5 := ⟨_, rfl⟩
        rw [hw5] at Z5 B5 K5 O5 ⊢
        clear hw5
        gi_wp2
        refine ⟨by simp, .inl ⟨_, _, rfl, run_takeDeferred K5, ?_⟩⟩
        refine ⟨_, ret_j3 rfl rfl rfl rfl (Z5.put _ (by omega)), B5.trans (belowK_b (w := w) (Nat.le_refl _) _ D _ _ (by omega) K5 rfl rfl), ?_, ?_⟩
        · rw [HR.out]; intro h; exact absurd h h0
        · rw [HR.out]; intro _
          exact ⟨a, k, c, by rw [if_neg hl]; rfl, ownsRow_putObj O5 _ K5 rfl⟩
end Go.Proofs.YtgpojfkdcdgloaaGreatDoor
