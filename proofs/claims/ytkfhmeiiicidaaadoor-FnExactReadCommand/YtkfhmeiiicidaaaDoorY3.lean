/-
  A command read from its bytes by the specification: the walks of its steps, and what it comes to. A command read from its bytes by the specification: the walk. A number that is written is read back, whatever stands ahead of it and behind it; one that is torn is not. A command comes back from its bytes: plain facts; what the specification reads is what the program reads.
-/
import Derived.Test.YtkfhmeiiicidaaaDoorCu17
import Derived.Test.YtkfhmeiiicidaaaDoorCmx
import Derived.Test.YtkfhmeiiicidaaaDoorY2
import Derived.Test.YtkfhmeiiicidaaaDoorRvs
namespace Go.Proofs.YtkfhmeiiicidaaaDoor
open Go Go.RowKit
set_option linter.unusedVariables false

def one17P (s : ByteArray) (a : Nat) (b : Bool) : Nat × Nat × Bool := if b = false ∧ a + 1 ≤ s.size then (kAt s a, a + 1, false) else (0, a, true)
def sho17P (s : ByteArray) (a : Nat) (b : Bool) : ByteArray × Nat × Bool := takeS s (varS s a b).2.1 (varS s a b).2.2 (varS s a b).1
theorem extract_one {s : ByteArray} {a : Nat} (h : a < s.size) : ∃ h1 : 0 < (s.extract a (a + 1)).size, (s.extract a (a + 1))[0]'h1 = s[a] := by
  have h1 : 0 < (s.extract a (a + 1)).size := by rw [ByteArray.size_extract]; omega
  refine ⟨h1, ?_⟩
  simp [ByteArray.getElem_extract]
set_option maxRecDepth 10000 in
set_option maxHeartbeats 1000000 in
theorem one17_any (g : Nat) (s : ByteArray) (a : Nat) (b : Bool) (w : World) (hc : Cur17 w g s a b) (hs : s.size ≤ 1048576) (ha : a ≤ s.size) :
    Calls Tryd.prog 23 #[.pointer (some ⟨g, 0, none⟩)] w fun e w' => ∃ (x a' : Nat) (b' : Bool), e = .returned (.int .i64 x) ∧ one17P s a b = (x, a', b') ∧ a' ≤ s.size ∧ Cur17 w' g s a' b' ∧ Save g w w' := by
  have HC : Hid (Cur17 w g s a b) := hc
  obtain ⟨R, HR⟩ : ∃ R, Hid (one17P s a b = R) := ⟨_, rfl⟩
  rw [HR.out]
  clear hc
  go_enter Tryd.func23, Tryd.ntmps23
  go_wp2_with fail
  refine (show Calls Tryd.prog 38 #[.pointer (some ⟨g, 0, none⟩), .int .i64 1] w _ from take17_any g s a 1 b w HC.out hs ha).mono ?_
  rintro e w1 ⟨t, a1, b1, rfl, hq, ha1, hc1, hs1⟩
  have H1 : Hid (Cur17 w1 g s a1 b1) := hc1
  have S1 : Hid (Save g w w1) := hs1
  obtain ⟨c0, c1, c2, hf⟩ := cur_cells hc1
  clear hc1 hs1
  cases b1 with
  | true =>
    have hR : R = (0, a, true) ∧ a1 = a := by
      rw [← HR.out]
      unfold takeS at hq
      unfold one17P
      split at hq
      · simp at hq
      · rename_i hn
        rw [if_neg hn]
        simp only [Prod.mk.injEq] at hq
        exact ⟨rfl, hq.2.1.symm⟩
    obtain ⟨rfl, rfl⟩ := hR
    clear hq
    go_wp2
    go_ret
    exact ⟨0, a1, true, rfl, rfl, ha1, H1.out, S1.out⟩
  | false =>
    obtain ⟨hb, hn, ht, hae⟩ := takeS_ok hq
    subst hb
    have hal : a < s.size := by omega
    obtain ⟨k, HK⟩ : ∃ k : Nat, Hid (kAt s a = k) := ⟨_, rfl⟩
    have hR : R = (k, a1, false) := by
      rw [← HR.out, hae, ← HK.out]
      unfold one17P
      rw [if_pos ⟨rfl, hn⟩]
    subst hR
    have hk8 : k < 256 := by rw [← HK.out]; exact kAt_lt s a
    have hix : ∀ wx, (Instr.index 9 (.string t) (.int .i64 0)).run Tryd.prog wx = .ok (.int .u8 (k : Int)) wx := fun wx => by
      obtain ⟨h1, h2⟩ := extract_one hal
      have := run_index_string (P := Tryd.prog) wx 9 (s.extract a (a + 1)) .i64 0 Tryd.underlying9
      rw [ht, this, dif_pos ⟨Int.le_refl 0, by omega⟩, ← HK.out, kAt_in hal, ← h2]
      rfl
    have hw3 : IntKind.i64.wrap (k : Int) = (k : Int) := by go_arith
    clear hq ht
    go_wp2
    go_ret
    exact ⟨k, a1, false, rfl, rfl, ha1, H1.out, S1.out⟩
set_option maxRecDepth 10000 in
set_option maxHeartbeats 1000000 in
theorem sho17_any (g : Nat) (s : ByteArray) (a : Nat) (b : Bool) (w : World) (hc : Cur17 w g s a b) (hs : s.size ≤ 1048576) (ha : a ≤ s.size) :
    Calls Tryd.prog 25 #[.pointer (some ⟨g, 0, none⟩)] w fun e w' => ∃ (x : ByteArray) (a' : Nat) (b' : Bool), e = .returned (.string x) ∧ sho17P s a b = (x, a', b') ∧ a' ≤ s.size ∧ x.size ≤ 1048576 ∧ Cur17 w' g s a' b' ∧ Save g w w' := by
  have HC : Hid (Cur17 w g s a b) := hc
  obtain ⟨R, HR⟩ : ∃ R, Hid (sho17P s a b = R) := ⟨_, rfl⟩
  rw [HR.out]
  clear hc
  go_enter Tryd.func25, Tryd.ntmps25
  go_wp2_with fail
  refine (var17_any g s a b w HC.out hs ha).mono ?_
  rintro e w1 ⟨n, a1, b1, rfl, hq, ha1, hn, hc1, hs1⟩
  have HQ : Hid (varS s a b = (n, a1, b1)) := hq
  have H1 : Hid (Cur17 w1 g s a1 b1) := hc1
  have S1 : Hid (Save g w w1) := hs1
  clear hq hc1 hs1
  go_wp2_with fail
  refine (take17_any g s a1 n b1 w1 H1.out hs ha1).mono ?_
  rintro e w2 ⟨t, a2, b2, rfl, hq, ha2, hc2, hs2⟩
  obtain rfl : R = (t, a2, b2) := by rw [← HR.out]; unfold sho17P; rw [HQ.out]; exact hq
  have ht : t.size ≤ 1048576 := by
    unfold takeS at hq
    split at hq
    · simp only [Prod.mk.injEq] at hq
      rw [← hq.1, ByteArray.size_extract]
      omega
    · simp only [Prod.mk.injEq] at hq
      rw [← hq.1]
      decide
  have HT : Hid (t.size ≤ 1048576) := ht
  have H2 : Hid (Cur17 w2 g s a2 b2) := hc2
  have S2 : Hid (Save g w w2) := S1.out.trans hs2
  clear hq hc2 hs2 ht
  go_wp2
  go_ret
  exact ⟨t, a2, b2, rfl, rfl, ha2, HT.out, H2.out, S2.out⟩
/-- What the specification reads of a text: the command, and whether the text was not of its form. -/
def spP (s : ByteArray) : Cm × Bool :=
  let r0 := one17P s 0 false
  let r1 := varS s r0.2.1 r0.2.2
  let r2 := varS s r1.2.1 r1.2.2
  let r3 := sho17P s r2.2.1 r2.2.2
  let r4 := sho17P s r3.2.1 r3.2.2
  let r5 := varS s r4.2.1 r4.2.2
  let r6 := varS s r5.2.1 r5.2.2
  let r7 := one17P s r6.2.1 r6.2.2
  (⟨r0.1, r1.1, r2.1, r3.1, r4.1, r5.1, r6.1, decide ((r7.1 : Int) = 1)⟩, r7.2.2)
def specRP (s : ByteArray) : Option Cm := if (spP s).2 = false ∧ okC (spP s).1 = true ∧ teC (spP s).1 = s then some (spP s).1 else none
end Go.Proofs.YtkfhmeiiicidaaaDoor

namespace Go.Proofs.YtkfhmeiiicidaaaDoor
open Go Go.RowKit
set_option linter.unusedVariables false

set_option maxRecDepth 10000 in
set_option maxHeartbeats 8000000 in
theorem specReadCommand_any (s : ByteArray) (w : World) (hs : s.size ≤ 1048576) :
    Calls Tryd.prog 9 #[.string s] w fun e w' => e = .returned (rwV (specRP s)) ∧ Below w.heap.size w w' := by
  obtain ⟨R, HR⟩ : ∃ R, Hid (specRP s = R) := ⟨_, rfl⟩
  rw [HR.out]
  obtain ⟨W0, HW0⟩ : ∃ V, Hid ((w.alloc (.cells #[.int .i64 0, .int .i64 0, .int .i64 0, .string { data := #[] }, .string { data := #[] }, .int .i64 0, .int .i64 0, .bool false] 27)).alloc (.cells #[.string s, .int .i64 0, .bool false] 52) = V) := ⟨_, rfl⟩
  have P0 : Hid (Kc8 27 W0 w.heap.size (.int .i64 0) (.int .i64 0) (.int .i64 0) (.string { data := #[] }) (.string { data := #[] }) (.int .i64 0) (.int .i64 0) (.bool false)) := by rw [← HW0.out]; exact (Kc8.new _ _ _ _ _ _ _ _ _ _).alloc _
  have C0 : Hid (Cur17 W0 (w.heap.size + 1) s 0 false) := by rw [← HW0.out]; exact heap_next _ _ _
  have B0 : Hid (Below w.heap.size w W0) := by rw [← HW0.out]; exact ba (ba (Below.refl _ _) _) _
  have a0l : 0 ≤ s.size := Nat.zero_le _
  go_enter Tryd.func9, Tryd.ntmps9
  go_wp2_with fail
  rw [HW0.out]
  refine (one17_any (w.heap.size + 1) s 0 false _ C0.out hs a0l).mono ?_
  rintro e w1 ⟨x0, a1, b1, rfl, hq0, a1l, hc, hsv⟩
  have Hq0 : Hid (one17P s 0 false = (x0, a1, b1)) := hq0
  have P1 : Hid (Kc8 27 w1 w.heap.size (.int .i64 0) (.int .i64 0) (.int .i64 0) (.string { data := #[] }) (.string { data := #[] }) (.int .i64 0) (.int .i64 0) (.bool false)) := P0.out.save hsv (by omega)
  have C1 : Hid (Cur17 w1 (w.heap.size + 1) s a1 b1) := hc
  have B1 : Hid (Below w.heap.size w w1) := Save.under (B := w.heap.size) B0.out hsv (by omega) B0.out.size
  have hgl : w.heap.size + 1 < w1.heap.size := hc.lt
  obtain ⟨q, hqq⟩ : ∃ q, w1.heap.size = q := ⟨_, rfl⟩
  obtain ⟨W1, HW1⟩ : ∃ V, Hid (w1.alloc (.cells #[.int .i64 (x0 : Int), .int .i64 0, .int .i64 0, .string { data := #[] }, .string { data := #[] }, .int .i64 0, .int .i64 0, .bool false] 27) = V) := ⟨_, rfl⟩
  have Q1 : Hid (Kc8 27 W1 q (.int .i64 (x0 : Int)) (.int .i64 0) (.int .i64 0) (.string { data := #[] }) (.string { data := #[] }) (.int .i64 0) (.int .i64 0) (.bool false)) := by rw [← HW1.out, ← hqq]; exact Kc8.new _ _ _ _ _ _ _ _ _ _
  have P1' : Hid (Kc8 27 W1 w.heap.size (.int .i64 0) (.int .i64 0) (.int .i64 0) (.string { data := #[] }) (.string { data := #[] }) (.int .i64 0) (.int .i64 0) (.bool false)) := by rw [← HW1.out]; exact P1.out.alloc _
  have C1' : Hid (Cur17 W1 (w.heap.size + 1) s a1 b1) := by rw [← HW1.out]; exact heap_old C1.out _
  have B1' : Hid (Below w.heap.size w W1) := by rw [← HW1.out]; exact ba B1.out _
  have hql : w.heap.size + 1 < q := by omega
  clear hq0 hc hsv P0 C0 B0 HW0 P1 C1 B1 hgl
  go_wp2_with fail
  rw [HW1.out]
  refine (var17_any (w.heap.size + 1) s a1 b1 _ C1'.out hs a1l).mono ?_
  rintro e w2 ⟨x1, a2, b2, rfl, hq, a2l, hx, hc, hsv⟩
  have Hq1 : Hid (varS s a1 b1 = (x1, a2, b2)) := hq
  have P2 : Hid (Kc8 27 w2 w.heap.size (.int .i64 0) (.int .i64 0) (.int .i64 0) (.string { data := #[] }) (.string { data := #[] }) (.int .i64 0) (.int .i64 0) (.bool false)) := P1'.out.save hsv (by omega)
  have Q2 : Hid (Kc8 27 w2 q (.int .i64 (x0 : Int)) (.int .i64 0) (.int .i64 0) (.string { data := #[] }) (.string { data := #[] }) (.int .i64 0) (.int .i64 0) (.bool false)) := Q1.out.save hsv (by omega)
  have C2 : Hid (Cur17 w2 (w.heap.size + 1) s a2 b2) := hc
  have B2 : Hid (Below w.heap.size w w2) := Save.under (B := w.heap.size) B1'.out hsv (by omega) B1'.out.size
  clear hq hc hsv hx P1' Q1 C1' B1' HW1
  have c1 := Q2.out.c1
  have f1 := Q2.out.fz 1
  have hlq := Q2.out.lt
  obtain ⟨W2, HW2⟩ : ∃ V, Hid (w2.setCell ⟨q, 1, none⟩ (.int .i64 (x1 : Int)) = V) := ⟨_, rfl⟩
  have Q2' : Hid (Kc8 27 W2 q (.int .i64 (x0 : Int)) (.int .i64 (x1 : Int)) (.int .i64 0) (.string { data := #[] }) (.string { data := #[] }) (.int .i64 0) (.int .i64 0) (.bool false)) := by rw [← HW2.out]; exact Q2.out.s1 _
  have P2' : Hid (Kc8 27 W2 w.heap.size (.int .i64 0) (.int .i64 0) (.int .i64 0) (.string { data := #[] }) (.string { data := #[] }) (.int .i64 0) (.int .i64 0) (.bool false)) := by rw [← HW2.out]; exact P2.out.far (by show q ≠ w.heap.size; omega) _
  have C2' : Hid (Cur17 W2 (w.heap.size + 1) s a2 b2) := by rw [← HW2.out]; exact heap_far C2.out (by show q ≠ w.heap.size + 1; omega) _
  have B2' : Hid (Below w.heap.size w W2) := by rw [← HW2.out]; exact Below.setCell B2.out (by show w.heap.size ≤ q; omega) _
  clear Q2 P2 C2 B2
  go_wp2_with fail
  rw [HW2.out]
  clear c1 f1 hlq
  refine (var17_any (w.heap.size + 1) s a2 b2 _ C2'.out hs a2l).mono ?_
  rintro e w3 ⟨x2, a3, b3, rfl, hq, a3l, hx, hc, hsv⟩
  have Hq2 : Hid (varS s a2 b2 = (x2, a3, b3)) := hq
  have P3 : Hid (Kc8 27 w3 w.heap.size (.int .i64 0) (.int .i64 0) (.int .i64 0) (.string { data := #[] }) (.string { data := #[] }) (.int .i64 0) (.int .i64 0) (.bool false)) := P2'.out.save hsv (by omega)
  have Q3 : Hid (Kc8 27 w3 q (.int .i64 (x0 : Int)) (.int .i64 (x1 : Int)) (.int .i64 0) (.string { data := #[] }) (.string { data := #[] }) (.int .i64 0) (.int .i64 0) (.bool false)) := Q2'.out.save hsv (by omega)
  have C3 : Hid (Cur17 w3 (w.heap.size + 1) s a3 b3) := hc
  have B3 : Hid (Below w.heap.size w w3) := Save.under (B := w.heap.size) B2'.out hsv (by omega) B2'.out.size
  clear hq hc hsv hx P2' Q2' C2' B2' HW2
  have c2 := Q3.out.c2
  have f2 := Q3.out.fz 2
  have hlq := Q3.out.lt
  obtain ⟨W3, HW3⟩ : ∃ V, Hid (w3.setCell ⟨q, 2, none⟩ (.int .i64 (x2 : Int)) = V) := ⟨_, rfl⟩
  have Q3' : Hid (Kc8 27 W3 q (.int .i64 (x0 : Int)) (.int .i64 (x1 : Int)) (.int .i64 (x2 : Int)) (.string { data := #[] }) (.string { data := #[] }) (.int .i64 0) (.int .i64 0) (.bool false)) := by rw [← HW3.out]; exact Q3.out.s2 _
  have P3' : Hid (Kc8 27 W3 w.heap.size (.int .i64 0) (.int .i64 0) (.int .i64 0) (.string { data := #[] }) (.string { data := #[] }) (.int .i64 0) (.int .i64 0) (.bool false)) := by rw [← HW3.out]; exact P3.out.far (by show q ≠ w.heap.size; omega) _
  have C3' : Hid (Cur17 W3 (w.heap.size + 1) s a3 b3) := by rw [← HW3.out]; exact heap_far C3.out (by show q ≠ w.heap.size + 1; omega) _
  have B3' : Hid (Below w.heap.size w W3) := by rw [← HW3.out]; exact Below.setCell B3.out (by show w.heap.size ≤ q; omega) _
  clear Q3 P3 C3 B3
  go_wp2_with fail
  rw [HW3.out]
  clear c2 f2 hlq
  refine (sho17_any (w.heap.size + 1) s a3 b3 _ C3'.out hs a3l).mono ?_
  rintro e w4 ⟨x3, a4, b4, rfl, hq, a4l, hx, hc, hsv⟩
  have Hq3 : Hid (sho17P s a3 b3 = (x3, a4, b4)) := hq
  have Hx3 : Hid (x3.size ≤ 1048576) := hx
  have P4 : Hid (Kc8 27 w4 w.heap.size (.int .i64 0) (.int .i64 0) (.int .i64 0) (.string { data := #[] }) (.string { data := #[] }) (.int .i64 0) (.int .i64 0) (.bool false)) := P3'.out.save hsv (by omega)
  have Q4 : Hid (Kc8 27 w4 q (.int .i64 (x0 : Int)) (.int .i64 (x1 : Int)) (.int .i64 (x2 : Int)) (.string { data := #[] }) (.string { data := #[] }) (.int .i64 0) (.int .i64 0) (.bool false)) := Q3'.out.save hsv (by omega)
  have C4 : Hid (Cur17 w4 (w.heap.size + 1) s a4 b4) := hc
  have B4 : Hid (Below w.heap.size w w4) := Save.under (B := w.heap.size) B3'.out hsv (by omega) B3'.out.size
  clear hq hc hsv hx P3' Q3' C3' B3' HW3
  have c3 := Q4.out.c3
  have f3 := Q4.out.fz 3
  have hlq := Q4.out.lt
  obtain ⟨W4, HW4⟩ : ∃ V, Hid (w4.setCell ⟨q, 3, none⟩ (.string x3) = V) := ⟨_, rfl⟩
  have Q4' : Hid (Kc8 27 W4 q (.int .i64 (x0 : Int)) (.int .i64 (x1 : Int)) (.int .i64 (x2 : Int)) (.string x3) (.string { data := #[] }) (.int .i64 0) (.int .i64 0) (.bool false)) := by rw [← HW4.out]; exact Q4.out.s3 _
  have P4' : Hid (Kc8 27 W4 w.heap.size (.int .i64 0) (.int .i64 0) (.int .i64 0) (.string { data := #[] }) (.string { data := #[] }) (.int .i64 0) (.int .i64 0) (.bool false)) := by rw [← HW4.out]; exact P4.out.far (by show q ≠ w.heap.size; omega) _
  have C4' : Hid (Cur17 W4 (w.heap.size + 1) s a4 b4) := by rw [← HW4.out]; exact heap_far C4.out (by show q ≠ w.heap.size + 1; omega) _
  have B4' : Hid (Below w.heap.size w W4) := by rw [← HW4.out]; exact Below.setCell B4.out (by show w.heap.size ≤ q; omega) _
  clear Q4 P4 C4 B4
  go_wp2_with fail
  rw [HW4.out]
  clear c3 f3 hlq
  refine (sho17_any (w.heap.size + 1) s a4 b4 _ C4'.out hs a4l).mono ?_
  rintro e w5 ⟨x4, a5, b5, rfl, hq, a5l, hx, hc, hsv⟩
  have Hq4 : Hid (sho17P s a4 b4 = (x4, a5, b5)) := hq
  have Hx4 : Hid (x4.size ≤ 1048576) := hx
  have P5 : Hid (Kc8 27 w5 w.heap.size (.int .i64 0) (.int .i64 0) (.int .i64 0) (.string { data := #[] }) (.string { data := #[] }) (.int .i64 0) (.int .i64 0) (.bool false)) := P4'.out.save hsv (by omega)
  have Q5 : Hid (Kc8 27 w5 q (.int .i64 (x0 : Int)) (.int .i64 (x1 : Int)) (.int .i64 (x2 : Int)) (.string x3) (.string { data := #[] }) (.int .i64 0) (.int .i64 0) (.bool false)) := Q4'.out.save hsv (by omega)
  have C5 : Hid (Cur17 w5 (w.heap.size + 1) s a5 b5) := hc
  have B5 : Hid (Below w.heap.size w w5) := Save.under (B := w.heap.size) B4'.out hsv (by omega) B4'.out.size
  clear hq hc hsv hx P4' Q4' C4' B4' HW4
  have c4 := Q5.out.c4
  have f4 := Q5.out.fz 4
  have hlq := Q5.out.lt
  obtain ⟨W5, HW5⟩ : ∃ V, Hid (w5.setCell ⟨q, 4, none⟩ (.string x4) = V) := ⟨_, rfl⟩
  have Q5' : Hid (Kc8 27 W5 q (.int .i64 (x0 : Int)) (.int .i64 (x1 : Int)) (.int .i64 (x2 : Int)) (.string x3) (.string x4) (.int .i64 0) (.int .i64 0) (.bool false)) := by rw [← HW5.out]; exact Q5.out.s4 _
  have P5' : Hid (Kc8 27 W5 w.heap.size (.int .i64 0) (.int .i64 0) (.int .i64 0) (.string { data := #[] }) (.string { data := #[] }) (.int .i64 0) (.int .i64 0) (.bool false)) := by rw [← HW5.out]; exact P5.out.far (by show q ≠ w.heap.size; omega) _
  have C5' : Hid (Cur17 W5 (w.heap.size + 1) s a5 b5) := by rw [← HW5.out]; exact heap_far C5.out (by show q ≠ w.heap.size + 1; omega) _
  have B5' : Hid (Below w.heap.size w W5) := by rw [← HW5.out]; exact Below.setCell B5.out (by show w.heap.size ≤ q; omega) _
  clear Q5 P5 C5 B5
  go_wp2_with fail
  rw [HW5.out]
  clear c4 f4 hlq
  refine (var17_any (w.heap.size + 1) s a5 b5 _ C5'.out hs a5l).mono ?_
  rintro e w6 ⟨x5, a6, b6, rfl, hq, a6l, hx, hc, hsv⟩
  have Hq5 : Hid (varS s a5 b5 = (x5, a6, b6)) := hq
  have P6 : Hid (Kc8 27 w6 w.heap.size (.int .i64 0) (.int .i64 0) (.int .i64 0) (.string { data := #[] }) (.string { data := #[] }) (.int .i64 0) (.int .i64 0) (.bool false)) := P5'.out.save hsv (by omega)
  have Q6 : Hid (Kc8 27 w6 q (.int .i64 (x0 : Int)) (.int .i64 (x1 : Int)) (.int .i64 (x2 : Int)) (.string x3) (.string x4) (.int .i64 0) (.int .i64 0) (.bool false)) := Q5'.out.save hsv (by omega)
  have C6 : Hid (Cur17 w6 (w.heap.size + 1) s a6 b6) := hc
  have B6 : Hid (Below w.heap.size w w6) := Save.under (B := w.heap.size) B5'.out hsv (by omega) B5'.out.size
  clear hq hc hsv hx P5' Q5' C5' B5' HW5
  have c5 := Q6.out.c5
  have f5 := Q6.out.fz 5
  have hlq := Q6.out.lt
  obtain ⟨W6, HW6⟩ : ∃ V, Hid (w6.setCell ⟨q, 5, none⟩ (.int .i64 (x5 : Int)) = V) := ⟨_, rfl⟩
  have Q6' : Hid (Kc8 27 W6 q (.int .i64 (x0 : Int)) (.int .i64 (x1 : Int)) (.int .i64 (x2 : Int)) (.string x3) (.string x4) (.int .i64 (x5 : Int)) (.int .i64 0) (.bool false)) := by rw [← HW6.out]; exact Q6.out.s5 _
  have P6' : Hid (Kc8 27 W6 w.heap.size (.int .i64 0) (.int .i64 0) (.int .i64 0) (.string { data := #[] }) (.string { data := #[] }) (.int .i64 0) (.int .i64 0) (.bool false)) := by rw [← HW6.out]; exact P6.out.far (by show q ≠ w.heap.size; omega) _
  have C6' : Hid (Cur17 W6 (w.heap.size + 1) s a6 b6) := by rw [← HW6.out]; exact heap_far C6.out (by show q ≠ w.heap.size + 1; omega) _
  have B6' : Hid (Below w.heap.size w W6) := by rw [← HW6.out]; exact Below.setCell B6.out (by show w.heap.size ≤ q; omega) _
  clear Q6 P6 C6 B6
  go_wp2_with fail
  rw [HW6.out]
  clear c5 f5 hlq
  refine (var17_any (w.heap.size + 1) s a6 b6 _ C6'.out hs a6l).mono ?_
  rintro e w7 ⟨x6, a7, b7, rfl, hq, a7l, hx, hc, hsv⟩
  have Hq6 : Hid (varS s a6 b6 = (x6, a7, b7)) := hq
  have P7 : Hid (Kc8 27 w7 w.heap.size (.int .i64 0) (.int .i64 0) (.int .i64 0) (.string { data := #[] }) (.string { data := #[] }) (.int .i64 0) (.int .i64 0) (.bool false)) := P6'.out.save hsv (by omega)
  have Q7 : Hid (Kc8 27 w7 q (.int .i64 (x0 : Int)) (.int .i64 (x1 : Int)) (.int .i64 (x2 : Int)) (.string x3) (.string x4) (.int .i64 (x5 : Int)) (.int .i64 0) (.bool false)) := Q6'.out.save hsv (by omega)
  have C7 : Hid (Cur17 w7 (w.heap.size + 1) s a7 b7) := hc
  have B7 : Hid (Below w.heap.size w w7) := Save.under (B := w.heap.size) B6'.out hsv (by omega) B6'.out.size
  clear hq hc hsv hx P6' Q6' C6' B6' HW6
  have c6 := Q7.out.c6
  have f6 := Q7.out.fz 6
  have hlq := Q7.out.lt
  obtain ⟨W7, HW7⟩ : ∃ V, Hid (w7.setCell ⟨q, 6, none⟩ (.int .i64 (x6 : Int)) = V) := ⟨_, rfl⟩
  have Q7' : Hid (Kc8 27 W7 q (.int .i64 (x0 : Int)) (.int .i64 (x1 : Int)) (.int .i64 (x2 : Int)) (.string x3) (.string x4) (.int .i64 (x5 : Int)) (.int .i64 (x6 : Int)) (.bool false)) := by rw [← HW7.out]; exact Q7.out.s6 _
  have P7' : Hid (Kc8 27 W7 w.heap.size (.int .i64 0) (.int .i64 0) (.int .i64 0) (.string { data := #[] }) (.string { data := #[] }) (.int .i64 0) (.int .i64 0) (.bool false)) := by rw [← HW7.out]; exact P7.out.far (by show q ≠ w.heap.size; omega) _
  have C7' : Hid (Cur17 W7 (w.heap.size + 1) s a7 b7) := by rw [← HW7.out]; exact heap_far C7.out (by show q ≠ w.heap.size + 1; omega) _
  have B7' : Hid (Below w.heap.size w W7) := by rw [← HW7.out]; exact Below.setCell B7.out (by show w.heap.size ≤ q; omega) _
  clear Q7 P7 C7 B7
  go_wp2_with fail
  rw [HW7.out]
  clear c6 f6 hlq
  refine (one17_any (w.heap.size + 1) s a7 b7 _ C7'.out hs a7l).mono ?_
  rintro e w8 ⟨x7, a8, b8, rfl, hq, a8l, hc, hsv⟩
  have Hq7 : Hid (one17P s a7 b7 = (x7, a8, b8)) := hq
  have P8 : Hid (Kc8 27 w8 w.heap.size (.int .i64 0) (.int .i64 0) (.int .i64 0) (.string { data := #[] }) (.string { data := #[] }) (.int .i64 0) (.int .i64 0) (.bool false)) := P7'.out.save hsv (by omega)
  have Q8 : Hid (Kc8 27 w8 q (.int .i64 (x0 : Int)) (.int .i64 (x1 : Int)) (.int .i64 (x2 : Int)) (.string x3) (.string x4) (.int .i64 (x5 : Int)) (.int .i64 (x6 : Int)) (.bool false)) := Q7'.out.save hsv (by omega)
  have C8 : Hid (Cur17 w8 (w.heap.size + 1) s a8 b8) := hc
  have B8 : Hid (Below w.heap.size w w8) := Save.under (B := w.heap.size) B7'.out hsv (by omega) B7'.out.size
  clear hq hc hsv P7' Q7' C7' B7' HW7
  obtain ⟨y, HY⟩ : ∃ y : Bool, Hid (decide ((x7 : Int) = 1) = y) := ⟨_, rfl⟩
  have hsp : spP s = (⟨x0, x1, x2, x3, x4, x5, x6, y⟩, b8) := by simp [spP, Hq0.out, Hq1.out, Hq2.out, Hq3.out, Hq4.out, Hq5.out, Hq6.out, Hq7.out, HY.out]
  have HSP : Hid (spP s = (⟨x0, x1, x2, x3, x4, x5, x6, y⟩, b8)) := hsp
  obtain ⟨X, HX⟩ : ∃ X : Cm, Hid ((⟨x0, x1, x2, x3, x4, x5, x6, y⟩ : Cm) = X) := ⟨_, rfl⟩
  obtain ⟨T, HT⟩ : ∃ T : ByteArray, Hid (teC X = T) := ⟨_, rfl⟩
  obtain ⟨k, HB⟩ : ∃ k : Bool, Hid (okC X = k) := ⟨_, rfl⟩
  have HC : Hid (∀ W, Calls Tryd.prog 6 #[.agg #[.int .i64 (x0 : Int), .int .i64 (x1 : Int), .int .i64 (x2 : Int), .string x3, .string x4, .int .i64 (x5 : Int), .int .i64 (x6 : Int), .bool y]] W fun e w' => e = .returned (.tuple #[.string T, .bool k]) ∧ Below W.heap.size W w') := fun W => by
    rw [← HT.out, ← HB.out, ← HX.out]
    exact commandText_any x0 x1 x2 x3 x4 x5 x6 y W (by have := Hx3.out; omega) (by have := Hx4.out; omega)
  have HRR : Hid (R = if b8 = false ∧ k = true ∧ T = s then some X else none) := by
    show R = _
    rw [← HR.out, ← HT.out, ← HB.out, ← HX.out]
    unfold specRP
    rw [HSP.out]
  clear hsp HR HSP Hq0 Hq1 Hq2 Hq3 Hq4 Hq5 Hq6 Hq7 Hx3 Hx4 HT HB
  have c7 := Q8.out.c7
  have f7 := Q8.out.fz 7
  have hlq := Q8.out.lt
  obtain ⟨W8, HW8⟩ : ∃ V, Hid (w8.setCell ⟨q, 7, none⟩ (.bool y) = V) := ⟨_, rfl⟩
  have Q8' : Hid (Kc8 27 W8 q (.int .i64 (x0 : Int)) (.int .i64 (x1 : Int)) (.int .i64 (x2 : Int)) (.string x3) (.string x4) (.int .i64 (x5 : Int)) (.int .i64 (x6 : Int)) (.bool y)) := by rw [← HW8.out]; exact Q8.out.s7 _
  have P8' : Hid (Kc8 27 W8 w.heap.size (.int .i64 0) (.int .i64 0) (.int .i64 0) (.string { data := #[] }) (.string { data := #[] }) (.int .i64 0) (.int .i64 0) (.bool false)) := by rw [← HW8.out]; exact P8.out.far (by show q ≠ w.heap.size; omega) _
  have C8' : Hid (Cur17 W8 (w.heap.size + 1) s a8 b8) := by rw [← HW8.out]; exact heap_far C8.out (by show q ≠ w.heap.size + 1; omega) _
  have B8' : Hid (Below w.heap.size w W8) := by rw [← HW8.out]; exact Below.setCell B8.out (by show w.heap.size ≤ q; omega) _
  have HL : Hid (∀ j : Nat, w8.cell? ⟨q, j, none⟩ = w8.cell? ⟨q, j, none⟩) := fun _ => rfl
  have HQ8 := Q8
  have m0 := Q8.out.c0
  have m1 := Q8.out.c1
  have m2 := Q8.out.c2
  have m3 := Q8.out.c3
  have m4 := Q8.out.c4
  have m5 := Q8.out.c5
  have m6 := Q8.out.c6
  by_cases hx : (x7 : Int) = 1
  · obtain rfl : y = true := by rw [← HY.out]; simp [hx]
    clear HY
    go_wp2_with fail
    rw [HW8.out]
    refine (HC.out _).mono ?_
    rintro e w9 ⟨rfl, hb⟩
    have P9 := P8'.out.up hb
    have Q9 := Q8'.out.up hb
    have C9 : Cur17 w9 (w.heap.size + 1) s a8 b8 := blk_upR C8'.out hb
    have B9 := Below.on B8'.out hb
    clear P8 C8 B8 P8' C8' B8' Q8' hb HC HW8 HQ8 HL Q8 hlq c7 f7 m0 m1 m2 m3 m4 m5 m6
    obtain ⟨d0, d1, d2, df⟩ := cur_cells C9
    have hlp := P9.lt
    have hlg := C9.lt
    have c0 := P9.c0
    have c1 := P9.c1
    have c2 := P9.c2
    have c3 := P9.c3
    have c4 := P9.c4
    have c5 := P9.c5
    have c6 := P9.c6
    have c7 := P9.c7
    have f0 := P9.fz 0
    have f1 := P9.fz 1
    have f2 := P9.fz 2
    have f3 := P9.fz 3
    have f4 := P9.fz 4
    have f5 := P9.fz 5
    have f6 := P9.fz 6
    have f7 := P9.fz 7
    have n0 := Q9.c0
    have n1 := Q9.c1
    have n2 := Q9.c2
    have n3 := Q9.c3
    have n4 := Q9.c4
    have n5 := Q9.c5
    have n6 := Q9.c6
    have n7 := Q9.c7
    have KZ : Hid (Kc8 27 (set8 w9 w.heap.size (.int .i64 0) (.int .i64 0) (.int .i64 0) (.string { data := #[] }) (.string { data := #[] }) (.int .i64 0) (.int .i64 0) (.bool false)) w.heap.size (.int .i64 0) (.int .i64 0) (.int .i64 0) (.string { data := #[] }) (.string { data := #[] }) (.int .i64 0) (.int .i64 0) (.bool false)) := P9.set _ _ _ _ _ _ _ _
    have KX : Hid (Kc8 27 (set8 w9 w.heap.size (.int .i64 (x0 : Int)) (.int .i64 (x1 : Int)) (.int .i64 (x2 : Int)) (.string x3) (.string x4) (.int .i64 (x5 : Int)) (.int .i64 (x6 : Int)) (.bool true)) w.heap.size (.int .i64 (x0 : Int)) (.int .i64 (x1 : Int)) (.int .i64 (x2 : Int)) (.string x3) (.string x4) (.int .i64 (x5 : Int)) (.int .i64 (x6 : Int)) (.bool true)) := P9.set _ _ _ _ _ _ _ _
    have BZ : Hid (Below w.heap.size w (set8 w9 w.heap.size (.int .i64 0) (.int .i64 0) (.int .i64 0) (.string { data := #[] }) (.string { data := #[] }) (.int .i64 0) (.int .i64 0) (.bool false))) := below_set8 B9 (Nat.le_refl _) _ _ _ _ _ _ _ _
    have BX : Hid (Below w.heap.size w (set8 w9 w.heap.size (.int .i64 (x0 : Int)) (.int .i64 (x1 : Int)) (.int .i64 (x2 : Int)) (.string x3) (.string x4) (.int .i64 (x5 : Int)) (.int .i64 (x6 : Int)) (.bool true))) := below_set8 B9 (Nat.le_refl _) _ _ _ _ _ _ _ _
    clear P9 Q9 C9 B9
    cases b8 with
    | true =>
      obtain rfl : R = none := by rw [HRR.out]; simp
      go_wp2
      refine bodyPost_ret (ret_c8T rfl rfl rfl KZ.out) rfl ?_
      exact ⟨rfl, BZ.out⟩
    | false =>
    cases k with
    | false =>
      obtain rfl : R = none := by rw [HRR.out]; simp
      go_wp2
      refine bodyPost_ret (ret_c8T rfl rfl rfl KZ.out) rfl ?_
      exact ⟨rfl, BZ.out⟩
    | true =>
    by_cases ht : T = s
    · obtain rfl : R = some X := by rw [HRR.out]; simp [ht]
      subst ht
      have HV : Hid (rwV (some X) = .tuple #[.agg #[.int .i64 (x0 : Int), .int .i64 (x1 : Int), .int .i64 (x2 : Int), .string x3, .string x4, .int .i64 (x5 : Int), .int .i64 (x6 : Int), .bool true], .bool true]) := by show _ = _; rw [← HX.out]; rfl
      go_wp2
      refine bodyPost_ret (ret_c8T rfl rfl rfl KX.out) rfl ?_
      exact ⟨by rw [HV.out]; rfl, BX.out⟩
    · obtain rfl : R = none := by rw [HRR.out]; simp [ht]
      have hne := ne_list ht
      clear ht
      go_wp2
      refine bodyPost_ret (ret_c8T rfl rfl rfl KZ.out) rfl ?_
      exact ⟨rfl, BZ.out⟩
  · obtain rfl : y = false := by rw [← HY.out]; simp [hx]
    have hbq : ((x7 : Int) == 1) = false := by rw [beq_eq_false_iff_ne]; exact hx
    clear HY
    go_wp2_with fail
    rw [HW8.out]
    refine (HC.out _).mono ?_
    rintro e w9 ⟨rfl, hb⟩
    have P9 := P8'.out.up hb
    have Q9 := Q8'.out.up hb
    have C9 : Cur17 w9 (w.heap.size + 1) s a8 b8 := blk_upR C8'.out hb
    have B9 := Below.on B8'.out hb
    clear P8 C8 B8 P8' C8' B8' Q8' hb HC HW8 HQ8 HL Q8 hlq c7 f7 m0 m1 m2 m3 m4 m5 m6
    obtain ⟨d0, d1, d2, df⟩ := cur_cells C9
    have hlp := P9.lt
    have hlg := C9.lt
    have c0 := P9.c0
    have c1 := P9.c1
    have c2 := P9.c2
    have c3 := P9.c3
    have c4 := P9.c4
    have c5 := P9.c5
    have c6 := P9.c6
    have c7 := P9.c7
    have f0 := P9.fz 0
    have f1 := P9.fz 1
    have f2 := P9.fz 2
    have f3 := P9.fz 3
    have f4 := P9.fz 4
    have f5 := P9.fz 5
    have f6 := P9.fz 6
    have f7 := P9.fz 7
    have n0 := Q9.c0
    have n1 := Q9.c1
    have n2 := Q9.c2
    have n3 := Q9.c3
    have n4 := Q9.c4
    have n5 := Q9.c5
    have n6 := Q9.c6
    have n7 := Q9.c7
    have KZ : Hid (Kc8 27 (set8 w9 w.heap.size (.int .i64 0) (.int .i64 0) (.int .i64 0) (.string { data := #[] }) (.string { data := #[] }) (.int .i64 0) (.int .i64 0) (.bool false)) w.heap.size (.int .i64 0) (.int .i64 0) (.int .i64 0) (.string { data := #[] }) (.string { data := #[] }) (.int .i64 0) (.int .i64 0) (.bool false)) := P9.set _ _ _ _ _ _ _ _
    have KX : Hid (Kc8 27 (set8 w9 w.heap.size (.int .i64 (x0 : Int)) (.int .i64 (x1 : Int)) (.int .i64 (x2 : Int)) (.string x3) (.string x4) (.int .i64 (x5 : Int)) (.int .i64 (x6 : Int)) (.bool false)) w.heap.size (.int .i64 (x0 : Int)) (.int .i64 (x1 : Int)) (.int .i64 (x2 : Int)) (.string x3) (.string x4) (.int .i64 (x5 : Int)) (.int .i64 (x6 : Int)) (.bool false)) := P9.set _ _ _ _ _ _ _ _
    have BZ : Hid (Below w.heap.size w (set8 w9 w.heap.size (.int .i64 0) (.int .i64 0) (.int .i64 0) (.string { data := #[] }) (.string { data := #[] }) (.int .i64 0) (.int .i64 0) (.bool false))) := below_set8 B9 (Nat.le_refl _) _ _ _ _ _ _ _ _
    have BX : Hid (Below w.heap.size w (set8 w9 w.heap.size (.int .i64 (x0 : Int)) (.int .i64 (x1 : Int)) (.int .i64 (x2 : Int)) (.string x3) (.string x4) (.int .i64 (x5 : Int)) (.int .i64 (x6 : Int)) (.bool false))) := below_set8 B9 (Nat.le_refl _) _ _ _ _ _ _ _ _
    clear P9 Q9 C9 B9
    cases b8 with
    | true =>
      obtain rfl : R = none := by rw [HRR.out]; simp
      go_wp2
      refine bodyPost_ret (ret_c8T rfl rfl rfl KZ.out) rfl ?_
      exact ⟨rfl, BZ.out⟩
    | false =>
    cases k with
    | false =>
      obtain rfl : R = none := by rw [HRR.out]; simp
      go_wp2
      refine bodyPost_ret (ret_c8T rfl rfl rfl KZ.out) rfl ?_
      exact ⟨rfl, BZ.out⟩
    | true =>
    by_cases ht : T = s
    · obtain rfl : R = some X := by rw [HRR.out]; simp [ht]
      subst ht
      have HV : Hid (rwV (some X) = .tuple #[.agg #[.int .i64 (x0 : Int), .int .i64 (x1 : Int), .int .i64 (x2 : Int), .string x3, .string x4, .int .i64 (x5 : Int), .int .i64 (x6 : Int), .bool false], .bool true]) := by show _ = _; rw [← HX.out]; rfl
      go_wp2
      refine bodyPost_ret (ret_c8T rfl rfl rfl KX.out) rfl ?_
      exact ⟨by rw [HV.out]; rfl, BX.out⟩
    · obtain rfl : R = none := by rw [HRR.out]; simp [ht]
      have hne := ne_list ht
      clear ht
      go_wp2
      refine bodyPost_ret (ret_c8T rfl rfl rfl KZ.out) rfl ?_
      exact ⟨rfl, BZ.out⟩
end Go.Proofs.YtkfhmeiiicidaaaDoor

namespace Go.Proofs.YtkfhmeiiicidaaaDoor
open Go.RowKit

theorem bstr_sz (l : List Int) : (bstr l).size = l.length := by simp [bstr, ByteArray.size]
/-- From the place i on the text has these numbers. -/
def Fits (s : ByteArray) (i : Nat) (l : List Int) : Prop := ∀ j x, l[j]? = some x → ∃ h : i + j < s.size, (s[i + j].toNat : Int) = x
theorem Fits.tail {s : ByteArray} {i : Nat} {x : Int} {l : List Int} (h : Fits s i (x :: l)) : Fits s (i + 1) l := by
  intro j y hy
  have := h (j + 1) y (by simpa using hy)
  rw [show i + (j + 1) = i + 1 + j by omega] at this
  exact this
theorem rvGo_back (s : ByteArray) : ∀ (f m i k N : Nat), f + k = 5 → Fits s i (varI m) → N + m * 128 ^ k ≤ 1000000000 → (0 < m ∨ k = 0) →
    rvGo s f i k N = (((N + m * 128 ^ k : Nat) : Int), ((i + (varI m).length : Nat) : Int), true)
  | 0, m, i, k, N, hf, hb, hv, hk => by
    exfalso
    obtain rfl : k = 5 := by omega
    rcases hk with h | h
    · have : 1 * 128 ^ 5 ≤ m * 128 ^ 5 := Nat.mul_le_mul_right _ h
      omega
    · omega
  | f + 1, m, i, k, N, hf, hb, hv, hk => by
    by_cases hm : 127 < m
    · rw [varI_more hm] at hb ⊢
      obtain ⟨hi, hx⟩ := hb 0 _ rfl
      have hx2 : s[i].toNat = m % 128 + 128 := by have : (s[i].toNat : Int) = (m : Int) % 128 + 128 := hx; omega
      have hi2 : i < s.size := hi
      rw [rvGo_more hi2 (by omega), hx2, show (m % 128 + 128) % 128 = m % 128 by omega]
      have e : N + m % 128 * 128 ^ k + m / 128 * 128 ^ (k + 1) = N + m * 128 ^ k := by
        have h1 : m * 128 ^ k = (m % 128 + 128 * (m / 128)) * 128 ^ k := by rw [Nat.mod_add_div]
        rw [h1, Nat.pow_succ, Nat.add_mul, Nat.add_assoc]
        congr 2
        rw [Nat.mul_comm (128 ^ k) 128, ← Nat.mul_assoc, Nat.mul_comm (m / 128) 128]
      rw [rvGo_back s f (m / 128) (i + 1) (k + 1) _ (by omega) hb.tail (by rw [e]; exact hv) (Or.inl (by omega)), e]
      rw [List.length_cons, show i + 1 + (varI (m / 128)).length = i + ((varI (m / 128)).length + 1) by omega]
    · rw [varI_last hm] at hb ⊢
      obtain ⟨hi, hx⟩ := hb 0 _ rfl
      have hi2 : i < s.size := hi
      have hx2 : s[i].toNat = m := by have : (s[i].toNat : Int) = (m : Int) := hx; omega
      rw [rvGo_ok hi2 (by omega)]
      · rw [hx2, Nat.mod_eq_of_lt (by omega : m < 128)]
        rfl
      · rw [hx2, Nat.mod_eq_of_lt (by omega : m < 128)]
        omega
theorem fits_bstr (a b : ByteArray) (l : List Int) (hl : ∀ x ∈ l, 0 ≤ x ∧ x < 256) : Fits (a ++ bstr l ++ b) a.size l := by
  intro j x hx
  obtain ⟨hj, rfl⟩ := List.getElem?_eq_some_iff.1 hx
  have hs : (a ++ bstr l ++ b).size = a.size + l.length + b.size := by rw [ByteArray.size_append, ByteArray.size_append, bstr_sz]
  refine ⟨by omega, ?_⟩
  have hr := hl l[j] (List.getElem_mem hj)
  have e : (a ++ bstr l ++ b)[a.size + j]'(by omega) = UInt8.ofNat (l[j]).toNat := by
    show (a ++ bstr l ++ b).data[a.size + j]'(by show _ < (a ++ bstr l ++ b).size; omega) = _
    have h2 : (a ++ bstr l ++ b).data = a.data ++ (l.map fun n => UInt8.ofNat n.toNat).toArray ++ b.data := by
      rw [ByteArray.data_append, ByteArray.data_append]; rfl
    have h3 : ((a ++ bstr l ++ b).data)[a.size + j]? = some (UInt8.ofNat (l[j]).toNat) := by
      rw [h2, Array.getElem?_append_left (by simp; exact hj), Array.getElem?_append_right (by show a.size ≤ a.size + j; omega)]
      simp [hj]
    exact (Array.getElem?_eq_some_iff.1 h3).2
  rw [e]
  simp
  omega
/-- A number comes back, whatever stands ahead of it and behind it. -/
theorem rv_back (a b : ByteArray) (n : Nat) (hn : n ≤ 1000000000) : rv (a ++ bstr (varI n) ++ b) a.size = ((n : Int), ((a.size + (varI n).length : Nat) : Int), true) := by
  unfold rv
  have hs : (a ++ bstr (varI n) ++ b).size = a.size + (varI n).length + b.size := by rw [ByteArray.size_append, ByteArray.size_append, bstr_sz]
  rw [if_pos (by omega), Int.toNat_natCast, rvGo_back _ 5 n a.size 0 0 rfl (fits_bstr a b _ (varI_range n n (Nat.le_refl _))) (by omega) (Or.inr rfl)]
  simp

/-- Of a number that is torn nothing is read. -/
theorem rvGo_torn (s : ByteArray) : ∀ (f m i k N : Nat), i ≤ s.size → s.size < i + (varI m).length → (∀ j (h : i + j < s.size), ∃ x, (varI m)[j]? = some x ∧ (s[i + j].toNat : Int) = x) → rvGo s f i k N = (0, 0, false)
  | 0, m, i, k, N, _, _, _ => rfl
  | f + 1, m, i, k, N, hi, hl, hb => by
    by_cases hs : i < s.size
    · have hm : 127 < m := by
        refine Decidable.byContradiction fun hm => ?_
        rw [varI_last hm] at hl
        simp at hl
        omega
      rw [varI_more hm] at hl hb
      obtain ⟨x, hx, he⟩ := hb 0 hs
      have hx2 : s[i].toNat = m % 128 + 128 := by
        simp at hx
        have : (s[i].toNat : Int) = x := he
        omega
      rw [rvGo_more hs (by omega)]
      refine rvGo_torn s f (m / 128) (i + 1) (k + 1) _ (by omega) (by simp at hl; omega) fun j h => ?_
      obtain ⟨y, hy, hy2⟩ := hb (j + 1) (by omega)
      refine ⟨y, by simpa using hy, ?_⟩
      rw [← hy2]
      congr 3
      omega
    · exact rvGo_end hs
theorem rv_torn (a c : ByteArray) (n : Nat) (hc : c.size < (varI n).length) (he : c = (bstr (varI n)).extract 0 c.size) : rv (a ++ c) a.size = (0, 0, false) := by
  have hs : (a ++ c).size = a.size + c.size := ByteArray.size_append
  rw [rv_in_eq (by omega)]
  refine rvGo_torn _ 5 n a.size 0 0 (by omega) (by omega) fun j h => ?_
  have hj : j < c.size := by omega
  have hj2 : j < (varI n).length := by omega
  refine ⟨(varI n)[j], List.getElem?_eq_getElem hj2, ?_⟩
  have e : (a ++ c)[a.size + j] = UInt8.ofNat ((varI n)[j]).toNat := by
    rw [ByteArray.getElem_append_right (by omega)]
    have h1 : c[a.size + j - a.size]'(by omega) = c[j] := by congr 1; omega
    rw [h1]
    have h2 : ∀ (d : ByteArray) (hd : d = (bstr (varI n)).extract 0 c.size) (h : j < d.size), d[j] = UInt8.ofNat ((varI n)[j]).toNat := by
      intro d hd h
      subst hd
      rw [ByteArray.getElem_extract]
      simp only [Nat.zero_add]
      rw [ByteArray.getElem_eq_getElem_data]
      simp [bstr]
    exact h2 c he hj
  rw [e]
  have hr := varI_range n n (Nat.le_refl _) _ (List.getElem_mem hj2)
  simp
  omega
end Go.Proofs.YtkfhmeiiicidaaaDoor

namespace Go.Proofs.YtkfhmeiiicidaaaDoor
open Go Go.RowKit
set_option linter.unusedVariables false

theorem numP_back {s : ByteArray} (a b : ByteArray) (n : Nat) (hn : n ≤ 1000000000) (he : s = a ++ bstr (varI n) ++ b) {p q : Nat} (hp : p = a.size) (hq : q = a.size + (bstr (varI n)).size) : numP s p = some (n, q) := by
  subst he hp hq
  unfold numP
  rw [rv_back a b n hn, if_pos rfl, bstr_sz, Int.toNat_natCast, Int.toNat_natCast]
theorem extract_mid (a t b : ByteArray) : (a ++ t ++ b).extract a.size (a.size + t.size) = t := by
  apply ByteArray.ext
  apply Array.ext
  · simp only [ByteArray.data_extract, ByteArray.data_append, Array.size_extract, Array.size_append]
    show min (a.size + t.size) (a.size + t.size + b.size) - a.size = t.size
    omega
  · intro i h1 h2
    have hi : i < t.size := h2
    simp only [ByteArray.data_extract, ByteArray.data_append, Array.getElem_extract]
    rw [Array.getElem_append_left (by rw [Array.size_append]; show a.size + i < a.size + t.size; omega), Array.getElem_append_right (by show a.size ≤ a.size + i; omega)]
    congr 1
    show a.size + i - a.size = i
    omega
theorem shoP_back {s : ByteArray} (a t b : ByteArray) (ht : t.size ≤ 20000) (he : s = a ++ shortS t ++ b) {p q : Nat} (hp : p = a.size) (hq : q = a.size + (shortS t).size) : shoP s p = some (t, q) := by
  have e1 : s = a ++ bstr (varI t.size) ++ (t ++ b) := by rw [he]; simp [shortS, ByteArray.append_assoc]
  have e2 : s = (a ++ bstr (varI t.size)) ++ t ++ b := by rw [he]; simp [shortS, ByteArray.append_assoc]
  have hz : s.size = a.size + (bstr (varI t.size)).size + t.size + b.size := by rw [e2]; simp only [ByteArray.size_append]
  unfold shoP
  rw [numP_back a (t ++ b) t.size (by omega) e1 hp rfl]
  simp only []
  rw [if_pos ⟨ht, by omega⟩]
  have e3 : s.extract (a.size + (bstr (varI t.size)).size) (a.size + (bstr (varI t.size)).size + t.size) = t := by
    have := extract_mid (a ++ bstr (varI t.size)) t b
    rw [ByteArray.size_append, ← e2] at this
    exact this
  rw [e3]
  subst hq
  simp only [shortS, ByteArray.size_append, Nat.add_assoc]
theorem oneP_back {s : ByteArray} (a b : ByteArray) (n : Int) (h0 : 0 ≤ n) (h1 : n < 256) (he : s = a ++ bstr [n] ++ b) {p q : Nat} (hp : p = a.size) (hq : q = a.size + (bstr [n]).size) : oneP s p = some (n.toNat, q) := by
  have hz : s.size = a.size + 1 + b.size := by rw [he]; simp only [ByteArray.size_append, bstr_sz, List.length_singleton]
  unfold oneP
  rw [if_pos (by omega), kAt_in (by omega)]
  have hq2 : q = a.size + 1 := by rw [hq, bstr_sz]; rfl
  subst hp
  have hg : s[a.size]'(by omega) = n.toNat.toUInt8 := by
    have hx : (a ++ (bstr [n] ++ b))[a.size]'(by rw [← ByteArray.append_assoc, ← he]; omega) = n.toNat.toUInt8 := by
      rw [ByteArray.getElem_append_right (Nat.le_refl _), ByteArray.getElem_append_left (by rw [bstr_sz]; simp)]
      simp [bstr]
      rfl
    have e2 : s = a ++ (bstr [n] ++ b) := by rw [he, ByteArray.append_assoc]
    simp only [e2]
    exact hx
  refine congrArg some (Prod.ext ?_ hq2.symm)
  show (s[a.size]'(by omega)).toNat = n.toNat
  rw [hg]
  simp [Nat.toUInt8]
  omega
theorem flagS_one (f : Bool) : flagS f = bstr [if f then 1 else 0] := by cases f <;> rfl
/-- What is written of a right command is read as it. -/
theorem cmdP_back (x : Cm) (hx : okC x = true) : rwP (teC x) = some x := by
  obtain ⟨op, tok, seq, text, task, num, up, yes⟩ := x
  have hf := cmd_fine (show cmdB op tok seq text task num up yes = true from hx)
  obtain ⟨o0, o1, t0, t1, s0, s1, x0, k0, n0, n1, u0, u1⟩ := hf
  have hte : teC ⟨op, tok, seq, text, task, num, up, yes⟩ = cmtS op tok seq text task num up yes := by
    unfold teC cmtX
    rw [show cmdB op tok seq text task num up yes = true from hx]
    rfl
  rw [hte]
  obtain ⟨s, hs⟩ : ∃ s, cmtS op tok seq text task num up yes = s := ⟨_, rfl⟩
  rw [hs]
  have hs2 : s = bstr [(op : Int)] ++ bstr (varI tok) ++ bstr (varI seq) ++ shortS text ++ shortS task ++ bstr (varI num) ++ bstr (varI up) ++ bstr [if yes then 1 else 0] := by
    rw [← hs, ← flagS_one]
    simp [cmtS]
  obtain ⟨A0, h0⟩ : ∃ A, bstr [(op : Int)] = A := ⟨_, rfl⟩
  obtain ⟨A1, h1⟩ : ∃ A, bstr (varI tok) = A := ⟨_, rfl⟩
  obtain ⟨A2, h2⟩ : ∃ A, bstr (varI seq) = A := ⟨_, rfl⟩
  obtain ⟨A3, h3⟩ : ∃ A, shortS text = A := ⟨_, rfl⟩
  obtain ⟨A4, h4⟩ : ∃ A, shortS task = A := ⟨_, rfl⟩
  obtain ⟨A5, h5⟩ : ∃ A, bstr (varI num) = A := ⟨_, rfl⟩
  obtain ⟨A6, h6⟩ : ∃ A, bstr (varI up) = A := ⟨_, rfl⟩
  obtain ⟨A7, h7⟩ : ∃ A, bstr [if yes then (1 : Int) else 0] = A := ⟨_, rfl⟩
  rw [h0, h1, h2, h3, h4, h5, h6, h7] at hs2
  have hz : s.size = A0.size + A1.size + A2.size + A3.size + A4.size + A5.size + A6.size + A7.size := by rw [hs2]; simp only [ByteArray.size_append]
  have r0 : oneP s 0 = some (op, A0.size) := by
    have := oneP_back (s := s) ByteArray.empty (A1 ++ A2 ++ A3 ++ A4 ++ A5 ++ A6 ++ A7) (op : Int) (by omega) (by omega) (by rw [h0, hs2]; simp [ByteArray.append_assoc]) (p := 0) rfl rfl
    rw [h0] at this
    simpa using this
  have r1 : numP s A0.size = some (tok, A0.size + A1.size) := numP_back A0 (A2 ++ A3 ++ A4 ++ A5 ++ A6 ++ A7) tok (by omega) (by rw [h1, hs2]; simp [ByteArray.append_assoc]) rfl (by rw [h1])
  have r2 : numP s (A0.size + A1.size) = some (seq, A0.size + A1.size + A2.size) := numP_back (A0 ++ A1) (A3 ++ A4 ++ A5 ++ A6 ++ A7) seq (by omega) (by rw [h2, hs2]; simp [ByteArray.append_assoc]) (by simp only [ByteArray.size_append]) (by rw [h2]; simp only [ByteArray.size_append])
  have r3 : shoP s (A0.size + A1.size + A2.size) = some (text, A0.size + A1.size + A2.size + A3.size) := shoP_back (A0 ++ A1 ++ A2) text (A4 ++ A5 ++ A6 ++ A7) (by omega) (by rw [h3, hs2]; simp [ByteArray.append_assoc]) (by simp only [ByteArray.size_append]) (by rw [h3]; simp only [ByteArray.size_append])
  have r4 : shoP s (A0.size + A1.size + A2.size + A3.size) = some (task, A0.size + A1.size + A2.size + A3.size + A4.size) := shoP_back (A0 ++ A1 ++ A2 ++ A3) task (A5 ++ A6 ++ A7) (by omega) (by rw [h4, hs2]; simp [ByteArray.append_assoc]) (by simp only [ByteArray.size_append]) (by rw [h4]; simp only [ByteArray.size_append])
  have r5 : numP s (A0.size + A1.size + A2.size + A3.size + A4.size) = some (num, A0.size + A1.size + A2.size + A3.size + A4.size + A5.size) := numP_back (A0 ++ A1 ++ A2 ++ A3 ++ A4) (A6 ++ A7) num (by omega) (by rw [h5, hs2]; simp [ByteArray.append_assoc]) (by simp only [ByteArray.size_append]) (by rw [h5]; simp only [ByteArray.size_append])
  have r6 : numP s (A0.size + A1.size + A2.size + A3.size + A4.size + A5.size) = some (up, A0.size + A1.size + A2.size + A3.size + A4.size + A5.size + A6.size) := numP_back (A0 ++ A1 ++ A2 ++ A3 ++ A4 ++ A5) A7 up (by omega) (by rw [h6, hs2]) (by simp only [ByteArray.size_append]) (by rw [h6]; simp only [ByteArray.size_append])
  have r7 : flaP s (A0.size + A1.size + A2.size + A3.size + A4.size + A5.size + A6.size) = some (yes, s.size) := by
    unfold flaP
    rw [oneP_back (A0 ++ A1 ++ A2 ++ A3 ++ A4 ++ A5 ++ A6) ByteArray.empty (if yes then 1 else 0) (by split <;> omega) (by split <;> omega) (by rw [h7, hs2]; simp) (by simp only [ByteArray.size_append]) rfl]
    rw [h7, hz]
    simp only [ByteArray.size_append]
    cases yes <;> simp
  unfold rwP cmdP
  simp [r0, r1, r2, r3, r4, r5, r6, r7]
/-- What the program reads is what the specification reads. -/
theorem varS_of {s : ByteArray} {a X Y : Nat} (h : numP s a = some (X, Y)) : varS s a false = (X, Y, false) := varS_yes (numP_some h).1
theorem sho17_of {s t : ByteArray} {a b : Nat} (h : shoP s a = some (t, b)) : sho17P s a false = (t, b, false) := by
  obtain ⟨X, Y, hr, h1, h2, rfl, rfl, h3⟩ := shoP_some h
  unfold sho17P
  rw [varS_yes hr]
  exact takeS_yes h2
theorem one17_of {s : ByteArray} {a x b : Nat} (h : oneP s a = some (x, b)) : one17P s a false = (x, b, false) := by
  unfold oneP at h
  unfold one17P
  split at h
  · rename_i hl
    simp only [Option.some.injEq, Prod.mk.injEq] at h
    obtain ⟨rfl, rfl⟩ := h
    rw [if_pos ⟨rfl, by omega⟩]
  · cases h
theorem spP_of {s : ByteArray} {x : Cm} {b : Nat} (h : cmdP s 0 = some (x, b)) : spP s = (x, false) := by
  unfold cmdP at h
  simp only [Option.bind_eq_some_iff] at h
  obtain ⟨⟨x0, a0⟩, h0, ⟨x1, a1⟩, h1, ⟨x2, a2⟩, h2, ⟨x3, a3⟩, h3, ⟨x4, a4⟩, h4, ⟨x5, a5⟩, h5, ⟨x6, a6⟩, h6, ⟨x7, a7⟩, h7, h8⟩ := h
  simp only [Option.some.injEq, Prod.mk.injEq] at h8
  obtain ⟨rfl, rfl⟩ := h8
  unfold flaP at h7
  split at h7
  · rename_i y c hy
    simp only [Option.some.injEq, Prod.mk.injEq] at h7
    obtain ⟨rfl, rfl⟩ := h7
    simp [spP, one17_of h0, varS_of h1, varS_of h2, sho17_of h3, sho17_of h4, varS_of h5, varS_of h6, one17_of hy]
  · cases h7
theorem specRP_eq (s : ByteArray) : specRP s = rcP s := by
  unfold specRP
  split
  · rename_i h
    obtain ⟨h1, h2, h3⟩ := h
    have := cmdP_back _ h2
    rw [h3] at this
    unfold rcP
    rw [this]
    simp only []
    rw [if_pos ⟨h2, h3⟩]
  · rename_i h
    symm
    unfold rcP
    split
    · rename_i x hx
      split
      · rename_i hc
        exfalso
        unfold rwP at hx
        split at hx
        · rename_i y b hy
          split at hx
          · injection hx with hx
            subst hx
            rw [spP_of hy] at h
            exact h ⟨rfl, hc.1, hc.2⟩
          · cases hx
        · cases hx
      · rfl
    · rfl
end Go.Proofs.YtkfhmeiiicidaaaDoor
