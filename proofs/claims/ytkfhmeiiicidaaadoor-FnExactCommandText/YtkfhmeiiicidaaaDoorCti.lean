/-
  A command in bytes, as the program writes it: the walk.
-/
import Derived.Test.YtkfhmeiiicidaaaDoorBwr
import Derived.Test.YtkfhmeiiicidaaaDoorCmx
import Derived.Test.YtkfhmeiiicidaaaDoorCoka
namespace Go.Proofs.YtkfhmeiiicidaaaDoor
open Go Go.RowKit
set_option linter.unusedVariables false

theorem writerString_any (b : Nat) (s : ByteArray) (w : World) (h : Wb b s w) : Calls Tryd.prog 22 #[.pointer (some ⟨b, 0, none⟩)] w fun e w' => e = .returned (.string s) ∧ Wk b w w' := by
  refine (Tryd.Buffer_String_at 44 (fun _ => none) b b 0 s.data.toList w h).mono ?_
  rintro e w' ⟨rfl, n, rfl⟩
  refine ⟨by simp, ⟨rfl, rfl, rfl, Nat.le_refl _, fun _ _ => rfl⟩, fun _ _ h _ _ => h⟩
/-- A command in a block. -/
def Cb (W : World) (p : Nat) (op tok seq : Int) (text task : ByteArray) (num up : Int) (yes : Bool) : Prop := W.heap[p]? = some (.cells #[.int .i64 op, .int .i64 tok, .int .i64 seq, .string text, .string task, .int .i64 num, .int .i64 up, .bool yes] 27)
section
variable {W W' : World} {p b : Nat} {op tok seq : Int} {text task : ByteArray} {num up : Int} {yes : Bool}
theorem Cb.lt (h : Cb W p op tok seq text task num up yes) : p < W.heap.size := (Array.getElem?_eq_some_iff.1 h).1
theorem Cb.on (h : Cb W p op tok seq text task num up yes) (hb : Below b W W') (hp : p < b) : Cb W' p op tok seq text task num up yes := (hb.block p hp).trans h
theorem Cb.c0 (h : Cb W p op tok seq text task num up yes) : W.cell? ⟨p, 0, none⟩ = some (.int .i64 op) := by simp [World.cell?, show W.heap[p]? = _ from h]
theorem Cb.c1 (h : Cb W p op tok seq text task num up yes) : W.cell? ⟨p, 1, none⟩ = some (.int .i64 tok) := by simp [World.cell?, show W.heap[p]? = _ from h]
theorem Cb.c2 (h : Cb W p op tok seq text task num up yes) : W.cell? ⟨p, 2, none⟩ = some (.int .i64 seq) := by simp [World.cell?, show W.heap[p]? = _ from h]
theorem Cb.c3 (h : Cb W p op tok seq text task num up yes) : W.cell? ⟨p, 3, none⟩ = some (.string text) := by simp [World.cell?, show W.heap[p]? = _ from h]
theorem Cb.c4 (h : Cb W p op tok seq text task num up yes) : W.cell? ⟨p, 4, none⟩ = some (.string task) := by simp [World.cell?, show W.heap[p]? = _ from h]
theorem Cb.c5 (h : Cb W p op tok seq text task num up yes) : W.cell? ⟨p, 5, none⟩ = some (.int .i64 num) := by simp [World.cell?, show W.heap[p]? = _ from h]
theorem Cb.c6 (h : Cb W p op tok seq text task num up yes) : W.cell? ⟨p, 6, none⟩ = some (.int .i64 up) := by simp [World.cell?, show W.heap[p]? = _ from h]
theorem Cb.c7 (h : Cb W p op tok seq text task num up yes) : W.cell? ⟨p, 7, none⟩ = some (.bool yes) := by simp [World.cell?, show W.heap[p]? = _ from h]
end
theorem heap_push (W : World) (o : Obj) : (W.alloc o).heap[W.heap.size]? = some o := by show (W.heap.push _)[W.heap.size]? = _; rw [Array.getElem?_push, if_pos rfl]
theorem below_low {B b : Nat} {v w W : World} (h : Below B v w) (k : Below b w W) (hb : B ≤ b) : Below B v W := ⟨k.os.trans h.os, k.tape.trans h.tape, k.output.trans h.output, Nat.le_trans h.size k.size, fun q hq => (k.block q (by omega)).trans (h.block q hq)⟩
set_option maxRecDepth 10000 in
set_option maxHeartbeats 4000000 in
theorem implText_any (op tok seq : Int) (text task : ByteArray) (num up : Int) (yes : Bool) (w : World) (ht : text.size ≤ 9223372036854775807) (hk : task.size ≤ 9223372036854775807) :
    Calls Tryd.prog 8 #[.agg #[.int .i64 op, .int .i64 tok, .int .i64 seq, .string text, .string task, .int .i64 num, .int .i64 up, .bool yes]] w fun e w' => e = .returned (.tuple #[.string (cmtX op tok seq text task num up yes), .bool (cmdB op tok seq text task num up yes)]) ∧ Below w.heap.size w w' := by
  have HC : Hid (∀ w, Calls Tryd.prog 17 #[.agg #[.int .i64 op, .int .i64 tok, .int .i64 seq, .string text, .string task, .int .i64 num, .int .i64 up, .bool yes]] w fun e w' => e = .returned (.bool (cmdB op tok seq text task num up yes)) ∧ Below w.heap.size w w') := fun w => implCommand_any op tok seq text task num up yes w ht hk
  clear ht hk
  obtain ⟨W0, HW0⟩ : ∃ W, Hid (w.alloc (.cells #[.int .i64 op, .int .i64 tok, .int .i64 seq, .string text, .string task, .int .i64 num, .int .i64 up, .bool yes] 27) = W) := ⟨_, rfl⟩
  have X0 : Hid (Cb W0 w.heap.size op tok seq text task num up yes) := by rw [← HW0.out]; exact heap_push _ _
  have B0 : Below w.heap.size w W0 := by rw [← HW0.out]; exact ba (Below.refl _ _) _
  cases hq : cmdB op tok seq text task num up yes with
  | false =>
    have HX : Hid (cmtX op tok seq text task num up yes = ⟨#[]⟩) := by show cmtX op tok seq text task num up yes = _; unfold cmtX; rw [hq]; rfl
    rw [hq] at HC
    rw [HX.out]
    clear hq HX
    go_enter Tryd.func8, Tryd.ntmps8
    go_wp2_with fail
    rw [HW0.out]
    refine (HC.out _).mono ?_
    rintro x w1 ⟨rfl, hb1⟩
    go_wp2
    go_ret2
    exact ⟨rfl, Below.on B0 hb1⟩
  | true =>
    have HX : Hid (cmtX op tok seq text task num up yes = cmtS op tok seq text task num up yes) := by show cmtX op tok seq text task num up yes = _; unfold cmtX; rw [hq]; rfl
    have HFI := cmd_fine hq
    rw [hq] at HC
    rw [HX.out]
    have HF : Hid (1 ≤ op ∧ op ≤ 9 ∧ 0 ≤ tok ∧ tok ≤ 1000000 ∧ 0 ≤ seq ∧ seq ≤ 1000000 ∧ text.size ≤ 600 ∧ task.size ≤ 8 ∧ 0 ≤ num ∧ num ≤ 1000000000 ∧ 0 ≤ up ∧ up ≤ 1000000000) := by
      obtain ⟨o0, o1, t0, t1, s0, s1, x0, k0, n0, n1, u0, u1⟩ := HFI
      exact ⟨o0, o1, t0, t1, s0, s1, x0, k0, n0, by omega, u0, by omega⟩
    have HSZ : Hid (ByteArray.empty.size = 0 ∧ (bstr [op]).size = 1 ∧ (numS [tok, seq]).size ≤ 2 * 1000000001 ∧ (shoS [text, task]).size ≤ 2 * 40001 ∧ (numS [num, up]).size ≤ 2 * 1000000001) := by
      have h := HF.out
      refine ⟨rfl, by rw [bstr_size']; rfl, numS_size [tok, seq] ?_, shoS_size [text, task] ?_, numS_size [num, up] ?_⟩
      all_goals
        intro n hn
        simp only [List.mem_cons, List.not_mem_nil, or_false] at hn
        rcases hn with rfl | rfl <;> omega
    clear hq HX HFI
    go_enter Tryd.func8, Tryd.ntmps8
    go_wp2_with fail
    rw [HW0.out]
    refine (HC.out _).mono ?_
    rintro x w1 ⟨rfl, hb1⟩
    have B1 := Below.on B0 hb1
    have X1 : Hid (Cb w1 w.heap.size op tok seq text task num up yes) := X0.out.on hb1 X0.out.lt
    have hl1 : w.heap.size < w1.heap.size := X1.out.lt
    clear B0 hb1 X0 HC HW0
    obtain ⟨w2, HV2⟩ : ∃ W, Hid (w1.alloc (.cells #[.slice none 0 0, .int .i64 0, .int .i8 0] 44) = W) := ⟨_, rfl⟩
    have Y2 : Hid (Wb w1.heap.size ByteArray.empty w2) := by rw [← HV2.out]; exact Wb.new _
    have X2 : Hid (Cb w2 w.heap.size op tok seq text task num up yes) := by rw [← HV2.out]; exact X1.out.on (ba (Below.refl _ _) _) X1.out.lt
    have B2 : Below w.heap.size w w2 := by rw [← HV2.out]; exact ba B1 _
    clear B1 X1
    obtain ⟨b, hbq⟩ : ∃ b, w1.heap.size = b := ⟨_, rfl⟩
    rw [hbq] at Y2 hl1
    have q0 : (w1.alloc (.cells #[.slice none 0 0, .int .i64 0, .int .i8 0] 44)).cell? ⟨w.heap.size, 0, none⟩ = some (.int .i64 op) := by rw [HV2.out]; exact X2.out.c0
    go_wp2_with fail
    rw [HV2.out]
    refine (oneByte_any b _ op _ Y2.out (by have := HF.out; omega) (by have := HF.out; omega) (by decide)).mono ?_
    rintro x w3 ⟨rfl, y, k⟩
    clear q0 HV2
    have B3 : Below w.heap.size w w3 := below_low B2 k.below (Nat.le_of_lt hl1)
    have X3 : Hid (Cb w3 w.heap.size op tok seq text task num up yes) := X2.out.on k.below hl1
    have Y3 : Hid (Wb b (ByteArray.empty ++ bstr [op]) w3) := y
    clear k y B2 X2 Y2
    have q0 := X3.out.c1
    have q1 := X3.out.c2
    have hlw3 := Y3.out.lt
    obtain ⟨v3, HV3⟩ : ∃ W, Hid (w3.alloc (.cells #[.int .i64 tok, .int .i64 seq] 3) = W) := ⟨_, rfl⟩
    have G3 : Hid (v3.heap[w3.heap.size]? = some (.cells #[.int .i64 tok, .int .i64 seq] 3)) := by rw [← HV3.out]; exact heap_push _ _
    have Z3 : Hid (Wb b (ByteArray.empty ++ bstr [op]) v3) := by rw [← HV3.out]; exact Y3.out.up (ba (Below.refl _ _) _)
    have K3 : Hid (Wk b w3 v3) := by rw [← HV3.out]; exact Wk.of_below (ba (Below.refl _ _) _) (Nat.le_of_lt hlw3)
    go_wp2_with fail
    rw [HV3.out]
    refine (numbers_any b w3.heap.size 2 [tok, seq] (0, 0) _ _ Z3.out G3.out (by omega) (by have := HF.out; intro n hn; simp only [List.mem_cons, List.not_mem_nil, or_false] at hn; rcases hn with rfl | rfl <;> omega) rfl (by decide) (by have := HF.out; have h9 := HSZ.out; simp only [ByteArray.size_append]; omega)).mono ?_
    rintro x w4 ⟨rfl, y, k2⟩
    have k := K3.out.trans k2
    clear q0 q1 G3 Z3 K3 HV3 k2
    have B4 : Below w.heap.size w w4 := below_low B3 k.below (Nat.le_of_lt hl1)
    have X4 : Hid (Cb w4 w.heap.size op tok seq text task num up yes) := X3.out.on k.below hl1
    have Y4 : Hid (Wb b (ByteArray.empty ++ bstr [op] ++ numS [tok, seq]) w4) := y
    clear k y B3 X3 Y3
    have q0 := X4.out.c3
    have q1 := X4.out.c4
    have hlw4 := Y4.out.lt
    obtain ⟨v4, HV4⟩ : ∃ W, Hid (w4.alloc (.cells #[.string text, .string task] 9) = W) := ⟨_, rfl⟩
    have G4 : Hid (v4.heap[w4.heap.size]? = some (.cells #[.string text, .string task] 9)) := by rw [← HV4.out]; exact heap_push _ _
    have Z4 : Hid (Wb b (ByteArray.empty ++ bstr [op] ++ numS [tok, seq]) v4) := by rw [← HV4.out]; exact Y4.out.up (ba (Below.refl _ _) _)
    have K4 : Hid (Wk b w4 v4) := by rw [← HV4.out]; exact Wk.of_below (ba (Below.refl _ _) _) (Nat.le_of_lt hlw4)
    go_wp2_with fail
    rw [HV4.out]
    refine (shorts_any b w4.heap.size 2 [text, task] (0, 0) _ _ Z4.out G4.out (by omega) (by have := HF.out; intro n hn; simp only [List.mem_cons, List.not_mem_nil, or_false] at hn; rcases hn with rfl | rfl <;> omega) rfl (by decide) (by have := HF.out; have h9 := HSZ.out; simp only [ByteArray.size_append]; omega)).mono ?_
    rintro x w5 ⟨rfl, y, k2⟩
    have k := K4.out.trans k2
    clear q0 q1 G4 Z4 K4 HV4 k2
    have B5 : Below w.heap.size w w5 := below_low B4 k.below (Nat.le_of_lt hl1)
    have X5 : Hid (Cb w5 w.heap.size op tok seq text task num up yes) := X4.out.on k.below hl1
    have Y5 : Hid (Wb b (ByteArray.empty ++ bstr [op] ++ numS [tok, seq] ++ shoS [text, task]) w5) := y
    clear k y B4 X4 Y4
    have q0 := X5.out.c5
    have q1 := X5.out.c6
    have hlw5 := Y5.out.lt
    obtain ⟨v5, HV5⟩ : ∃ W, Hid (w5.alloc (.cells #[.int .i64 num, .int .i64 up] 3) = W) := ⟨_, rfl⟩
    have G5 : Hid (v5.heap[w5.heap.size]? = some (.cells #[.int .i64 num, .int .i64 up] 3)) := by rw [← HV5.out]; exact heap_push _ _
    have Z5 : Hid (Wb b (ByteArray.empty ++ bstr [op] ++ numS [tok, seq] ++ shoS [text, task]) v5) := by rw [← HV5.out]; exact Y5.out.up (ba (Below.refl _ _) _)
    have K5 : Hid (Wk b w5 v5) := by rw [← HV5.out]; exact Wk.of_below (ba (Below.refl _ _) _) (Nat.le_of_lt hlw5)
    go_wp2_with fail
    rw [HV5.out]
    refine (numbers_any b w5.heap.size 2 [num, up] (0, 0) _ _ Z5.out G5.out (by omega) (by have := HF.out; intro n hn; simp only [List.mem_cons, List.not_mem_nil, or_false] at hn; rcases hn with rfl | rfl <;> omega) rfl (by decide) (by have := HF.out; have h9 := HSZ.out; simp only [ByteArray.size_append]; omega)).mono ?_
    rintro x w6 ⟨rfl, y, k2⟩
    have k := K5.out.trans k2
    clear q0 q1 G5 Z5 K5 HV5 k2
    have B6 : Below w.heap.size w w6 := below_low B5 k.below (Nat.le_of_lt hl1)
    have X6 : Hid (Cb w6 w.heap.size op tok seq text task num up yes) := X5.out.on k.below hl1
    have Y6 : Hid (Wb b (ByteArray.empty ++ bstr [op] ++ numS [tok, seq] ++ shoS [text, task] ++ numS [num, up]) w6) := y
    clear k y B5 X5 Y5
    have q0 := X6.out.c7
    go_wp2_with fail
    refine (flagW_any b _ yes _ Y6.out (by have h9 := HSZ.out; simp only [ByteArray.size_append]; omega)).mono ?_
    rintro x w7 ⟨rfl, y, k⟩
    clear q0
    have B7 : Below w.heap.size w w7 := below_low B6 k.below (Nat.le_of_lt hl1)
    have X7 : Hid (Cb w7 w.heap.size op tok seq text task num up yes) := X6.out.on k.below hl1
    have Y7 : Hid (Wb b (ByteArray.empty ++ bstr [op] ++ numS [tok, seq] ++ shoS [text, task] ++ numS [num, up] ++ flagS yes) w7) := y
    clear k y B6 X6 Y6
    go_wp2_with fail
    refine (writerString_any b _ _ Y7.out).mono ?_
    rintro x w8 ⟨rfl, k⟩
    have B8 : Below w.heap.size w w8 := below_low B7 k.below (Nat.le_of_lt hl1)
    have HS : Hid (ByteArray.empty ++ bstr [op] ++ numS [tok, seq] ++ shoS [text, task] ++ numS [num, up] ++ flagS yes = cmtS op tok seq text task num up yes) := by
      show _ = _
      simp [cmtS, numS, shoS, ByteArray.append_assoc]
    rw [HS.out]
    clear k Y7 X7 B7
    go_wp2
    go_ret2
    exact ⟨rfl, B8⟩
end Go.Proofs.YtkfhmeiiicidaaaDoor
