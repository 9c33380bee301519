/- Sdc -/
import Derived.Test.YtpjpheicldegkaaGreatDoorGM19
import Derived.Test.YtpjpheicldegkaaGreatDoorGM15
import Derived.Test.YtpjpheicldegkaaGreatDoorGM21
import Derived.Test.YtpjpheicldegkaaGreatDoorGM12
namespace Go.Proofs.YtpjpheicldegkaaGreatDoor
open Go Go.RowKit
set_option linter.unusedVariables false

structure Sdw (w : World) (s : ByteArray) (m M : Nat) (W : World) (a : Nat) (b : Bool) (x0 x1 x2 x3 x4 x5 x6 x7 x8 x9 x10 x11 : Value) : Prop where
  res : Kc12 27 W w.heap.size (.int .i64 0) (.int .i64 0) (.int .i64 0) (.int .i64 0) (.int .i64 0) (.int .i64 0) (.int .i64 0) (.bool false) (.slice none 0 0) (.slice none 0 0) (.string { data := #[] }) (.bool false)
  cur : Cur W (w.heap.size + 1) s a b
  msg : Kc12 27 W m x0 x1 x2 x3 x4 x5 x6 x7 x8 x9 x10 x11
  bel : Below w.heap.size w W
  lt1 : w.heap.size + 1 < m
  lt2 : m < M
  siz : M ≤ W.heap.size
section
variable {w W W' : World} {s : ByteArray} {m M a a' : Nat} {b b' : Bool} {x0 x1 x2 x3 x4 x5 x6 x7 x8 x9 x10 x11 : Value}
theorem Sdw.up (h : Sdw w s m M W a b x0 x1 x2 x3 x4 x5 x6 x7 x8 x9 x10 x11) (hb : Below W.heap.size W W') : Sdw w s m M W' a b x0 x1 x2 x3 x4 x5 x6 x7 x8 x9 x10 x11 :=
  ⟨h.res.up hb, h.cur.up hb, h.msg.up hb, Below.on h.bel hb, h.lt1, h.lt2, Nat.le_trans h.siz hb.size⟩
theorem Sdw.alloc (h : Sdw w s m M W a b x0 x1 x2 x3 x4 x5 x6 x7 x8 x9 x10 x11) (o : Obj) : Sdw w s m M (W.alloc o) a b x0 x1 x2 x3 x4 x5 x6 x7 x8 x9 x10 x11 := h.up (ba (Below.refl _ _) _)
theorem Sdw.save (h : Sdw w s m M W a b x0 x1 x2 x3 x4 x5 x6 x7 x8 x9 x10 x11) (hs : Save (w.heap.size + 1) W W') (hc : Cur W' (w.heap.size + 1) s a' b') : Sdw w s m M W' a' b' x0 x1 x2 x3 x4 x5 x6 x7 x8 x9 x10 x11 :=
  ⟨h.res.save hs (by omega), hc, h.msg.save hs (by have := h.lt1; omega), Save.under h.bel hs (by omega) h.bel.size, h.lt1, h.lt2, Nat.le_trans h.siz hs.size⟩
theorem Sdw.grown {row : Option Nat} (h : Sdw w s m M W a b x0 x1 x2 x3 x4 x5 x6 x7 x8 x9 x10 x11) (hg : W.grownBy W' row) (hr : ∀ k, row = some k → M ≤ k) : Sdw w s m M W' a b x0 x1 x2 x3 x4 x5 x6 x7 x8 x9 x10 x11 :=
  have h1 := h.lt1
  have h2 := h.lt2
  ⟨(hg.block _ h.res.lt (fun e => by have := hr _ e.symm; omega)).trans h.res, (hg.block _ h.cur.lt (fun e => by have := hr _ e.symm; omega)).trans h.cur, (hg.block _ h.msg.lt (fun e => by have := hr _ e.symm; omega)).trans h.msg,
    ⟨hg.os.trans h.bel.os, hg.tape.trans h.bel.tape, hg.output.trans h.bel.output, Nat.le_trans h.bel.size hg.size, fun q hq => (hg.block q (Nat.lt_of_lt_of_le hq h.bel.size) (fun e => by have := hr _ e.symm; omega)).trans (h.bel.block q hq)⟩, h.lt1, h.lt2, Nat.le_trans h.siz hg.size⟩
theorem Sdw.s0 (h : Sdw w s m M W a b x0 x1 x2 x3 x4 x5 x6 x7 x8 x9 x10 x11) (u : Value) : Sdw w s m M (W.setCell ⟨m, 0, none⟩ u) a b u x1 x2 x3 x4 x5 x6 x7 x8 x9 x10 x11 :=
  ⟨h.res.far (p := ⟨m, 0, none⟩) (by show m ≠ _; have := h.lt1; omega) u, qlb h.cur (p := ⟨m, 0, none⟩) (by show m ≠ _; have := h.lt1; omega) u, h.msg.s0 u, h.bel.setCell (p := ⟨m, 0, none⟩) (by show _ ≤ m; have := h.lt1; omega) u, h.lt1, h.lt2, Nat.le_trans h.siz (Below.setCell (B := 0) (Below.refl 0 W) (p := ⟨m, 0, none⟩) (Nat.zero_le _) u).size⟩
theorem Sdw.s1 (h : Sdw w s m M W a b x0 x1 x2 x3 x4 x5 x6 x7 x8 x9 x10 x11) (u : Value) : Sdw w s m M (W.setCell ⟨m, 1, none⟩ u) a b x0 u x2 x3 x4 x5 x6 x7 x8 x9 x10 x11 :=
  ⟨h.res.far (p := ⟨m, 1, none⟩) (by show m ≠ _; have := h.lt1; omega) u, qlb h.cur (p := ⟨m, 1, none⟩) (by show m ≠ _; have := h.lt1; omega) u, h.msg.s1 u, h.bel.setCell (p := ⟨m, 1, none⟩) (by show _ ≤ m; have := h.lt1; omega) u, h.lt1, h.lt2, Nat.le_trans h.siz (Below.setCell (B := 0) (Below.refl 0 W) (p := ⟨m, 1, none⟩) (Nat.zero_le _) u).size⟩
theorem Sdw.s2 (h : Sdw w s m M W a b x0 x1 x2 x3 x4 x5 x6 x7 x8 x9 x10 x11) (u : Value) : Sdw w s m M (W.setCell ⟨m, 2, none⟩ u) a b x0 x1 u x3 x4 x5 x6 x7 x8 x9 x10 x11 :=
  ⟨h.res.far (p := ⟨m, 2, none⟩) (by show m ≠ _; have := h.lt1; omega) u, qlb h.cur (p := ⟨m, 2, none⟩) (by show m ≠ _; have := h.lt1; omega) u, h.msg.s2 u, h.bel.setCell (p := ⟨m, 2, none⟩) (by show _ ≤ m; have := h.lt1; omega) u, h.lt1, h.lt2, Nat.le_trans h.siz (Below.setCell (B := 0) (Below.refl 0 W) (p := ⟨m, 2, none⟩) (Nat.zero_le _) u).size⟩
theorem Sdw.s3 (h : Sdw w s m M W a b x0 x1 x2 x3 x4 x5 x6 x7 x8 x9 x10 x11) (u : Value) : Sdw w s m M (W.setCell ⟨m, 3, none⟩ u) a b x0 x1 x2 u x4 x5 x6 x7 x8 x9 x10 x11 :=
  ⟨h.res.far (p := ⟨m, 3, none⟩) (by show m ≠ _; have := h.lt1; omega) u, qlb h.cur (p := ⟨m, 3, none⟩) (by show m ≠ _; have := h.lt1; omega) u, h.msg.s3 u, h.bel.setCell (p := ⟨m, 3, none⟩) (by show _ ≤ m; have := h.lt1; omega) u, h.lt1, h.lt2, Nat.le_trans h.siz (Below.setCell (B := 0) (Below.refl 0 W) (p := ⟨m, 3, none⟩) (Nat.zero_le _) u).size⟩
theorem Sdw.s4 (h : Sdw w s m M W a b x0 x1 x2 x3 x4 x5 x6 x7 x8 x9 x10 x11) (u : Value) : Sdw w s m M (W.setCell ⟨m, 4, none⟩ u) a b x0 x1 x2 x3 u x5 x6 x7 x8 x9 x10 x11 :=
  ⟨h.res.far (p := ⟨m, 4, none⟩) (by show m ≠ _; have := h.lt1; omega) u, qlb h.cur (p := ⟨m, 4, none⟩) (by show m ≠ _; have := h.lt1; omega) u, h.msg.s4 u, h.bel.setCell (p := ⟨m, 4, none⟩) (by show _ ≤ m; have := h.lt1; omega) u, h.lt1, h.lt2, Nat.le_trans h.siz (Below.setCell (B := 0) (Below.refl 0 W) (p := ⟨m, 4, none⟩) (Nat.zero_le _) u).size⟩
theorem Sdw.s5 (h : Sdw w s m M W a b x0 x1 x2 x3 x4 x5 x6 x7 x8 x9 x10 x11) (u : Value) : Sdw w s m M (W.setCell ⟨m, 5, none⟩ u) a b x0 x1 x2 x3 x4 u x6 x7 x8 x9 x10 x11 :=
  ⟨h.res.far (p := ⟨m, 5, none⟩) (by show m ≠ _; have := h.lt1; omega) u, qlb h.cur (p := ⟨m, 5, none⟩) (by show m ≠ _; have := h.lt1; omega) u, h.msg.s5 u, h.bel.setCell (p := ⟨m, 5, none⟩) (by show _ ≤ m; have := h.lt1; omega) u, h.lt1, h.lt2, Nat.le_trans h.siz (Below.setCell (B := 0) (Below.refl 0 W) (p := ⟨m, 5, none⟩) (Nat.zero_le _) u).size⟩
theorem Sdw.s6 (h : Sdw w s m M W a b x0 x1 x2 x3 x4 x5 x6 x7 x8 x9 x10 x11) (u : Value) : Sdw w s m M (W.setCell ⟨m, 6, none⟩ u) a b x0 x1 x2 x3 x4 x5 u x7 x8 x9 x10 x11 :=
  ⟨h.res.far (p := ⟨m, 6, none⟩) (by show m ≠ _; have := h.lt1; omega) u, qlb h.cur (p := ⟨m, 6, none⟩) (by show m ≠ _; have := h.lt1; omega) u, h.msg.s6 u, h.bel.setCell (p := ⟨m, 6, none⟩) (by show _ ≤ m; have := h.lt1; omega) u, h.lt1, h.lt2, Nat.le_trans h.siz (Below.setCell (B := 0) (Below.refl 0 W) (p := ⟨m, 6, none⟩) (Nat.zero_le _) u).size⟩
theorem Sdw.s7 (h : Sdw w s m M W a b x0 x1 x2 x3 x4 x5 x6 x7 x8 x9 x10 x11) (u : Value) : Sdw w s m M (W.setCell ⟨m, 7, none⟩ u) a b x0 x1 x2 x3 x4 x5 x6 u x8 x9 x10 x11 :=
  ⟨h.res.far (p := ⟨m, 7, none⟩) (by show m ≠ _; have := h.lt1; omega) u, qlb h.cur (p := ⟨m, 7, none⟩) (by show m ≠ _; have := h.lt1; omega) u, h.msg.s7 u, h.bel.setCell (p := ⟨m, 7, none⟩) (by show _ ≤ m; have := h.lt1; omega) u, h.lt1, h.lt2, Nat.le_trans h.siz (Below.setCell (B := 0) (Below.refl 0 W) (p := ⟨m, 7, none⟩) (Nat.zero_le _) u).size⟩
theorem Sdw.s8 (h : Sdw w s m M W a b x0 x1 x2 x3 x4 x5 x6 x7 x8 x9 x10 x11) (u : Value) : Sdw w s m M (W.setCell ⟨m, 8, none⟩ u) a b x0 x1 x2 x3 x4 x5 x6 x7 u x9 x10 x11 :=
  ⟨h.res.far (p := ⟨m, 8, none⟩) (by show m ≠ _; have := h.lt1; omega) u, qlb h.cur (p := ⟨m, 8, none⟩) (by show m ≠ _; have := h.lt1; omega) u, h.msg.s8 u, h.bel.setCell (p := ⟨m, 8, none⟩) (by show _ ≤ m; have := h.lt1; omega) u, h.lt1, h.lt2, Nat.le_trans h.siz (Below.setCell (B := 0) (Below.refl 0 W) (p := ⟨m, 8, none⟩) (Nat.zero_le _) u).size⟩
theorem Sdw.s9 (h : Sdw w s m M W a b x0 x1 x2 x3 x4 x5 x6 x7 x8 x9 x10 x11) (u : Value) : Sdw w s m M (W.setCell ⟨m, 9, none⟩ u) a b x0 x1 x2 x3 x4 x5 x6 x7 x8 u x10 x11 :=
  ⟨h.res.far (p := ⟨m, 9, none⟩) (by show m ≠ _; have := h.lt1; omega) u, qlb h.cur (p := ⟨m, 9, none⟩) (by show m ≠ _; have := h.lt1; omega) u, h.msg.s9 u, h.bel.setCell (p := ⟨m, 9, none⟩) (by show _ ≤ m; have := h.lt1; omega) u, h.lt1, h.lt2, Nat.le_trans h.siz (Below.setCell (B := 0) (Below.refl 0 W) (p := ⟨m, 9, none⟩) (Nat.zero_le _) u).size⟩
theorem Sdw.s10 (h : Sdw w s m M W a b x0 x1 x2 x3 x4 x5 x6 x7 x8 x9 x10 x11) (u : Value) : Sdw w s m M (W.setCell ⟨m, 10, none⟩ u) a b x0 x1 x2 x3 x4 x5 x6 x7 x8 x9 u x11 :=
  ⟨h.res.far (p := ⟨m, 10, none⟩) (by show m ≠ _; have := h.lt1; omega) u, qlb h.cur (p := ⟨m, 10, none⟩) (by show m ≠ _; have := h.lt1; omega) u, h.msg.s10 u, h.bel.setCell (p := ⟨m, 10, none⟩) (by show _ ≤ m; have := h.lt1; omega) u, h.lt1, h.lt2, Nat.le_trans h.siz (Below.setCell (B := 0) (Below.refl 0 W) (p := ⟨m, 10, none⟩) (Nat.zero_le _) u).size⟩
theorem Sdw.s11 (h : Sdw w s m M W a b x0 x1 x2 x3 x4 x5 x6 x7 x8 x9 x10 x11) (u : Value) : Sdw w s m M (W.setCell ⟨m, 11, none⟩ u) a b x0 x1 x2 x3 x4 x5 x6 x7 x8 x9 x10 u :=
  ⟨h.res.far (p := ⟨m, 11, none⟩) (by show m ≠ _; have := h.lt1; omega) u, qlb h.cur (p := ⟨m, 11, none⟩) (by show m ≠ _; have := h.lt1; omega) u, h.msg.s11 u, h.bel.setCell (p := ⟨m, 11, none⟩) (by show _ ≤ m; have := h.lt1; omega) u, h.lt1, h.lt2, Nat.le_trans h.siz (Below.setCell (B := 0) (Below.refl 0 W) (p := ⟨m, 11, none⟩) (Nat.zero_le _) u).size⟩
end
theorem take3_any (g : Nat) (s : ByteArray) (w : World) (hc : Cur w g s 0 false) (hs : s.size ≤ 1048576) :
    Calls Tryz.prog 35 #[.pointer (some ⟨g, 0, none⟩), .int .i64 3] w fun e w' => ∃ (t : ByteArray) (a' : Nat) (b' : Bool), e = .returned (.string t) ∧ takeS s 0 false 3 = (t, a', b') ∧ a' ≤ s.size ∧ Cur w' g s a' b' ∧ Save g w w' := take_any g s 0 3 false w hc hs (Nat.zero_le _)
set_option maxRecDepth 10000 in
set_option maxHeartbeats 1000000 in
theorem qld (g : Nat) (s : ByteArray) (a : Nat) (b : Bool) (w : World) (hc : Cur w g s a b) (hs : s.size ≤ 1048576) (ha : a ≤ s.size) :
    Calls Tryz.prog 38 #[.pointer (some ⟨g, 0, none⟩)] w fun e w' => ∃ (x : ByteArray) (a' : Nat) (b' : Bool), e = .returned (.string x) ∧ sho5P s a b = (x, a', b') ∧ a' ≤ s.size ∧ x.size ≤ 1048576 ∧ Cur w' g s a' b' ∧ Save g w w' := by
  have HC : Hid (Cur w g s a b) := hc
  obtain ⟨R, HR⟩ : ∃ R, Hid (sho5P s a b = R) := ⟨_, rfl⟩
  rw [HR.out]
  clear hc
  go_enter Tryz.func38, Tryz.ntmps38
  go_wp2_with fail
  refine (var_any g s a b w HC.out hs ha).mono ?_
  rintro e w1 ⟨n, a1, b1, rfl, hq, ha1, hn, hc1, hs1⟩
  have HQ : Hid (varS s a b = (n, a1, b1)) := hq
  have H1 : Hid (Cur w1 g s a1 b1) := hc1
  have S1 : Hid (Save g w w1) := hs1
  clear hq hc1 hs1
  go_wp2_with fail
  refine (take_any g s a1 n b1 w1 H1.out hs ha1).mono ?_
  rintro e w2 ⟨t, a2, b2, rfl, hq, ha2, hc2, hs2⟩
  have HR2 : Hid (sho5P s a b = (t, a2, b2)) := by show _ = _; unfold sho5P; rw [HQ.out]; exact hq
  have HT : Hid (t.size ≤ 1048576) := by
    show _ ≤ _
    have := sho5P_sz s a b
    rw [HR2.out] at this
    exact Nat.le_trans this hs
  obtain rfl : R = (t, a2, b2) := by rw [← HR.out]; exact HR2.out
  have H2 : Hid (Cur w2 g s a2 b2) := hc2
  have S2 : Hid (Save g w w2) := S1.out.trans hs2
  clear hq hc2 hs2
  go_wp2
  go_ret
  exact ⟨t, a2, b2, rfl, rfl, ha2, HT.out, H2.out, S2.out⟩
theorem extract3_at {s : ByteArray} (h : 3 ≤ s.size) (i : Nat) (hi : i < 3) : ∃ h1 : i < (s.extract 0 3).size, (s.extract 0 3)[i]'h1 = s[i] := by
  have h1 : i < (s.extract 0 3).size := by rw [ByteArray.size_extract]; omega
  refine ⟨h1, ?_⟩
  simp [ByteArray.getElem_extract]
theorem head_at {s : ByteArray} (h : 3 ≤ s.size) (i : Nat) (hi : i < 3) (wx : World) : (Instr.index 9 (.string (s.extract 0 3)) (.int .i64 (i : Int))).run Tryz.prog wx = .ok (.int .u8 (kAt s i : Int)) wx := by
  obtain ⟨h1, h2⟩ := extract3_at h i hi
  have := run_index_string (P := Tryz.prog) wx 9 (s.extract 0 3) .i64 (i : Int) Tryz.underlying9
  rw [this, dif_pos ⟨by omega, by omega⟩, kAt_in (by omega), ← h2]
  rfl
set_option maxRecDepth 10000 in
set_option maxHeartbeats 8000000 in
theorem specDecode_any (s : ByteArray) (w : World) (hs : s.size ≤ 1048576) :
    Calls Tryz.prog 12 #[.string s] w (RwM ((rcM s).getD zeroM) (rcM s).isSome w) := by
  have HS : Hid (s.size ≤ 1048576) := hs
  clear hs
  obtain ⟨R, HR⟩ : ∃ R, Hid (rcM s = R) := ⟨_, rfl⟩
  rw [HR.out]
  obtain ⟨W0, HW0⟩ : ∃ V, Hid ((w.alloc (.cells #[.int .i64 0, .int .i64 0, .int .i64 0, .int .i64 0, .int .i64 0, .int .i64 0, .int .i64 0, .bool false, .slice none 0 0, .slice none 0 0, .string { data := #[] }, .bool false] 27)).alloc (.cells #[.string s, .int .i64 0, .bool false] 80) = V) := ⟨_, rfl⟩
  have K0 : Hid (Kc12 27 W0 w.heap.size (.int .i64 0) (.int .i64 0) (.int .i64 0) (.int .i64 0) (.int .i64 0) (.int .i64 0) (.int .i64 0) (.bool false) (.slice none 0 0) (.slice none 0 0) (.string { data := #[] }) (.bool false)) := by rw [← HW0.out]; exact (Kc12.new _ _ _ _ _ _ _ _ _ _ _ _ _ _).alloc _
  have C0 : Hid (Cur W0 (w.heap.size + 1) s 0 false) := by rw [← HW0.out]; exact heap_next _ _ _
  have B0 : Hid (Below w.heap.size w W0) := by rw [← HW0.out]; exact ba (ba (Below.refl _ _) _) _
  go_enter Tryz.func12, Tryz.ntmps12
  go_wp2_with fail
  rw [HW0.out]
  refine (take3_any (w.heap.size + 1) s _ C0.out HS.out).mono ?_
  rintro e w1 ⟨t, a1, b1, rfl, hq, ha1, hc1, hs1⟩
  have K1 : Hid (Kc12 27 w1 w.heap.size (.int .i64 0) (.int .i64 0) (.int .i64 0) (.int .i64 0) (.int .i64 0) (.int .i64 0) (.int .i64 0) (.bool false) (.slice none 0 0) (.slice none 0 0) (.string { data := #[] }) (.bool false)) := K0.out.save hs1 (by omega)
  have C1 : Hid (Cur w1 (w.heap.size + 1) s a1 b1) := hc1
  have B1 : Hid (Below w.heap.size w w1) := Save.under B0.out hs1 (by omega) B0.out.size
  clear hc1 hs1 K0 C0 B0 HW0
  cases b1 with
  | true =>
    have hsm : s.size < 3 := by
      unfold takeS at hq
      split at hq
      · simp at hq
      · rename_i h
        by_cases h3 : s.size < 3
        · exact h3
        · exact absurd ⟨rfl, by omega⟩ h
    obtain rfl : R = none := by rw [← HR.out]; exact rcM_short hsm
    have q2 := (qpa C1.out).2.2.1
    clear hq
    go_wp2_with (refine qja rfl (.tmp 2) (.tmp 23) rfl _ rfl K1.out 0 0 0 0 0 0 0 false false none none 0 0 0 0 ⟨#[]⟩ rfl ?_)
    refine bodyPost_ret (qkb rfl rfl rfl (K1.out.set (.int .i64 0) (.int .i64 0) (.int .i64 0) (.int .i64 0) (.int .i64 0) (.int .i64 0) (.int .i64 0) (.bool false) (.slice none 0 0) (.slice none 0 0) (.string { data := #[] }) (.bool false))) rfl ?_
    exact ⟨none, 0, 0, none, 0, 0, rfl, qmb _ _ _, qse _ _, qya B1.out (Nat.le_refl _) _ _ _ _ _ _ _ _ _ _ _ _⟩
  | false =>
  obtain ⟨-, h3, rfl, rfl⟩ := takeS_ok hq
  have h3 : 3 ≤ s.size := by omega
  have q2 := (qpa C1.out).2.2.1
  obtain ⟨k0, HK0⟩ : ∃ k, Hid (kAt s 0 = k) := ⟨_, rfl⟩
  obtain ⟨k1, HK1⟩ : ∃ k, Hid (kAt s 1 = k) := ⟨_, rfl⟩
  obtain ⟨k2, HK2⟩ : ∃ k, Hid (kAt s 2 = k) := ⟨_, rfl⟩
  obtain ⟨t, HT⟩ : ∃ t, Hid (s.extract 0 3 = t) := ⟨_, rfl⟩
  have i0 : ∀ wx, (Instr.index 9 (.string t) (.int .i64 0)).run Tryz.prog wx = .ok (.int .u8 (k0 : Int)) wx := fun wx => by rw [← HT.out, ← HK0.out]; exact head_at h3 0 (by omega) wx
  have i1 : ∀ wx, (Instr.index 9 (.string t) (.int .i64 1)).run Tryz.prog wx = .ok (.int .u8 (k1 : Int)) wx := fun wx => by rw [← HT.out, ← HK1.out]; exact head_at h3 1 (by omega) wx
  have i2 : ∀ wx, (Instr.index 9 (.string t) (.int .i64 2)).run Tryz.prog wx = .ok (.int .u8 (k2 : Int)) wx := fun wx => by rw [← HT.out, ← HK2.out]; exact head_at h3 2 (by omega) wx
  have hk0 : k0 < 256 := by rw [← HK0.out]; exact kAt_lt s 0
  have hk1 : k1 < 256 := by rw [← HK1.out]; exact kAt_lt s 1
  have hk2 : k2 < 256 := by rw [← HK2.out]; exact kAt_lt s 2
  have hv0 : IntKind.i64.wrap (k0 : Int) = (k0 : Int) := by go_arith
  have hv1 : IntKind.i64.wrap (k1 : Int) = (k1 : Int) := by go_arith
  have hv2 : IntKind.i64.wrap (k2 : Int) = (k2 : Int) := by go_arith
  clear hq hk0 hk1 hk2
  simp only [HT.out]
  have BD : Below w1.heap.size w1 w1.drew := (Below.refl _ _).drew
  go_wp2
  refine qha (fun w' => ∃ x : Wd w1, w' = x.at') [0, 1, 2, 3, 4, 5, 6, 7, 8, 9] 11 1 (by kernel_rfl) (by decide) (by decide) (by kernel_rfl) (fun _ _ d _ _ h => by cases d <;> exact h) ⟨⟨w1.drew, BD⟩, rfl⟩ ?_
  repeat (refine qea rfl (by first | (intro x h; cases h; done) | (intro x h; cases h; exact ⟨_, rfl⟩)) ?_; go_big_quiet_step (fail); refine wpQuiet_nil ?_)
  refine qda ?_
  refine qfa (fuel := 0) (i := 10) (by kernel_rfl) rfl rfl ?_
  intro K hK
  obtain ⟨V, HV⟩ : ∃ V, Hid (w1.drew = V) := ⟨_, rfl⟩
  have KV : Hid (Kc12 27 V w.heap.size (.int .i64 0) (.int .i64 0) (.int .i64 0) (.int .i64 0) (.int .i64 0) (.int .i64 0) (.int .i64 0) (.bool false) (.slice none 0 0) (.slice none 0 0) (.string { data := #[] }) (.bool false)) := by rw [← HV.out]; exact K1.out
  have CV : Hid (Cur V (w.heap.size + 1) s (0 + 3) false) := by rw [← HV.out]; exact C1.out
  have BV : Hid (Below w.heap.size w V) := by rw [← HV.out]; exact B1.out.drew
  rw [HV.out] at BD
  rw [HV.out]
  obtain ⟨V2, HV2⟩ : ∃ V2, Hid (V.alloc (.cells #[.int .i64 0, .int .i64 0, .int .i64 0, .int .i64 0, .int .i64 0, .int .i64 0, .int .i64 0, .bool false, .slice none 0 0, .slice none 0 0, .string { data := #[] }, .bool false] 27) = V2) := ⟨_, rfl⟩
  obtain ⟨m, Hm⟩ : ∃ m, Hid (V.heap.size = m) := ⟨_, rfl⟩
  have A0 : Hid (Sdw w s m (m + 1) V2 (0 + 3) false (.int .i64 0) (.int .i64 0) (.int .i64 0) (.int .i64 0) (.int .i64 0) (.int .i64 0) (.int .i64 0) (.bool false) (.slice none 0 0) (.slice none 0 0) (.string { data := #[] }) (.bool false)) := by
    rw [← HV2.out, ← Hm.out]
    exact ⟨KV.out.alloc _, qvb CV.out _, Kc12.new _ _ _ _ _ _ _ _ _ _ _ _ _ _, ba BV.out _, CV.out.lt, Nat.lt_succ_self _, by show _ ≤ (V.heap.push _).size; rw [Array.size_push]; exact Nat.le_refl _⟩
  clear HV KV CV BV q2 i0 i1 i2 hv0 hv1 hv2 K1 C1 B1
  go_wp2
  refine hK.out _ _ ⟨⟨_, ba BD _⟩, rfl⟩ ?_
  clear hK K BD
  refine qoa (by kernel_rfl) ?_
  rw [HV2.out]
  simp only [Hm.out]
  have c0 := A0.out.msg.c0
  have f0 := A0.out.msg.fz 0
  have c1 := A0.out.msg.c1
  have f1 := A0.out.msg.fz 1
  have c2 := A0.out.msg.c2
  have f2 := A0.out.msg.fz 2
  have c3 := A0.out.msg.c3
  have f3 := A0.out.msg.fz 3
  have c4 := A0.out.msg.c4
  have f4 := A0.out.msg.fz 4
  have c5 := A0.out.msg.c5
  have f5 := A0.out.msg.fz 5
  have c6 := A0.out.msg.c6
  have f6 := A0.out.msg.fz 6
  have c7 := A0.out.msg.c7
  have f7 := A0.out.msg.fz 7
  have c8 := A0.out.msg.c8
  have f8 := A0.out.msg.fz 8
  have c9 := A0.out.msg.c9
  have f9 := A0.out.msg.fz 9
  have c10 := A0.out.msg.c10
  have f10 := A0.out.msg.fz 10
  have c11 := A0.out.msg.c11
  have f11 := A0.out.msg.fz 11
  go_wp2_with fail
  obtain ⟨V3, HV3⟩ : ∃ V, Hid ((((((((((((V2.setCell ⟨m, 0, none⟩ (.int .i64 (k0 : Int))).setCell ⟨m, 1, none⟩ (.int .i64 (k1 : Int))).setCell ⟨m, 2, none⟩ (.int .i64 (k2 : Int))).setCell ⟨m, 3, none⟩ (.int .i64 0)).setCell ⟨m, 4, none⟩ (.int .i64 0)).setCell ⟨m, 5, none⟩ (.int .i64 0)).setCell ⟨m, 6, none⟩ (.int .i64 0)).setCell ⟨m, 7, none⟩ (.bool false)).setCell ⟨m, 8, none⟩ (.slice none 0 0)).setCell ⟨m, 9, none⟩ (.slice none 0 0)).setCell ⟨m, 10, none⟩ (.string { data := #[] })).setCell ⟨m, 11, none⟩ (.bool false) = V) := ⟨_, rfl⟩
  have A3 : Hid (Sdw w s m (m + 1) V3 (0 + 3) false (.int .i64 (k0 : Int)) (.int .i64 (k1 : Int)) (.int .i64 (k2 : Int)) (.int .i64 0) (.int .i64 0) (.int .i64 0) (.int .i64 0) (.bool false) (.slice none 0 0) (.slice none 0 0) (.string { data := #[] }) (.bool false)) := by
    rw [← HV3.out]
    exact (((((((((((A0.out.s0 _).s1 _).s2 _).s3 _).s4 _).s5 _).s6 _).s7 _).s8 _).s9 _).s10 _).s11 _
  clear c0 f0 c1 f1 c2 f2 c3 f3 c4 f4 c5 f5 c6 f6 c7 f7 c8 f8 c9 f9 c10 f10 c11 f11 A0 HV2
  rw [HV3.out]
  refine (var_any (w.heap.size + 1) s (0 + 3) false _ A3.out.cur HS.out ha1).mono ?_
  rintro e w4 ⟨y3, p4, d4, rfl, hq, hp4, -, hc, hs⟩
  have Q3 : Hid (varS s 3 false = (y3, p4, d4)) := hq
  have A' := A3.out.save hs hc
  obtain ⟨V4, HV4⟩ : ∃ V, Hid (w4.setCell ⟨m, 3, none⟩ (.int .i64 (y3 : Int)) = V) := ⟨_, rfl⟩
  have A4 : Hid (Sdw w s m (m + 1) V4 p4 d4 (.int .i64 (k0 : Int)) (.int .i64 (k1 : Int)) (.int .i64 (k2 : Int)) (.int .i64 (y3 : Int)) (.int .i64 0) (.int .i64 0) (.int .i64 0) (.bool false) (.slice none 0 0) (.slice none 0 0) (.string { data := #[] }) (.bool false)) := by rw [← HV4.out]; exact A'.s3 _
  have c := A'.msg.c3
  have f := A'.msg.fz 3
  clear hq hc hs A' A3 HV3
  go_wp2_with fail
  clear c f
  rw [HV4.out]
  refine (var_any (w.heap.size + 1) s p4 d4 _ A4.out.cur HS.out hp4).mono ?_
  rintro e w5 ⟨y4, p5, d5, rfl, hq, hp5, -, hc, hs⟩
  have Q4 : Hid (varS s p4 d4 = (y4, p5, d5)) := hq
  have A' := A4.out.save hs hc
  obtain ⟨V5, HV5⟩ : ∃ V, Hid (w5.setCell ⟨m, 4, none⟩ (.int .i64 (y4 : Int)) = V) := ⟨_, rfl⟩
  have A5 : Hid (Sdw w s m (m + 1) V5 p5 d5 (.int .i64 (k0 : Int)) (.int .i64 (k1 : Int)) (.int .i64 (k2 : Int)) (.int .i64 (y3 : Int)) (.int .i64 (y4 : Int)) (.int .i64 0) (.int .i64 0) (.bool false) (.slice none 0 0) (.slice none 0 0) (.string { data := #[] }) (.bool false)) := by rw [← HV5.out]; exact A'.s4 _
  have c := A'.msg.c4
  have f := A'.msg.fz 4
  clear hq hc hs A' A4 HV4
  go_wp2_with fail
  clear c f
  rw [HV5.out]
  refine (var_any (w.heap.size + 1) s p5 d5 _ A5.out.cur HS.out hp5).mono ?_
  rintro e w6 ⟨y5, p6, d6, rfl, hq, hp6, -, hc, hs⟩
  have Q5 : Hid (varS s p5 d5 = (y5, p6, d6)) := hq
  have A' := A5.out.save hs hc
  obtain ⟨V6, HV6⟩ : ∃ V, Hid (w6.setCell ⟨m, 5, none⟩ (.int .i64 (y5 : Int)) = V) := ⟨_, rfl⟩
  have A6 : Hid (Sdw w s m (m + 1) V6 p6 d6 (.int .i64 (k0 : Int)) (.int .i64 (k1 : Int)) (.int .i64 (k2 : Int)) (.int .i64 (y3 : Int)) (.int .i64 (y4 : Int)) (.int .i64 (y5 : Int)) (.int .i64 0) (.bool false) (.slice none 0 0) (.slice none 0 0) (.string { data := #[] }) (.bool false)) := by rw [← HV6.out]; exact A'.s5 _
  have c := A'.msg.c5
  have f := A'.msg.fz 5
  clear hq hc hs A' A5 HV5
  go_wp2_with fail
  clear c f
  rw [HV6.out]
  refine (var_any (w.heap.size + 1) s p6 d6 _ A6.out.cur HS.out hp6).mono ?_
  rintro e w7 ⟨y6, p7, d7, rfl, hq, hp7, -, hc, hs⟩
  have Q6 : Hid (varS s p6 d6 = (y6, p7, d7)) := hq
  have A' := A6.out.save hs hc
  obtain ⟨V7, HV7⟩ : ∃ V, Hid (w7.setCell ⟨m, 6, none⟩ (.int .i64 (y6 : Int)) = V) := ⟨_, rfl⟩
  have A7 : Hid (Sdw w s m (m + 1) V7 p7 d7 (.int .i64 (k0 : Int)) (.int .i64 (k1 : Int)) (.int .i64 (k2 : Int)) (.int .i64 (y3 : Int)) (.int .i64 (y4 : Int)) (.int .i64 (y5 : Int)) (.int .i64 (y6 : Int)) (.bool false) (.slice none 0 0) (.slice none 0 0) (.string { data := #[] }) (.bool false)) := by rw [← HV7.out]; exact A'.s6 _
  have c := A'.msg.c6
  have f := A'.msg.fz 6
  clear hq hc hs A' A6 HV6
  go_wp2_with fail
  clear c f
  rw [HV7.out]
  refine (take1_any (w.heap.size + 1) s p7 d7 _ A7.out.cur HS.out hp7).mono ?_
  rintro e w8 ⟨t7, p8, d8, rfl, hq, hp8, hc, hs⟩
  have Q7 : Hid (takeS s p7 d7 1 = (t7, p8, d8)) := hq
  have A' := A7.out.save hs hc
  obtain ⟨f7, HF7⟩ : ∃ f, Hid ((t7.toList == ([1] : List UInt8)) = f) := ⟨_, rfl⟩
  obtain ⟨V8, HV8⟩ : ∃ V, Hid (w8.setCell ⟨m, 7, none⟩ (.bool (t7.toList == ([1] : List UInt8))) = V) := ⟨_, rfl⟩
  have A8 : Hid (Sdw w s m (m + 1) V8 p8 d8 (.int .i64 (k0 : Int)) (.int .i64 (k1 : Int)) (.int .i64 (k2 : Int)) (.int .i64 (y3 : Int)) (.int .i64 (y4 : Int)) (.int .i64 (y5 : Int)) (.int .i64 (y6 : Int)) (.bool f7) (.slice none 0 0) (.slice none 0 0) (.string { data := #[] }) (.bool false)) := by rw [← HV8.out, HF7.out]; exact A'.s7 _
  have c := A'.msg.c7
  have f := A'.msg.fz 7
  clear hq hc hs A' A7 HV7
  go_wp2_with fail
  clear c f
  rw [HV8.out]
  refine (take1_any (w.heap.size + 1) s p8 d8 _ A8.out.cur HS.out hp8).mono ?_
  rintro e w9 ⟨t8, p9, d9, rfl, hq, hp9, hc, hs⟩
  have Q8 : Hid (takeS s p8 d8 1 = (t8, p9, d9)) := hq
  have A' := A8.out.save hs hc
  obtain ⟨f8, HF8⟩ : ∃ f, Hid ((t8.toList == ([1] : List UInt8)) = f) := ⟨_, rfl⟩
  obtain ⟨V9, HV9⟩ : ∃ V, Hid (w9.setCell ⟨m, 11, none⟩ (.bool (t8.toList == ([1] : List UInt8))) = V) := ⟨_, rfl⟩
  have A9 : Hid (Sdw w s m (m + 1) V9 p9 d9 (.int .i64 (k0 : Int)) (.int .i64 (k1 : Int)) (.int .i64 (k2 : Int)) (.int .i64 (y3 : Int)) (.int .i64 (y4 : Int)) (.int .i64 (y5 : Int)) (.int .i64 (y6 : Int)) (.bool f7) (.slice none 0 0) (.slice none 0 0) (.string { data := #[] }) (.bool f8)) := by rw [← HV9.out, HF8.out]; exact A'.s11 _
  have c := A'.msg.c11
  have f := A'.msg.fz 11
  clear hq hc hs A' A8 HV8
  go_wp2_with fail
  clear c f
  rw [HV9.out]
  refine (var_any (w.heap.size + 1) s p9 d9 _ A9.out.cur HS.out hp9).mono ?_
  rintro e w10 ⟨n, p10, d10, rfl, hq, hp10, -, hc, hs⟩
  have Q9 : Hid (varS s p9 d9 = (n, p10, d10)) := hq
  have A10 : Hid (Sdw w s m (m + 1) w10 p10 d10 (.int .i64 (k0 : Int)) (.int .i64 (k1 : Int)) (.int .i64 (k2 : Int)) (.int .i64 (y3 : Int)) (.int .i64 (y4 : Int)) (.int .i64 (y5 : Int)) (.int .i64 (y6 : Int)) (.bool f7) (.slice none 0 0) (.slice none 0 0) (.string { data := #[] }) (.bool f8)) := A9.out.save hs hc
  obtain ⟨E, HE⟩ : ∃ E, Hid (entC s (min n 5) p10 d10 [] = E) := ⟨_, rfl⟩
  clear hq hc hs A9 HV9
  go_wp2
  go_loopw [8] (fun i wr => ∃ (k a : Nat) (b : Bool) (l : List En) (o0 : Option Addr) (o1 o2 : Nat), k ≤ 5 ∧ k ≤ n ∧ i = .int .i64 k ∧ a ≤ s.size ∧ l.length = k ∧ Hid (entC s (min n 5 - k) a b l = E) ∧ Hid (ownsR wr (m + 1) 59 (.slice o0 o1 o2) l) ∧ Hid (Sdw w s m (m + 1) wr a b (.int .i64 (k0 : Int)) (.int .i64 (k1 : Int)) (.int .i64 (k2 : Int)) (.int .i64 (y3 : Int)) (.int .i64 (y4 : Int)) (.int .i64 (y5 : Int)) (.int .i64 (y6 : Int)) (.bool f7) (.slice o0 o1 o2) (.slice none 0 0) (.string { data := #[] }) (.bool f8))) (fun i _ => 5 - (intOf i).toNat)
  case atStart => exact ⟨0, p10, d10, [], none, 0, 0, Nat.zero_le _, Nat.zero_le _, rfl, hp10, rfl, HE, qmb _ _ _, A10⟩
  case round =>
    obtain ⟨k, a, b, l, o0, o1, o2, hk5, hkn, rfl, ha, hl, HX, HO, A⟩ := hrel
    have q2 := (qpa A.out.cur).2.2.1
    by_cases hlt : k < n
    · cases b with
      | true =>
        have HEE : Hid (E = (l, a, true)) := by show _ = _; rw [← HX.out]; exact entC_bad _ _ _ _
        clear HX
        go_wp2_with fail
        clear q2 hlt
        refine (qld (w.heap.size + 1) s a true _ A.out.cur HS.out ha).mono ?_
        rintro e u1 ⟨t11, g1, e1, rfl, hq, hg1, ht, hc, hs⟩
        have Q11 : Hid (sho5P s a true = (t11, g1, e1)) := hq
        have D1 : Hid (Sdw w s m (m + 1) u1 g1 e1 (.int .i64 (k0 : Int)) (.int .i64 (k1 : Int)) (.int .i64 (k2 : Int)) (.int .i64 (y3 : Int)) (.int .i64 (y4 : Int)) (.int .i64 (y5 : Int)) (.int .i64 (y6 : Int)) (.bool f7) (.slice o0 o1 o2) (.slice none 0 0) (.string { data := #[] }) (.bool f8)) := A.out.save hs hc
        have O1 : Hid (ownsR u1 (m + 1) 59 (.slice o0 o1 o2) l) := HO.out.saveE hs (by have := A.out.lt1; omega)
        have HT11 : Hid (t11.size ≤ maxLen) := by show _ ≤ _; unfold maxLen; omega
        clear hq hc hs A HO ht
        go_wp2_with fail
        refine (qyc t11 _ HT11.out).mono ?_
        rintro e u2 ⟨cv, rfl, hoc, hb⟩
        obtain ⟨z0, z1, z2, rfl⟩ := hoc.slice3
        have D2 := D1.out.up hb
        have O2 : Hid (ownsR u2 (m + 1) 59 (.slice o0 o1 o2) l) := O1.out.all hb
        have OC2 : Hid (ownsR u2 (m + 1) 3 (.slice z0 z1 z2) (confT t11)) := hoc.mono D1.out.siz
        obtain ⟨U2, HU2⟩ : ∃ V, Hid (u2.setCell ⟨m, 9, none⟩ (.slice z0 z1 z2) = V) := ⟨_, rfl⟩
        have G2 : Hid (Sdw w s m (m + 1) U2 g1 e1 (.int .i64 (k0 : Int)) (.int .i64 (k1 : Int)) (.int .i64 (k2 : Int)) (.int .i64 (y3 : Int)) (.int .i64 (y4 : Int)) (.int .i64 (y5 : Int)) (.int .i64 (y6 : Int)) (.bool f7) (.slice o0 o1 o2) (.slice z0 z1 z2) (.string { data := #[] }) (.bool f8)) := by rw [← HU2.out]; exact D2.s9 _
        have P2 : Hid (ownsR U2 (m + 1) 59 (.slice o0 o1 o2) l) := by rw [← HU2.out]; exact O2.out.qta (a := ⟨m, 9, none⟩) (Nat.lt_succ_self m) _
        have PC2 : Hid (ownsR U2 (m + 1) 3 (.slice z0 z1 z2) (confT t11)) := by rw [← HU2.out]; exact OC2.out.qta (a := ⟨m, 9, none⟩) (Nat.lt_succ_self m) _
        have c := D2.msg.c9
        have f := D2.msg.fz 9
        clear hoc hb D1 D2 O1 O2 OC2 HT11
        go_wp2_with fail
        clear c f
        rw [HU2.out]
        refine (qld (w.heap.size + 1) s g1 e1 _ G2.out.cur HS.out hg1).mono ?_
        rintro e u3 ⟨t12, g2, e2, rfl, hq, hg2, -, hc, hs⟩
        have Q12 : Hid (sho5P s g1 e1 = (t12, g2, e2)) := hq
        have D3 := G2.out.save hs hc
        have O3 : Hid (ownsR u3 (m + 1) 59 (.slice o0 o1 o2) l) := P2.out.saveE hs (by have := G2.out.lt1; omega)
        have OC3 : Hid (ownsR u3 (m + 1) 3 (.slice z0 z1 z2) (confT t11)) := PC2.out.saveE hs (by have := G2.out.lt1; omega)
        obtain ⟨U3, HU3⟩ : ∃ V, Hid (u3.setCell ⟨m, 10, none⟩ (.string t12) = V) := ⟨_, rfl⟩
        have G3 : Hid (Sdw w s m (m + 1) U3 g2 e2 (.int .i64 (k0 : Int)) (.int .i64 (k1 : Int)) (.int .i64 (k2 : Int)) (.int .i64 (y3 : Int)) (.int .i64 (y4 : Int)) (.int .i64 (y5 : Int)) (.int .i64 (y6 : Int)) (.bool f7) (.slice o0 o1 o2) (.slice z0 z1 z2) (.string t12) (.bool f8)) := by rw [← HU3.out]; exact D3.s10 _
        have P3 : Hid (ownsR U3 (m + 1) 59 (.slice o0 o1 o2) l) := by rw [← HU3.out]; exact O3.out.qta (a := ⟨m, 10, none⟩) (Nat.lt_succ_self m) _
        have PC3 : Hid (ownsR U3 (m + 1) 3 (.slice z0 z1 z2) (confT t11)) := by rw [← HU3.out]; exact OC3.out.qta (a := ⟨m, 10, none⟩) (Nat.lt_succ_self m) _
        have c := D3.msg.c10
        have f := D3.msg.fz 10
        clear hq hc hs G2 P2 PC2 HU2 D3 O3 OC3
        obtain ⟨x, HXX⟩ : ∃ x : Mg8, Hid ((⟨k0, k1, k2, y3, y4, y5, y6, f7, f8, l, t11, t12⟩ : Mg8) = x) := ⟨_, rfl⟩
        have HCH : Hid (chS s = (x, e2)) := by
          show _ = _
          rw [← HXX.out]
          simp only [chS, Q3.out, Q4.out, Q5.out, Q6.out, Q7.out, Q8.out, Q9.out, HE.out, HEE.out, Q11.out, Q12.out, HF7.out, HF8.out, HK0.out, HK1.out, HK2.out]
        have HFI : Hid (l.length ≤ 5 ∧ ∀ f ∈ l, f.data.size ≤ 1048576) := by
          have h1 := chS_fine s
          rw [HCH.out, ← HXX.out] at h1
          exact ⟨h1.1, fun f hf => Nat.le_trans (h1.2 f hf) HS.out⟩
        obtain ⟨T, q, HV⟩ : ∃ (T : ByteArray) (q : Bool), Hid (encV (k0 : Int) (k1 : Int) (k2 : Int) (y3 : Int) (y4 : Int) (y5 : Int) (y6 : Int) f7 t12 f8 l (confT t11) = .tuple #[.string T, .bool q] ∧ q = okX8 x ∧ (q = true → T = enX8 x)) := by
          have := encX_forms x
          rw [← HXX.out] at this ⊢
          exact this
        have HRV : Hid (R = if e2 = false ∧ q = true ∧ T = s then some x else none) := by
          show R = _
          rw [← HR.out, rcM_chS, HCH.out]
          obtain ⟨-, h1, h2⟩ := HV.out
          simp only []
          rw [← h1]
          cases q with
          | false => simp
          | true => rw [h2 rfl]
        clear Q3 Q4 Q5 Q6 Q7 Q8 Q9 HE HEE Q11 Q12 HF7 HF8 HK0 HK1 HK2 HCH
        go_wp2_with (rw [HU3.out]; refine qna rfl (.tmp 6) rfl m rfl G3.out.msg ?_)
        clear c f HU3
        refine (qsd (k0 : Int) (k1 : Int) (k2 : Int) (y3 : Int) (y4 : Int) (y5 : Int) (y6 : Int) f7 t12 f8 _ _ l (confT t11) _ P3.out.reads PC3.out.reads (by have := HFI.out.1; omega) (by have := confT_len t11; omega) (fun f hf => HFI.out.2 f hf)).mono ?_
        rw [HV.out.1]
        rintro e u4 ⟨rfl, hb⟩
        have D4 : Hid (Sdw w s m (m + 1) u4 g2 e2 (.int .i64 (k0 : Int)) (.int .i64 (k1 : Int)) (.int .i64 (k2 : Int)) (.int .i64 (y3 : Int)) (.int .i64 (y4 : Int)) (.int .i64 (y5 : Int)) (.int .i64 (y6 : Int)) (.bool f7) (.slice o0 o1 o2) (.slice z0 z1 z2) (.string t12) (.bool f8)) := G3.out.up hb
        have O4 : Hid (ownsR u4 (m + 1) 59 (.slice o0 o1 o2) l) := P3.out.all hb
        have OC4 : Hid (ownsR u4 (m + 1) 3 (.slice z0 z1 z2) (confT t11)) := PC3.out.all hb
        have q2 := (qpa D4.out.cur).2.2.1
        have hwm : w.heap.size < m + 1 := by have := D4.out.lt1; omega
        clear hb G3 P3 PC3 HFI
        by_cases hok : e2 = false ∧ q = true ∧ T = s
        · obtain ⟨rfl, rfl, rfl⟩ := hok
          obtain rfl : R = some x := by rw [HRV.out]; simp
          clear HRV HV HR
          have KE := D4.out.res.set (.int .i64 (k0 : Int)) (.int .i64 (k1 : Int)) (.int .i64 (k2 : Int)) (.int .i64 (y3 : Int)) (.int .i64 (y4 : Int)) (.int .i64 (y5 : Int)) (.int .i64 (y6 : Int)) (.bool f7) (.slice o0 o1 o2) (.slice z0 z1 z2) (.string t12) (.bool f8)
          have HEND : Hid (RwM (Option.getD (some x) zeroM) (Option.isSome (some x)) w (.returned (.tuple #[.agg #[.int .i64 (k0 : Int), .int .i64 (k1 : Int), .int .i64 (k2 : Int), .int .i64 (y3 : Int), .int .i64 (y4 : Int), .int .i64 (y5 : Int), .int .i64 (y6 : Int), .bool f7, .slice o0 o1 o2, .slice z0 z1 z2, .string t12, .bool f8], .bool true])) (set12 u4 w.heap.size (.int .i64 (k0 : Int)) (.int .i64 (k1 : Int)) (.int .i64 (k2 : Int)) (.int .i64 (y3 : Int)) (.int .i64 (y4 : Int)) (.int .i64 (y5 : Int)) (.int .i64 (y6 : Int)) (.bool f7) (.slice o0 o1 o2) (.slice z0 z1 z2) (.string t12) (.bool f8))) := by
            rw [← HXX.out]
            exact ⟨o0, o1, o2, z0, z1, z2, rfl, (qva O4.out hwm _ _ _ _ _ _ _ _ _ _ _ _).mono (Nat.le_of_lt hwm), (qva OC4.out hwm _ _ _ _ _ _ _ _ _ _ _ _).mono (Nat.le_of_lt hwm), qya D4.out.bel (Nat.le_refl _) _ _ _ _ _ _ _ _ _ _ _ _⟩
          go_wp2_with (first | refine qna rfl (.tmp 6) rfl m rfl D4.out.msg ?_ | refine qja rfl (.tmp 2) (.tmp 114) rfl _ rfl D4.out.res (k0 : Int) (k1 : Int) (k2 : Int) (y3 : Int) (y4 : Int) (y5 : Int) (y6 : Int) f7 f8 o0 z0 o1 o2 z1 z2 t12 rfl ?_ | exact bodyPost_ret (qkb rfl rfl rfl KE) rfl HEND.out)
        · obtain rfl : R = none := by rw [HRV.out, if_neg hok]
          have KE := D4.out.res.set (.int .i64 0) (.int .i64 0) (.int .i64 0) (.int .i64 0) (.int .i64 0) (.int .i64 0) (.int .i64 0) (.bool false) (.slice none 0 0) (.slice none 0 0) (.string { data := #[] }) (.bool false)
          have HEND : Hid (RwM (Option.getD none zeroM) (Option.isSome (none : Option Mg8)) w (.returned (.tuple #[.agg #[.int .i64 0, .int .i64 0, .int .i64 0, .int .i64 0, .int .i64 0, .int .i64 0, .int .i64 0, .bool false, .slice none 0 0, .slice none 0 0, .string { data := #[] }, .bool false], .bool false])) (set12 u4 w.heap.size (.int .i64 0) (.int .i64 0) (.int .i64 0) (.int .i64 0) (.int .i64 0) (.int .i64 0) (.int .i64 0) (.bool false) (.slice none 0 0) (.slice none 0 0) (.string { data := #[] }) (.bool false))) := ⟨none, 0, 0, none, 0, 0, rfl, qmb _ _ _, qse _ _, qya D4.out.bel (Nat.le_refl _) _ _ _ _ _ _ _ _ _ _ _ _⟩
          have HD := D4.out.res
          clear D4 O4 OC4 HRV HV
          cases e2 with
          | true =>
            go_wp2_with (first | refine qja rfl (.tmp 2) (.tmp 113) rfl _ rfl HD 0 0 0 0 0 0 0 false false none none 0 0 0 0 ⟨#[]⟩ rfl ?_ | exact bodyPost_ret (qkb rfl rfl rfl KE) rfl HEND.out)
          | false =>
          cases q with
          | false =>
            go_wp2_with (first | refine qja rfl (.tmp 2) (.tmp 113) rfl _ rfl HD 0 0 0 0 0 0 0 false false none none 0 0 0 0 ⟨#[]⟩ rfl ?_ | exact bodyPost_ret (qkb rfl rfl rfl KE) rfl HEND.out)
          | true =>
          have hne := qab (fun h : T = s => hok ⟨rfl, rfl, h⟩)
          go_wp2_with (first | refine qja rfl (.tmp 2) (.tmp 113) rfl _ rfl HD 0 0 0 0 0 0 0 false false none none 0 0 0 0 ⟨#[]⟩ rfl ?_ | exact bodyPost_ret (qkb rfl rfl rfl KE) rfl HEND.out)

      | false =>
        by_cases h5 : k < 5
        · have hd4 : decide ((k : Int) ≤ 4) = true := decide_eq_true (by omega)
          go_wp2_with fail
          clear q2 hd4
          refine (qld (w.heap.size + 1) s a false _ A.out.cur HS.out ha).mono ?_
          rintro e u1 ⟨tk, g1, e1, rfl, hq, hg1, ht, hc, hs⟩
          have HX2 : Hid (entC s (min n 5 - (k + 1)) g1 e1 (l ++ [entT tk]) = E) := by
            show _ = _
            rw [← HX.out, show min n 5 - k = (min n 5 - (k + 1)) + 1 by omega, entC_step, hq]
          have D1 : Hid (Sdw w s m (m + 1) u1 g1 e1 (.int .i64 (k0 : Int)) (.int .i64 (k1 : Int)) (.int .i64 (k2 : Int)) (.int .i64 (y3 : Int)) (.int .i64 (y4 : Int)) (.int .i64 (y5 : Int)) (.int .i64 (y6 : Int)) (.bool f7) (.slice o0 o1 o2) (.slice none 0 0) (.string { data := #[] }) (.bool f8)) := A.out.save hs hc
          have O1 : Hid (ownsR u1 (m + 1) 59 (.slice o0 o1 o2) l) := HO.out.saveE hs (by have := A.out.lt1; omega)
          have HRE : Hid (∀ W, Calls Tryz.prog 37 #[.string tk] W fun e w' => e = .returned (rdV tk) ∧ Below W.heap.size W w') := fun W => specReadEntry_any tk W ht
          obtain ⟨i9, z9, hv⟩ := rdV_eq tk
          rw [hv] at HRE
          obtain ⟨f, HF⟩ : ∃ f, Hid (entT tk = f) := ⟨_, rfl⟩
          rw [HF.out] at HRE HX2
          clear hq hc hs A HO ht hv HX
          go_wp2_with fail
          refine (HRE.out _).mono ?_
          rintro e u2 ⟨rfl, hb⟩
          have D2 : Hid (Sdw w s m (m + 1) u2 g1 e1 (.int .i64 (k0 : Int)) (.int .i64 (k1 : Int)) (.int .i64 (k2 : Int)) (.int .i64 (y3 : Int)) (.int .i64 (y4 : Int)) (.int .i64 (y5 : Int)) (.int .i64 (y6 : Int)) (.bool f7) (.slice o0 o1 o2) (.slice none 0 0) (.string { data := #[] }) (.bool f8)) := D1.out.up hb
          have O2 : Hid (ownsR u2 (m + 1) 59 (.slice o0 o1 o2) l) := O1.out.all hb
          clear hb D1 O1 HRE
          obtain ⟨U4, HU4⟩ : ∃ W, Hid ((u2.alloc (.cells #[.int .i64 f.term, .int .i64 f.kind, .string f.data] 59)).alloc (.cells #[.int .i64 f.term, .int .i64 f.kind, .string f.data] 59) = W) := ⟨_, rfl⟩
          have D4 : Hid (Sdw w s m (m + 1) U4 g1 e1 (.int .i64 (k0 : Int)) (.int .i64 (k1 : Int)) (.int .i64 (k2 : Int)) (.int .i64 (y3 : Int)) (.int .i64 (y4 : Int)) (.int .i64 (y5 : Int)) (.int .i64 (y6 : Int)) (.bool f7) (.slice o0 o1 o2) (.slice none 0 0) (.string { data := #[] }) (.bool f8)) := by rw [← HU4.out]; exact (D2.out.alloc _).alloc _
          have O4 : Hid (ownsR U4 (m + 1) 59 (.slice o0 o1 o2) l) := by rw [← HU4.out]; exact (O2.out.alloc _).alloc _
          have HB4 : Hid (Reads U4 (.slice (some ⟨u2.heap.size + 1, 0, none⟩) 1 1) [f]) := by rw [← HU4.out]; exact en_built (heap_next _ _ _)
          have HL : Hid (l.length + [f].length ≤ 1048577) := by show _ ≤ _; simp; omega
          have c8 := D2.out.msg.c8
          have hlt2 := D2.out.msg.lt
          go_wp2_with (at_builtin; rw [HU4.out]; refine qca rfl (.tmp 80) (.tmp 82) 24 rfl (m + 1) 59 _ 32 underEn infoEn rfl _ _ l [f] rfl rfl O4.out HB4.out (en_oneV f) HL.out (by decide) D4.out.siz ?_)
          intro v5 W5 ho5 hg5
          have hown : ∀ q, (Value.slice o0 o1 o2).ownBlock = some q → m + 1 ≤ q := fun q hq => (O4.out.lt q hq).1
          have D5 : Hid (Sdw w s m (m + 1) W5 g1 e1 (.int .i64 (k0 : Int)) (.int .i64 (k1 : Int)) (.int .i64 (k2 : Int)) (.int .i64 (y3 : Int)) (.int .i64 (y4 : Int)) (.int .i64 (y5 : Int)) (.int .i64 (y6 : Int)) (.bool f7) (.slice o0 o1 o2) (.slice none 0 0) (.string { data := #[] }) (.bool f8)) := D4.out.grown hg5 hown
          obtain ⟨n0, n1, n2, rfl⟩ := ho5.slice3
          have O5 : Hid (ownsR W5 (m + 1) 59 (.slice n0 n1 n2) (l ++ [f])) := ho5
          clear ho5 hg5 hown D4 O4 HB4 HL HU4 D2 O2 c8 hlt2
          have c8 := D5.out.msg.c8
          have f9 := D5.out.msg.fz 8
          go_wp2
          go_roundw
          case rel => exact ⟨k + 1, g1, e1, l ++ [f], n0, n1, n2, by omega, by omega, by go_num, hg1, by simp; omega, HX2, O5.out.qta (a := ⟨m, 8, none⟩) (Nat.lt_succ_self m) _, D5.out.s8 _⟩
          case measure => simp [intOf]; omega
        · have hd4 : decide ((k : Int) ≤ 4) = false := decide_eq_false (by omega)
          have HEE : Hid (E = (l, a, false)) := by show _ = _; rw [← HX.out, show min n 5 - k = 0 by omega]; rfl
          clear HX
          go_wp2_with fail
          clear q2 hlt
          refine (qld (w.heap.size + 1) s a false _ A.out.cur HS.out ha).mono ?_
          rintro e u1 ⟨t11, g1, e1, rfl, hq, hg1, ht, hc, hs⟩
          have Q11 : Hid (sho5P s a false = (t11, g1, e1)) := hq
          have D1 : Hid (Sdw w s m (m + 1) u1 g1 e1 (.int .i64 (k0 : Int)) (.int .i64 (k1 : Int)) (.int .i64 (k2 : Int)) (.int .i64 (y3 : Int)) (.int .i64 (y4 : Int)) (.int .i64 (y5 : Int)) (.int .i64 (y6 : Int)) (.bool f7) (.slice o0 o1 o2) (.slice none 0 0) (.string { data := #[] }) (.bool f8)) := A.out.save hs hc
          have O1 : Hid (ownsR u1 (m + 1) 59 (.slice o0 o1 o2) l) := HO.out.saveE hs (by have := A.out.lt1; omega)
          have HT11 : Hid (t11.size ≤ maxLen) := by show _ ≤ _; unfold maxLen; omega
          clear hq hc hs A HO ht
          go_wp2_with fail
          refine (qyc t11 _ HT11.out).mono ?_
          rintro e u2 ⟨cv, rfl, hoc, hb⟩
          obtain ⟨z0, z1, z2, rfl⟩ := hoc.slice3
          have D2 := D1.out.up hb
          have O2 : Hid (ownsR u2 (m + 1) 59 (.slice o0 o1 o2) l) := O1.out.all hb
          have OC2 : Hid (ownsR u2 (m + 1) 3 (.slice z0 z1 z2) (confT t11)) := hoc.mono D1.out.siz
          obtain ⟨U2, HU2⟩ : ∃ V, Hid (u2.setCell ⟨m, 9, none⟩ (.slice z0 z1 z2) = V) := ⟨_, rfl⟩
          have G2 : Hid (Sdw w s m (m + 1) U2 g1 e1 (.int .i64 (k0 : Int)) (.int .i64 (k1 : Int)) (.int .i64 (k2 : Int)) (.int .i64 (y3 : Int)) (.int .i64 (y4 : Int)) (.int .i64 (y5 : Int)) (.int .i64 (y6 : Int)) (.bool f7) (.slice o0 o1 o2) (.slice z0 z1 z2) (.string { data := #[] }) (.bool f8)) := by rw [← HU2.out]; exact D2.s9 _
          have P2 : Hid (ownsR U2 (m + 1) 59 (.slice o0 o1 o2) l) := by rw [← HU2.out]; exact O2.out.qta (a := ⟨m, 9, none⟩) (Nat.lt_succ_self m) _
          have PC2 : Hid (ownsR U2 (m + 1) 3 (.slice z0 z1 z2) (confT t11)) := by rw [← HU2.out]; exact OC2.out.qta (a := ⟨m, 9, none⟩) (Nat.lt_succ_self m) _
          have c := D2.msg.c9
          have f := D2.msg.fz 9
          clear hoc hb D1 D2 O1 O2 OC2 HT11
          go_wp2_with fail
          clear c f
          rw [HU2.out]
          refine (qld (w.heap.size + 1) s g1 e1 _ G2.out.cur HS.out hg1).mono ?_
          rintro e u3 ⟨t12, g2, e2, rfl, hq, hg2, -, hc, hs⟩
          have Q12 : Hid (sho5P s g1 e1 = (t12, g2, e2)) := hq
          have D3 := G2.out.save hs hc
          have O3 : Hid (ownsR u3 (m + 1) 59 (.slice o0 o1 o2) l) := P2.out.saveE hs (by have := G2.out.lt1; omega)
          have OC3 : Hid (ownsR u3 (m + 1) 3 (.slice z0 z1 z2) (confT t11)) := PC2.out.saveE hs (by have := G2.out.lt1; omega)
          obtain ⟨U3, HU3⟩ : ∃ V, Hid (u3.setCell ⟨m, 10, none⟩ (.string t12) = V) := ⟨_, rfl⟩
          have G3 : Hid (Sdw w s m (m + 1) U3 g2 e2 (.int .i64 (k0 : Int)) (.int .i64 (k1 : Int)) (.int .i64 (k2 : Int)) (.int .i64 (y3 : Int)) (.int .i64 (y4 : Int)) (.int .i64 (y5 : Int)) (.int .i64 (y6 : Int)) (.bool f7) (.slice o0 o1 o2) (.slice z0 z1 z2) (.string t12) (.bool f8)) := by rw [← HU3.out]; exact D3.s10 _
          have P3 : Hid (ownsR U3 (m + 1) 59 (.slice o0 o1 o2) l) := by rw [← HU3.out]; exact O3.out.qta (a := ⟨m, 10, none⟩) (Nat.lt_succ_self m) _
          have PC3 : Hid (ownsR U3 (m + 1) 3 (.slice z0 z1 z2) (confT t11)) := by rw [← HU3.out]; exact OC3.out.qta (a := ⟨m, 10, none⟩) (Nat.lt_succ_self m) _
          have c := D3.msg.c10
          have f := D3.msg.fz 10
          clear hq hc hs G2 P2 PC2 HU2 D3 O3 OC3
          obtain ⟨x, HXX⟩ : ∃ x : Mg8, Hid ((⟨k0, k1, k2, y3, y4, y5, y6, f7, f8, l, t11, t12⟩ : Mg8) = x) := ⟨_, rfl⟩
          have HCH : Hid (chS s = (x, e2)) := by
            show _ = _
            rw [← HXX.out]
            simp only [chS, Q3.out, Q4.out, Q5.out, Q6.out, Q7.out, Q8.out, Q9.out, HE.out, HEE.out, Q11.out, Q12.out, HF7.out, HF8.out, HK0.out, HK1.out, HK2.out]
          have HFI : Hid (l.length ≤ 5 ∧ ∀ f ∈ l, f.data.size ≤ 1048576) := by
            have h1 := chS_fine s
            rw [HCH.out, ← HXX.out] at h1
            exact ⟨h1.1, fun f hf => Nat.le_trans (h1.2 f hf) HS.out⟩
          obtain ⟨T, q, HV⟩ : ∃ (T : ByteArray) (q : Bool), Hid (encV (k0 : Int) (k1 : Int) (k2 : Int) (y3 : Int) (y4 : Int) (y5 : Int) (y6 : Int) f7 t12 f8 l (confT t11) = .tuple #[.string T, .bool q] ∧ q = okX8 x ∧ (q = true → T = enX8 x)) := by
            have := encX_forms x
            rw [← HXX.out] at this ⊢
            exact this
          have HRV : Hid (R = if e2 = false ∧ q = true ∧ T = s then some x else none) := by
            show R = _
            rw [← HR.out, rcM_chS, HCH.out]
            obtain ⟨-, h1, h2⟩ := HV.out
            simp only []
            rw [← h1]
            cases q with
            | false => simp
            | true => rw [h2 rfl]
          clear Q3 Q4 Q5 Q6 Q7 Q8 Q9 HE HEE Q11 Q12 HF7 HF8 HK0 HK1 HK2 HCH
          go_wp2_with (rw [HU3.out]; refine qna rfl (.tmp 6) rfl m rfl G3.out.msg ?_)
          clear c f HU3
          refine (qsd (k0 : Int) (k1 : Int) (k2 : Int) (y3 : Int) (y4 : Int) (y5 : Int) (y6 : Int) f7 t12 f8 _ _ l (confT t11) _ P3.out.reads PC3.out.reads (by have := HFI.out.1; omega) (by have := confT_len t11; omega) (fun f hf => HFI.out.2 f hf)).mono ?_
          rw [HV.out.1]
          rintro e u4 ⟨rfl, hb⟩
          have D4 : Hid (Sdw w s m (m + 1) u4 g2 e2 (.int .i64 (k0 : Int)) (.int .i64 (k1 : Int)) (.int .i64 (k2 : Int)) (.int .i64 (y3 : Int)) (.int .i64 (y4 : Int)) (.int .i64 (y5 : Int)) (.int .i64 (y6 : Int)) (.bool f7) (.slice o0 o1 o2) (.slice z0 z1 z2) (.string t12) (.bool f8)) := G3.out.up hb
          have O4 : Hid (ownsR u4 (m + 1) 59 (.slice o0 o1 o2) l) := P3.out.all hb
          have OC4 : Hid (ownsR u4 (m + 1) 3 (.slice z0 z1 z2) (confT t11)) := PC3.out.all hb
          have q2 := (qpa D4.out.cur).2.2.1
          have hwm : w.heap.size < m + 1 := by have := D4.out.lt1; omega
          clear hb G3 P3 PC3 HFI
          by_cases hok : e2 = false ∧ q = true ∧ T = s
          · obtain ⟨rfl, rfl, rfl⟩ := hok
            obtain rfl : R = some x := by rw [HRV.out]; simp
            clear HRV HV HR
            have KE := D4.out.res.set (.int .i64 (k0 : Int)) (.int .i64 (k1 : Int)) (.int .i64 (k2 : Int)) (.int .i64 (y3 : Int)) (.int .i64 (y4 : Int)) (.int .i64 (y5 : Int)) (.int .i64 (y6 : Int)) (.bool f7) (.slice o0 o1 o2) (.slice z0 z1 z2) (.string t12) (.bool f8)
            have HEND : Hid (RwM (Option.getD (some x) zeroM) (Option.isSome (some x)) w (.returned (.tuple #[.agg #[.int .i64 (k0 : Int), .int .i64 (k1 : Int), .int .i64 (k2 : Int), .int .i64 (y3 : Int), .int .i64 (y4 : Int), .int .i64 (y5 : Int), .int .i64 (y6 : Int), .bool f7, .slice o0 o1 o2, .slice z0 z1 z2, .string t12, .bool f8], .bool true])) (set12 u4 w.heap.size (.int .i64 (k0 : Int)) (.int .i64 (k1 : Int)) (.int .i64 (k2 : Int)) (.int .i64 (y3 : Int)) (.int .i64 (y4 : Int)) (.int .i64 (y5 : Int)) (.int .i64 (y6 : Int)) (.bool f7) (.slice o0 o1 o2) (.slice z0 z1 z2) (.string t12) (.bool f8))) := by
              rw [← HXX.out]
              exact ⟨o0, o1, o2, z0, z1, z2, rfl, (qva O4.out hwm _ _ _ _ _ _ _ _ _ _ _ _).mono (Nat.le_of_lt hwm), (qva OC4.out hwm _ _ _ _ _ _ _ _ _ _ _ _).mono (Nat.le_of_lt hwm), qya D4.out.bel (Nat.le_refl _) _ _ _ _ _ _ _ _ _ _ _ _⟩
            go_wp2_with (first | refine qna rfl (.tmp 6) rfl m rfl D4.out.msg ?_ | refine qja rfl (.tmp 2) (.tmp 114) rfl _ rfl D4.out.res (k0 : Int) (k1 : Int) (k2 : Int) (y3 : Int) (y4 : Int) (y5 : Int) (y6 : Int) f7 f8 o0 z0 o1 o2 z1 z2 t12 rfl ?_ | exact bodyPost_ret (qkb rfl rfl rfl KE) rfl HEND.out)
          · obtain rfl : R = none := by rw [HRV.out, if_neg hok]
            have KE := D4.out.res.set (.int .i64 0) (.int .i64 0) (.int .i64 0) (.int .i64 0) (.int .i64 0) (.int .i64 0) (.int .i64 0) (.bool false) (.slice none 0 0) (.slice none 0 0) (.string { data := #[] }) (.bool false)
            have HEND : Hid (RwM (Option.getD none zeroM) (Option.isSome (none : Option Mg8)) w (.returned (.tuple #[.agg #[.int .i64 0, .int .i64 0, .int .i64 0, .int .i64 0, .int .i64 0, .int .i64 0, .int .i64 0, .bool false, .slice none 0 0, .slice none 0 0, .string { data := #[] }, .bool false], .bool false])) (set12 u4 w.heap.size (.int .i64 0) (.int .i64 0) (.int .i64 0) (.int .i64 0) (.int .i64 0) (.int .i64 0) (.int .i64 0) (.bool false) (.slice none 0 0) (.slice none 0 0) (.string { data := #[] }) (.bool false))) := ⟨none, 0, 0, none, 0, 0, rfl, qmb _ _ _, qse _ _, qya D4.out.bel (Nat.le_refl _) _ _ _ _ _ _ _ _ _ _ _ _⟩
            have HD := D4.out.res
            clear D4 O4 OC4 HRV HV
            cases e2 with
            | true =>
              go_wp2_with (first | refine qja rfl (.tmp 2) (.tmp 113) rfl _ rfl HD 0 0 0 0 0 0 0 false false none none 0 0 0 0 ⟨#[]⟩ rfl ?_ | exact bodyPost_ret (qkb rfl rfl rfl KE) rfl HEND.out)
            | false =>
            cases q with
            | false =>
              go_wp2_with (first | refine qja rfl (.tmp 2) (.tmp 113) rfl _ rfl HD 0 0 0 0 0 0 0 false false none none 0 0 0 0 ⟨#[]⟩ rfl ?_ | exact bodyPost_ret (qkb rfl rfl rfl KE) rfl HEND.out)
            | true =>
            have hne := qab (fun h : T = s => hok ⟨rfl, rfl, h⟩)
            go_wp2_with (first | refine qja rfl (.tmp 2) (.tmp 113) rfl _ rfl HD 0 0 0 0 0 0 0 false false none none 0 0 0 0 ⟨#[]⟩ rfl ?_ | exact bodyPost_ret (qkb rfl rfl rfl KE) rfl HEND.out)

    · have HEE : Hid (E = (l, a, b)) := by show _ = _; rw [← HX.out, show min n 5 - k = 0 by omega]; rfl
      clear HX
      go_wp2_with fail
      clear q2 hlt
      refine (qld (w.heap.size + 1) s a b _ A.out.cur HS.out ha).mono ?_
      rintro e u1 ⟨t11, g1, e1, rfl, hq, hg1, ht, hc, hs⟩
      have Q11 : Hid (sho5P s a b = (t11, g1, e1)) := hq
      have D1 : Hid (Sdw w s m (m + 1) u1 g1 e1 (.int .i64 (k0 : Int)) (.int .i64 (k1 : Int)) (.int .i64 (k2 : Int)) (.int .i64 (y3 : Int)) (.int .i64 (y4 : Int)) (.int .i64 (y5 : Int)) (.int .i64 (y6 : Int)) (.bool f7) (.slice o0 o1 o2) (.slice none 0 0) (.string { data := #[] }) (.bool f8)) := A.out.save hs hc
      have O1 : Hid (ownsR u1 (m + 1) 59 (.slice o0 o1 o2) l) := HO.out.saveE hs (by have := A.out.lt1; omega)
      have HT11 : Hid (t11.size ≤ maxLen) := by show _ ≤ _; unfold maxLen; omega
      clear hq hc hs A HO ht
      go_wp2_with fail
      refine (qyc t11 _ HT11.out).mono ?_
      rintro e u2 ⟨cv, rfl, hoc, hb⟩
      obtain ⟨z0, z1, z2, rfl⟩ := hoc.slice3
      have D2 := D1.out.up hb
      have O2 : Hid (ownsR u2 (m + 1) 59 (.slice o0 o1 o2) l) := O1.out.all hb
      have OC2 : Hid (ownsR u2 (m + 1) 3 (.slice z0 z1 z2) (confT t11)) := hoc.mono D1.out.siz
      obtain ⟨U2, HU2⟩ : ∃ V, Hid (u2.setCell ⟨m, 9, none⟩ (.slice z0 z1 z2) = V) := ⟨_, rfl⟩
      have G2 : Hid (Sdw w s m (m + 1) U2 g1 e1 (.int .i64 (k0 : Int)) (.int .i64 (k1 : Int)) (.int .i64 (k2 : Int)) (.int .i64 (y3 : Int)) (.int .i64 (y4 : Int)) (.int .i64 (y5 : Int)) (.int .i64 (y6 : Int)) (.bool f7) (.slice o0 o1 o2) (.slice z0 z1 z2) (.string { data := #[] }) (.bool f8)) := by rw [← HU2.out]; exact D2.s9 _
      have P2 : Hid (ownsR U2 (m + 1) 59 (.slice o0 o1 o2) l) := by rw [← HU2.out]; exact O2.out.qta (a := ⟨m, 9, none⟩) (Nat.lt_succ_self m) _
      have PC2 : Hid (ownsR U2 (m + 1) 3 (.slice z0 z1 z2) (confT t11)) := by rw [← HU2.out]; exact OC2.out.qta (a := ⟨m, 9, none⟩) (Nat.lt_succ_self m) _
      have c := D2.msg.c9
      have f := D2.msg.fz 9
      clear hoc hb D1 D2 O1 O2 OC2 HT11
      go_wp2_with fail
      clear c f
      rw [HU2.out]
      refine (qld (w.heap.size + 1) s g1 e1 _ G2.out.cur HS.out hg1).mono ?_
      rintro e u3 ⟨t12, g2, e2, rfl, hq, hg2, -, hc, hs⟩
      have Q12 : Hid (sho5P s g1 e1 = (t12, g2, e2)) := hq
      have D3 := G2.out.save hs hc
      have O3 : Hid (ownsR u3 (m + 1) 59 (.slice o0 o1 o2) l) := P2.out.saveE hs (by have := G2.out.lt1; omega)
      have OC3 : Hid (ownsR u3 (m + 1) 3 (.slice z0 z1 z2) (confT t11)) := PC2.out.saveE hs (by have := G2.out.lt1; omega)
      obtain ⟨U3, HU3⟩ : ∃ V, Hid (u3.setCell ⟨m, 10, none⟩ (.string t12) = V) := ⟨_, rfl⟩
      have G3 : Hid (Sdw w s m (m + 1) U3 g2 e2 (.int .i64 (k0 : Int)) (.int .i64 (k1 : Int)) (.int .i64 (k2 : Int)) (.int .i64 (y3 : Int)) (.int .i64 (y4 : Int)) (.int .i64 (y5 : Int)) (.int .i64 (y6 : Int)) (.bool f7) (.slice o0 o1 o2) (.slice z0 z1 z2) (.string t12) (.bool f8)) := by rw [← HU3.out]; exact D3.s10 _
      have P3 : Hid (ownsR U3 (m + 1) 59 (.slice o0 o1 o2) l) := by rw [← HU3.out]; exact O3.out.qta (a := ⟨m, 10, none⟩) (Nat.lt_succ_self m) _
      have PC3 : Hid (ownsR U3 (m + 1) 3 (.slice z0 z1 z2) (confT t11)) := by rw [← HU3.out]; exact OC3.out.qta (a := ⟨m, 10, none⟩) (Nat.lt_succ_self m) _
      have c := D3.msg.c10
      have f := D3.msg.fz 10
      clear hq hc hs G2 P2 PC2 HU2 D3 O3 OC3
      obtain ⟨x, HXX⟩ : ∃ x : Mg8, Hid ((⟨k0, k1, k2, y3, y4, y5, y6, f7, f8, l, t11, t12⟩ : Mg8) = x) := ⟨_, rfl⟩
      have HCH : Hid (chS s = (x, e2)) := by
        show _ = _
        rw [← HXX.out]
        simp only [chS, Q3.out, Q4.out, Q5.out, Q6.out, Q7.out, Q8.out, Q9.out, HE.out, HEE.out, Q11.out, Q12.out, HF7.out, HF8.out, HK0.out, HK1.out, HK2.out]
      have HFI : Hid (l.length ≤ 5 ∧ ∀ f ∈ l, f.data.size ≤ 1048576) := by
        have h1 := chS_fine s
        rw [HCH.out, ← HXX.out] at h1
        exact ⟨h1.1, fun f hf => Nat.le_trans (h1.2 f hf) HS.out⟩
      obtain ⟨T, q, HV⟩ : ∃ (T : ByteArray) (q : Bool), Hid (encV (k0 : Int) (k1 : Int) (k2 : Int) (y3 : Int) (y4 : Int) (y5 : Int) (y6 : Int) f7 t12 f8 l (confT t11) = .tuple #[.string T, .bool q] ∧ q = okX8 x ∧ (q = true → T = enX8 x)) := by
        have := encX_forms x
        rw [← HXX.out] at this ⊢
        exact this
      have HRV : Hid (R = if e2 = false ∧ q = true ∧ T = s then some x else none) := by
        show R = _
        rw [← HR.out, rcM_chS, HCH.out]
        obtain ⟨-, h1, h2⟩ := HV.out
        simp only []
        rw [← h1]
        cases q with
        | false => simp
        | true => rw [h2 rfl]
      clear Q3 Q4 Q5 Q6 Q7 Q8 Q9 HE HEE Q11 Q12 HF7 HF8 HK0 HK1 HK2 HCH
      go_wp2_with (rw [HU3.out]; refine qna rfl (.tmp 6) rfl m rfl G3.out.msg ?_)
      clear c f HU3
      refine (qsd (k0 : Int) (k1 : Int) (k2 : Int) (y3 : Int) (y4 : Int) (y5 : Int) (y6 : Int) f7 t12 f8 _ _ l (confT t11) _ P3.out.reads PC3.out.reads (by have := HFI.out.1; omega) (by have := confT_len t11; omega) (fun f hf => HFI.out.2 f hf)).mono ?_
      rw [HV.out.1]
      rintro e u4 ⟨rfl, hb⟩
      have D4 : Hid (Sdw w s m (m + 1) u4 g2 e2 (.int .i64 (k0 : Int)) (.int .i64 (k1 : Int)) (.int .i64 (k2 : Int)) (.int .i64 (y3 : Int)) (.int .i64 (y4 : Int)) (.int .i64 (y5 : Int)) (.int .i64 (y6 : Int)) (.bool f7) (.slice o0 o1 o2) (.slice z0 z1 z2) (.string t12) (.bool f8)) := G3.out.up hb
      have O4 : Hid (ownsR u4 (m + 1) 59 (.slice o0 o1 o2) l) := P3.out.all hb
      have OC4 : Hid (ownsR u4 (m + 1) 3 (.slice z0 z1 z2) (confT t11)) := PC3.out.all hb
      have q2 := (qpa D4.out.cur).2.2.1
      have hwm : w.heap.size < m + 1 := by have := D4.out.lt1; omega
      clear hb G3 P3 PC3 HFI
      by_cases hok : e2 = false ∧ q = true ∧ T = s
      · obtain ⟨rfl, rfl, rfl⟩ := hok
        obtain rfl : R = some x := by rw [HRV.out]; simp
        clear HRV HV HR
        have KE := D4.out.res.set (.int .i64 (k0 : Int)) (.int .i64 (k1 : Int)) (.int .i64 (k2 : Int)) (.int .i64 (y3 : Int)) (.int .i64 (y4 : Int)) (.int .i64 (y5 : Int)) (.int .i64 (y6 : Int)) (.bool f7) (.slice o0 o1 o2) (.slice z0 z1 z2) (.string t12) (.bool f8)
        have HEND : Hid (RwM (Option.getD (some x) zeroM) (Option.isSome (some x)) w (.returned (.tuple #[.agg #[.int .i64 (k0 : Int), .int .i64 (k1 : Int), .int .i64 (k2 : Int), .int .i64 (y3 : Int), .int .i64 (y4 : Int), .int .i64 (y5 : Int), .int .i64 (y6 : Int), .bool f7, .slice o0 o1 o2, .slice z0 z1 z2, .string t12, .bool f8], .bool true])) (set12 u4 w.heap.size (.int .i64 (k0 : Int)) (.int .i64 (k1 : Int)) (.int .i64 (k2 : Int)) (.int .i64 (y3 : Int)) (.int .i64 (y4 : Int)) (.int .i64 (y5 : Int)) (.int .i64 (y6 : Int)) (.bool f7) (.slice o0 o1 o2) (.slice z0 z1 z2) (.string t12) (.bool f8))) := by
          rw [← HXX.out]
          exact ⟨o0, o1, o2, z0, z1, z2, rfl, (qva O4.out hwm _ _ _ _ _ _ _ _ _ _ _ _).mono (Nat.le_of_lt hwm), (qva OC4.out hwm _ _ _ _ _ _ _ _ _ _ _ _).mono (Nat.le_of_lt hwm), qya D4.out.bel (Nat.le_refl _) _ _ _ _ _ _ _ _ _ _ _ _⟩
        go_wp2_with (first | refine qna rfl (.tmp 6) rfl m rfl D4.out.msg ?_ | refine qja rfl (.tmp 2) (.tmp 114) rfl _ rfl D4.out.res (k0 : Int) (k1 : Int) (k2 : Int) (y3 : Int) (y4 : Int) (y5 : Int) (y6 : Int) f7 f8 o0 z0 o1 o2 z1 z2 t12 rfl ?_ | exact bodyPost_ret (qkb rfl rfl rfl KE) rfl HEND.out)
      · obtain rfl : R = none := by rw [HRV.out, if_neg hok]
        have KE := D4.out.res.set (.int .i64 0) (.int .i64 0) (.int .i64 0) (.int .i64 0) (.int .i64 0) (.int .i64 0) (.int .i64 0) (.bool false) (.slice none 0 0) (.slice none 0 0) (.string { data := #[] }) (.bool false)
        have HEND : Hid (RwM (Option.getD none zeroM) (Option.isSome (none : Option Mg8)) w (.returned (.tuple #[.agg #[.int .i64 0, .int .i64 0, .int .i64 0, .int .i64 0, .int .i64 0, .int .i64 0, .int .i64 0, .bool false, .slice none 0 0, .slice none 0 0, .string { data := #[] }, .bool false], .bool false])) (set12 u4 w.heap.size (.int .i64 0) (.int .i64 0) (.int .i64 0) (.int .i64 0) (.int .i64 0) (.int .i64 0) (.int .i64 0) (.bool false) (.slice none 0 0) (.slice none 0 0) (.string { data := #[] }) (.bool false))) := ⟨none, 0, 0, none, 0, 0, rfl, qmb _ _ _, qse _ _, qya D4.out.bel (Nat.le_refl _) _ _ _ _ _ _ _ _ _ _ _ _⟩
        have HD := D4.out.res
        clear D4 O4 OC4 HRV HV
        cases e2 with
        | true =>
          go_wp2_with (first | refine qja rfl (.tmp 2) (.tmp 113) rfl _ rfl HD 0 0 0 0 0 0 0 false false none none 0 0 0 0 ⟨#[]⟩ rfl ?_ | exact bodyPost_ret (qkb rfl rfl rfl KE) rfl HEND.out)
        | false =>
        cases q with
        | false =>
          go_wp2_with (first | refine qja rfl (.tmp 2) (.tmp 113) rfl _ rfl HD 0 0 0 0 0 0 0 false false none none 0 0 0 0 ⟨#[]⟩ rfl ?_ | exact bodyPost_ret (qkb rfl rfl rfl KE) rfl HEND.out)
        | true =>
        have hne := qab (fun h : T = s => hok ⟨rfl, rfl, h⟩)
        go_wp2_with (first | refine qja rfl (.tmp 2) (.tmp 113) rfl _ rfl HD 0 0 0 0 0 0 0 false false none none 0 0 0 0 ⟨#[]⟩ rfl ?_ | exact bodyPost_ret (qkb rfl rfl rfl KE) rfl HEND.out)

end Go.Proofs.YtpjpheicldegkaaGreatDoor