/-
  A command read from its bytes by the program: the walks.
-/
import Derived.Test.YtkfhmeiiicidaaaDoorRdc
import Derived.Test.YtkfhmeiiicidaaaDoorCok
import Derived.Defers
import Derived.Recover
namespace Go.Proofs.YtkfhmeiiicidaaaDoor
open Go Go.RowKit
set_option linter.unusedVariables false

/-- A command in plain numbers. -/
structure Cm where
  op : Nat
  tok : Nat
  seq : Nat
  text : ByteArray
  task : ByteArray
  num : Nat
  up : Nat
  yes : Bool
def cmV (x : Cm) : Value := .agg #[.int .i64 (x.op : Int), .int .i64 (x.tok : Int), .int .i64 (x.seq : Int), .string x.text, .string x.task, .int .i64 (x.num : Int), .int .i64 (x.up : Int), .bool x.yes]
def flaP (s : ByteArray) (a : Nat) : Option (Bool × Nat) := match oneP s a with
  | some (x, b) => some (decide ((x : Int) = 1), b)
  | none => none
def cmdP (s : ByteArray) (a : Nat) : Option (Cm × Nat) :=
  (oneP s a).bind fun r0 => (numP s r0.2).bind fun r1 => (numP s r1.2).bind fun r2 => (shoP s r2.2).bind fun r3 => (shoP s r3.2).bind fun r4 => (numP s r4.2).bind fun r5 => (numP s r5.2).bind fun r6 => (flaP s r6.2).bind fun r7 =>
    some (⟨r0.1, r1.1, r2.1, r3.1, r4.1, r5.1, r6.1, r7.1⟩, r7.2)
theorem Save.far {g : Nat} {a w : World} (h : Save g a w) {p : Addr} (hp : a.heap.size ≤ p.block) (u : Value) : Save g a (w.setCell p u) :=
  ⟨h.os, h.tape, h.output, by rw [World.size_setCell]; exact h.size, fun k hk hg => (heap_setCell_other w p k u (by omega)).trans (h.block k hk hg)⟩
set_option maxRecDepth 10000 in
set_option maxHeartbeats 1000000 in
theorem flagR_any (g : Nat) (s : ByteArray) (a : Nat) (w : World) (hc : Rdr w g s a) (hs : s.size ≤ 1048576) :
    Calls Tryd.prog 44 #[.pointer (some ⟨g, 0, none⟩)] w (StepP (flaP s a) (fun x => .bool x) g s w) := by
  have HC : Hid (Rdr w g s a) := hc
  clear hc
  obtain ⟨R, HR⟩ : ∃ R, Hid (flaP s a = R) := ⟨_, rfl⟩
  rw [HR.out]
  go_enter Tryd.func44, Tryd.ntmps44
  go_wp2_with fail
  refine (oneByteR_any g s a _ HC.out hs).mono ?_
  rintro e w1 h
  cases hq : oneP s a with
  | none =>
    rw [hq] at h
    obtain ⟨rfl, h1⟩ := h
    obtain rfl : R = none := by rw [← HR.out]; unfold flaP; rw [hq]
    clear hq
    go_wp2
    exact ⟨rfl, rfl, h1⟩
  | some r =>
    obtain ⟨x, b⟩ := r
    rw [hq] at h
    obtain ⟨rfl, h1, h2⟩ := h
    have H1 : Hid (Rdr w1 g s b) := h1
    have H2 : Hid (Save g w w1) := h2
    by_cases hx : (x : Int) = 1
    · obtain rfl : R = some (true, b) := by rw [← HR.out]; unfold flaP; rw [hq]; simp [hx]
      clear hq h1 h2
      go_wp2
      go_ret
      exact ⟨rfl, H1.out, H2.out⟩
    · obtain rfl : R = some (false, b) := by rw [← HR.out]; unfold flaP; rw [hq]; simp [hx]
      have hb : ((x : Int) == 1) = false := by rw [beq_eq_false_iff_ne]; exact hx
      clear hq h1 h2
      go_wp2
      go_ret
      exact ⟨rfl, H1.out, H2.out⟩

abbrev set8 (W : World) (b : Nat) (u0 u1 u2 u3 u4 u5 u6 u7 : Value) : World := (((((((W.setCell ⟨b, 0, none⟩ u0).setCell ⟨b, 1, none⟩ u1).setCell ⟨b, 2, none⟩ u2).setCell ⟨b, 3, none⟩ u3).setCell ⟨b, 4, none⟩ u4).setCell ⟨b, 5, none⟩ u5).setCell ⟨b, 6, none⟩ u6).setCell ⟨b, 7, none⟩ u7
theorem Kc8.set {t : TypeId} {W : World} {b : Nat} {x0 x1 x2 x3 x4 x5 x6 x7 : Value} (h : Kc8 t W b x0 x1 x2 x3 x4 x5 x6 x7) (u0 u1 u2 u3 u4 u5 u6 u7 : Value) : Kc8 t (set8 W b u0 u1 u2 u3 u4 u5 u6 u7) b u0 u1 u2 u3 u4 u5 u6 u7 := (((((((h.s0 u0).s1 u1).s2 u2).s3 u3).s4 u4).s5 u5).s6 u6).s7 u7
theorem save_set8 {g b : Nat} {a W : World} (h : Save g a W) (hb : a.heap.size ≤ b) (u0 u1 u2 u3 u4 u5 u6 u7 : Value) : Save g a (set8 W b u0 u1 u2 u3 u4 u5 u6 u7) := (((((((h.far (p := ⟨b, 0, none⟩) hb u0).far (p := ⟨b, 1, none⟩) hb u1).far (p := ⟨b, 2, none⟩) hb u2).far (p := ⟨b, 3, none⟩) hb u3).far (p := ⟨b, 4, none⟩) hb u4).far (p := ⟨b, 5, none⟩) hb u5).far (p := ⟨b, 6, none⟩) hb u6).far (p := ⟨b, 7, none⟩) hb u7
theorem rdr_set8 {g b a : Nat} {s : ByteArray} {W : World} (h : Rdr W g s a) (hb : b ≠ g) (u0 u1 u2 u3 u4 u5 u6 u7 : Value) : Rdr (set8 W b u0 u1 u2 u3 u4 u5 u6 u7) g s a := heap_far (heap_far (heap_far (heap_far (heap_far (heap_far (heap_far (heap_far h (p := ⟨b, 0, none⟩) hb u0) (p := ⟨b, 1, none⟩) hb u1) (p := ⟨b, 2, none⟩) hb u2) (p := ⟨b, 3, none⟩) hb u3) (p := ⟨b, 4, none⟩) hb u4) (p := ⟨b, 5, none⟩) hb u5) (p := ⟨b, 6, none⟩) hb u6) (p := ⟨b, 7, none⟩) hb u7
theorem Kc8.save {t : TypeId} {g b : Nat} {W W' : World} {x0 x1 x2 x3 x4 x5 x6 x7 : Value} (h : Kc8 t W b x0 x1 x2 x3 x4 x5 x6 x7) (hs : Save g W W') (hg : b ≠ g) : Kc8 t W' b x0 x1 x2 x3 x4 x5 x6 x7 := (hs.block b h.lt hg).trans h
theorem ret_c8 {W : World} {b : Nat} {x0 x1 x2 x3 x4 x5 x6 x7 : Value} {fn : Func} {p : Tmp} {tmps : Array Value} (h : fn.results = #[.cell p 27]) (hp : tmps.getD p undef = .pointer (some ⟨b, 0, none⟩)) (hb : Kc8 27 W b x0 x1 x2 x3 x4 x5 x6 x7) :
    (results fn tmps).run Tryd.prog W = .ok (.agg #[x0, x1, x2, x3, x4, x5, x6, x7]) W := by
  have hp' : tmps[p]?.getD undef = .pointer (some ⟨b, 0, none⟩) := by simpa using hp
  simp [results, h, hp', hb.c0, hb.c1, hb.c2, hb.c3, hb.c4, hb.c5, hb.c6, hb.c7, asAddr, go_sem]

set_option maxRecDepth 10000 in
set_option maxHeartbeats 4000000 in
theorem command_any (g : Nat) (s : ByteArray) (a : Nat) (w : World) (hc : Rdr w g s a) (hs : s.size ≤ 1048576) :
    Calls Tryd.prog 27 #[.pointer (some ⟨g, 0, none⟩)] w (StepP (cmdP s a) cmV g s w) := by
  obtain ⟨R, HR⟩ : ∃ R, Hid (cmdP s a = R) := ⟨_, rfl⟩
  rw [HR.out]
  have hgl := hc.lt
  obtain ⟨W0, HW0⟩ : ∃ W, Hid (w.alloc (.cells #[.int .i64 0, .int .i64 0, .int .i64 0, .string { data := #[] }, .string { data := #[] }, .int .i64 0, .int .i64 0, .bool false] 27) = W) := ⟨_, rfl⟩
  have C0 : Hid (Rdr W0 g s a) := by rw [← HW0.out]; exact heap_old hc _
  have S0 : Hid (Save g w W0) := by rw [← HW0.out]; exact (Save.refl g w).alloc _
  have K0 : Hid (Kc8 27 W0 w.heap.size (.int .i64 0) (.int .i64 0) (.int .i64 0) (.string { data := #[] }) (.string { data := #[] }) (.int .i64 0) (.int .i64 0) (.bool false)) := by rw [← HW0.out]; exact Kc8.new _ _ _ _ _ _ _ _ _ _
  clear hc
  go_enter Tryd.func27, Tryd.ntmps27
  go_wp2_with fail
  rw [HW0.out]
  refine (oneByteR_any g s a _ C0.out hs).mono ?_
  rintro e w1 h
  cases hq0 : oneP s a with
  | none =>
    rw [hq0] at h
    obtain ⟨rfl, h1⟩ := h
    obtain rfl : R = none := by rw [← HR.out]; simp [cmdP, hq0]
    have HS : Hid (Save g w w1) := S0.out.trans h1
    clear hq0 h1
    go_wp2
    exact ⟨rfl, rfl, HS.out⟩
  | some r =>
  obtain ⟨x0, a1⟩ := r
  rw [hq0] at h
  obtain ⟨rfl, h1, h2⟩ := h
  have C1 : Hid (Rdr w1 g s a1) := h1
  have S1 : Hid (Save g w w1) := S0.out.trans h2
  have K1 : Hid (Kc8 27 w1 w.heap.size (.int .i64 0) (.int .i64 0) (.int .i64 0) (.string { data := #[] }) (.string { data := #[] }) (.int .i64 0) (.int .i64 0) (.bool false)) := K0.out.save h2 (by omega)
  have Hq0 : Hid (oneP s a = some (x0, a1)) := hq0
  clear hq0 h1 h2 C0 S0 K0
  go_wp2_with fail
  skip
  refine (number_any g s a1 _ C1.out hs).mono ?_
  rintro e w2 h
  cases hq1 : numP s a1 with
  | none =>
    rw [hq1] at h
    obtain ⟨rfl, h1⟩ := h
    obtain rfl : R = none := by rw [← HR.out]; simp [cmdP, Hq0.out, hq1]
    have HS : Hid (Save g w w2) := S1.out.trans h1
    clear hq1 h1
    go_wp2
    exact ⟨rfl, rfl, HS.out⟩
  | some r =>
  obtain ⟨x1, a2⟩ := r
  rw [hq1] at h
  obtain ⟨rfl, h1, h2⟩ := h
  have C2 : Hid (Rdr w2 g s a2) := h1
  have S2 : Hid (Save g w w2) := S1.out.trans h2
  have K2 : Hid (Kc8 27 w2 w.heap.size (.int .i64 0) (.int .i64 0) (.int .i64 0) (.string { data := #[] }) (.string { data := #[] }) (.int .i64 0) (.int .i64 0) (.bool false)) := K1.out.save h2 (by omega)
  have Hq1 : Hid (numP s a1 = some (x1, a2)) := hq1
  clear hq1 h1 h2 C1 S1 K1
  go_wp2_with fail
  skip
  refine (number_any g s a2 _ C2.out hs).mono ?_
  rintro e w3 h
  cases hq2 : numP s a2 with
  | none =>
    rw [hq2] at h
    obtain ⟨rfl, h1⟩ := h
    obtain rfl : R = none := by rw [← HR.out]; simp [cmdP, Hq0.out, Hq1.out, hq2]
    have HS : Hid (Save g w w3) := S2.out.trans h1
    clear hq2 h1
    go_wp2
    exact ⟨rfl, rfl, HS.out⟩
  | some r =>
  obtain ⟨x2, a3⟩ := r
  rw [hq2] at h
  obtain ⟨rfl, h1, h2⟩ := h
  have C3 : Hid (Rdr w3 g s a3) := h1
  have S3 : Hid (Save g w w3) := S2.out.trans h2
  have K3 : Hid (Kc8 27 w3 w.heap.size (.int .i64 0) (.int .i64 0) (.int .i64 0) (.string { data := #[] }) (.string { data := #[] }) (.int .i64 0) (.int .i64 0) (.bool false)) := K2.out.save h2 (by omega)
  have Hq2 : Hid (numP s a2 = some (x2, a3)) := hq2
  clear hq2 h1 h2 C2 S2 K2
  go_wp2_with fail
  skip
  refine (short_any g s a3 _ C3.out hs).mono ?_
  rintro e w4 h
  cases hq3 : shoP s a3 with
  | none =>
    rw [hq3] at h
    obtain ⟨rfl, h1⟩ := h
    obtain rfl : R = none := by rw [← HR.out]; simp [cmdP, Hq0.out, Hq1.out, Hq2.out, hq3]
    have HS : Hid (Save g w w4) := S3.out.trans h1
    clear hq3 h1
    go_wp2
    exact ⟨rfl, rfl, HS.out⟩
  | some r =>
  obtain ⟨x3, a4⟩ := r
  rw [hq3] at h
  obtain ⟨rfl, h1, h2⟩ := h
  have C4 : Hid (Rdr w4 g s a4) := h1
  have S4 : Hid (Save g w w4) := S3.out.trans h2
  have K4 : Hid (Kc8 27 w4 w.heap.size (.int .i64 0) (.int .i64 0) (.int .i64 0) (.string { data := #[] }) (.string { data := #[] }) (.int .i64 0) (.int .i64 0) (.bool false)) := K3.out.save h2 (by omega)
  have Hq3 : Hid (shoP s a3 = some (x3, a4)) := hq3
  clear hq3 h1 h2 C3 S3 K3
  go_wp2_with fail
  skip
  refine (short_any g s a4 _ C4.out hs).mono ?_
  rintro e w5 h
  cases hq4 : shoP s a4 with
  | none =>
    rw [hq4] at h
    obtain ⟨rfl, h1⟩ := h
    obtain rfl : R = none := by rw [← HR.out]; simp [cmdP, Hq0.out, Hq1.out, Hq2.out, Hq3.out, hq4]
    have HS : Hid (Save g w w5) := S4.out.trans h1
    clear hq4 h1
    go_wp2
    exact ⟨rfl, rfl, HS.out⟩
  | some r =>
  obtain ⟨x4, a5⟩ := r
  rw [hq4] at h
  obtain ⟨rfl, h1, h2⟩ := h
  have C5 : Hid (Rdr w5 g s a5) := h1
  have S5 : Hid (Save g w w5) := S4.out.trans h2
  have K5 : Hid (Kc8 27 w5 w.heap.size (.int .i64 0) (.int .i64 0) (.int .i64 0) (.string { data := #[] }) (.string { data := #[] }) (.int .i64 0) (.int .i64 0) (.bool false)) := K4.out.save h2 (by omega)
  have Hq4 : Hid (shoP s a4 = some (x4, a5)) := hq4
  clear hq4 h1 h2 C4 S4 K4
  go_wp2_with fail
  skip
  refine (number_any g s a5 _ C5.out hs).mono ?_
  rintro e w6 h
  cases hq5 : numP s a5 with
  | none =>
    rw [hq5] at h
    obtain ⟨rfl, h1⟩ := h
    obtain rfl : R = none := by rw [← HR.out]; simp [cmdP, Hq0.out, Hq1.out, Hq2.out, Hq3.out, Hq4.out, hq5]
    have HS : Hid (Save g w w6) := S5.out.trans h1
    clear hq5 h1
    go_wp2
    exact ⟨rfl, rfl, HS.out⟩
  | some r =>
  obtain ⟨x5, a6⟩ := r
  rw [hq5] at h
  obtain ⟨rfl, h1, h2⟩ := h
  have C6 : Hid (Rdr w6 g s a6) := h1
  have S6 : Hid (Save g w w6) := S5.out.trans h2
  have K6 : Hid (Kc8 27 w6 w.heap.size (.int .i64 0) (.int .i64 0) (.int .i64 0) (.string { data := #[] }) (.string { data := #[] }) (.int .i64 0) (.int .i64 0) (.bool false)) := K5.out.save h2 (by omega)
  have Hq5 : Hid (numP s a5 = some (x5, a6)) := hq5
  clear hq5 h1 h2 C5 S5 K5
  go_wp2_with fail
  skip
  refine (number_any g s a6 _ C6.out hs).mono ?_
  rintro e w7 h
  cases hq6 : numP s a6 with
  | none =>
    rw [hq6] at h
    obtain ⟨rfl, h1⟩ := h
    obtain rfl : R = none := by rw [← HR.out]; simp [cmdP, Hq0.out, Hq1.out, Hq2.out, Hq3.out, Hq4.out, Hq5.out, hq6]
    have HS : Hid (Save g w w7) := S6.out.trans h1
    clear hq6 h1
    go_wp2
    exact ⟨rfl, rfl, HS.out⟩
  | some r =>
  obtain ⟨x6, a7⟩ := r
  rw [hq6] at h
  obtain ⟨rfl, h1, h2⟩ := h
  have C7 : Hid (Rdr w7 g s a7) := h1
  have S7 : Hid (Save g w w7) := S6.out.trans h2
  have K7 : Hid (Kc8 27 w7 w.heap.size (.int .i64 0) (.int .i64 0) (.int .i64 0) (.string { data := #[] }) (.string { data := #[] }) (.int .i64 0) (.int .i64 0) (.bool false)) := K6.out.save h2 (by omega)
  have Hq6 : Hid (numP s a6 = some (x6, a7)) := hq6
  clear hq6 h1 h2 C6 S6 K6
  go_wp2_with fail
  skip
  refine (flagR_any g s a7 _ C7.out hs).mono ?_
  rintro e w8 h
  cases hq7 : flaP s a7 with
  | none =>
    rw [hq7] at h
    obtain ⟨rfl, h1⟩ := h
    obtain rfl : R = none := by rw [← HR.out]; simp [cmdP, Hq0.out, Hq1.out, Hq2.out, Hq3.out, Hq4.out, Hq5.out, Hq6.out, hq7]
    have HS : Hid (Save g w w8) := S7.out.trans h1
    clear hq7 h1
    go_wp2
    exact ⟨rfl, rfl, HS.out⟩
  | some r =>
  obtain ⟨x7, a8⟩ := r
  rw [hq7] at h
  obtain ⟨rfl, h1, h2⟩ := h
  have C8 : Hid (Rdr w8 g s a8) := h1
  have S8 : Hid (Save g w w8) := S7.out.trans h2
  have K8 : Hid (Kc8 27 w8 w.heap.size (.int .i64 0) (.int .i64 0) (.int .i64 0) (.string { data := #[] }) (.string { data := #[] }) (.int .i64 0) (.int .i64 0) (.bool false)) := K7.out.save h2 (by omega)
  have Hq7 : Hid (flaP s a7 = some (x7, a8)) := hq7
  clear hq7 h1 h2 C7 S7 K7
  obtain rfl : R = some (⟨x0, x1, x2, x3, x4, x5, x6, x7⟩, a8) := by rw [← HR.out]; simp [cmdP, Hq0.out, Hq1.out, Hq2.out, Hq3.out, Hq4.out, Hq5.out, Hq6.out, Hq7.out]
  have c0 := K8.out.c0
  have c1 := K8.out.c1
  have c2 := K8.out.c2
  have c3 := K8.out.c3
  have c4 := K8.out.c4
  have c5 := K8.out.c5
  have c6 := K8.out.c6
  have c7 := K8.out.c7
  have f0 := K8.out.fz 0
  have f1 := K8.out.fz 1
  have f2 := K8.out.fz 2
  have f3 := K8.out.fz 3
  have f4 := K8.out.fz 4
  have f5 := K8.out.fz 5
  have f6 := K8.out.fz 6
  have f7 := K8.out.fz 7
  have hlt8 := K8.out.lt
  go_wp2
  have KE := K8.out.set (.int .i64 (x0 : Int)) (.int .i64 (x1 : Int)) (.int .i64 (x2 : Int)) (.string x3) (.string x4) (.int .i64 (x5 : Int)) (.int .i64 (x6 : Int)) (.bool x7)
  refine bodyPost_ret (ret_c8 rfl rfl KE) rfl ?_
  exact ⟨rfl, rdr_set8 C8.out (by omega) _ _ _ _ _ _ _ _, save_set8 S8.out (Nat.le_refl _) _ _ _ _ _ _ _ _⟩
end Go.Proofs.YtkfhmeiiicidaaaDoor
