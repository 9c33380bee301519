/- Rmg,Rmw -/
import Derived.Test.YtpjpheicldegkaaGreatDoorGM17
import Derived.Test.YtpjpheicldegkaaGreatDoorGM16
import Derived.Defers
import Derived.Recover
namespace Go.Proofs.YtpjpheicldegkaaGreatDoor
open Go Go.RowKit
set_option linter.unusedVariables false

theorem Kc12.save {t : TypeId} {W W' : World} {b g : Nat} {x0 x1 x2 x3 x4 x5 x6 x7 x8 x9 x10 x11 : Value} (h : Kc12 t W b x0 x1 x2 x3 x4 x5 x6 x7 x8 x9 x10 x11) (hs : Save g W W') (hg : b ≠ g) : Kc12 t W' b x0 x1 x2 x3 x4 x5 x6 x7 x8 x9 x10 x11 := (hs.block b h.lt hg).trans h
theorem save_set12 {g b : Nat} {a W : World} (h : Save g a W) (hb : a.heap.size ≤ b) (u0 u1 u2 u3 u4 u5 u6 u7 u8 u9 u10 u11 : Value) : Save g a (set12 W b u0 u1 u2 u3 u4 u5 u6 u7 u8 u9 u10 u11) := ((((((((((((h.farS (p := ⟨b, 0, none⟩) hb u0).farS (p := ⟨b, 1, none⟩) hb u1).farS (p := ⟨b, 2, none⟩) hb u2).farS (p := ⟨b, 3, none⟩) hb u3).farS (p := ⟨b, 4, none⟩) hb u4).farS (p := ⟨b, 5, none⟩) hb u5).farS (p := ⟨b, 6, none⟩) hb u6).farS (p := ⟨b, 7, none⟩) hb u7).farS (p := ⟨b, 8, none⟩) hb u8).farS (p := ⟨b, 9, none⟩) hb u9).farS (p := ⟨b, 10, none⟩) hb u10).farS (p := ⟨b, 11, none⟩) hb u11)
theorem one_cellM {w : World} {g : Nat} {a : Value} {t : TypeId} (h : w.heap[g]? = some (.cells #[a] t)) : w.cell? ⟨g, 0, none⟩ = some a := by
  simp [World.cell?, h]
theorem one_fzM {w : World} {g : Nat} {a : Value} {t : TypeId} (h : w.heap[g]? = some (.cells #[a] t)) (o : Nat) : w.frozen? ⟨g, o, none⟩ = false := by
  simp [World.frozen?, h]
theorem one_setM {w : World} {g : Nat} {a : Value} {t : TypeId} (h : w.heap[g]? = some (.cells #[a] t)) (u : Value) : (w.setCell ⟨g, 0, none⟩ u).heap[g]? = some (.cells #[u] t) := by
  simp [World.setCell, Array.getElem?_modify, h]
theorem assert_tornM (w : World) : (Instr.typeAssert (.iface 130 (.agg #[])) 20 130 true).run Tryz.prog w = .ok (.tuple #[.agg #[], .bool true]) w := by kernel_rfl
theorem assert_nilM (w : World) : (Instr.typeAssert .nilIface 20 130 true).run Tryz.prog w = .ok (.tuple #[.agg #[], .bool false]) w := by kernel_rfl
theorem frameM (p q : Value) : (#[p, q] ++ Array.replicate (Tryz.f77.ntmps - (#[p, q] : Array Value).size) undef) = #[p, q, undef, undef, undef, undef, undef, undef, undef, undef, undef, undef] := by kernel_rfl
structure Mg8 where
  kd : Nat
  fr : Nat
  up : Nat
  tm : Nat
  ix : Nat
  lt : Nat
  cm : Nat
  ok : Bool
  la : Bool
  es : List En
  c : ByteArray
  da : ByteArray
def msgP (s : ByteArray) (a : Nat) : Option (Mg8 × Nat) :=
  (oneP s a).bind fun r0 => (oneP s r0.2).bind fun r1 => (oneP s r1.2).bind fun r2 => (numP s r2.2).bind fun r3 => (numP s r3.2).bind fun r4 => (numP s r4.2).bind fun r5 => (numP s r5.2).bind fun r6 => (flaP s r6.2).bind fun r7 => (flaP s r7.2).bind fun r8 => (entsP s r8.2).bind fun r9 => (shoP s r9.2).bind fun r10 => (shoP s r10.2).bind fun r11 => some (⟨r0.1, r1.1, r2.1, r3.1, r4.1, r5.1, r6.1, r7.1, r8.1, r9.1, r10.1, r11.1⟩, r11.2)
def MsgR (r : Option (Mg8 × Nat)) (g : Nat) (s : ByteArray) (w : World) (e : Ending) (w' : World) : Prop := match r with
  | some (x, b) => ∃ ea en ec oa on oc, e = .returned (.agg #[.int .i64 (x.kd : Int), .int .i64 (x.fr : Int), .int .i64 (x.up : Int), .int .i64 (x.tm : Int), .int .i64 (x.ix : Int), .int .i64 (x.lt : Int), .int .i64 (x.cm : Int), .bool x.ok, .slice ea en ec, .slice oa on oc, .string x.da, .bool x.la]) ∧ ownsR w' w.heap.size 59 (.slice ea en ec) x.es ∧ ownsR w' w.heap.size 3 (.slice oa on oc) (confT x.c) ∧ Rdr w' g s b ∧ Save g w w'
  | none => e = .panicked tornP ∧ Save g w w'
set_option maxRecDepth 10000 in
set_option maxHeartbeats 8000000 in
theorem message_any (g : Nat) (s : ByteArray) (a : Nat) (w : World) (hc : Rdr w g s a) (hs : s.size ≤ 1048576) :
    Calls Tryz.prog 23 #[.pointer (some ⟨g, 0, none⟩)] w (MsgR (msgP s a) g s w) := by
  obtain ⟨R, HR⟩ : ∃ R, Hid (msgP s a = R) := ⟨_, rfl⟩
  rw [HR.out]
  have hgl := hc.lt
  obtain ⟨W0, HW0⟩ : ∃ W, Hid (w.alloc (.cells #[.int .i64 0, .int .i64 0, .int .i64 0, .int .i64 0, .int .i64 0, .int .i64 0, .int .i64 0, .bool false, .slice none 0 0, .slice none 0 0, .string { data := #[] }, .bool false] 27) = W) := ⟨_, rfl⟩
  have C0 : Hid (Rdr W0 g s a) := by rw [← HW0.out]; exact qvb hc _
  have S0 : Hid (Save g w W0) := by rw [← HW0.out]; exact (Save.refl g w).alloc _
  have K0 : Hid (Kc12 27 W0 w.heap.size (.int .i64 0) (.int .i64 0) (.int .i64 0) (.int .i64 0) (.int .i64 0) (.int .i64 0) (.int .i64 0) (.bool false) (.slice none 0 0) (.slice none 0 0) (.string { data := #[] }) (.bool false)) := by rw [← HW0.out]; exact Kc12.new _ _ _ _ _ _ _ _ _ _ _ _ _ _
  have C0g : g < W0.heap.size := C0.out.lt
  have hW0s : w.heap.size < W0.heap.size := K0.out.lt
  clear hc
  go_enter Tryz.func23, Tryz.ntmps23
  go_wp2_with fail
  rw [HW0.out]
  refine (oneByteR_any g s a _ C0.out hs).mono ?_
  rintro e w1 h
  cases hq0 : oneP s a with
  | none =>
    rw [hq0] at h
    obtain ⟨rfl, h1⟩ := h
    obtain rfl : R = none := by rw [← HR.out]; simp [msgP, hq0]
    have HS : Hid (Save g w w1) := S0.out.trans h1
    clear hq0 h1
    go_wp2
    exact ⟨rfl, rfl, HS.out⟩
  | some r =>
  obtain ⟨y0, a1⟩ := r
  rw [hq0] at h
  obtain ⟨rfl, h1, h2⟩ := h
  have C1 : Hid (Rdr w1 g s a1) := h1
  have S1 : Hid (Save g w w1) := S0.out.trans h2
  have K1 : Hid (Kc12 27 w1 w.heap.size (.int .i64 0) (.int .i64 0) (.int .i64 0) (.int .i64 0) (.int .i64 0) (.int .i64 0) (.int .i64 0) (.bool false) (.slice none 0 0) (.slice none 0 0) (.string { data := #[] }) (.bool false)) := K0.out.save h2 (by omega)
  have SZ1 : Hid (W0.heap.size ≤ w1.heap.size) := Nat.le_trans (Nat.le_refl _) h2.size
  have Hq0 : Hid (oneP s a = some (y0, a1)) := hq0
  clear hq0 h1 h2 C0 S0 K0
  go_wp2_with fail
  skip
  refine (oneByteR_any g s a1 _ C1.out hs).mono ?_
  rintro e w2 h
  cases hq1 : oneP s a1 with
  | none =>
    rw [hq1] at h
    obtain ⟨rfl, h1⟩ := h
    obtain rfl : R = none := by rw [← HR.out]; simp [msgP, Hq0.out, hq1]
    have HS : Hid (Save g w w2) := S1.out.trans h1
    clear hq1 h1
    go_wp2
    exact ⟨rfl, rfl, HS.out⟩
  | some r =>
  obtain ⟨y1, a2⟩ := r
  rw [hq1] at h
  obtain ⟨rfl, h1, h2⟩ := h
  have C2 : Hid (Rdr w2 g s a2) := h1
  have S2 : Hid (Save g w w2) := S1.out.trans h2
  have K2 : Hid (Kc12 27 w2 w.heap.size (.int .i64 0) (.int .i64 0) (.int .i64 0) (.int .i64 0) (.int .i64 0) (.int .i64 0) (.int .i64 0) (.bool false) (.slice none 0 0) (.slice none 0 0) (.string { data := #[] }) (.bool false)) := K1.out.save h2 (by omega)
  have SZ2 : Hid (W0.heap.size ≤ w2.heap.size) := Nat.le_trans SZ1.out h2.size
  have Hq1 : Hid (oneP s a1 = some (y1, a2)) := hq1
  clear hq1 h1 h2 C1 S1 K1
  go_wp2_with fail
  skip
  refine (oneByteR_any g s a2 _ C2.out hs).mono ?_
  rintro e w3 h
  cases hq2 : oneP s a2 with
  | none =>
    rw [hq2] at h
    obtain ⟨rfl, h1⟩ := h
    obtain rfl : R = none := by rw [← HR.out]; simp [msgP, Hq0.out, Hq1.out, hq2]
    have HS : Hid (Save g w w3) := S2.out.trans h1
    clear hq2 h1
    go_wp2
    exact ⟨rfl, rfl, HS.out⟩
  | some r =>
  obtain ⟨y2, a3⟩ := r
  rw [hq2] at h
  obtain ⟨rfl, h1, h2⟩ := h
  have C3 : Hid (Rdr w3 g s a3) := h1
  have S3 : Hid (Save g w w3) := S2.out.trans h2
  have K3 : Hid (Kc12 27 w3 w.heap.size (.int .i64 0) (.int .i64 0) (.int .i64 0) (.int .i64 0) (.int .i64 0) (.int .i64 0) (.int .i64 0) (.bool false) (.slice none 0 0) (.slice none 0 0) (.string { data := #[] }) (.bool false)) := K2.out.save h2 (by omega)
  have SZ3 : Hid (W0.heap.size ≤ w3.heap.size) := Nat.le_trans SZ2.out h2.size
  have Hq2 : Hid (oneP s a2 = some (y2, a3)) := hq2
  clear hq2 h1 h2 C2 S2 K2
  go_wp2_with fail
  skip
  refine (qme g s a3 _ C3.out hs).mono ?_
  rintro e w4 h
  cases hq3 : numP s a3 with
  | none =>
    rw [hq3] at h
    obtain ⟨rfl, h1⟩ := h
    obtain rfl : R = none := by rw [← HR.out]; simp [msgP, Hq0.out, Hq1.out, Hq2.out, hq3]
    have HS : Hid (Save g w w4) := S3.out.trans h1
    clear hq3 h1
    go_wp2
    exact ⟨rfl, rfl, HS.out⟩
  | some r =>
  obtain ⟨y3, a4⟩ := r
  rw [hq3] at h
  obtain ⟨rfl, h1, h2⟩ := h
  have C4 : Hid (Rdr w4 g s a4) := h1
  have S4 : Hid (Save g w w4) := S3.out.trans h2
  have K4 : Hid (Kc12 27 w4 w.heap.size (.int .i64 0) (.int .i64 0) (.int .i64 0) (.int .i64 0) (.int .i64 0) (.int .i64 0) (.int .i64 0) (.bool false) (.slice none 0 0) (.slice none 0 0) (.string { data := #[] }) (.bool false)) := K3.out.save h2 (by omega)
  have SZ4 : Hid (W0.heap.size ≤ w4.heap.size) := Nat.le_trans SZ3.out h2.size
  have Hq3 : Hid (numP s a3 = some (y3, a4)) := hq3
  clear hq3 h1 h2 C3 S3 K3
  go_wp2_with fail
  skip
  refine (qme g s a4 _ C4.out hs).mono ?_
  rintro e w5 h
  cases hq4 : numP s a4 with
  | none =>
    rw [hq4] at h
    obtain ⟨rfl, h1⟩ := h
    obtain rfl : R = none := by rw [← HR.out]; simp [msgP, Hq0.out, Hq1.out, Hq2.out, Hq3.out, hq4]
    have HS : Hid (Save g w w5) := S4.out.trans h1
    clear hq4 h1
    go_wp2
    exact ⟨rfl, rfl, HS.out⟩
  | some r =>
  obtain ⟨y4, a5⟩ := r
  rw [hq4] at h
  obtain ⟨rfl, h1, h2⟩ := h
  have C5 : Hid (Rdr w5 g s a5) := h1
  have S5 : Hid (Save g w w5) := S4.out.trans h2
  have K5 : Hid (Kc12 27 w5 w.heap.size (.int .i64 0) (.int .i64 0) (.int .i64 0) (.int .i64 0) (.int .i64 0) (.int .i64 0) (.int .i64 0) (.bool false) (.slice none 0 0) (.slice none 0 0) (.string { data := #[] }) (.bool false)) := K4.out.save h2 (by omega)
  have SZ5 : Hid (W0.heap.size ≤ w5.heap.size) := Nat.le_trans SZ4.out h2.size
  have Hq4 : Hid (numP s a4 = some (y4, a5)) := hq4
  clear hq4 h1 h2 C4 S4 K4
  go_wp2_with fail
  skip
  refine (qme g s a5 _ C5.out hs).mono ?_
  rintro e w6 h
  cases hq5 : numP s a5 with
  | none =>
    rw [hq5] at h
    obtain ⟨rfl, h1⟩ := h
    obtain rfl : R = none := by rw [← HR.out]; simp [msgP, Hq0.out, Hq1.out, Hq2.out, Hq3.out, Hq4.out, hq5]
    have HS : Hid (Save g w w6) := S5.out.trans h1
    clear hq5 h1
    go_wp2
    exact ⟨rfl, rfl, HS.out⟩
  | some r =>
  obtain ⟨y5, a6⟩ := r
  rw [hq5] at h
  obtain ⟨rfl, h1, h2⟩ := h
  have C6 : Hid (Rdr w6 g s a6) := h1
  have S6 : Hid (Save g w w6) := S5.out.trans h2
  have K6 : Hid (Kc12 27 w6 w.heap.size (.int .i64 0) (.int .i64 0) (.int .i64 0) (.int .i64 0) (.int .i64 0) (.int .i64 0) (.int .i64 0) (.bool false) (.slice none 0 0) (.slice none 0 0) (.string { data := #[] }) (.bool false)) := K5.out.save h2 (by omega)
  have SZ6 : Hid (W0.heap.size ≤ w6.heap.size) := Nat.le_trans SZ5.out h2.size
  have Hq5 : Hid (numP s a5 = some (y5, a6)) := hq5
  clear hq5 h1 h2 C5 S5 K5
  go_wp2_with fail
  skip
  refine (qme g s a6 _ C6.out hs).mono ?_
  rintro e w7 h
  cases hq6 : numP s a6 with
  | none =>
    rw [hq6] at h
    obtain ⟨rfl, h1⟩ := h
    obtain rfl : R = none := by rw [← HR.out]; simp [msgP, Hq0.out, Hq1.out, Hq2.out, Hq3.out, Hq4.out, Hq5.out, hq6]
    have HS : Hid (Save g w w7) := S6.out.trans h1
    clear hq6 h1
    go_wp2
    exact ⟨rfl, rfl, HS.out⟩
  | some r =>
  obtain ⟨y6, a7⟩ := r
  rw [hq6] at h
  obtain ⟨rfl, h1, h2⟩ := h
  have C7 : Hid (Rdr w7 g s a7) := h1
  have S7 : Hid (Save g w w7) := S6.out.trans h2
  have K7 : Hid (Kc12 27 w7 w.heap.size (.int .i64 0) (.int .i64 0) (.int .i64 0) (.int .i64 0) (.int .i64 0) (.int .i64 0) (.int .i64 0) (.bool false) (.slice none 0 0) (.slice none 0 0) (.string { data := #[] }) (.bool false)) := K6.out.save h2 (by omega)
  have SZ7 : Hid (W0.heap.size ≤ w7.heap.size) := Nat.le_trans SZ6.out h2.size
  have Hq6 : Hid (numP s a6 = some (y6, a7)) := hq6
  clear hq6 h1 h2 C6 S6 K6
  go_wp2_with fail
  skip
  refine (flagR_any g s a7 _ C7.out hs).mono ?_
  rintro e w8 h
  cases hq7 : flaP s a7 with
  | none =>
    rw [hq7] at h
    obtain ⟨rfl, h1⟩ := h
    obtain rfl : R = none := by rw [← HR.out]; simp [msgP, Hq0.out, Hq1.out, Hq2.out, Hq3.out, Hq4.out, Hq5.out, Hq6.out, hq7]
    have HS : Hid (Save g w w8) := S7.out.trans h1
    clear hq7 h1
    go_wp2
    exact ⟨rfl, rfl, HS.out⟩
  | some r =>
  obtain ⟨y7, a8⟩ := r
  rw [hq7] at h
  obtain ⟨rfl, h1, h2⟩ := h
  have C8 : Hid (Rdr w8 g s a8) := h1
  have S8 : Hid (Save g w w8) := S7.out.trans h2
  have K8 : Hid (Kc12 27 w8 w.heap.size (.int .i64 0) (.int .i64 0) (.int .i64 0) (.int .i64 0) (.int .i64 0) (.int .i64 0) (.int .i64 0) (.bool false) (.slice none 0 0) (.slice none 0 0) (.string { data := #[] }) (.bool false)) := K7.out.save h2 (by omega)
  have SZ8 : Hid (W0.heap.size ≤ w8.heap.size) := Nat.le_trans SZ7.out h2.size
  have Hq7 : Hid (flaP s a7 = some (y7, a8)) := hq7
  clear hq7 h1 h2 C7 S7 K7
  go_wp2_with fail
  skip
  refine (flagR_any g s a8 _ C8.out hs).mono ?_
  rintro e w9 h
  cases hq8 : flaP s a8 with
  | none =>
    rw [hq8] at h
    obtain ⟨rfl, h1⟩ := h
    obtain rfl : R = none := by rw [← HR.out]; simp [msgP, Hq0.out, Hq1.out, Hq2.out, Hq3.out, Hq4.out, Hq5.out, Hq6.out, Hq7.out, hq8]
    have HS : Hid (Save g w w9) := S8.out.trans h1
    clear hq8 h1
    go_wp2
    exact ⟨rfl, rfl, HS.out⟩
  | some r =>
  obtain ⟨y8, a9⟩ := r
  rw [hq8] at h
  obtain ⟨rfl, h1, h2⟩ := h
  have C9 : Hid (Rdr w9 g s a9) := h1
  have S9 : Hid (Save g w w9) := S8.out.trans h2
  have K9 : Hid (Kc12 27 w9 w.heap.size (.int .i64 0) (.int .i64 0) (.int .i64 0) (.int .i64 0) (.int .i64 0) (.int .i64 0) (.int .i64 0) (.bool false) (.slice none 0 0) (.slice none 0 0) (.string { data := #[] }) (.bool false)) := K8.out.save h2 (by omega)
  have SZ9 : Hid (W0.heap.size ≤ w9.heap.size) := Nat.le_trans SZ8.out h2.size
  have Hq8 : Hid (flaP s a8 = some (y8, a9)) := hq8
  clear hq8 h1 h2 C8 S8 K8
  go_wp2_with fail
  skip
  refine (entsR_any g s a9 _ C9.out hs).mono ?_
  rintro e w10 h
  cases hq9 : entsP s a9 with
  | none =>
    rw [hq9] at h
    obtain ⟨rfl, h1⟩ := h
    obtain rfl : R = none := by rw [← HR.out]; simp [msgP, Hq0.out, Hq1.out, Hq2.out, Hq3.out, Hq4.out, Hq5.out, Hq6.out, Hq7.out, Hq8.out, hq9]
    have HS : Hid (Save g w w10) := S9.out.trans h1
    clear hq9 h1
    go_wp2
    exact ⟨rfl, rfl, HS.out⟩
  | some r =>
  obtain ⟨y9, a10⟩ := r
  rw [hq9] at h
  obtain ⟨ea, en, ec, rfl, ho, h1, h2⟩ := h
  have C10 : Hid (Rdr w10 g s a10) := h1
  have S10 : Hid (Save g w w10) := S9.out.trans h2
  have K10 : Hid (Kc12 27 w10 w.heap.size (.int .i64 0) (.int .i64 0) (.int .i64 0) (.int .i64 0) (.int .i64 0) (.int .i64 0) (.int .i64 0) (.bool false) (.slice none 0 0) (.slice none 0 0) (.string { data := #[] }) (.bool false)) := K9.out.save h2 (by omega)
  have SZ10 : Hid (W0.heap.size ≤ w10.heap.size) := Nat.le_trans SZ9.out h2.size
  have Hq9 : Hid (entsP s a9 = some (y9, a10)) := hq9
  have OE10 : Hid (ownsR w10 W0.heap.size 59 (.slice ea en ec) y9) := ho.mono SZ9.out
  clear hq9 h1 h2 C9 S9 K9 ho
  go_wp2_with fail
  skip
  refine (confN_any g s a10 _ C10.out hs).mono ?_
  rintro e w11 h
  cases hq10 : shoP s a10 with
  | none =>
    rw [hq10] at h
    obtain ⟨rfl, h1⟩ := h
    obtain rfl : R = none := by rw [← HR.out]; simp [msgP, Hq0.out, Hq1.out, Hq2.out, Hq3.out, Hq4.out, Hq5.out, Hq6.out, Hq7.out, Hq8.out, Hq9.out, hq10]
    have HS : Hid (Save g w w11) := S10.out.trans h1
    clear hq10 h1
    go_wp2
    exact ⟨rfl, rfl, HS.out⟩
  | some r =>
  obtain ⟨y10, a11⟩ := r
  rw [hq10] at h
  obtain ⟨oa, on, oc, rfl, ho, h1, h2⟩ := h
  have C11 : Hid (Rdr w11 g s a11) := h1
  have S11 : Hid (Save g w w11) := S10.out.trans h2
  have K11 : Hid (Kc12 27 w11 w.heap.size (.int .i64 0) (.int .i64 0) (.int .i64 0) (.int .i64 0) (.int .i64 0) (.int .i64 0) (.int .i64 0) (.bool false) (.slice none 0 0) (.slice none 0 0) (.string { data := #[] }) (.bool false)) := K10.out.save h2 (by omega)
  have SZ11 : Hid (W0.heap.size ≤ w11.heap.size) := Nat.le_trans SZ10.out h2.size
  have Hq10 : Hid (shoP s a10 = some (y10, a11)) := hq10
  have OC11 : Hid (ownsR w11 W0.heap.size 3 (.slice oa on oc) (confT y10)) := ho.mono SZ10.out
  have OE11 : Hid (ownsR w11 W0.heap.size 59 (.slice ea en ec) y9) := OE10.out.saveE h2 C0g
  clear hq10 h1 h2 C10 S10 K10 ho OE10
  go_wp2_with fail
  skip
  refine (short_any g s a11 _ C11.out hs).mono ?_
  rintro e w12 h
  cases hq11 : shoP s a11 with
  | none =>
    rw [hq11] at h
    obtain ⟨rfl, h1⟩ := h
    obtain rfl : R = none := by rw [← HR.out]; simp [msgP, Hq0.out, Hq1.out, Hq2.out, Hq3.out, Hq4.out, Hq5.out, Hq6.out, Hq7.out, Hq8.out, Hq9.out, Hq10.out, hq11]
    have HS : Hid (Save g w w12) := S11.out.trans h1
    clear hq11 h1
    go_wp2
    exact ⟨rfl, rfl, HS.out⟩
  | some r =>
  obtain ⟨y11, a12⟩ := r
  rw [hq11] at h
  obtain ⟨rfl, h1, h2⟩ := h
  have C12 : Hid (Rdr w12 g s a12) := h1
  have S12 : Hid (Save g w w12) := S11.out.trans h2
  have K12 : Hid (Kc12 27 w12 w.heap.size (.int .i64 0) (.int .i64 0) (.int .i64 0) (.int .i64 0) (.int .i64 0) (.int .i64 0) (.int .i64 0) (.bool false) (.slice none 0 0) (.slice none 0 0) (.string { data := #[] }) (.bool false)) := K11.out.save h2 (by omega)
  have SZ12 : Hid (W0.heap.size ≤ w12.heap.size) := Nat.le_trans SZ11.out h2.size
  have Hq11 : Hid (shoP s a11 = some (y11, a12)) := hq11
  have OC12 : Hid (ownsR w12 W0.heap.size 3 (.slice oa on oc) (confT y10)) := OC11.out.saveE h2 C0g
  have OE12 : Hid (ownsR w12 W0.heap.size 59 (.slice ea en ec) y9) := OE11.out.saveE h2 C0g
  clear hq11 h1 h2 C11 S11 K11 OC11 OE11
  obtain rfl : R = some (⟨y0, y1, y2, y3, y4, y5, y6, y7, y8, y9, y10, y11⟩, a12) := by rw [← HR.out]; simp [msgP, Hq0.out, Hq1.out, Hq2.out, Hq3.out, Hq4.out, Hq5.out, Hq6.out, Hq7.out, Hq8.out, Hq9.out, Hq10.out, Hq11.out]
  have c0 := K12.out.c0
  have cf0 := K12.out.fz 0
  have c1 := K12.out.c1
  have cf1 := K12.out.fz 1
  have c2 := K12.out.c2
  have cf2 := K12.out.fz 2
  have c3 := K12.out.c3
  have cf3 := K12.out.fz 3
  have c4 := K12.out.c4
  have cf4 := K12.out.fz 4
  have c5 := K12.out.c5
  have cf5 := K12.out.fz 5
  have c6 := K12.out.c6
  have cf6 := K12.out.fz 6
  have c7 := K12.out.c7
  have cf7 := K12.out.fz 7
  have c8 := K12.out.c8
  have cf8 := K12.out.fz 8
  have c9 := K12.out.c9
  have cf9 := K12.out.fz 9
  have c10 := K12.out.c10
  have cf10 := K12.out.fz 10
  have c11 := K12.out.c11
  have cf11 := K12.out.fz 11
  have hlt8 := K12.out.lt
  go_wp2
  have KE := K12.out.set (.int .i64 (y0 : Int)) (.int .i64 (y1 : Int)) (.int .i64 (y2 : Int)) (.int .i64 (y3 : Int)) (.int .i64 (y4 : Int)) (.int .i64 (y5 : Int)) (.int .i64 (y6 : Int)) (.bool y7) (.slice ea en ec) (.slice oa on oc) (.string y11) (.bool y8)
  refine bodyPost_ret (qgd rfl rfl KE) rfl ?_
  refine ⟨ea, en, ec, oa, on, oc, rfl, ?_, ?_, heap_set12 C12.out (by omega) _ _ _ _ _ _ _ _ _ _ _ _, save_set12 S12.out (Nat.le_refl _) _ _ _ _ _ _ _ _ _ _ _ _⟩
  · exact (qva OE12.out hW0s _ _ _ _ _ _ _ _ _ _ _ _).mono (Nat.le_of_lt hW0s)
  · exact (qva OC12.out hW0s _ _ _ _ _ _ _ _ _ _ _ _).mono (Nat.le_of_lt hW0s)
end Go.Proofs.YtpjpheicldegkaaGreatDoor

namespace Go.Proofs.YtpjpheicldegkaaGreatDoor
open Go Go.RowKit
set_option linter.unusedVariables false

set_option maxRecDepth 10000 in
set_option maxHeartbeats 1000000 in
theorem catch_torn (p q : Nat) (x0 x1 x2 x3 x4 x5 x6 x7 x8 x9 x10 x11 y : Value) (older : List PanicEntry) (w : World) (hp : Kc12 27 w p x0 x1 x2 x3 x4 x5 x6 x7 x8 x9 x10 x11) (hq : w.heap[q]? = some (.cells #[y] 4)) (hpq : p ≠ q) (B : Nat) (h1 : B ≤ p) (h2 : B ≤ q) :
    CallsD Tryz.prog 77 #[.pointer (some ⟨p, 0, none⟩), .pointer (some ⟨q, 0, none⟩)] (.panicking ({ v := tornV, recovered := false } :: older)) w fun e u' w' =>
      e = .returned (.tuple #[]) ∧ u' = .panicking ({ v := tornV, recovered := true } :: older) ∧ Kc12 27 w' p (.int .i64 0) (.int .i64 0) (.int .i64 0) (.int .i64 0) (.int .i64 0) (.int .i64 0) (.int .i64 0) (.bool false) (.slice none 0 0) (.slice none 0 0) (.string { data := #[] }) (.bool false) ∧ w'.heap[q]? = some (.cells #[.bool false] 4) ∧ Below B w w' := by
  refine callsD_of_wpS Tryz.func77 rfl fun c₀ cs hu => ?_
  apply wpS_seq
  rw [frameM]
  have a1 := assert_tornM
  apply wpS_region
  simp only [tornV] at hu ⊢
  simp [wpOpsS, go_sem, recoverD, hu, a1, Exit.thenS]
  have g1 : Kc12 27 (w.alloc (.cells #[] 130)) p x0 x1 x2 x3 x4 x5 x6 x7 x8 x9 x10 x11 := qvb hp _
  have g2 := qvb hq (.cells #[] 130)
  have hb : Below B w (w.alloc (.cells #[] 130)) := (ba (Below.refl _ _) _).mono (by have := hp.lt; omega)
  generalize w.alloc (.cells #[] 130) = w1 at g1 g2 hb ⊢
  refine wpS_of_wp ?_
  obtain ⟨W2, HW2⟩ : ∃ V, w1.alloc (.cells #[.int .i64 0, .int .i64 0, .int .i64 0, .int .i64 0, .int .i64 0, .int .i64 0, .int .i64 0, .bool false, .slice none 0 0, .slice none 0 0, .string { data := #[] }, .bool false] 27) = V := ⟨_, rfl⟩
  have k1 : Kc12 27 W2 p x0 x1 x2 x3 x4 x5 x6 x7 x8 x9 x10 x11 := by rw [← HW2]; exact qvb g1 _
  have k2 : W2.heap[q]? = some (.cells #[y] 4) := by rw [← HW2]; exact qvb g2 _
  have k3 : Kc12 27 W2 w1.heap.size (.int .i64 0) (.int .i64 0) (.int .i64 0) (.int .i64 0) (.int .i64 0) (.int .i64 0) (.int .i64 0) (.bool false) (.slice none 0 0) (.slice none 0 0) (.string { data := #[] }) (.bool false) := by rw [← HW2]; exact Kc12.new _ _ _ _ _ _ _ _ _ _ _ _ _ _
  have hb2 : Below B w W2 := by rw [← HW2]; exact Below.alloc hb (by have := g1.lt; omega) _
  have hpl : p < w1.heap.size := g1.lt
  have hql : q < w1.heap.size := (Array.getElem?_eq_some_iff.1 g2).1
  have c0 := k1.c0
  have c1 := k1.c1
  have c2 := k1.c2
  have c3 := k1.c3
  have c4 := k1.c4
  have c5 := k1.c5
  have c6 := k1.c6
  have c7 := k1.c7
  have c8 := k1.c8
  have c9 := k1.c9
  have c10 := k1.c10
  have c11 := k1.c11
  have cf0 := k1.fz 0
  have cf1 := k1.fz 1
  have cf2 := k1.fz 2
  have cf3 := k1.fz 3
  have cf4 := k1.fz 4
  have cf5 := k1.fz 5
  have cf6 := k1.fz 6
  have cf7 := k1.fz 7
  have cf8 := k1.fz 8
  have cf9 := k1.fz 9
  have cf10 := k1.fz 10
  have cf11 := k1.fz 11
  have d0 := one_cellM k2
  have e0 := one_fzM k2
  have n0 := k3.c0
  have n1 := k3.c1
  have n2 := k3.c2
  have n3 := k3.c3
  have n4 := k3.c4
  have n5 := k3.c5
  have n6 := k3.c6
  have n7 := k3.c7
  have n8 := k3.c8
  have n9 := k3.c9
  have n10 := k3.c10
  have n11 := k3.c11
  clear g1 g2 hb
  go_wp2
  have KE := k1.set (.int .i64 0) (.int .i64 0) (.int .i64 0) (.int .i64 0) (.int .i64 0) (.int .i64 0) (.int .i64 0) (.bool false) (.slice none 0 0) (.slice none 0 0) (.string { data := #[] }) (.bool false)
  refine ⟨rfl, _, rfl, .tuple #[], results_none rfl _ _ _, rfl, rfl, ?_, ?_, ?_⟩
  · exact qlb KE (by show q ≠ p; omega) _
  · exact one_setM (heap_set12 k2 (by omega) _ _ _ _ _ _ _ _ _ _ _ _) _
  · exact Below.setCell (qya hb2 h1 _ _ _ _ _ _ _ _ _ _ _ _) (by show B ≤ q; omega) _
set_option maxRecDepth 10000 in
set_option maxHeartbeats 400000 in
theorem catch_idle (p q : Nat) (w : World) :
    CallsD Tryz.prog 77 #[.pointer (some ⟨p, 0, none⟩), .pointer (some ⟨q, 0, none⟩)] .returning w fun e u' w' => e = .returned (.tuple #[]) ∧ u' = .returning ∧ Below w.heap.size w w' := by
  refine callsD_of_wpS Tryz.func77 rfl fun c₀ cs hu => ?_
  apply wpS_seq
  rw [frameM]
  have a1 := assert_nilM
  apply wpS_region
  simp [wpOpsS, go_sem, recoverD, hu, a1, Exit.thenS]
  have hb : Below w.heap.size w (w.alloc (.cells #[] 130)) := ba (Below.refl _ _) _
  generalize w.alloc (.cells #[] 130) = w1 at hb ⊢
  refine wpS_of_wp ?_
  go_wp2
  exact ⟨rfl, .returning, by rw [← hu], .tuple #[], results_none rfl _ _ _, rfl, rfl, hb⟩
theorem ret_rw {fn : Func} {p q : Tmp} {w : World} {g k : Nat} {x0 x1 x2 x3 x4 x5 x6 x7 x8 x9 x10 x11 y : Value} {tmps : Array Value} (h : fn.results = #[.cell p 27, .cell q 4]) (hp : tmps.getD p undef = .pointer (some ⟨g, 0, none⟩)) (hq : tmps.getD q undef = .pointer (some ⟨k, 0, none⟩)) (hb : Kc12 27 w g x0 x1 x2 x3 x4 x5 x6 x7 x8 x9 x10 x11) (hk : w.heap[k]? = some (.cells #[y] 4)) :
    (results fn tmps).run Tryz.prog w = .ok (.tuple #[.agg #[x0, x1, x2, x3, x4, x5, x6, x7, x8, x9, x10, x11], y]) w := by
  have hp' : tmps[p]?.getD undef = .pointer (some ⟨g, 0, none⟩) := by simpa using hp
  have hq' : tmps[q]?.getD undef = .pointer (some ⟨k, 0, none⟩) := by simpa using hq
  have h4 := one_cellM hk
  simp [results, h, hp', hq', hb.c0, hb.c1, hb.c2, hb.c3, hb.c4, hb.c5, hb.c6, hb.c7, hb.c8, hb.c9, hb.c10, hb.c11, h4, asAddr, go_sem]
set_option maxRecDepth 10000 in
theorem door_torn {R : Ending → World → Prop} {W : World} {T : Array Value} {p q B : Nat} {x0 x1 x2 x3 x4 x5 x6 x7 x8 x9 x10 x11 y : Value} (hp : Kc12 27 W p x0 x1 x2 x3 x4 x5 x6 x7 x8 x9 x10 x11) (hq : W.heap[q]? = some (.cells #[y] 4)) (hpq : p ≠ q) (h1 : B ≤ p) (h2 : B ≤ q)
    (t2 : T.getD 4 undef = .pointer (some ⟨p, 0, none⟩)) (t3 : T.getD 5 undef = .pointer (some ⟨q, 0, none⟩))
    (hR : ∀ w', Below B W w' → R (.returned (.tuple #[.agg #[.int .i64 0, .int .i64 0, .int .i64 0, .int .i64 0, .int .i64 0, .int .i64 0, .int .i64 0, .bool false, .slice none 0 0, .slice none 0 0, .string { data := #[] }, .bool false], .bool false])) w') :
    bodyPostD Tryz.prog Tryz.f52 R (Exit.panic tornP) { tmps := T, defers := [{ target := Target.fn (Fn.func 77) #[.pointer (some ⟨p, 0, none⟩), .pointer (some ⟨q, 0, none⟩)], args := #[] }] } W := by
  refine leaves_cons (f := 77) (args := #[.pointer (some ⟨p, 0, none⟩), .pointer (some ⟨q, 0, none⟩)]) (by simp) (by simp [go_sem]) ?_
  refine (catch_torn p q x0 x1 x2 x3 x4 x5 x6 x7 x8 x9 x10 x11 y [] W hp hq hpq B h1 h2).mono ?_
  rintro e u' w'' ⟨rfl, rfl, g1, g2, hb⟩
  exact ⟨_, ret_rw rfl t2 t3 g1 g2, hR _ hb⟩
set_option maxRecDepth 10000 in
theorem door_done {R : Ending → World → Prop} {W : World} {T : Array Value} {p q : Nat} {x0 x1 x2 x3 x4 x5 x6 x7 x8 x9 x10 x11 y : Value} (hp : Kc12 27 W p x0 x1 x2 x3 x4 x5 x6 x7 x8 x9 x10 x11) (hq : W.heap[q]? = some (.cells #[y] 4))
    (t2 : T.getD 4 undef = .pointer (some ⟨p, 0, none⟩)) (t3 : T.getD 5 undef = .pointer (some ⟨q, 0, none⟩))
    (hR : ∀ w', Below W.heap.size W w' → R (.returned (.tuple #[.agg #[x0, x1, x2, x3, x4, x5, x6, x7, x8, x9, x10, x11], y])) w') :
    bodyPostD Tryz.prog Tryz.f52 R Exit.ret { tmps := T, defers := [{ target := Target.fn (Fn.func 77) #[.pointer (some ⟨p, 0, none⟩), .pointer (some ⟨q, 0, none⟩)], args := #[] }] } W := by
  refine leaves_cons (f := 77) (args := #[.pointer (some ⟨p, 0, none⟩), .pointer (some ⟨q, 0, none⟩)]) (by simp) (by simp [go_sem]) ?_
  refine (catch_idle p q W).mono ?_
  rintro e u' w'' ⟨rfl, rfl, hb⟩
  exact ⟨_, ret_rw rfl t2 t3 (hp.up hb) (blk_upR hq hb), hR _ hb⟩

def zeroM : Mg8 := ⟨0, 0, 0, 0, 0, 0, 0, false, false, [], ByteArray.empty, ByteArray.empty⟩
theorem confT_zero : confT ByteArray.empty = [] := confT_no (okC_nil (by rw [qjc]; rfl))
theorem qse (w : World) (B : Nat) : ownsR w B 3 (.slice none 0 0) (confT zeroM.c) := by
  show ownsR w B 3 _ (confT ByteArray.empty)
  rw [confT_zero]
  exact qmb _ _ _
def rwM (s : ByteArray) : Option Mg8 := match msgP s 0 with
  | some (x, b) => if b = s.size then some x else none
  | none => none
def RwM (x : Mg8) (z : Bool) (w : World) (e : Ending) (w' : World) : Prop := ∃ ea en ec oa on oc, e = .returned (.tuple #[.agg #[.int .i64 (x.kd : Int), .int .i64 (x.fr : Int), .int .i64 (x.up : Int), .int .i64 (x.tm : Int), .int .i64 (x.ix : Int), .int .i64 (x.lt : Int), .int .i64 (x.cm : Int), .bool x.ok, .slice ea en ec, .slice oa on oc, .string x.da, .bool x.la], .bool z]) ∧ ownsR w' w.heap.size 59 (.slice ea en ec) x.es ∧ ownsR w' w.heap.size 3 (.slice oa on oc) (confT x.c) ∧ Below w.heap.size w w'
set_option maxRecDepth 10000 in
set_option maxHeartbeats 8000000 in
theorem readWhole_any (s : ByteArray) (w : World) (hs : s.size ≤ 1048576) :
    Calls Tryz.prog 52 #[.string s, .func (.func 23) #[] #[]] w (RwM ((rwM s).getD zeroM) (rwM s).isSome w) := by
  have hmf : ∀ (fn : Fn) (first cap : Array Value) (w : World), (Instr.makeFunc fn first cap).run Tryz.prog w = .ok (.func fn first cap) w := fun _ _ _ _ => rfl
  obtain ⟨R, HR⟩ : ∃ R, Hid (rwM s = R) := ⟨_, rfl⟩
  rw [HR.out]
  obtain ⟨W0, HW0⟩ : ∃ V, Hid (((w.alloc (.cells #[.int .i64 0, .int .i64 0, .int .i64 0, .int .i64 0, .int .i64 0, .int .i64 0, .int .i64 0, .bool false, .slice none 0 0, .slice none 0 0, .string { data := #[] }, .bool false] 27)).alloc (.cells #[.bool false] 4)).alloc (.cells #[.string s, .int .i64 0] 133) = V) := ⟨_, rfl⟩
  have G1 : Hid (Kc12 27 W0 w.heap.size (.int .i64 0) (.int .i64 0) (.int .i64 0) (.int .i64 0) (.int .i64 0) (.int .i64 0) (.int .i64 0) (.bool false) (.slice none 0 0) (.slice none 0 0) (.string { data := #[] }) (.bool false)) := by rw [← HW0.out]; exact qvb (qvb (Kc12.new _ _ _ _ _ _ _ _ _ _ _ _ _ _) _) _
  have G2 : Hid (W0.heap[w.heap.size + 1]? = some (.cells #[.bool false] 4)) := by rw [← HW0.out]; exact qvb (heap_next _ _ _) _
  have GR : Hid (Rdr W0 (w.heap.size + 2) s 0) := by
    rw [← HW0.out]
    have := qkd ((w.alloc (.cells #[.int .i64 0, .int .i64 0, .int .i64 0, .int .i64 0, .int .i64 0, .int .i64 0, .int .i64 0, .bool false, .slice none 0 0, .slice none 0 0, .string { data := #[] }, .bool false] 27)).alloc (.cells #[.bool false] 4)) (.cells #[.string s, .int .i64 0] 133)
    rw [World.size_alloc, World.size_alloc] at this
    exact this
  have B0 : Hid (Below w.heap.size w W0) := by rw [← HW0.out]; exact ba (ba (ba (Below.refl _ _) _) _) _
  have hgW : w.heap.size + 2 < W0.heap.size := GR.out.lt
  go_enter_defers Tryz.func52, Tryz.ntmps52
  go_wp2_with fail
  rw [HW0.out]
  refine (message_any (w.heap.size + 2) s 0 _ GR.out hs).mono ?_
  rintro e w1 h
  cases hq : msgP s 0 with
  | none =>
    rw [hq] at h
    obtain ⟨rfl, h1⟩ := h
    obtain rfl : R = none := by rw [← HR.out]; unfold rwM; rw [hq]
    have g1 := G1.out.save h1 (by omega)
    have g2 := h1.heap (k := w.heap.size + 1) (by omega) G2.out
    have hb := Save.under (B := w.heap.size) B0.out h1 (by omega) B0.out.size
    clear hq h1
    go_wp2
    exact door_torn g1 g2 (by omega) (Nat.le_refl _) (by omega) rfl rfl fun w' h => ⟨none, 0, 0, none, 0, 0, rfl, qmb _ _ _, qse _ _, hb.trans h⟩
  | some r =>
  obtain ⟨⟨y0, y1, y2, y3, y4, y5, y6, y7, y8, y9, y10, y11⟩, b⟩ := r
  rw [hq] at h
  obtain ⟨ea, en, ec, oa, on, oc, rfl, hoe, hoc, h0, h1⟩ := h
  have OE1 : Hid (ownsR w1 W0.heap.size 59 (.slice ea en ec) y9) := hoe
  have OC1 : Hid (ownsR w1 W0.heap.size 3 (.slice oa on oc) (confT y10)) := hoc
  have K1 : Hid (Kc12 27 w1 w.heap.size (.int .i64 0) (.int .i64 0) (.int .i64 0) (.int .i64 0) (.int .i64 0) (.int .i64 0) (.int .i64 0) (.bool false) (.slice none 0 0) (.slice none 0 0) (.string { data := #[] }) (.bool false)) := G1.out.save h1 (by omega)
  have L1 : Hid (w1.heap[w.heap.size + 1]? = some (.cells #[.bool false] 4)) := h1.heap (k := w.heap.size + 1) (by omega) G2.out
  have B1 : Hid (Below w.heap.size w w1) := Save.under (B := w.heap.size) B0.out h1 (by omega) B0.out.size
  have R1 : Hid (Rdr w1 (w.heap.size + 2) s b) := h0
  have HQ : Hid (msgP s 0 = some (⟨y0, y1, y2, y3, y4, y5, y6, y7, y8, y9, y10, y11⟩, b)) := hq
  clear hq h0 h1 G1 G2 GR B0 hoe hoc
  have hlt : w.heap.size < w1.heap.size := K1.out.lt
  have c0 := K1.out.c0
  have cf0 := K1.out.fz 0
  have c1 := K1.out.c1
  have cf1 := K1.out.fz 1
  have c2 := K1.out.c2
  have cf2 := K1.out.fz 2
  have c3 := K1.out.c3
  have cf3 := K1.out.fz 3
  have c4 := K1.out.c4
  have cf4 := K1.out.fz 4
  have c5 := K1.out.c5
  have cf5 := K1.out.fz 5
  have c6 := K1.out.c6
  have cf6 := K1.out.fz 6
  have c7 := K1.out.c7
  have cf7 := K1.out.fz 7
  have c8 := K1.out.c8
  have cf8 := K1.out.fz 8
  have c9 := K1.out.c9
  have cf9 := K1.out.fz 9
  have c10 := K1.out.c10
  have cf10 := K1.out.fz 10
  have c11 := K1.out.c11
  have cf11 := K1.out.fz 11
  dsimp only
  go_wp2_with fail
  obtain ⟨W2, HW2⟩ : ∃ V, Hid (set12 w1 w.heap.size (.int .i64 (y0 : Int)) (.int .i64 (y1 : Int)) (.int .i64 (y2 : Int)) (.int .i64 (y3 : Int)) (.int .i64 (y4 : Int)) (.int .i64 (y5 : Int)) (.int .i64 (y6 : Int)) (.bool y7) (.slice ea en ec) (.slice oa on oc) (.string y11) (.bool y8) = V) := ⟨_, rfl⟩
  have K2 : Hid (Kc12 27 W2 w.heap.size (.int .i64 (y0 : Int)) (.int .i64 (y1 : Int)) (.int .i64 (y2 : Int)) (.int .i64 (y3 : Int)) (.int .i64 (y4 : Int)) (.int .i64 (y5 : Int)) (.int .i64 (y6 : Int)) (.bool y7) (.slice ea en ec) (.slice oa on oc) (.string y11) (.bool y8)) := by rw [← HW2.out]; exact K1.out.set _ _ _ _ _ _ _ _ _ _ _ _
  have L2 : Hid (W2.heap[w.heap.size + 1]? = some (.cells #[.bool false] 4)) := by rw [← HW2.out]; exact heap_set12 L1.out (by omega) _ _ _ _ _ _ _ _ _ _ _ _
  have B2 : Hid (Below w.heap.size w W2) := by rw [← HW2.out]; exact qya B1.out (Nat.le_refl _) _ _ _ _ _ _ _ _ _ _ _ _
  have R2 : Hid (Rdr W2 (w.heap.size + 2) s b) := by rw [← HW2.out]; exact heap_set12 R1.out (by omega) _ _ _ _ _ _ _ _ _ _ _ _
  have OE2 : Hid (ownsR W2 W0.heap.size 59 (.slice ea en ec) y9) := by rw [← HW2.out]; exact qva OE1.out (by omega) _ _ _ _ _ _ _ _ _ _ _ _
  have OC2 : Hid (ownsR W2 W0.heap.size 3 (.slice oa on oc) (confT y10)) := by rw [← HW2.out]; exact qva OC1.out (by omega) _ _ _ _ _ _ _ _ _ _ _ _
  have hw2 := HW2.out
  unfold set12 at hw2
  rw [hw2]
  clear hw2 K1 L1 B1 R1 OE1 OC1 c0 cf0 c1 cf1 c2 cf2 c3 cf3 c4 cf4 c5 cf5 c6 cf6 c7 cf7 c8 cf8 c9 cf9 c10 cf10 c11 cf11
  by_cases hb : b = s.size
  · obtain rfl : R = some ⟨y0, y1, y2, y3, y4, y5, y6, y7, y8, y9, y10, y11⟩ := by rw [← HR.out]; unfold rwM; rw [HQ.out]; simp [hb]
    subst hb
    refine (end_yes _ _ _ R2.out).mono ?_
    rintro e w3 ⟨rfl, h3⟩
    have K3 := K2.out.up h3
    have L3 := blk_upR L2.out h3
    have B3 := Below.on B2.out h3
    have OE3 := OE2.out.all h3
    have OC3 := OC2.out.all h3
    clear K2 L2 B2 R2 OE2 OC2 h3
    have hlt3 : w.heap.size < w3.heap.size := K3.lt
    have c0 := K3.c0
    have cf0 := K3.fz 0
    have c1 := K3.c1
    have cf1 := K3.fz 1
    have c2 := K3.c2
    have cf2 := K3.fz 2
    have c3 := K3.c3
    have cf3 := K3.fz 3
    have c4 := K3.c4
    have cf4 := K3.fz 4
    have c5 := K3.c5
    have cf5 := K3.fz 5
    have c6 := K3.c6
    have cf6 := K3.fz 6
    have c7 := K3.c7
    have cf7 := K3.fz 7
    have c8 := K3.c8
    have cf8 := K3.fz 8
    have c9 := K3.c9
    have cf9 := K3.fz 9
    have c10 := K3.c10
    have cf10 := K3.fz 10
    have c11 := K3.c11
    have cf11 := K3.fz 11
    have d0 := one_cellM L3
    have e0 := one_fzM L3
    go_wp2
    have KF := K3.set (.int .i64 (y0 : Int)) (.int .i64 (y1 : Int)) (.int .i64 (y2 : Int)) (.int .i64 (y3 : Int)) (.int .i64 (y4 : Int)) (.int .i64 (y5 : Int)) (.int .i64 (y6 : Int)) (.bool y7) (.slice ea en ec) (.slice oa on oc) (.string y11) (.bool y8)
    have LF := heap_set12 L3 (show w.heap.size ≠ w.heap.size + 1 by omega) (.int .i64 (y0 : Int)) (.int .i64 (y1 : Int)) (.int .i64 (y2 : Int)) (.int .i64 (y3 : Int)) (.int .i64 (y4 : Int)) (.int .i64 (y5 : Int)) (.int .i64 (y6 : Int)) (.bool y7) (.slice ea en ec) (.slice oa on oc) (.string y11) (.bool y8)
    have OGE := (qva OE3 (b := w.heap.size) (by omega) (.int .i64 (y0 : Int)) (.int .i64 (y1 : Int)) (.int .i64 (y2 : Int)) (.int .i64 (y3 : Int)) (.int .i64 (y4 : Int)) (.int .i64 (y5 : Int)) (.int .i64 (y6 : Int)) (.bool y7) (.slice ea en ec) (.slice oa on oc) (.string y11) (.bool y8)).qta (a := ⟨w.heap.size + 1, 0, none⟩) (by show w.heap.size + 1 < _; omega) (.bool true)
    have OGC := (qva OC3 (b := w.heap.size) (by omega) (.int .i64 (y0 : Int)) (.int .i64 (y1 : Int)) (.int .i64 (y2 : Int)) (.int .i64 (y3 : Int)) (.int .i64 (y4 : Int)) (.int .i64 (y5 : Int)) (.int .i64 (y6 : Int)) (.bool y7) (.slice ea en ec) (.slice oa on oc) (.string y11) (.bool y8)).qta (a := ⟨w.heap.size + 1, 0, none⟩) (by show w.heap.size + 1 < _; omega) (.bool true)
    exact door_done (qlb KF (by show w.heap.size + 1 ≠ w.heap.size; omega) _) (one_setM LF _) rfl rfl fun w' h => ⟨ea, en, ec, oa, on, oc, rfl, (OGE.all h).mono (by omega), (OGC.all h).mono (by omega), (Below.setCell (qya B3 (Nat.le_refl _) (.int .i64 (y0 : Int)) (.int .i64 (y1 : Int)) (.int .i64 (y2 : Int)) (.int .i64 (y3 : Int)) (.int .i64 (y4 : Int)) (.int .i64 (y5 : Int)) (.int .i64 (y6 : Int)) (.bool y7) (.slice ea en ec) (.slice oa on oc) (.string y11) (.bool y8)) (p := ⟨w.heap.size + 1, 0, none⟩) (by show w.heap.size ≤ w.heap.size + 1; omega) _).trans (h.mono (by simp; omega))⟩
  · obtain rfl : R = none := by rw [← HR.out]; unfold rwM; rw [HQ.out]; simp [hb]
    refine (end_no _ _ b _ R2.out hb).mono ?_
    rintro e w3 ⟨rfl, h3⟩
    have K3 := K2.out.up h3
    have L3 := blk_upR L2.out h3
    have B3 := Below.on B2.out h3
    clear K2 L2 B2 R2 OE2 OC2 h3
    go_wp2
    exact door_torn K3 L3 (by omega) (Nat.le_refl _) (by omega) rfl rfl fun w' h => ⟨none, 0, 0, none, 0, 0, rfl, qmb _ _ _, qse _ _, B3.trans h⟩
end Go.Proofs.YtpjpheicldegkaaGreatDoor
