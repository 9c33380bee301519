/- Coc -/
import Derived.Test.YtpjpheicldegkaaGreatDoorCog
namespace Go.Proofs.YtpjpheicldegkaaGreatDoor
open Go Go.RowKit
set_option linter.unusedVariables false

structure CoS (g : Nat) (w : World) (bx bs : Nat) (op tok seq : Int) (text task : ByteArray) (num up : Int) (yes : Bool) (st sl : Int) (sr : ByteArray) (W : World) : Prop where
  o : OfS g w bx op tok seq text task num up yes W
  s : K3 154 W bs (.int .i64 st) (.int .i64 sl) (.string sr)
  lo : w.heap.size ≤ bs
section
variable {g : Nat} {w W W' : World} {bx bs : Nat} {op tok seq num up st sl : Int} {text task sr : ByteArray} {yes : Bool}
theorem CoS.save (h : CoS g w bx bs op tok seq text task num up yes st sl sr W) (hs : Save g W W') (hd : Drw W' g) : CoS g w bx bs op tok seq text task num up yes st sl sr W' :=
  ⟨h.o.save hs hd, h.s.save hs (by have := h.o.gl; have := h.lo; omega), h.lo⟩
theorem CoS.ap (h : CoS g w bx bs op tok seq text task num up yes st sl sr W) : bx ≠ bs := h.o.x.ty.ne h.s.ty (by decide)
theorem CoS.ar (h : CoS g w bx bs op tok seq text task num up yes st sl sr W) : w.heap.size + 1 ≠ bs := h.o.res.ty.ne h.s.ty (by decide)
theorem OfS.tok' (h : OfS g w bx op tok seq text task num up yes W) (t : Int) : OfS g w bx op t seq text task num up yes (W.setCell ⟨bx, 1, none⟩ (.int .i64 t)) :=
  have hb : Below w.heap.size W (W.setCell ⟨bx, 1, none⟩ (.int .i64 t)) := Below.setCell (Below.refl _ _) h.lo _
  ⟨h.res.far h.ne _, h.x.s1 _, h.drw.keep (hb.mono h.gl), h.sv.qua hb (Nat.le_refl _), h.ne, h.gl, h.lo⟩
theorem OfS.seq' (h : OfS g w bx op tok seq text task num up yes W) (t : Int) : OfS g w bx op tok t text task num up yes (W.setCell ⟨bx, 2, none⟩ (.int .i64 t)) :=
  have hb : Below w.heap.size W (W.setCell ⟨bx, 2, none⟩ (.int .i64 t)) := Below.setCell (Below.refl _ _) h.lo _
  ⟨h.res.far h.ne _, h.x.s2 _, h.drw.keep (hb.mono h.gl), h.sv.qua hb (Nat.le_refl _), h.ne, h.gl, h.lo⟩
theorem CoS.tok' (h : CoS g w bx bs op tok seq text task num up yes st sl sr W) (t : Int) : CoS g w bx bs op t seq text task num up yes st sl sr (W.setCell ⟨bx, 1, none⟩ (.int .i64 t)) := ⟨h.o.tok' t, h.s.far h.ap _, h.lo⟩
theorem CoS.seq' (h : CoS g w bx bs op tok seq text task num up yes st sl sr W) (t : Int) : CoS g w bx bs op tok t text task num up yes st sl sr (W.setCell ⟨bx, 2, none⟩ (.int .i64 t)) := ⟨h.o.seq' t, h.s.far h.ap _, h.lo⟩
theorem OfS.setS (h : OfS g w bx op tok seq text task num up yes W) {p : Addr} {u : Value} (h1 : p.block ≠ bx) (h2 : p.block ≠ w.heap.size + 1) (h3 : w.heap.size ≤ p.block) : OfS g w bx op tok seq text task num up yes (W.setCell p u) :=
  have hb : Below w.heap.size W (W.setCell p u) := Below.setCell (Below.refl _ _) h3 _
  ⟨h.res.far h2 _, h.x.far h1 _, h.drw.keep (hb.mono h.gl), h.sv.qua hb (Nat.le_refl _), h.ne, h.gl, h.lo⟩
theorem CoS.set3 (h : CoS g w bx bs op tok seq text task num up yes st sl sr W) (t l : Int) (r : ByteArray) : CoS g w bx bs op tok seq text task num up yes t l r (((W.setCell ⟨bs, 0, none⟩ (.int .i64 t)).setCell ⟨bs, 1, none⟩ (.int .i64 l)).setCell ⟨bs, 2, none⟩ (.string r)) :=
  ⟨((h.o.setS (p := ⟨bs, 0, none⟩) h.ap.symm h.ar.symm h.lo).setS (p := ⟨bs, 1, none⟩) h.ap.symm h.ar.symm h.lo).setS (p := ⟨bs, 2, none⟩) h.ap.symm h.ar.symm h.lo, ((h.s.s0 _).s1 _).s2 _, h.lo⟩
end
def CoP (g : Nat) (w : World) (e : Ending) (w' : World) : Prop :=
  ∃ (op tok seq : Int) (text task : ByteArray) (num up : Int) (yes : Bool), e = .returned (cmdV op tok seq text task num up yes) ∧ text.size ≤ 600 ∧ task.size ≤ 8 ∧ (0 ≤ num ∧ num ≤ 2000) ∧ (0 ≤ up ∧ up ≤ 2000) ∧ (1 ≤ op ∧ op ≤ 9) ∧ (0 ≤ tok ∧ tok ≤ 2000) ∧ (0 ≤ seq ∧ seq ≤ 2000) ∧ Drw w' g ∧ Save g w w'

set_option maxRecDepth 10000 in
set_option maxHeartbeats 8000000 in
theorem l16Command_any (g : Nat) (sb sc : Nat) (pv : Value) (ar : Option Addr) (cr : Nat) (ck tk st sl : Int) (sr : ByteArray) (w : World) (hd : Drw w g) (hs0 : w.cell? ⟨sb, 0, none⟩ = some (.int .i64 st)) (hs1 : w.cell? ⟨sb, 1, none⟩ = some (.int .i64 sl)) (hs2 : w.cell? ⟨sb, 2, none⟩ = some (.string sr)) (hsg : sb ≠ g) (hsl : sb < w.heap.size) (hst : 0 ≤ st ∧ st ≤ 1000) (hsl2 : 0 ≤ sl ∧ sl ≤ 1000)
    (hof : ∀ W, Save g w W → Drw W g → Calls Tryz.prog 107 #[.pointer (some ⟨g, 0, none⟩), bdV (.slice (some ⟨sb, 0, none⟩) 1 sc) pv (.slice ar 0 cr) ck tk] W (OfP g W)) :
    Calls Tryz.prog 98 #[.pointer (some ⟨g, 0, none⟩), bdV (.slice (some ⟨sb, 0, none⟩) 1 sc) pv (.slice ar 0 cr) ck tk] w (CoP g w) := by
  have hgl : g < w.heap.size := hd.lt
  have hx : w.heap.size ≠ g := by omega
  have HOF : Hid (∀ W, Save g w W → Drw W g → Calls Tryz.prog 107 #[.pointer (some ⟨g, 0, none⟩), bdV (.slice (some ⟨sb, 0, none⟩) 1 sc) pv (.slice ar 0 cr) ck tk] W (OfP g W)) := hof
  have HC0 : Hid (w.cell? ⟨sb, 0, none⟩ = some (.int .i64 st)) := hs0
  have HC1 : Hid (w.cell? ⟨sb, 1, none⟩ = some (.int .i64 sl)) := hs1
  have HC2 : Hid (w.cell? ⟨sb, 2, none⟩ = some (.string sr)) := hs2
  clear hof hs0 hs1 hs2
  obtain ⟨W0, HW0⟩ : ∃ W0, Hid ((w.alloc (.cells #[.slice (some ⟨sb, 0, none⟩) 1 sc, pv, .slice ar 0 cr, .int .i64 ck, .int .i64 tk] 151)).alloc (.cells #[.int .i64 0, .int .i64 0, .int .i64 0, .string ⟨#[]⟩, .string ⟨#[]⟩, .int .i64 0, .int .i64 0, .bool false] 138) = W0) := ⟨_, rfl⟩
  have X0 : Hid (B5 151 W0 w.heap.size (.slice (some ⟨sb, 0, none⟩) 1 sc) pv (.slice ar 0 cr) (.int .i64 ck) (.int .i64 tk)) := by show B5 _ _ _ _ _ _ _ _; rw [← HW0.out]; exact (B5.new _ _ _ _ _ _ _).alloc _
  have Z0 : Hid (K8 138 W0 (w.heap.size + 1) (.int .i64 0) (.int .i64 0) (.int .i64 0) (.string ⟨#[]⟩) (.string ⟨#[]⟩) (.int .i64 0) (.int .i64 0) (.bool false)) := by
    show K8 _ _ _ _ _ _ _ _ _ _ _
    rw [← HW0.out]
    have h1 := K8.new 138 (w.alloc (.cells #[.slice (some ⟨sb, 0, none⟩) 1 sc, pv, .slice ar 0 cr, .int .i64 ck, .int .i64 tk] 151)) (.int .i64 0) (.int .i64 0) (.int .i64 0) (.string ⟨#[]⟩) (.string ⟨#[]⟩) (.int .i64 0) (.int .i64 0) (.bool false)
    rw [show (w.alloc (.cells #[.slice (some ⟨sb, 0, none⟩) 1 sc, pv, .slice ar 0 cr, .int .i64 ck, .int .i64 tk] 151)).heap.size = w.heap.size + 1 by simp] at h1
    exact h1
  have B0 : Below w.heap.size w W0 := by rw [← HW0.out]; exact ba (ba (Below.refl _ _) _) _
  have HS0 : Hid (Save g w W0) := Save.of_below B0
  have HD0 : Hid (Drw W0 g) := hd.keep (B0.mono hgl)
  clear B0 hd
  go_enter Tryz.func98, Tryz.ntmps98
  go_wp2_with fail
  rw [HW0.out]
  refine (qxa g 20 _ HD0.out (by decide) (by decide)).mono ?_
  rintro x W1 ⟨b, rfl, hd1, hs1⟩
  have HD1 : Hid (Drw W1 g) := hd1
  have HS1 : Hid (Save g w W1) := HS0.out.trans hs1
  have Z1 : Hid (K8 138 W1 (w.heap.size + 1) (.int .i64 0) (.int .i64 0) (.int .i64 0) (.string ⟨#[]⟩) (.string ⟨#[]⟩) (.int .i64 0) (.int .i64 0) (.bool false)) := Z0.out.save hs1 (by omega)
  have X1 : Hid (B5 151 W1 w.heap.size (.slice (some ⟨sb, 0, none⟩) 1 sc) pv (.slice ar 0 cr) (.int .i64 ck) (.int .i64 tk)) := X0.out.save hs1 hx
  clear hd1 hs1 Z0 X0 HS0 HD0 HW0
  cases b with
  | true =>
    have r0 := Z1.out.c0
    have r1 := Z1.out.c1
    have r2 := Z1.out.c2
    have r3 := Z1.out.c3
    have r4 := Z1.out.c4
    have r5 := Z1.out.c5
    have r6 := Z1.out.c6
    have r7 := Z1.out.c7
    have f0 := Z1.out.fz 0
    have f1 := Z1.out.fz 1
    have f2 := Z1.out.fz 2
    have f3 := Z1.out.fz 3
    have f4 := Z1.out.fz 4
    have f5 := Z1.out.fz 5
    have f6 := Z1.out.fz 6
    have f7 := Z1.out.fz 7
    have hb : ∀ u0 u1 u2 u3 u4 u5 u6 u7, Below w.heap.size W1 (set8 W1 (w.heap.size + 1) u0 u1 u2 u3 u4 u5 u6 u7) := fun _ _ _ _ _ _ _ _ => below_set8 (Below.refl _ _) (Nat.le_succ _) _ _ _ _ _ _ _ _
    have HB : Hid (∀ u0 u1 u2 u3 u4 u5 u6 u7, Below w.heap.size W1 (set8 W1 (w.heap.size + 1) u0 u1 u2 u3 u4 u5 u6 u7)) := hb
    clear hb X1
    go_wp2
    refine bodyPost_ret (qjb (p := 4) (by kernel_rfl) (by kernel_rfl) (Z1.out.set (.int .i64 1) (.int .i64 0) (.int .i64 0) (.string ⟨#[]⟩) (.string ⟨#[]⟩) (.int .i64 0) (.int .i64 0) (.bool false))) rfl ?_
    exact ⟨1, 0, 0, _, _, 0, 0, false, rfl, by decide, by decide, by decide, by decide, by decide, by decide, by decide, HD1.out.keep ((HB.out _ _ _ _ _ _ _ _).mono hgl), HS1.out.qua (HB.out _ _ _ _ _ _ _ _) (Nat.le_refl _)⟩
  | false =>
    have y0 := X1.out.c0
    have y1 := X1.out.c1
    have y2 := X1.out.c2
    have y3 := X1.out.c3
    have y4 := X1.out.c4
    go_wp2_with fail
    refine (HOF.out W1 HS1.out HD1.out).mono ?_
    rintro x W3 ⟨op, text, task, num, up, yes, rfl, htx, htk, hnm, hup, hop, hd3, hs3⟩
    have k0 := hst.1
    have k1 := hst.2
    have k2 := hsl2.1
    have k3 := hsl2.2
    have HD3 : Hid (Drw W3 g) := hd3
    have HS3 : Hid (Save g w W3) := HS1.out.trans hs3
    have Z3 : Hid (K8 138 W3 (w.heap.size + 1) (.int .i64 0) (.int .i64 0) (.int .i64 0) (.string ⟨#[]⟩) (.string ⟨#[]⟩) (.int .i64 0) (.int .i64 0) (.bool false)) := Z1.out.save hs3 (by omega)
    have X3 : Hid (B5 151 W3 w.heap.size (.slice (some ⟨sb, 0, none⟩) 1 sc) pv (.slice ar 0 cr) (.int .i64 ck) (.int .i64 tk)) := X1.out.save hs3 hx
    clear hd3 hs3 Z1 X1 HS1 HD1 y0 y1 y2 y3 y4 HOF
    have y0 := X3.out.c0
    have v0 := HS3.out.cell (p := ⟨sb, 0, none⟩) hsg HC0.out
    have v1 := HS3.out.cell (p := ⟨sb, 1, none⟩) hsg HC1.out
    have v2 := HS3.out.cell (p := ⟨sb, 2, none⟩) hsg HC2.out
    have hq := X3.out.lt
    have hq1 := Z3.out.lt
    have hq2 : ¬ w.heap.size = W3.heap.size := by omega
    have hq3 : ¬ sb = W3.heap.size := by omega
    have hq4 : sb < W3.heap.size := by omega
    obtain ⟨W5, HW5⟩ : ∃ W5, Hid ((W3.alloc (.cells #[.int .i64 op, .int .i64 0, .int .i64 0, .string text, .string task, .int .i64 num, .int .i64 up, .bool yes] 138)).alloc (.cells #[.int .i64 st, .int .i64 sl, .string sr] 154) = W5) := ⟨_, rfl⟩
    have HC5 : Hid (CoS g w W3.heap.size (W3.heap.size + 1) op 0 0 text task num up yes st sl sr W5) := by
      show CoS _ _ _ _ _ _ _ _ _ _ _ _ _ _ _ _
      have hb : Below W3.heap.size W3 W5 := by rw [← HW5.out]; exact ba (ba (Below.refl _ _) _) _
      refine ⟨⟨Z3.out.up hb, by rw [← HW5.out]; exact (K8.new _ _ _ _ _ _ _ _ _ _).alloc _, HD3.out.keep (hb.mono HD3.out.lt), HS3.out.trans (Save.of_below hb), by omega, hgl, by omega⟩, ?_, by omega⟩
      rw [← HW5.out]
      have h1 := K3.new 154 (W3.alloc (.cells #[.int .i64 op, .int .i64 0, .int .i64 0, .string text, .string task, .int .i64 num, .int .i64 up, .bool yes] 138)) (.int .i64 st) (.int .i64 sl) (.string sr)
      rw [show (W3.alloc (.cells #[.int .i64 op, .int .i64 0, .int .i64 0, .string text, .string task, .int .i64 num, .int .i64 up, .bool yes] 138)).heap.size = W3.heap.size + 1 by simp] at h1
      exact h1
    have X5 : Hid (B5 151 W5 w.heap.size (.slice (some ⟨sb, 0, none⟩) 1 sc) pv (.slice ar 0 cr) (.int .i64 ck) (.int .i64 tk)) := by
      show B5 _ _ _ _ _ _ _ _
      rw [← HW5.out]
      exact (X3.out.alloc _).alloc _
    clear Z3 X3 HD3 HS3
    go_wp2_with fail
    rw [HW5.out]
    refine (qxa g 4 _ HC5.out.o.drw (by decide) (by decide)).mono ?_
    rintro x W6 ⟨b, rfl, hd6, hs6⟩
    have HC6 : Hid (CoS g w W3.heap.size (W3.heap.size + 1) op 0 0 text task num up yes st sl sr W6) := HC5.out.save hs6 hd6
    have X6 : Hid (B5 151 W6 w.heap.size (.slice (some ⟨sb, 0, none⟩) 1 sc) pv (.slice ar 0 cr) (.int .i64 ck) (.int .i64 tk)) := X5.out.save hs6 hx
    obtain ⟨bx, hbx⟩ : ∃ bx, W3.heap.size = bx := ⟨_, rfl⟩
    obtain ⟨bs, hbs⟩ : ∃ bs, bx + 1 = bs := ⟨_, rfl⟩
    rw [hbx, hbs] at HC6
    rw [hbx, hbs]
    clear HC5 X5 HW5 y0 v0 v1 v2 hq hq1 hq2 hq3 hq4 hd6 hs6 hbs hbx
    cases b with
    | false =>
      clear X6
      have cl1 := HC6.out.o.x.c1
      have cl2 := HC6.out.o.x.c2
      have cf1 := HC6.out.o.x.fz 1
      have cf2 := HC6.out.o.x.fz 2
      have ck0 := HC6.out.s.c0
      have ck1 := HC6.out.s.c1
      have cap := HC6.out.ap
      have HT : Hid (CoS g w bx bs op st (sl + 1) text task num up yes st sl sr ((W6.setCell ⟨bx, 1, none⟩ (.int .i64 st)).setCell ⟨bx, 2, none⟩ (.int .i64 (sl + 1)))) := (HC6.out.tok' st).seq' (sl + 1)
      clear HC6
      go_wp2_with fail
      refine (qga g 20 _ HT.out.o.drw (by decide) (by decide)).mono ?_
      rintro x W8 ⟨q, rfl, q0, q1, hd8, hs8⟩
      have HU : Hid (CoS g w bx bs op st (sl + 1) text task num up yes st sl sr W8) := HT.out.save hs8 hd8
      clear HT hd8 hs8
      clear cl1 cl2 cf1 cf2 ck0 ck1 cap
      by_cases h0 : q = 0
      · subst h0
        have e0 := HU.out.o.x.c0
        have e1 := HU.out.o.x.c1
        have e2 := HU.out.o.x.c2
        have e3 := HU.out.o.x.c3
        have e4 := HU.out.o.x.c4
        have e5 := HU.out.o.x.c5
        have e6 := HU.out.o.x.c6
        have e7 := HU.out.o.x.c7
        have n1 := HU.out.o.x.fz 1
        have n2 := HU.out.o.x.fz 2
        have r0 := HU.out.o.res.c0
        have f0 := HU.out.o.res.fz 0
        have r1 := HU.out.o.res.c1
        have f1 := HU.out.o.res.fz 1
        have r2 := HU.out.o.res.c2
        have f2 := HU.out.o.res.fz 2
        have r3 := HU.out.o.res.c3
        have f3 := HU.out.o.res.fz 3
        have r4 := HU.out.o.res.c4
        have f4 := HU.out.o.res.fz 4
        have r5 := HU.out.o.res.c5
        have f5 := HU.out.o.res.fz 5
        have r6 := HU.out.o.res.c6
        have f6 := HU.out.o.res.fz 6
        have r7 := HU.out.o.res.c7
        have f7 := HU.out.o.res.fz 7
        have s0 := HU.out.s.c0
        have s1 := HU.out.s.c1
        have hnn := HU.out.o.ne
        have hap := HU.out.ap
        have har := HU.out.ar
        have HF : Hid _ := (HU.out.o.seq' sl).fin
        clear HU
        go_wp2
        refine bodyPost_ret (qjb (p := 4) (by kernel_rfl) (by kernel_rfl) HF.out.1) rfl ?_
        exact ⟨op, _, _, text, task, num, up, yes, rfl, htx, htk, hnm, hup, hop, ⟨hst.1, by omega⟩, ⟨hsl2.1, by omega⟩, HF.out.2.1, HF.out.2.2⟩
      · have b0 : (q == 0) = false := beq_eq_false_iff_ne.2 h0
        by_cases h1 : q = 1
        · subst h1
          go_wp2_with fail
          refine (qga g 4 _ HU.out.o.drw (by decide) (by decide)).mono ?_
          rintro x W9 ⟨z, rfl, z0, z1, hd9, hs9⟩
          have HV : Hid (CoS g w bx bs op st (sl + 1) text task num up yes st sl sr W9) := HU.out.save hs9 hd9
          clear HU hd9 hs9
          have e0 := HV.out.o.x.c0
          have e1 := HV.out.o.x.c1
          have e2 := HV.out.o.x.c2
          have e3 := HV.out.o.x.c3
          have e4 := HV.out.o.x.c4
          have e5 := HV.out.o.x.c5
          have e6 := HV.out.o.x.c6
          have e7 := HV.out.o.x.c7
          have n1 := HV.out.o.x.fz 1
          have n2 := HV.out.o.x.fz 2
          have r0 := HV.out.o.res.c0
          have f0 := HV.out.o.res.fz 0
          have r1 := HV.out.o.res.c1
          have f1 := HV.out.o.res.fz 1
          have r2 := HV.out.o.res.c2
          have f2 := HV.out.o.res.fz 2
          have r3 := HV.out.o.res.c3
          have f3 := HV.out.o.res.fz 3
          have r4 := HV.out.o.res.c4
          have f4 := HV.out.o.res.fz 4
          have r5 := HV.out.o.res.c5
          have f5 := HV.out.o.res.fz 5
          have r6 := HV.out.o.res.c6
          have f6 := HV.out.o.res.fz 6
          have r7 := HV.out.o.res.c7
          have f7 := HV.out.o.res.fz 7
          have s0 := HV.out.s.c0
          have s1 := HV.out.s.c1
          have hnn := HV.out.o.ne
          have hap := HV.out.ap
          have har := HV.out.ar
          have HF : Hid _ := (HV.out.o.seq' z).fin
          clear HV
          go_wp2
          refine bodyPost_ret (qjb (p := 4) (by kernel_rfl) (by kernel_rfl) HF.out.1) rfl ?_
          exact ⟨op, _, _, text, task, num, up, yes, rfl, htx, htk, hnm, hup, hop, ⟨hst.1, by omega⟩, ⟨z0, by omega⟩, HF.out.2.1, HF.out.2.2⟩
        · have b1 : (q == 1) = false := beq_eq_false_iff_ne.2 h1
          by_cases h2 : q = 2
          · subst h2
            go_wp2_with fail
            refine (qga g 9 _ HU.out.o.drw (by decide) (by decide)).mono ?_
            rintro x W9 ⟨z, rfl, z0, z1, hd9, hs9⟩
            have HV : Hid (CoS g w bx bs op st (sl + 1) text task num up yes st sl sr W9) := HU.out.save hs9 hd9
            clear HU hd9 hs9
            have e0 := HV.out.o.x.c0
            have e1 := HV.out.o.x.c1
            have e2 := HV.out.o.x.c2
            have e3 := HV.out.o.x.c3
            have e4 := HV.out.o.x.c4
            have e5 := HV.out.o.x.c5
            have e6 := HV.out.o.x.c6
            have e7 := HV.out.o.x.c7
            have n1 := HV.out.o.x.fz 1
            have n2 := HV.out.o.x.fz 2
            have r0 := HV.out.o.res.c0
            have f0 := HV.out.o.res.fz 0
            have r1 := HV.out.o.res.c1
            have f1 := HV.out.o.res.fz 1
            have r2 := HV.out.o.res.c2
            have f2 := HV.out.o.res.fz 2
            have r3 := HV.out.o.res.c3
            have f3 := HV.out.o.res.fz 3
            have r4 := HV.out.o.res.c4
            have f4 := HV.out.o.res.fz 4
            have r5 := HV.out.o.res.c5
            have f5 := HV.out.o.res.fz 5
            have r6 := HV.out.o.res.c6
            have f6 := HV.out.o.res.fz 6
            have r7 := HV.out.o.res.c7
            have f7 := HV.out.o.res.fz 7
            have s0 := HV.out.s.c0
            have s1 := HV.out.s.c1
            have hnn := HV.out.o.ne
            have hap := HV.out.ap
            have har := HV.out.ar
            have HF : Hid _ := (HV.out.o.tok' z).fin
            clear HV
            go_wp2
            refine bodyPost_ret (qjb (p := 4) (by kernel_rfl) (by kernel_rfl) HF.out.1) rfl ?_
            exact ⟨op, _, _, text, task, num, up, yes, rfl, htx, htk, hnm, hup, hop, ⟨z0, by omega⟩, ⟨by omega, by omega⟩, HF.out.2.1, HF.out.2.2⟩
          · have b2 : (q == 2) = false := beq_eq_false_iff_ne.2 h2
            have e0 := HU.out.o.x.c0
            have e1 := HU.out.o.x.c1
            have e2 := HU.out.o.x.c2
            have e3 := HU.out.o.x.c3
            have e4 := HU.out.o.x.c4
            have e5 := HU.out.o.x.c5
            have e6 := HU.out.o.x.c6
            have e7 := HU.out.o.x.c7
            have n1 := HU.out.o.x.fz 1
            have n2 := HU.out.o.x.fz 2
            have r0 := HU.out.o.res.c0
            have f0 := HU.out.o.res.fz 0
            have r1 := HU.out.o.res.c1
            have f1 := HU.out.o.res.fz 1
            have r2 := HU.out.o.res.c2
            have f2 := HU.out.o.res.fz 2
            have r3 := HU.out.o.res.c3
            have f3 := HU.out.o.res.fz 3
            have r4 := HU.out.o.res.c4
            have f4 := HU.out.o.res.fz 4
            have r5 := HU.out.o.res.c5
            have f5 := HU.out.o.res.fz 5
            have r6 := HU.out.o.res.c6
            have f6 := HU.out.o.res.fz 6
            have r7 := HU.out.o.res.c7
            have f7 := HU.out.o.res.fz 7
            have s0 := HU.out.s.c0
            have s1 := HU.out.s.c1
            have hnn := HU.out.o.ne
            have hap := HU.out.ap
            have har := HU.out.ar
            have HF : Hid _ := HU.out.o.fin
            clear HU
            go_wp2
            refine bodyPost_ret (qjb (p := 4) (by kernel_rfl) (by kernel_rfl) HF.out.1) rfl ?_
            exact ⟨op, _, _, text, task, num, up, yes, rfl, htx, htk, hnm, hup, hop, ⟨hst.1, by omega⟩, ⟨by omega, by omega⟩, HF.out.2.1, HF.out.2.2⟩
    | true =>
      have j0 := SvW.cell X6.out.c0 hx
      have j1 := SvW.cell (HC6.out.o.sv.cell (p := ⟨sb, 0, none⟩) hsg HC0.out) hsg
      have j2 := SvW.cell (HC6.out.o.sv.cell (p := ⟨sb, 1, none⟩) hsg HC1.out) hsg
      have j3 := SvW.cell (HC6.out.o.sv.cell (p := ⟨sb, 2, none⟩) hsg HC2.out) hsg
      haveI : Nonempty (SvW g W6) := ⟨⟨W6, Save.refl _ _, HC6.out.o.drw⟩⟩
      have HDY : Hid (Drw W6.drew g) := HC6.out.o.drw.keep ((Below.refl _ _).drew)
      go_wp2
      refine qha (fun w' => ∃ x : SvW g W6, w' = x.at') [0, 1, 2, 3, 4] 9 4 (by kernel_rfl) (by decide) (by decide) (by kernel_rfl) (fun _ _ d _ _ h => by cases d <;> exact h) ⟨⟨W6.drew, (Save.refl _ _).drew, HDY.out⟩, rfl⟩ ?_
      repeat (refine qea rfl (by first | (intro x h; cases h; done) | (intro x h; cases h; exact ⟨_, rfl⟩)) ?_; go_big_quiet_step (fail); refine wpQuiet_nil ?_)
      refine qda ?_
      refine qfa (fuel := 3) (i := 5) (by kernel_rfl) rfl rfl ?_
      intro K hK
      go_wp2
      refine hK.out _ _ ⟨⟨W6.drew, (Save.refl _ _).drew, HDY.out⟩, rfl⟩ ?_
      clear hK K
      refine qfa (fuel := 2) (i := 6) (by kernel_rfl) rfl rfl ?_
      intro K hK
      go_wp2_with fail
      refine (qga g 1 _ HDY.out (by decide) (by decide)).mono ?_
      rintro e V1 ⟨t, rfl, t0, t1, hdv, hsv⟩
      have ht : t = 0 := by omega
      subst ht
      have HDV : Hid (Drw V1 g) := hdv
      have HSV : Hid (Save g W6 V1) := (Save.refl _ W6).drew.trans hsv
      clear hdv hsv
      go_wp2
      refine hK.out _ _ ⟨⟨V1, HSV.out, HDV.out⟩, rfl⟩ ?_
      clear hK K
      refine qzb [7, 8] 9 0 ⟨⟨V1, HSV.out, HDV.out⟩, rfl⟩ (by kernel_rfl) (fun _ _ d _ _ h => by cases d <;> exact h) ?_
      repeat (refine qea rfl (by first | (intro x h; cases h; done) | (intro x h; cases h; exact ⟨_, rfl⟩)) ?_; go_big_quiet_step (fail); refine wpQuiet_nil ?_)
      refine qda ?_
      refine qoa (by kernel_rfl) ?_
      simp only [List.drop_succ_cons, List.drop_zero]
      have HC7 : Hid (CoS g w bx bs op 0 0 text task num up yes st sl sr V1) := HC6.out.save HSV.out HDV.out
      have HC8 : Hid (CoS g w bx bs op 0 0 text task num up yes st sl sr (((V1.setCell ⟨bs, 0, none⟩ (.int .i64 st)).setCell ⟨bs, 1, none⟩ (.int .i64 sl)).setCell ⟨bs, 2, none⟩ (.string sr))) := HC7.out.set3 st sl sr
      have g0 := HC7.out.s.fz 0
      have g1 := HC7.out.s.fz 1
      have g2 := HC7.out.s.fz 2
      have g3 := HC7.out.s.c2
      have cap2 := HC7.out.ap.symm
      have cl1 := HC7.out.o.x.c1
      have cl2 := HC7.out.o.x.c2
      have cf1 := HC7.out.o.x.fz 1
      have cf2 := HC7.out.o.x.fz 2
      have ck0 := HC7.out.s.c0
      have ck1 := HC7.out.s.c1
      have cap := HC7.out.ap
      clear HC6 HC7 HDV HSV HDY j0 j1 j2 j3 this X6 t0 t1
      have HT : Hid (CoS g w bx bs op st (sl + 1) text task num up yes st sl sr (((((V1.setCell ⟨bs, 0, none⟩ (.int .i64 st)).setCell ⟨bs, 1, none⟩ (.int .i64 sl)).setCell ⟨bs, 2, none⟩ (.string sr)).setCell ⟨bx, 1, none⟩ (.int .i64 st)).setCell ⟨bx, 2, none⟩ (.int .i64 (sl + 1)))) := (HC8.out.tok' st).seq' (sl + 1)
      clear HC8
      go_wp2_with fail
      refine (qga g 20 _ HT.out.o.drw (by decide) (by decide)).mono ?_
      rintro x W8 ⟨q, rfl, q0, q1, hd8, hs8⟩
      have HU : Hid (CoS g w bx bs op st (sl + 1) text task num up yes st sl sr W8) := HT.out.save hs8 hd8
      clear HT hd8 hs8
      clear cl1 cl2 cf1 cf2 ck0 ck1 cap
      by_cases h0 : q = 0
      · subst h0
        have e0 := HU.out.o.x.c0
        have e1 := HU.out.o.x.c1
        have e2 := HU.out.o.x.c2
        have e3 := HU.out.o.x.c3
        have e4 := HU.out.o.x.c4
        have e5 := HU.out.o.x.c5
        have e6 := HU.out.o.x.c6
        have e7 := HU.out.o.x.c7
        have n1 := HU.out.o.x.fz 1
        have n2 := HU.out.o.x.fz 2
        have r0 := HU.out.o.res.c0
        have f0 := HU.out.o.res.fz 0
        have r1 := HU.out.o.res.c1
        have f1 := HU.out.o.res.fz 1
        have r2 := HU.out.o.res.c2
        have f2 := HU.out.o.res.fz 2
        have r3 := HU.out.o.res.c3
        have f3 := HU.out.o.res.fz 3
        have r4 := HU.out.o.res.c4
        have f4 := HU.out.o.res.fz 4
        have r5 := HU.out.o.res.c5
        have f5 := HU.out.o.res.fz 5
        have r6 := HU.out.o.res.c6
        have f6 := HU.out.o.res.fz 6
        have r7 := HU.out.o.res.c7
        have f7 := HU.out.o.res.fz 7
        have s0 := HU.out.s.c0
        have s1 := HU.out.s.c1
        have hnn := HU.out.o.ne
        have hap := HU.out.ap
        have har := HU.out.ar
        have HF : Hid _ := (HU.out.o.seq' sl).fin
        clear HU
        go_wp2
        refine bodyPost_ret (qjb (p := 4) (by kernel_rfl) (by kernel_rfl) HF.out.1) rfl ?_
        exact ⟨op, _, _, text, task, num, up, yes, rfl, htx, htk, hnm, hup, hop, ⟨hst.1, by omega⟩, ⟨hsl2.1, by omega⟩, HF.out.2.1, HF.out.2.2⟩
      · have b0 : (q == 0) = false := beq_eq_false_iff_ne.2 h0
        by_cases h1 : q = 1
        · subst h1
          go_wp2_with fail
          refine (qga g 4 _ HU.out.o.drw (by decide) (by decide)).mono ?_
          rintro x W9 ⟨z, rfl, z0, z1, hd9, hs9⟩
          have HV : Hid (CoS g w bx bs op st (sl + 1) text task num up yes st sl sr W9) := HU.out.save hs9 hd9
          clear HU hd9 hs9
          have e0 := HV.out.o.x.c0
          have e1 := HV.out.o.x.c1
          have e2 := HV.out.o.x.c2
          have e3 := HV.out.o.x.c3
          have e4 := HV.out.o.x.c4
          have e5 := HV.out.o.x.c5
          have e6 := HV.out.o.x.c6
          have e7 := HV.out.o.x.c7
          have n1 := HV.out.o.x.fz 1
          have n2 := HV.out.o.x.fz 2
          have r0 := HV.out.o.res.c0
          have f0 := HV.out.o.res.fz 0
          have r1 := HV.out.o.res.c1
          have f1 := HV.out.o.res.fz 1
          have r2 := HV.out.o.res.c2
          have f2 := HV.out.o.res.fz 2
          have r3 := HV.out.o.res.c3
          have f3 := HV.out.o.res.fz 3
          have r4 := HV.out.o.res.c4
          have f4 := HV.out.o.res.fz 4
          have r5 := HV.out.o.res.c5
          have f5 := HV.out.o.res.fz 5
          have r6 := HV.out.o.res.c6
          have f6 := HV.out.o.res.fz 6
          have r7 := HV.out.o.res.c7
          have f7 := HV.out.o.res.fz 7
          have s0 := HV.out.s.c0
          have s1 := HV.out.s.c1
          have hnn := HV.out.o.ne
          have hap := HV.out.ap
          have har := HV.out.ar
          have HF : Hid _ := (HV.out.o.seq' z).fin
          clear HV
          go_wp2
          refine bodyPost_ret (qjb (p := 4) (by kernel_rfl) (by kernel_rfl) HF.out.1) rfl ?_
          exact ⟨op, _, _, text, task, num, up, yes, rfl, htx, htk, hnm, hup, hop, ⟨hst.1, by omega⟩, ⟨z0, by omega⟩, HF.out.2.1, HF.out.2.2⟩
        · have b1 : (q == 1) = false := beq_eq_false_iff_ne.2 h1
          by_cases h2 : q = 2
          · subst h2
            go_wp2_with fail
            refine (qga g 9 _ HU.out.o.drw (by decide) (by decide)).mono ?_
            rintro x W9 ⟨z, rfl, z0, z1, hd9, hs9⟩
            have HV : Hid (CoS g w bx bs op st (sl + 1) text task num up yes st sl sr W9) := HU.out.save hs9 hd9
            clear HU hd9 hs9
            have e0 := HV.out.o.x.c0
            have e1 := HV.out.o.x.c1
            have e2 := HV.out.o.x.c2
            have e3 := HV.out.o.x.c3
            have e4 := HV.out.o.x.c4
            have e5 := HV.out.o.x.c5
            have e6 := HV.out.o.x.c6
            have e7 := HV.out.o.x.c7
            have n1 := HV.out.o.x.fz 1
            have n2 := HV.out.o.x.fz 2
            have r0 := HV.out.o.res.c0
            have f0 := HV.out.o.res.fz 0
            have r1 := HV.out.o.res.c1
            have f1 := HV.out.o.res.fz 1
            have r2 := HV.out.o.res.c2
            have f2 := HV.out.o.res.fz 2
            have r3 := HV.out.o.res.c3
            have f3 := HV.out.o.res.fz 3
            have r4 := HV.out.o.res.c4
            have f4 := HV.out.o.res.fz 4
            have r5 := HV.out.o.res.c5
            have f5 := HV.out.o.res.fz 5
            have r6 := HV.out.o.res.c6
            have f6 := HV.out.o.res.fz 6
            have r7 := HV.out.o.res.c7
            have f7 := HV.out.o.res.fz 7
            have s0 := HV.out.s.c0
            have s1 := HV.out.s.c1
            have hnn := HV.out.o.ne
            have hap := HV.out.ap
            have har := HV.out.ar
            have HF : Hid _ := (HV.out.o.tok' z).fin
            clear HV
            go_wp2
            refine bodyPost_ret (qjb (p := 4) (by kernel_rfl) (by kernel_rfl) HF.out.1) rfl ?_
            exact ⟨op, _, _, text, task, num, up, yes, rfl, htx, htk, hnm, hup, hop, ⟨z0, by omega⟩, ⟨by omega, by omega⟩, HF.out.2.1, HF.out.2.2⟩
          · have b2 : (q == 2) = false := beq_eq_false_iff_ne.2 h2
            have e0 := HU.out.o.x.c0
            have e1 := HU.out.o.x.c1
            have e2 := HU.out.o.x.c2
            have e3 := HU.out.o.x.c3
            have e4 := HU.out.o.x.c4
            have e5 := HU.out.o.x.c5
            have e6 := HU.out.o.x.c6
            have e7 := HU.out.o.x.c7
            have n1 := HU.out.o.x.fz 1
            have n2 := HU.out.o.x.fz 2
            have r0 := HU.out.o.res.c0
            have f0 := HU.out.o.res.fz 0
            have r1 := HU.out.o.res.c1
            have f1 := HU.out.o.res.fz 1
            have r2 := HU.out.o.res.c2
            have f2 := HU.out.o.res.fz 2
            have r3 := HU.out.o.res.c3
            have f3 := HU.out.o.res.fz 3
            have r4 := HU.out.o.res.c4
            have f4 := HU.out.o.res.fz 4
            have r5 := HU.out.o.res.c5
            have f5 := HU.out.o.res.fz 5
            have r6 := HU.out.o.res.c6
            have f6 := HU.out.o.res.fz 6
            have r7 := HU.out.o.res.c7
            have f7 := HU.out.o.res.fz 7
            have s0 := HU.out.s.c0
            have s1 := HU.out.s.c1
            have hnn := HU.out.o.ne
            have hap := HU.out.ap
            have har := HU.out.ar
            have HF : Hid _ := HU.out.o.fin
            clear HU
            go_wp2
            refine bodyPost_ret (qjb (p := 4) (by kernel_rfl) (by kernel_rfl) HF.out.1) rfl ?_
            exact ⟨op, _, _, text, task, num, up, yes, rfl, htx, htk, hnm, hup, hop, ⟨hst.1, by omega⟩, ⟨by omega, by omega⟩, HF.out.2.1, HF.out.2.2⟩
end Go.Proofs.YtpjpheicldegkaaGreatDoor
