/- Rgt,L5r -/
import Derived.Test.YtpjpheicldegkaaGreatDoorCoc
import Derived.Test.YtpjpheicldegkaaGreatDoorCmo
import Derived.Test.YtpjpheicldegkaaGreatDoorGM15
import Derived.Test.YtpjpheicldegkaaGreatDoorGM21
import Derived.Test.YtpjpheicldegkaaGreatDoorGM5
namespace Go.Proofs.YtpjpheicldegkaaGreatDoor
open Go Go.RowKit
set_option linter.unusedVariables false

structure RtS (g : Nat) (w : World) (bb : Nat) (sv pv rv : Value) (ck tk : Int) (W : World) : Prop where
  res : K8 138 W w.heap.size (.int .i64 0) (.int .i64 0) (.int .i64 0) (.string ⟨#[]⟩) (.string ⟨#[]⟩) (.int .i64 0) (.int .i64 0) (.bool false)
  bd : B5 151 W bb sv pv rv (.int .i64 ck) (.int .i64 tk)
  drw : Drw W g
  sv' : Save g w W
  gl : g < w.heap.size
  lo : w.heap.size ≤ bb
section
variable {g : Nat} {w W W' : World} {bb : Nat} {sv pv rv : Value} {ck tk : Int}
theorem RtS.save (h : RtS g w bb sv pv rv ck tk W) (hs : Save g W W') (hd : Drw W' g) : RtS g w bb sv pv rv ck tk W' :=
  ⟨h.res.save hs (by have := h.gl; omega), h.bd.save hs (by have := h.gl; have := h.lo; omega), hd, h.sv'.trans hs, h.gl, h.lo⟩
theorem RtS.up (h : RtS g w bb sv pv rv ck tk W) (hb : Below W.heap.size W W') : RtS g w bb sv pv rv ck tk W' := h.save (Save.of_below hb) (h.drw.keep (hb.mono h.drw.lt))
theorem RtS.ne (h : RtS g w bb sv pv rv ck tk W) : bb ≠ w.heap.size := h.bd.ty.ne h.res.ty (by decide)
theorem RtS.set0 (h : RtS g w bb sv pv rv ck tk W) (u : Value) : RtS g w bb u pv rv ck tk (W.setCell ⟨bb, 0, none⟩ u) :=
  have hb : Below w.heap.size W (W.setCell ⟨bb, 0, none⟩ u) := Below.setCell (Below.refl _ _) h.lo _
  ⟨h.res.far h.ne _, h.bd.s0 _, h.drw.keep (hb.mono h.gl), h.sv'.qua hb (Nat.le_refl _), h.gl, h.lo⟩
theorem RtS.set3 (h : RtS g w bb sv pv rv ck tk W) (u : Int) : RtS g w bb sv pv rv u tk (W.setCell ⟨bb, 3, none⟩ (.int .i64 u)) :=
  have hb : Below w.heap.size W (W.setCell ⟨bb, 3, none⟩ (.int .i64 u)) := Below.setCell (Below.refl _ _) h.lo _
  ⟨h.res.far h.ne _, h.bd.s3 _, h.drw.keep (hb.mono h.gl), h.sv'.qua hb (Nat.le_refl _), h.gl, h.lo⟩
theorem RtS.set5 (h : RtS g w bb sv pv rv ck tk W) (s p r : Value) (c k : Int) : RtS g w bb s p r c k (set5 W bb s p r (.int .i64 c) (.int .i64 k)) :=
  have hb : Below w.heap.size W (Go.Proofs.YtpjpheicldegkaaGreatDoor.set5 W bb s p r (.int .i64 c) (.int .i64 k)) := qrc (Below.refl _ _) h.lo _ _ _ _ _
  ⟨(set5_other W bb _ _ _ _ _ h.ne.symm).trans h.res, h.bd.set _ _ _ _ _, h.drw.keep (hb.mono h.gl), h.sv'.qua hb (Nat.le_refl _), h.gl, h.lo⟩
theorem RtS.fin (h : RtS g w bb sv pv rv ck tk W) (op tok seq : Int) (text task : ByteArray) (num up : Int) (yes : Bool) : K8 138 (set8 W w.heap.size (.int .i64 op) (.int .i64 tok) (.int .i64 seq) (.string text) (.string task) (.int .i64 num) (.int .i64 up) (.bool yes)) w.heap.size (.int .i64 op) (.int .i64 tok) (.int .i64 seq) (.string text) (.string task) (.int .i64 num) (.int .i64 up) (.bool yes) ∧ Drw (set8 W w.heap.size (.int .i64 op) (.int .i64 tok) (.int .i64 seq) (.string text) (.string task) (.int .i64 num) (.int .i64 up) (.bool yes)) g ∧ Save g w (set8 W w.heap.size (.int .i64 op) (.int .i64 tok) (.int .i64 seq) (.string text) (.string task) (.int .i64 num) (.int .i64 up) (.bool yes)) :=
  have hb : Below w.heap.size W (set8 W w.heap.size (.int .i64 op) (.int .i64 tok) (.int .i64 seq) (.string text) (.string task) (.int .i64 num) (.int .i64 up) (.bool yes)) := below_set8 (Below.refl _ _) (Nat.le_refl _) _ _ _ _ _ _ _ _
  ⟨h.res.set _ _ _ _ _ _ _ _, h.drw.keep (hb.mono h.gl), h.sv'.qua hb (Nat.le_refl _)⟩
end
theorem own_one {α : Type} [Rec α] {W : World} {B : Nat} {e : TypeId} {v : Value} {x : α} (h : ownsR W B e v [x]) : ∃ r c, v = .slice (some ⟨r, 0, none⟩) 1 c ∧ B ≤ r ∧ r < W.heap.size ∧ ∀ j u, (Rec.cells x)[j]? = some u → W.cell? ⟨r, j, none⟩ = some u := by
  rcases id h.2 with ⟨rfl, h0⟩ | ⟨r, cap, cur, rfl, hb, hg, _⟩
  · simp at h0
  · obtain ⟨h1, h2, h3, h4⟩ := h.at (i := 0) (x := x) rfl
    refine ⟨r, cap, rfl, h2, h1, fun j u hu => ?_⟩
    have hj : j < Rec.width α := by
      have := (List.getElem?_eq_some_iff.1 hu).1
      rw [Rec.len] at this
      exact this
    have h5 := (h4 j hj).1
    rw [Nat.zero_mul, Nat.zero_add] at h5
    rw [h5, hu]
def RtP (g : Nat) (w : World) (e : Ending) (w' : World) : Prop :=
  ∃ (op tok seq : Int) (text task : ByteArray) (num up : Int) (yes : Bool), e = .returned (cmdV op tok seq text task num up yes) ∧ cmdB op tok seq text task num up yes = true ∧ text.size ≤ 600 ∧ task.size ≤ 8 ∧ Drw w' g ∧ Save g w w'
theorem ofP_none {g : Nat} {sv : Value} {ap ar : Option Addr} {cp cr : Nat} {ck tk : Int} (W : World) (hd : Drw W g) : Calls Tryz.prog 107 #[.pointer (some ⟨g, 0, none⟩), bdV sv (.slice ap 0 cp) (.slice ar 0 cr) ck tk] W (OfP g W) :=
  (l16Of_none g sv ap ar cp cr ck tk W hd).mono fun e w' ⟨t, h1, h2, h3, h4⟩ => ⟨2, t, _, 0, 0, false, h1, h2, by decide, by decide, by decide, by decide, h3, h4⟩

set_option maxRecDepth 10000 in
set_option maxHeartbeats 8000000 in
theorem l17Right_any (g : Nat) (w : World) (hd : Drw w g) : Calls Tryz.prog 86 #[.pointer (some ⟨g, 0, none⟩)] w (RtP g w) := by
  have hgl : g < w.heap.size := hd.lt
  obtain ⟨T, HT⟩ : ∃ T, Hid (annT = T) := ⟨_, rfl⟩
  obtain ⟨W0, HW0⟩ : ∃ W0, Hid (w.alloc (.cells #[.int .i64 0, .int .i64 0, .int .i64 0, .string ⟨#[]⟩, .string ⟨#[]⟩, .int .i64 0, .int .i64 0, .bool false] 138) = W0) := ⟨_, rfl⟩
  have Z0 : Hid (K8 138 W0 w.heap.size (.int .i64 0) (.int .i64 0) (.int .i64 0) (.string ⟨#[]⟩) (.string ⟨#[]⟩) (.int .i64 0) (.int .i64 0) (.bool false)) := by show K8 _ _ _ _ _ _ _ _ _ _ _; rw [← HW0.out]; exact K8.new _ _ _ _ _ _ _ _ _ _
  have B0 : Hid (Below w.heap.size w W0) := by show Below _ _ _; rw [← HW0.out]; exact ba (Below.refl _ _) _
  go_enter Tryz.func86, Tryz.ntmps86
  go_wp2_with fail
  rw [HW0.out]
  refine (boardNew_any W0).mono ?_
  rintro x W1 ⟨rfl, hb1⟩
  obtain ⟨W2, HW2⟩ : ∃ W2, Hid (W1.alloc (.cells #[.slice none 0 0, .slice none 0 0, .slice none 0 0, .int .i64 0, .int .i64 1] 151) = W2) := ⟨_, rfl⟩
  have HR2 : Hid (RtS g w W1.heap.size (.slice none 0 0) (.slice none 0 0) (.slice none 0 0) 0 1 W2) := by
    show RtS _ _ _ _ _ _ _ _ _
    have h0 := B0.out.size
    have h1 := hb1.size
    have hb : Below W0.heap.size W0 W2 := by rw [← HW2.out]; exact ba hb1 _
    have hw : Below w.heap.size w W2 := B0.out.trans (hb.mono h0)
    exact ⟨Z0.out.up hb, by rw [← HW2.out]; exact B5.new _ _ _ _ _ _ _, hd.keep (hw.mono hgl), Save.of_below hw, hgl, by omega⟩
  clear hb1 B0 Z0 HW0 hd
  obtain ⟨bb, hbb⟩ : ∃ bb, W1.heap.size = bb := ⟨_, rfl⟩
  rw [hbb] at HR2
  go_wp2_with fail
  try rw [hbb]
  rw [HW2.out]
  refine (qga g 5 _ HR2.out.drw (by decide) (by decide)).mono ?_
  rintro x W3 ⟨q, rfl, q0, q1, hd3, hs3⟩
  have HR3 : Hid (RtS g w bb (.slice none 0 0) (.slice none 0 0) (.slice none 0 0) 0 1 W3) := HR2.out.save hs3 hd3
  clear HR2 hd3 hs3 HW2 hbb
  go_wp2_with fail
  refine (qga g 4 _ HR3.out.drw (by decide) (by decide)).mono ?_
  rintro x W4 ⟨sl, rfl, l0, l1, hd4, hs4⟩
  have HR4 : Hid (RtS g w bb (.slice none 0 0) (.slice none 0 0) (.slice none 0 0) 0 1 W4) := HR3.out.save hs4 hd4
  clear HR3 hd4 hs4
  obtain ⟨st, hst⟩ : ∃ st, 1 + q = st := ⟨_, rfl⟩
  have HR5 : Hid (RtS g w bb (.slice (some ⟨W4.heap.size, 0, none⟩) 1 1) (.slice none 0 0) (.slice none 0 0) 0 1 ((W4.setCell ⟨bb, 0, none⟩ (.slice (some ⟨W4.heap.size, 0, none⟩) 1 1)).alloc (.cells #[.int .i64 st, .int .i64 sl, .string ⟨#[]⟩] 154))) := (HR4.out.set0 _).up (ba (Below.refl _ _) _)
  have HSE : Hid (K3 154 ((W4.setCell ⟨bb, 0, none⟩ (.slice (some ⟨W4.heap.size, 0, none⟩) 1 1)).alloc (.cells #[.int .i64 st, .int .i64 sl, .string ⟨#[]⟩] 154)) W4.heap.size (.int .i64 st) (.int .i64 sl) (.string ⟨#[]⟩))  := by
    have h := K3.new 154 (W4.setCell ⟨bb, 0, none⟩ (.slice (some ⟨W4.heap.size, 0, none⟩) 1 1)) (.int .i64 st) (.int .i64 sl) (.string ⟨#[]⟩)
    rw [show (W4.setCell ⟨bb, 0, none⟩ (.slice (some ⟨W4.heap.size, 0, none⟩) 1 1)).heap.size = W4.heap.size by simp] at h
    exact h
  have hlt := HR4.out.bd.lt
  have hne : ¬ bb = W4.heap.size := by omega
  have d0 := HR4.out.bd.c0
  have z0 := HR4.out.bd.fr 0
  have hsbg : W4.heap.size ≠ g := by have := HR4.out.drw.lt; omega
  have hwb : w.heap.size ≤ W4.heap.size := HR4.out.sv'.size
  obtain ⟨W5, HW5⟩ : ∃ W5, Hid ((W4.setCell ⟨bb, 0, none⟩ (.slice (some ⟨W4.heap.size, 0, none⟩) 1 1)).alloc (.cells #[.int .i64 st, .int .i64 sl, .string ⟨#[]⟩] 154) = W5) := ⟨_, rfl⟩
  rw [HW5.out] at HR5 HSE
  clear HR4
  go_wp2_with fail
  rw [HW5.out]
  refine (qga g 50 _ HR5.out.drw (by decide) (by decide)).mono ?_
  rintro x W6 ⟨ck, rfl, c0, c1, hd6, hs6⟩
  have HR6 : Hid (RtS g w bb (.slice (some ⟨W4.heap.size, 0, none⟩) 1 1) (.slice none 0 0) (.slice none 0 0) 0 1 W6) := HR5.out.save hs6 hd6
  have HS6 : Hid (K3 154 W6 W4.heap.size (.int .i64 st) (.int .i64 sl) (.string ⟨#[]⟩)) := HSE.out.save hs6 hsbg
  obtain ⟨sb, hsb⟩ : ∃ sb, W4.heap.size = sb := ⟨_, rfl⟩
  rw [hsb] at HR6 HS6 hsbg hwb
  rw [hsb]
  clear HR5 HSE HW5 hd6 hs6 hlt hne d0 z0 hsb
  have d3 := HR6.out.bd.c3
  have z3 := HR6.out.bd.fr 3
  have HR7 : Hid (RtS g w bb (.slice (some ⟨sb, 0, none⟩) 1 1) (.slice none 0 0) (.slice none 0 0) ck 1 (W6.setCell ⟨bb, 3, none⟩ (.int .i64 ck))) := HR6.out.set3 ck
  have HS7 : Hid (K3 154 (W6.setCell ⟨bb, 3, none⟩ (.int .i64 ck)) sb (.int .i64 st) (.int .i64 sl) (.string ⟨#[]⟩)) := HS6.out.far (HR6.out.bd.ty.ne HS6.out.ty (by decide)) _
  clear HR6 HS6
  go_wp2_with fail
  refine (qxa g 2 _ HR7.out.drw (by decide) (by decide)).mono ?_
  rintro x W8 ⟨b, rfl, hd8, hs8⟩
  have HR8 : Hid (RtS g w bb (.slice (some ⟨sb, 0, none⟩) 1 1) (.slice none 0 0) (.slice none 0 0) ck 1 W8) := HR7.out.save hs8 hd8
  have HS8 : Hid (K3 154 W8 sb (.int .i64 st) (.int .i64 sl) (.string ⟨#[]⟩)) := HS7.out.save hs8 hsbg
  clear HR7 HS7 hd8 hs8 d3 z3
  have hst0 : 0 ≤ st := by omega
  have hst1 : st ≤ 1000 := by omega
  have hsl1 : sl ≤ 1000 := by omega
  clear hst q0 q1
  cases b with
  | false =>
    have HCM : Hid (Calls Tryz.prog 98 #[.pointer (some ⟨g, 0, none⟩), bdV (.slice (some ⟨sb, 0, none⟩) 1 1) (.slice none 0 0) (.slice none 0 0) ck 1] W8 (CoP g W8)) := l16Command_any g sb 1 (.slice none 0 0) none 0 ck 1 st sl ⟨#[]⟩ W8 HR8.out.drw HS8.out.c0 HS8.out.c1 HS8.out.c2 hsbg HS8.out.lt ⟨hst0, hst1⟩ ⟨l0, hsl1⟩ (fun W _ h => ofP_none W h)
    clear HS8
    have d0 := HR8.out.bd.c0
    have d1 := HR8.out.bd.c1
    have d2 := HR8.out.bd.c2
    have d3 := HR8.out.bd.c3
    have d4 := HR8.out.bd.c4
    go_wp2_with fail
    refine HCM.out.mono ?_
    rintro x V1 ⟨op, tok, seq, text, task, num, up, yes, rfl, htx, htk, _, _, _, _, _, hdv, hsv⟩
    have HV1 : Hid (RtS g w bb (.slice (some ⟨sb, 0, none⟩) 1 1) (.slice none 0 0) (.slice none 0 0) ck 1 V1) := HR8.out.save hsv hdv
    clear HR8 hdv hsv HCM d0 d1 d2 d3 d4
    obtain ⟨V2, HV2⟩ : ∃ V2, Hid (V1.alloc (.cells #[.int .i64 op, .int .i64 tok, .int .i64 seq, .string text, .string task, .int .i64 num, .int .i64 up, .bool yes] 138) = V2) := ⟨_, rfl⟩
    have HX2 : Hid (K8 138 V2 V1.heap.size (.int .i64 op) (.int .i64 tok) (.int .i64 seq) (.string text) (.string task) (.int .i64 num) (.int .i64 up) (.bool yes)) := by show K8 _ _ _ _ _ _ _ _ _ _ _; rw [← HV2.out]; exact K8.new _ _ _ _ _ _ _ _ _ _
    have HR2 : Hid (RtS g w bb (.slice (some ⟨sb, 0, none⟩) 1 1) (.slice none 0 0) (.slice none 0 0) ck 1 V2) := by show RtS _ _ _ _ _ _ _ _ _; rw [← HV2.out]; exact HV1.out.up (ba (Below.refl _ _) _)
    have hbn : V1.heap.size ≠ w.heap.size := by have := HV1.out.res.lt; omega
    have HCO : Hid (Calls Tryz.prog 92 #[.agg #[.int .i64 op, .int .i64 tok, .int .i64 seq, .string text, .string task, .int .i64 num, .int .i64 up, .bool yes]] V2 fun e w' => e = .returned (.bool (cmdB op tok seq text task num up yes)) ∧ Below V2.heap.size V2 w') := commandOk_any op tok seq text task num up yes V2 (by omega) (by omega)
    clear HV1
    go_wp2_with fail
    rw [HV2.out]
    refine HCO.out.mono ?_
    rintro x V3 ⟨rfl, hb3⟩
    have HR3 : Hid (RtS g w bb (.slice (some ⟨sb, 0, none⟩) 1 1) (.slice none 0 0) (.slice none 0 0) ck 1 V3) := HR2.out.up hb3
    have HX3 := HX2.out.up hb3
    have e0 := HX3.c0
    have e1 := HX3.c1
    have e2 := HX3.c2
    have e3 := HX3.c3
    have e4 := HX3.c4
    have e5 := HX3.c5
    have e6 := HX3.c6
    have e7 := HX3.c7
    have r0 := HR3.out.res.c0
    have f0 := HR3.out.res.fz 0
    have r1 := HR3.out.res.c1
    have f1 := HR3.out.res.fz 1
    have r2 := HR3.out.res.c2
    have f2 := HR3.out.res.fz 2
    have r3 := HR3.out.res.c3
    have f3 := HR3.out.res.fz 3
    have r4 := HR3.out.res.c4
    have f4 := HR3.out.res.fz 4
    have r5 := HR3.out.res.c5
    have f5 := HR3.out.res.fz 5
    have r6 := HR3.out.res.c6
    have f6 := HR3.out.res.fz 6
    have r7 := HR3.out.res.c7
    have f7 := HR3.out.res.fz 7
    clear HR2 HX2 HCO HX3 hb3 HV2
    cases hq : cmdB op tok seq text task num up yes with
    | true =>
      have HF : Hid _ := HR3.out.fin op tok seq text task num up yes
      have HQ : Hid (cmdB op tok seq text task num up yes = true) := hq
      clear HR3 hq
      go_wp2
      refine bodyPost_ret (qjb (p := 2) (by kernel_rfl) (by kernel_rfl) HF.out.1) rfl ?_
      exact ⟨op, tok, seq, text, task, num, up, yes, rfl, HQ.out, htx, htk, HF.out.2.1, HF.out.2.2⟩
    | false =>
      have HF : Hid _ := HR3.out.fin 5 1 1 ⟨#[]⟩ ⟨#[]⟩ 0 0 false
      clear HR3 hq
      go_wp2
      refine bodyPost_ret (qjb (p := 2) (by kernel_rfl) (by kernel_rfl) HF.out.1) rfl ?_
      exact ⟨5, 1, 1, _, _, 0, 0, false, rfl, by decide +kernel, by decide, by decide, HF.out.2.1, HF.out.2.2⟩
  | true =>
    have HSB : Hid (Calls Tryz.prog 97 #[bdV (.slice (some ⟨sb, 0, none⟩) 1 1) (.slice none 0 0) (.slice none 0 0) ck 1, .string annT] W8 fun e w' => ∃ (sv' pv x : Value) (xr : Addr) (tv : Value), e = .returned (.tuple #[bdV sv' pv (.slice (some xr) 0 0) ck 1, x]) ∧ ownsR w' W8.heap.size 154 sv' [Se.mk st sl ⟨#[]⟩] ∧ ownsR w' W8.heap.size 168 pv [annP tv] ∧ Below W8.heap.size W8 w') := submit_ann _ none none 0 0 ck 1 [Se.mk st sl ⟨#[]⟩] W8 (by
      refine ⟨some ⟨sb, 0, none⟩, 1, rfl, fun _ => ⟨sb, 0, rfl, HS8.out.lt, fun i y hy j u hu => ?_⟩⟩
      match i, hy with
      | 0, hy =>
        simp only [List.getElem?_cons_zero, Option.some.injEq] at hy
        subst hy
        match j, hu with
        | 0, hu => cases hu; exact HS8.out.c0
        | 1, hu => cases hu; exact HS8.out.c1
        | 2, hu => cases hu; exact HS8.out.c2
        | j + 3, hu => simp [Rec.cells] at hu
      | i + 1, hy => simp at hy) (by simp)
    have d0 := HR8.out.bd.c0
    have d1 := HR8.out.bd.c1
    have d2 := HR8.out.bd.c2
    have d3 := HR8.out.bd.c3
    have d4 := HR8.out.bd.c4
    rw [HT.out] at HSB
    go_wp2_with fail
    first | rw [show (⟨#[100, 97, 103, 32, 97, 110, 110, 10, 99, 114, 111, 110, 32, 42, 32, 42, 32, 42, 32, 42, 32, 42, 10, 102, 114, 111, 109, 32, 48, 10, 116, 111, 32, 57, 48, 10, 99, 97, 116, 99, 104, 117, 112, 10, 116, 97, 115, 107, 32, 97, 32, 111, 110, 101, 32, 49, 32, 102, 114, 101, 101, 10]⟩ : ByteArray) = T from HT.out] | skip
    refine HSB.out.mono ?_
    rintro x W9 ⟨sv', pv, y, xr, tv, rfl, hos, hop, hb9⟩
    have HR9 : Hid (RtS g w bb (.slice (some ⟨sb, 0, none⟩) 1 1) (.slice none 0 0) (.slice none 0 0) ck 1 W9) := HR8.out.up hb9
    have hg8 := HR8.out.drw.lt
    clear HR8 HS8 HSB d0 d1 d2 d3 d4 hb9
    have hos1 := ownsR_set5b hos HR9.out.bd (by decide) sv' pv (.slice (some xr) 0 0) (.int .i64 ck) (.int .i64 1)
    have hop1 := ownsR_set5b hop HR9.out.bd (by decide) sv' pv (.slice (some xr) 0 0) (.int .i64 ck) (.int .i64 1)
    have HRA : Hid (RtS g w bb sv' pv (.slice (some xr) 0 0) ck 1 (set5 W9 bb sv' pv (.slice (some xr) 0 0) (.int .i64 ck) (.int .i64 1))) := HR9.out.set5 _ _ _ _ _
    obtain ⟨s2, sc, rfl, hs8, hs9, hsc⟩ := own_one hos1
    obtain ⟨pb, pc, rfl, hp8, hp9, hpc⟩ := own_one hop1
    have HCM : Hid (Calls Tryz.prog 98 #[.pointer (some ⟨g, 0, none⟩), bdV (.slice (some ⟨s2, 0, none⟩) 1 sc) (.slice (some ⟨pb, 0, none⟩) 1 pc) (.slice (some xr) 0 0) ck 1] (set5 W9 bb (.slice (some ⟨s2, 0, none⟩) 1 sc) (.slice (some ⟨pb, 0, none⟩) 1 pc) (.slice (some xr) 0 0) (.int .i64 ck) (.int .i64 1)) (CoP g (set5 W9 bb (.slice (some ⟨s2, 0, none⟩) 1 sc) (.slice (some ⟨pb, 0, none⟩) 1 pc) (.slice (some xr) 0 0) (.int .i64 ck) (.int .i64 1)))) := l16Command_any g s2 sc _ (some xr) 0 ck 1 st sl ⟨#[]⟩ _ HRA.out.drw (hsc 0 _ rfl) (hsc 1 _ rfl) (hsc 2 _ rfl) (by omega) hs9 ⟨hst0, hst1⟩ ⟨l0, hsl1⟩ (fun W hs h => l16Of_ann g _ pb pc (some xr) 0 ck 1 W h (hs.cell (p := ⟨pb, 0, none⟩) (by show pb ≠ g; omega) (hpc 0 _ rfl)) (by omega) (by have := hs.size; omega) ⟨c0, by omega⟩ (by decide))
    clear hos hop hos1 hop1 hs8 hs9 hsc hp8 hp9 hpc
    have d0 := HR9.out.bd.c0
    have d1 := HR9.out.bd.c1
    have d2 := HR9.out.bd.c2
    have d3 := HR9.out.bd.c3
    have d4 := HR9.out.bd.c4
    have g0 := HR9.out.bd.fr 0
    have g1 := HR9.out.bd.fr 1
    have g2 := HR9.out.bd.fr 2
    have g3 := HR9.out.bd.fr 3
    have g4 := HR9.out.bd.fr 4
    clear HR9
    go_wp2_with fail
    refine HCM.out.mono ?_
    rintro x V1 ⟨op, tok, seq, text, task, num, up, yes, rfl, htx, htk, _, _, _, _, _, hdv, hsv⟩
    have HV1 : Hid (RtS g w bb (.slice (some ⟨s2, 0, none⟩) 1 sc) (.slice (some ⟨pb, 0, none⟩) 1 pc) (.slice (some xr) 0 0) ck 1 V1) := HRA.out.save hsv hdv
    clear HRA hdv hsv HCM d0 d1 d2 d3 d4
    obtain ⟨V2, HV2⟩ : ∃ V2, Hid (V1.alloc (.cells #[.int .i64 op, .int .i64 tok, .int .i64 seq, .string text, .string task, .int .i64 num, .int .i64 up, .bool yes] 138) = V2) := ⟨_, rfl⟩
    have HX2 : Hid (K8 138 V2 V1.heap.size (.int .i64 op) (.int .i64 tok) (.int .i64 seq) (.string text) (.string task) (.int .i64 num) (.int .i64 up) (.bool yes)) := by show K8 _ _ _ _ _ _ _ _ _ _ _; rw [← HV2.out]; exact K8.new _ _ _ _ _ _ _ _ _ _
    have HR2 : Hid (RtS g w bb (.slice (some ⟨s2, 0, none⟩) 1 sc) (.slice (some ⟨pb, 0, none⟩) 1 pc) (.slice (some xr) 0 0) ck 1 V2) := by show RtS _ _ _ _ _ _ _ _ _; rw [← HV2.out]; exact HV1.out.up (ba (Below.refl _ _) _)
    have hbn : V1.heap.size ≠ w.heap.size := by have := HV1.out.res.lt; omega
    have HCO : Hid (Calls Tryz.prog 92 #[.agg #[.int .i64 op, .int .i64 tok, .int .i64 seq, .string text, .string task, .int .i64 num, .int .i64 up, .bool yes]] V2 fun e w' => e = .returned (.bool (cmdB op tok seq text task num up yes)) ∧ Below V2.heap.size V2 w') := commandOk_any op tok seq text task num up yes V2 (by omega) (by omega)
    clear HV1
    go_wp2_with fail
    rw [HV2.out]
    refine HCO.out.mono ?_
    rintro x V3 ⟨rfl, hb3⟩
    have HR3 : Hid (RtS g w bb (.slice (some ⟨s2, 0, none⟩) 1 sc) (.slice (some ⟨pb, 0, none⟩) 1 pc) (.slice (some xr) 0 0) ck 1 V3) := HR2.out.up hb3
    have HX3 := HX2.out.up hb3
    have e0 := HX3.c0
    have e1 := HX3.c1
    have e2 := HX3.c2
    have e3 := HX3.c3
    have e4 := HX3.c4
    have e5 := HX3.c5
    have e6 := HX3.c6
    have e7 := HX3.c7
    have r0 := HR3.out.res.c0
    have f0 := HR3.out.res.fz 0
    have r1 := HR3.out.res.c1
    have f1 := HR3.out.res.fz 1
    have r2 := HR3.out.res.c2
    have f2 := HR3.out.res.fz 2
    have r3 := HR3.out.res.c3
    have f3 := HR3.out.res.fz 3
    have r4 := HR3.out.res.c4
    have f4 := HR3.out.res.fz 4
    have r5 := HR3.out.res.c5
    have f5 := HR3.out.res.fz 5
    have r6 := HR3.out.res.c6
    have f6 := HR3.out.res.fz 6
    have r7 := HR3.out.res.c7
    have f7 := HR3.out.res.fz 7
    clear HR2 HX2 HCO HX3 hb3 HV2
    cases hq : cmdB op tok seq text task num up yes with
    | true =>
      have HF : Hid _ := HR3.out.fin op tok seq text task num up yes
      have HQ : Hid (cmdB op tok seq text task num up yes = true) := hq
      clear HR3 hq
      go_wp2
      refine bodyPost_ret (qjb (p := 2) (by kernel_rfl) (by kernel_rfl) HF.out.1) rfl ?_
      exact ⟨op, tok, seq, text, task, num, up, yes, rfl, HQ.out, htx, htk, HF.out.2.1, HF.out.2.2⟩
    | false =>
      have HF : Hid _ := HR3.out.fin 5 1 1 ⟨#[]⟩ ⟨#[]⟩ 0 0 false
      clear HR3 hq
      go_wp2
      refine bodyPost_ret (qjb (p := 2) (by kernel_rfl) (by kernel_rfl) HF.out.1) rfl ?_
      exact ⟨5, 1, 1, _, _, 0, 0, false, rfl, by decide +kernel, by decide, by decide, HF.out.2.1, HF.out.2.2⟩
end Go.Proofs.YtpjpheicldegkaaGreatDoor

namespace Go.Proofs.YtpjpheicldegkaaGreatDoor
open Go Go.RowKit
set_option linter.unusedVariables false

structure EnS (g : Nat) (w : World) (b : Nat) (t k : Int) (d : ByteArray) (W : World) : Prop where
  res : K3 59 W w.heap.size (.int .i64 0) (.int .i64 0) (.string ⟨#[]⟩)
  en : K3 59 W b (.int .i64 t) (.int .i64 k) (.string d)
  drw : Drw W g
  sv : Save g w W
  gl : g < w.heap.size
  lo : w.heap.size < b
section
variable {g : Nat} {w W W' : World} {b : Nat} {t k : Int} {d : ByteArray}
theorem EnS.save (h : EnS g w b t k d W) (hs : Save g W W') (hd : Drw W' g) : EnS g w b t k d W' :=
  ⟨h.res.save hs (by have := h.gl; omega), h.en.save hs (by have := h.gl; have := h.lo; omega), hd, h.sv.trans hs, h.gl, h.lo⟩
theorem EnS.up (h : EnS g w b t k d W) (hb : Below W.heap.size W W') : EnS g w b t k d W' := h.save (Save.of_below hb) (h.drw.keep (hb.mono h.drw.lt))
theorem EnS.put {t' k' : Int} {d' : ByteArray} (h : EnS g w b t k d W) (hw : Below w.heap.size W W') (hr : W'.heap[w.heap.size]? = W.heap[w.heap.size]?) (he : K3 59 W' b (.int .i64 t') (.int .i64 k') (.string d')) : EnS g w b t' k' d' W' :=
  ⟨hr.trans h.res, he, h.drw.keep (hw.mono h.gl), h.sv.qua hw (Nat.le_refl _), h.gl, h.lo⟩
theorem set_otherE (W : World) {p : Addr} {q : Nat} (h : p.block ≠ q) (u : Value) : (W.setCell p u).heap[q]? = W.heap[q]? := heap_setCell_other W p q u (Ne.symm h)
theorem EnS.set0 (h : EnS g w b t k d W) (u : Int) : EnS g w b u k d (W.setCell ⟨b, 0, none⟩ (.int .i64 u)) :=
  h.put (Below.setCell (Below.refl _ _) (by show w.heap.size ≤ b; have := h.lo; omega) _) (set_otherE W (by show b ≠ _; have := h.lo; omega) _) (h.en.s0 _)
theorem EnS.set1 (h : EnS g w b t k d W) (u : Int) : EnS g w b t u d (W.setCell ⟨b, 1, none⟩ (.int .i64 u)) :=
  h.put (Below.setCell (Below.refl _ _) (by show w.heap.size ≤ b; have := h.lo; omega) _) (set_otherE W (by show b ≠ _; have := h.lo; omega) _) (h.en.s1 _)
theorem EnS.set2 (h : EnS g w b t k d W) (u : ByteArray) : EnS g w b t k u (W.setCell ⟨b, 2, none⟩ (.string u)) :=
  h.put (Below.setCell (Below.refl _ _) (by show w.heap.size ≤ b; have := h.lo; omega) _) (set_otherE W (by show b ≠ _; have := h.lo; omega) _) (h.en.s2 _)
theorem EnS.set3 (h : EnS g w b t k d W) (t' k' : Int) (d' : ByteArray) : EnS g w b t' k' d' (((W.setCell ⟨b, 0, none⟩ (.int .i64 t')).setCell ⟨b, 1, none⟩ (.int .i64 k')).setCell ⟨b, 2, none⟩ (.string d')) := ((h.set0 t').set1 k').set2 d'
abbrev set3E (W : World) (b : Nat) (x y z : Value) : World := ((W.setCell ⟨b, 0, none⟩ x).setCell ⟨b, 1, none⟩ y).setCell ⟨b, 2, none⟩ z
theorem EnS.fin (h : EnS g w b t k d W) : K3 59 (set3E W w.heap.size (.int .i64 t) (.int .i64 k) (.string d)) w.heap.size (.int .i64 t) (.int .i64 k) (.string d) ∧ Drw (set3E W w.heap.size (.int .i64 t) (.int .i64 k) (.string d)) g ∧ Save g w (set3E W w.heap.size (.int .i64 t) (.int .i64 k) (.string d)) :=
  have hb : Below w.heap.size W (set3E W w.heap.size (.int .i64 t) (.int .i64 k) (.string d)) := Below.setCell (p := ⟨w.heap.size, 2, none⟩) (Below.setCell (p := ⟨w.heap.size, 1, none⟩) (Below.setCell (p := ⟨w.heap.size, 0, none⟩) (Below.refl _ _) (Nat.le_refl _) _) (Nat.le_refl _) _) (Nat.le_refl _) _
  ⟨((h.res.s0 _).s1 _).s2 _, h.drw.keep (hb.mono h.gl), h.sv.qua hb (Nat.le_refl _)⟩
end
theorem ret_e1 {W : World} {b : Nat} {x0 x1 x2 : Value} {fn : Func} {p : Tmp} {tmps : Array Value} (h : fn.results = #[.cell p 59]) (hp : tmps.getD p undef = .pointer (some ⟨b, 0, none⟩)) (hb : K3 59 W b x0 x1 x2) :
    (results fn tmps).run Tryz.prog W = .ok (.agg #[x0, x1, x2]) W := by
  have hp' : tmps[p]?.getD undef = .pointer (some ⟨b, 0, none⟩) := by simpa using hp
  simp [results, h, hp', hb.c0, hb.c1, hb.c2, asAddr, go_sem]
def EnD (g : Nat) (w : World) (e : Ending) (w' : World) : Prop :=
  ∃ (t k : Int) (d : ByteArray), e = .returned (.agg #[.int .i64 t, .int .i64 k, .string d]) ∧ d.size ≤ 1000 ∧ Drw w' g ∧ Save g w w'
theorem EnS.end {g : Nat} {w W : World} {b : Nat} {t k : Int} {d : ByteArray} (h : EnS g w b t k d W) (hd : d.size ≤ 1000) : EnD g w (.returned (.agg #[.int .i64 t, .int .i64 k, .string d])) (set3E W w.heap.size (.int .i64 t) (.int .i64 k) (.string d)) := ⟨t, k, d, rfl, hd, h.fin.2.1, h.fin.2.2⟩

theorem textC_size4 (cs : List Int) : (textC cs).size ≤ 4 := by
  unfold textC
  cases h : okC cs with
  | false => exact Nat.zero_le _
  | true =>
    show (bstr cs).size ≤ 4
    have e : (bstr cs).size = cs.length := by simp [bstr, ByteArray.size]
    rw [e]
    exact okC_len h
set_option maxRecDepth 10000 in
set_option maxHeartbeats 2000000 in
theorem l05Right_any (g : Nat) (t : Int) (w : World) (hd : Drw w g) : Calls Tryz.prog 70 #[.pointer (some ⟨g, 0, none⟩), .int .i64 t] w (EnD g w) := by
  have hgl : g < w.heap.size := hd.lt
  obtain ⟨W0, HW0⟩ : ∃ W0, Hid (w.alloc (.cells #[.int .i64 0, .int .i64 0, .string ⟨#[]⟩] 59) = W0) := ⟨_, rfl⟩
  have Z0 : Hid (K3 59 W0 w.heap.size (.int .i64 0) (.int .i64 0) (.string ⟨#[]⟩)) := by rw [← HW0.out]; exact K3.new _ _ _ _ _
  have B0 : Hid (Below w.heap.size w W0) := by rw [← HW0.out]; exact ba (Below.refl _ _) _
  have D0 : Hid (Drw W0 g) := hd.keep (B0.out.mono hgl)
  clear hd
  go_enter Tryz.func70, Tryz.ntmps70
  go_wp2_with fail
  have hz0 : w.heap.size + 1 = W0.heap.size := by rw [← HW0.out]; simp
  rw [HW0.out]
  try rw [hz0]
  refine (qnb g [1, 2, 3, 3, 3] W0 W0 D0.out (Save.refl _ _) (by decide) (by decide) (by decide) #[.int .i64 1, .int .i64 2, .int .i64 3, .int .i64 3, .int .i64 3] rfl 5 rfl).mono ?_
  rintro x W1 ⟨z, rfl, -, -, hd1, hs1⟩
  obtain ⟨W2, HW2⟩ : ∃ W2, Hid (W1.alloc (.cells #[.int .i64 t, .int .i64 z, .string ⟨#[]⟩] 59) = W2) := ⟨_, rfl⟩
  have HE : Hid (EnS g w W1.heap.size t z ⟨#[]⟩ W2) := by
    have h0 := B0.out.size
    have h1 := hs1.size
    have h2 := Z0.out.lt
    have hz : K3 59 W1 w.heap.size (.int .i64 0) (.int .i64 0) (.string ⟨#[]⟩) := Z0.out.save hs1 (by omega)
    rw [← HW2.out]
    exact ⟨hz.alloc _, K3.new _ _ _ _ _, hd1.keep ((ba (Below.refl _ _) _).mono hd1.lt), ((Save.of_below B0.out).trans hs1).alloc _, hgl, by omega⟩
  clear hd1 hs1 Z0 B0 D0 HW0
  by_cases h2 : z = 2
  · subst h2
    go_wp2_with fail
    obtain ⟨b, hb⟩ : ∃ b, W1.heap.size = b := ⟨_, rfl⟩
    rw [hb] at HE
    rw [HW2.out]
    try rw [hb]
    clear hb HW2
    refine (l05Conf_any g W2 HE.out.drw).mono ?_
    rintro x W3 ⟨v, l, rfl, hl, hr, hc⟩
    have HE3 : Hid (EnS g w b t 2 ⟨#[]⟩ W3) := HE.out.save hc.sv hc.drw
    have HR : Hid (Reads W3 v l) := hc.own.reads
    have hl4 := hr.len
    clear hc hr HE hl
    go_wp2_with fail
    refine (specConfText_any HR.out (by omega)).mono ?_
    unfold textV
    rintro x W4 ⟨rfl, hb4⟩
    have HE4 : Hid (EnS g w b t 2 ⟨#[]⟩ W4) := HE3.out.up hb4
    obtain ⟨d, hdd⟩ : ∃ d, textC l = d := ⟨_, rfl⟩
    obtain ⟨q, hqq⟩ : ∃ q, okC l = q := ⟨_, rfl⟩
    have hd4 : d.size ≤ 4 := by rw [← hdd]; exact textC_size4 l
    rw [hdd, hqq]
    clear hdd hqq hb4 HE3 HR
    have HE : Hid (EnS g w b t 2 d (W4.setCell ⟨b, 2, none⟩ (.string d))) := HE4.out.set2 d
    have i2 := HE4.out.en.c2
    have j2 := HE4.out.en.fz 2
    have e0 := HE.out.en.c0
    have r0 := HE.out.res.c0
    have f0 := HE.out.res.fz 0
    have e1 := HE.out.en.c1
    have r1 := HE.out.res.c1
    have f1 := HE.out.res.fz 1
    have e2 := HE.out.en.c2
    have r2 := HE.out.res.c2
    have f2 := HE.out.res.fz 2
    go_wp2
    exact bodyPost_ret (ret_e1 (p := 4) (by kernel_rfl) (by kernel_rfl) HE.out.fin.1) rfl (HE.out.end (by omega))
  · have e2 : (z == 2) = false := beq_eq_false_iff_ne.2 h2
    by_cases h3 : z = 3
    · subst h3
      go_wp2_with fail
      obtain ⟨b, hb⟩ : ∃ b, W1.heap.size = b := ⟨_, rfl⟩
      rw [hb] at HE
      rw [HW2.out]
      try rw [hb]
      clear hb HW2
      refine (l17Right_any g W2 HE.out.drw).mono ?_
      rintro x W3 ⟨op, tok, seq, text, task, num, up, yes, rfl, hq, ht, hk, hd3, hs3⟩
      have HE3 : Hid (EnS g w b t 3 ⟨#[]⟩ W3) := HE.out.save hs3 hd3
      clear HE hd3 hs3 hq
      go_wp2_with fail
      refine (commandText_any op tok seq text task num up yes _ (by omega) (by omega)).mono ?_
      rintro x W4 ⟨rfl, hb4⟩
      have HE4 : Hid (EnS g w b t 3 ⟨#[]⟩ W4) := HE3.out.up hb4
      have hd4 : (cmtX op tok seq text task num up yes).size ≤ 1000 := cmtX_size
      obtain ⟨d, hdd⟩ : ∃ d, cmtX op tok seq text task num up yes = d := ⟨_, rfl⟩
      obtain ⟨q, hqq⟩ : ∃ q, cmdB op tok seq text task num up yes = q := ⟨_, rfl⟩
      rw [hdd] at hd4
      rw [hdd, hqq]
      clear hdd hqq hb4 HE3 ht hk
      have HE : Hid (EnS g w b t 3 d (W4.setCell ⟨b, 2, none⟩ (.string d))) := HE4.out.set2 d
      have i2 := HE4.out.en.c2
      have j2 := HE4.out.en.fz 2
      have e0 := HE.out.en.c0
      have r0 := HE.out.res.c0
      have f0 := HE.out.res.fz 0
      have e1 := HE.out.en.c1
      have r1 := HE.out.res.c1
      have f1 := HE.out.res.fz 1
      have e2 := HE.out.en.c2
      have r2 := HE.out.res.c2
      have f2 := HE.out.res.fz 2
      go_wp2
      exact bodyPost_ret (ret_e1 (p := 4) (by kernel_rfl) (by kernel_rfl) HE.out.fin.1) rfl (HE.out.end hd4)
    · have e3 : (z == 3) = false := beq_eq_false_iff_ne.2 h3
      have hz0 : (⟨#[]⟩ : ByteArray).size ≤ 1000 := Nat.zero_le _
      have HE' := HE.out
      rw [← HW2.out] at HE'
      have HE : Hid _ := HE'
      clear HE'
      have e0 := HE.out.en.c0
      have r0 := HE.out.res.c0
      have f0 := HE.out.res.fz 0
      have e1 := HE.out.en.c1
      have r1 := HE.out.res.c1
      have f1 := HE.out.res.fz 1
      have e2 := HE.out.en.c2
      have r2 := HE.out.res.c2
      have f2 := HE.out.res.fz 2
      go_wp2
      exact bodyPost_ret (ret_e1 (p := 4) (by kernel_rfl) (by kernel_rfl) HE.out.fin.1) rfl (HE.out.end hz0)

set_option maxRecDepth 10000 in
set_option maxHeartbeats 2000000 in
theorem l05Any_any (g : Nat) (w : World) (hd : Drw w g) : Calls Tryz.prog 43 #[.pointer (some ⟨g, 0, none⟩)] w (EnD g w) := by
  have hgl : g < w.heap.size := hd.lt
  obtain ⟨W0, HW0⟩ : ∃ W0, Hid (w.alloc (.cells #[.int .i64 0, .int .i64 0, .string ⟨#[]⟩] 59) = W0) := ⟨_, rfl⟩
  have Z0 : Hid (K3 59 W0 w.heap.size (.int .i64 0) (.int .i64 0) (.string ⟨#[]⟩)) := by rw [← HW0.out]; exact K3.new _ _ _ _ _
  have B0 : Hid (Below w.heap.size w W0) := by rw [← HW0.out]; exact ba (Below.refl _ _) _
  have D0 : Hid (Drw W0 g) := hd.keep (B0.out.mono hgl)
  clear hd
  go_enter Tryz.func43, Tryz.ntmps43
  go_wp2_with fail
  rw [HW0.out]
  refine (qga g 9 _ D0.out (by decide) (by decide)).mono ?_
  rintro x W1 ⟨q, rfl, q0, q1, hd1, hs1⟩
  have Z1 : Hid (K3 59 W1 w.heap.size (.int .i64 0) (.int .i64 0) (.string ⟨#[]⟩)) := Z0.out.save hs1 (by omega)
  have D1 : Hid (Drw W1 g) := hd1
  have S1 : Hid (Save g w W1) := (Save.of_below B0.out).trans hs1
  clear hd1 hs1 D0 Z0 B0 HW0
  go_wp2_with fail
  refine (l05Right_any g q _ D1.out).mono ?_
  rintro x W2 ⟨t, k, d, rfl, hdz, hd2, hs2⟩
  obtain ⟨W3, HW3⟩ : ∃ V, Hid (W2.alloc (.cells #[.int .i64 t, .int .i64 k, .string d] 59) = V) := ⟨_, rfl⟩
  have HE : Hid (EnS g w W2.heap.size t k d W3) := by
    have h2 := Z1.out.lt
    have h1 := hs2.size
    have hz : K3 59 W2 w.heap.size (.int .i64 0) (.int .i64 0) (.string ⟨#[]⟩) := Z1.out.save hs2 (by omega)
    rw [← HW3.out]
    exact ⟨hz.alloc _, K3.new _ _ _ _ _, hd2.keep ((ba (Below.refl _ _) _).mono hd2.lt), (S1.out.trans hs2).alloc _, hgl, by omega⟩
  clear hd2 hs2 D1 S1 Z1 q0 q1
  go_wp2_with fail
  obtain ⟨b, hb⟩ : ∃ b, W2.heap.size = b := ⟨_, rfl⟩
  rw [hb] at HE
  rw [HW3.out]
  try rw [hb]
  clear hb HW3
  refine (qga g 30 _ HE.out.drw (by decide) (by decide)).mono ?_
  rintro x W4 ⟨r, rfl, r0, r1, hd4, hs4⟩
  have HE4 : Hid (EnS g w b t k d W4) := HE.out.save hs4 hd4
  clear hd4 hs4 HE
  by_cases h0 : r = 0
  · subst h0
    go_wp2_with fail
    refine (qnb g [-1, 100000, 100001] W4 W4 HE4.out.drw (Save.refl _ _) (by decide) (by decide) (by decide) #[.int .i64 (-1), .int .i64 100000, .int .i64 100001] rfl 3 rfl).mono ?_
    rintro x W5 ⟨z, rfl, -, -, hd5, hs5⟩
    have HE5 : Hid (EnS g w b t k d W5) := HE4.out.save hs5 hd5
    clear hd5 hs5 HE4
    have HE : Hid (EnS g w b z k d (W5.setCell ⟨b, 0, none⟩ (.int .i64 z))) := HE5.out.set0 z
    have i2 := HE5.out.en.c0
    have j2 := HE5.out.en.fz 0
    have e0 := HE.out.en.c0
    have r0 := HE.out.res.c0
    have f0 := HE.out.res.fz 0
    have e1 := HE.out.en.c1
    have r1 := HE.out.res.c1
    have f1 := HE.out.res.fz 1
    have e2 := HE.out.en.c2
    have r2 := HE.out.res.c2
    have f2 := HE.out.res.fz 2
    go_wp2
    exact bodyPost_ret (ret_e1 (p := 2) (by kernel_rfl) (by kernel_rfl) HE.out.fin.1) rfl (HE.out.end hdz)
  · have x0 : (r == 0) = false := beq_eq_false_iff_ne.2 h0
    by_cases h1 : r = 1
    · subst h1
      go_wp2_with fail
      refine (qnb g [0, 4, 1, 2] W4 W4 HE4.out.drw (Save.refl _ _) (by decide) (by decide) (by decide) #[.int .i64 0, .int .i64 4, .int .i64 1, .int .i64 2] rfl 4 rfl).mono ?_
      rintro x W5 ⟨z, rfl, -, -, hd5, hs5⟩
      have HE5 : Hid (EnS g w b t k d W5) := HE4.out.save hs5 hd5
      clear hd5 hs5 HE4
      have HE : Hid (EnS g w b t z d (W5.setCell ⟨b, 1, none⟩ (.int .i64 z))) := HE5.out.set1 z
      have i2 := HE5.out.en.c1
      have j2 := HE5.out.en.fz 1
      have e0 := HE.out.en.c0
      have r0 := HE.out.res.c0
      have f0 := HE.out.res.fz 0
      have e1 := HE.out.en.c1
      have r1 := HE.out.res.c1
      have f1 := HE.out.res.fz 1
      have e2 := HE.out.en.c2
      have r2 := HE.out.res.c2
      have f2 := HE.out.res.fz 2
      go_wp2
      exact bodyPost_ret (ret_e1 (p := 2) (by kernel_rfl) (by kernel_rfl) HE.out.fin.1) rfl (HE.out.end hdz)
    · have x1 : (r == 1) = false := beq_eq_false_iff_ne.2 h1
      by_cases h2 : r = 2
      · subst h2
        go_wp2_with fail
        refine (qga g 2 _ HE4.out.drw (by decide) (by decide)).mono ?_
        rintro x W5 ⟨u, rfl, u0, u1, hd5, hs5⟩
        have HE5 : Hid (EnS g w b t k d W5) := HE4.out.save hs5 hd5
        clear hd5 hs5 HE4
        obtain ⟨U, rfl⟩ : ∃ U : Nat, u = (U : Int) := ⟨u.toNat, by omega⟩
        have hU : U < 2 := by omega
        clear u0 u1
        go_wp2_with fail
        refine (show Calls Tryz.prog 44 #[.int .i64 (640 + (U : Int)), .int .u8 65] W5 _ from long_any (640 + U) 65 W5 (by omega) (by omega)).mono ?_
        rintro x W6 ⟨D, rfl, hD, hb6⟩
        have HE6 : Hid (EnS g w b t k d W6) := HE5.out.up hb6
        clear hb6 HE5
        have HE : Hid (EnS g w b 0 3 D (((W6.setCell ⟨b, 0, none⟩ (.int .i64 0)).setCell ⟨b, 1, none⟩ (.int .i64 3)).setCell ⟨b, 2, none⟩ (.string D))) := HE6.out.set3 0 3 D
        have i0 := HE6.out.en.c0
        have j0 := HE6.out.en.fz 0
        have i1 := HE6.out.en.c1
        have j1 := HE6.out.en.fz 1
        have i2 := HE6.out.en.c2
        have j2 := HE6.out.en.fz 2
        have e0 := HE.out.en.c0
        have r0 := HE.out.res.c0
        have f0 := HE.out.res.fz 0
        have e1 := HE.out.en.c1
        have r1 := HE.out.res.c1
        have f1 := HE.out.res.fz 1
        have e2 := HE.out.en.c2
        have r2 := HE.out.res.c2
        have f2 := HE.out.res.fz 2
        go_wp2
        exact bodyPost_ret (ret_e1 (p := 2) (by kernel_rfl) (by kernel_rfl) HE.out.fin.1) rfl (HE.out.end (by omega))
      · have x2 : (r == 2) = false := beq_eq_false_iff_ne.2 h2
        have HE := HE4
        clear HE4
        have e0 := HE.out.en.c0
        have r0 := HE.out.res.c0
        have f0 := HE.out.res.fz 0
        have e1 := HE.out.en.c1
        have r1 := HE.out.res.c1
        have f1 := HE.out.res.fz 1
        have e2 := HE.out.en.c2
        have r2 := HE.out.res.c2
        have f2 := HE.out.res.fz 2
        go_wp2
        exact bodyPost_ret (ret_e1 (p := 2) (by kernel_rfl) (by kernel_rfl) HE.out.fin.1) rfl (HE.out.end hdz)
end Go.Proofs.YtpjpheicldegkaaGreatDoor
