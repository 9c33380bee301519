/- Cog -/
import Derived.Test.YtpjpheicldegkaaGreatDoorGM20
import Derived.Test.YtpjpheicldegkaaGreatDoorSbm
import Derived.Test.YtpjpheicldegkaaGreatDoorGM15
namespace Go.Proofs.YtpjpheicldegkaaGreatDoor
open Go Go.RowKit
set_option linter.unusedVariables false

section
variable {g : Nat} {w W W' : World} {bx : Nat} {op tok seq num up : Int} {text task : ByteArray} {yes : Bool}
theorem OfS.task' (h : OfS g w bx op tok seq text task num up yes W) (t : ByteArray) : OfS g w bx op tok seq text t num up yes (W.setCell ⟨bx, 4, none⟩ (.string t)) :=
  have hb : Below w.heap.size W (W.setCell ⟨bx, 4, none⟩ (.string t)) := Below.setCell (Below.refl _ _) h.lo _
  ⟨h.res.far h.ne _, h.x.s4 _, h.drw.keep (hb.mono h.gl), h.sv.qua hb (Nat.le_refl _), h.ne, h.gl, h.lo⟩
theorem OfS.num' (h : OfS g w bx op tok seq text task num up yes W) (t : Int) : OfS g w bx op tok seq text task t up yes (W.setCell ⟨bx, 5, none⟩ (.int .i64 t)) :=
  have hb : Below w.heap.size W (W.setCell ⟨bx, 5, none⟩ (.int .i64 t)) := Below.setCell (Below.refl _ _) h.lo _
  ⟨h.res.far h.ne _, h.x.s5 _, h.drw.keep (hb.mono h.gl), h.sv.qua hb (Nat.le_refl _), h.ne, h.gl, h.lo⟩
theorem OfS.top' (h : OfS g w bx op tok seq text task num up yes W) (t : Int) : OfS g w bx op tok seq text task num t yes (W.setCell ⟨bx, 6, none⟩ (.int .i64 t)) :=
  have hb : Below w.heap.size W (W.setCell ⟨bx, 6, none⟩ (.int .i64 t)) := Below.setCell (Below.refl _ _) h.lo _
  ⟨h.res.far h.ne _, h.x.s6 _, h.drw.keep (hb.mono h.gl), h.sv.qua hb (Nat.le_refl _), h.ne, h.gl, h.lo⟩
theorem OfS.yes' (h : OfS g w bx op tok seq text task num up yes W) (t : Bool) : OfS g w bx op tok seq text task num up t (W.setCell ⟨bx, 7, none⟩ (.bool t)) :=
  have hb : Below w.heap.size W (W.setCell ⟨bx, 7, none⟩ (.bool t)) := Below.setCell (Below.refl _ _) h.lo _
  ⟨h.res.far h.ne _, h.x.s7 _, h.drw.keep (hb.mono h.gl), h.sv.qua hb (Nat.le_refl _), h.ne, h.gl, h.lo⟩
end
def OfP (g : Nat) (w : World) (e : Ending) (w' : World) : Prop :=
  ∃ (op : Int) (text task : ByteArray) (num up : Int) (yes : Bool), e = .returned (cmdV op 0 0 text task num up yes) ∧ text.size ≤ 600 ∧ task.size ≤ 8 ∧ (0 ≤ num ∧ num ≤ 2000) ∧ (0 ≤ up ∧ up ≤ 2000) ∧ (1 ≤ op ∧ op ≤ 9) ∧ Drw w' g ∧ Save g w w'

set_option maxRecDepth 10000 in
set_option maxHeartbeats 8000000 in
theorem l16Of_ann (g : Nat) (sv : Value) (pb pc : Nat) (ar : Option Addr) (cr : Nat) (ck tk : Int) (w : World) (hd : Drw w g) (hpc : w.cell? ⟨pb, 0, none⟩ = some (.string annN)) (hpg : pb ≠ g) (hpl : pb < w.heap.size) (hck : 0 ≤ ck ∧ ck ≤ 1000) (htk : 0 ≤ tk ∧ tk ≤ 1000) :
    Calls Tryz.prog 107 #[.pointer (some ⟨g, 0, none⟩), bdV sv (.slice (some ⟨pb, 0, none⟩) 1 pc) (.slice ar 0 cr) ck tk] w (OfP g w) := by
  have hgl : g < w.heap.size := hd.lt
  obtain ⟨W0, HW0⟩ : ∃ W0, Hid ((w.alloc (.cells #[sv, .slice (some ⟨pb, 0, none⟩) 1 pc, .slice ar 0 cr, .int .i64 ck, .int .i64 tk] 151)).alloc (.cells #[.int .i64 0, .int .i64 0, .int .i64 0, .string ⟨#[]⟩, .string ⟨#[]⟩, .int .i64 0, .int .i64 0, .bool false] 138) = W0) := ⟨_, rfl⟩
  have X0 : Hid (B5 151 W0 w.heap.size sv (.slice (some ⟨pb, 0, none⟩) 1 pc) (.slice ar 0 cr) (.int .i64 ck) (.int .i64 tk)) := by show B5 _ _ _ _ _ _ _ _; rw [← HW0.out]; exact (B5.new _ _ _ _ _ _ _).alloc _
  have Z0 : Hid (K8 138 W0 (w.heap.size + 1) (.int .i64 0) (.int .i64 0) (.int .i64 0) (.string ⟨#[]⟩) (.string ⟨#[]⟩) (.int .i64 0) (.int .i64 0) (.bool false)) := by
    show K8 _ _ _ _ _ _ _ _ _ _ _
    rw [← HW0.out]
    have h1 := K8.new 138 (w.alloc (.cells #[sv, .slice (some ⟨pb, 0, none⟩) 1 pc, .slice ar 0 cr, .int .i64 ck, .int .i64 tk] 151)) (.int .i64 0) (.int .i64 0) (.int .i64 0) (.string ⟨#[]⟩) (.string ⟨#[]⟩) (.int .i64 0) (.int .i64 0) (.bool false)
    rw [show (w.alloc (.cells #[sv, .slice (some ⟨pb, 0, none⟩) 1 pc, .slice ar 0 cr, .int .i64 ck, .int .i64 tk] 151)).heap.size = w.heap.size + 1 by simp] at h1
    exact h1
  have B0 : Below w.heap.size w W0 := by rw [← HW0.out]; exact ba (ba (Below.refl _ _) _) _
  have HS0 : Hid (Save g w W0) := Save.of_below B0
  have HD0 : Hid (Drw W0 g) := hd.keep (B0.mono hgl)
  have hs0 : W0.heap.size = w.heap.size + 2 := by rw [← HW0.out]; simp
  clear B0 hd
  have HP : Hid (Calls Tryz.prog 42 #[.pointer (some ⟨g, 0, none⟩), .slice (some ⟨w.heap.size + 2, 0, none⟩) 18 18] (W0.alloc (.cells #[.int .i64 2, .int .i64 4, .int .i64 4, .int .i64 4, .int .i64 5, .int .i64 5, .int .i64 5, .int .i64 5, .int .i64 5, .int .i64 7, .int .i64 7, .int .i64 7, .int .i64 7, .int .i64 7, .int .i64 6, .int .i64 3, .int .i64 8, .int .i64 9] 3)) fun e w' => ∃ z ∈ ([2, 4, 4, 4, 5, 5, 5, 5, 5, 7, 7, 7, 7, 7, 6, 3, 8, 9] : List Int), e = .returned (.int .i64 z) ∧ Drw w' g ∧ Save g W0 w') := by
    have := pickIn_from g [2, 4, 4, 4, 5, 5, 5, 5, 5, 7, 7, 7, 7, 7, 6, 3, 8, 9] W0 W0 HD0.out (Save.refl _ _) (by decide) (by decide) #[.int .i64 2, .int .i64 4, .int .i64 4, .int .i64 4, .int .i64 5, .int .i64 5, .int .i64 5, .int .i64 5, .int .i64 5, .int .i64 7, .int .i64 7, .int .i64 7, .int .i64 7, .int .i64 7, .int .i64 6, .int .i64 3, .int .i64 8, .int .i64 9] rfl 18 rfl
    rw [hs0] at this
    exact this
  go_enter Tryz.func107, Tryz.ntmps107
  go_wp2_with fail
  rw [HW0.out]
  refine HP.out.mono ?_
  rintro x W1 ⟨z, hz, rfl, hd1, hs1⟩
  have HZ : Hid (z = 2 ∨ z = 3 ∨ z = 4 ∨ z = 5 ∨ z = 6 ∨ z = 7 ∨ z = 8 ∨ z = 9) := by
    show _ ∨ _
    simp only [List.mem_cons, List.not_mem_nil, or_false] at hz
    omega
  have hx : w.heap.size ≠ g := by omega
  have X1 := X0.out.save hs1 hx
  have x1 := X1.c1
  have hq := X1.lt
  have hq2 : ¬ w.heap.size = W1.heap.size := by omega
  have hq3 : ¬ W1.heap.size = w.heap.size := by omega
  have HD1 : Hid (Drw W1 g) := hd1
  have HS1 : Hid (Save g W0 W1) := hs1
  obtain ⟨W2, HW2⟩ : ∃ W2, Hid (W1.alloc (.cells #[.int .i64 z, .int .i64 0, .int .i64 0, .string ⟨#[]⟩, .string ⟨#[]⟩, .int .i64 0, .int .i64 0, .bool false] 138) = W2) := ⟨_, rfl⟩
  have hb2 : Below W1.heap.size W1 W2 := by rw [← HW2.out]; exact ba (Below.refl _ _) _
  have HO2 : Hid (OfS g w W1.heap.size z 0 0 ⟨#[]⟩ ⟨#[]⟩ 0 0 false W2) := by
    show OfS _ _ _ _ _ _ _ _ _ _ _ _
    have h1 := HS1.out.size
    refine ⟨(Z0.out.save HS1.out (by omega)).up hb2, by rw [← HW2.out]; exact K8.new _ _ _ _ _ _ _ _ _ _, HD1.out.keep (hb2.mono HD1.out.lt), (HS0.out.trans HS1.out).trans (Save.of_below hb2), by omega, hgl, by omega⟩
  have HX2 : Hid (B5 151 W2 w.heap.size sv (.slice (some ⟨pb, 0, none⟩) 1 pc) (.slice ar 0 cr) (.int .i64 ck) (.int .i64 tk)) := X1.up hb2
  have hnb : W1.heap.size ≠ w.heap.size := fun e => hq3 e
  have HNB : Hid (W1.heap.size ≠ w.heap.size) := hnb
  clear HP hd1 hs1 X1 hz hb2 hnb
  go_wp2
  rw [HW2.out]
  obtain ⟨bx, hbx⟩ : ∃ bx, W1.heap.size = bx := ⟨_, rfl⟩
  rw [hbx] at HO2 HNB
  rw [hbx]
  clear HW2 HD1 HS1 X0 Z0 HS0 HD0 HW0 x1 hq hq2 hq3 hbx
  have j1 := SvW.cell HX2.out.c1 hx
  have j2 := SvW.cell (HO2.out.sv.cell (p := ⟨pb, 0, none⟩) hpg hpc) hpg
  haveI : Nonempty (SvW g W2) := ⟨⟨W2, Save.refl _ _, HO2.out.drw⟩⟩
  have HD2 : Hid (Drw W2.drew g) := HO2.out.drw.keep ((Below.refl _ _).drew)
  refine qha (fun w' => ∃ x : SvW g W2, w' = x.at') [0, 1, 2, 3, 4] 11 6 (by kernel_rfl) (by decide) (by decide) (by kernel_rfl) (fun _ _ d _ _ h => by cases d <;> exact h) ⟨⟨W2.drew, (Save.refl _ _).drew, HD2.out⟩, rfl⟩ ?_
  repeat (refine qea rfl (by first | (intro x h; cases h; done) | (intro x h; cases h; exact ⟨_, rfl⟩)) ?_; go_big_quiet_step (fail); refine wpQuiet_nil ?_)
  refine qda ?_
  refine qfa (fuel := 5) (i := 5) (by kernel_rfl) rfl rfl ?_
  intro K hK
  go_wp2
  refine hK.out _ _ ⟨⟨W2.drew, (Save.refl _ _).drew, HD2.out⟩, rfl⟩ ?_
  clear hK K
  refine qfa (fuel := 4) (i := 6) (by kernel_rfl) rfl rfl ?_
  intro K hK
  go_wp2_with fail
  refine (qga g 1 _ HD2.out (by decide) (by decide)).mono ?_
  rintro e V1 ⟨t, rfl, t0, t1, hdv, hsv⟩
  have ht : t = 0 := by omega
  subst ht
  have HDV : Hid (Drw V1 g) := hdv
  have HSV : Hid (Save g W2 V1) := (Save.refl _ W2).drew.trans hsv
  clear hdv hsv
  go_wp2
  refine hK.out _ _ ⟨⟨V1, HSV.out, HDV.out⟩, rfl⟩ ?_
  clear hK K
  refine qzb [7, 8, 9, 10] 11 0 ⟨⟨V1, HSV.out, HDV.out⟩, rfl⟩ (by kernel_rfl) (fun _ _ d _ _ h => by cases d <;> exact h) ?_
  repeat (refine qea rfl (by first | (intro x h; cases h; done) | (intro x h; cases h; exact ⟨_, rfl⟩)) ?_; go_big_quiet_step (fail); refine wpQuiet_nil ?_)
  refine qda ?_
  refine qoa (by kernel_rfl) ?_
  simp only [List.drop_succ_cons, List.drop_zero]
  have HO : Hid (OfS g w bx z 0 0 ⟨#[]⟩ ⟨#[]⟩ 0 0 false V1) := HO2.out.save HSV.out HDV.out
  have HX : Hid (B5 151 V1 w.heap.size sv (.slice (some ⟨pb, 0, none⟩) 1 pc) (.slice ar 0 cr) (.int .i64 ck) (.int .i64 tk)) := HX2.out.save HSV.out hx
  have HPC : Hid (w.cell? ⟨pb, 0, none⟩ = some (.string annN)) := hpc
  clear HO2 HX2 HDV HSV HD2 j1 j2 hpc t0 t1
  clear this
  have htx : (⟨#[97, 110, 110]⟩ : ByteArray).size ≤ 600 := by decide
  rcases HZ.out with rfl | rfl | rfl | rfl | rfl | rfl | rfl | rfl
  · have c00 := HO.out.x.c0
    clear HX HPC HNB
    go_wp2_with fail
    refine (l12Dag_any g V1 HO.out.drw).mono ?_
    intro x W3 hdd
    obtain ⟨d, S, rfl, hS, hT, hd3, hs3⟩ := ddp_text hdd
    have HT : Hid (Calls Tryz.prog 116 #[d] W3 (fun e w' => e = .returned (.tuple #[.string S, .bool true]) ∧ Below W3.heap.size W3 w')) := hT
    have HO3 : Hid (OfS g w bx 2 0 0 ⟨#[]⟩ ⟨#[]⟩ 0 0 false W3) := HO.out.save hs3 hd3
    clear hdd hT hd3 hs3 HO
    go_wp2_with fail
    refine HT.out.mono ?_
    rintro x W4 ⟨rfl, hb4⟩
    have HO4 : Hid (OfS g w bx 2 0 0 ⟨#[]⟩ ⟨#[]⟩ 0 0 false W4) := HO3.out.up' hb4
    have c3 := HO4.out.x.c3
    have cf := HO4.out.x.fz 3
    have HO5 : Hid (OfS g w bx 2 0 0 S ⟨#[]⟩ 0 0 false (W4.setCell ⟨bx, 3, none⟩ (.string S))) := HO4.out.text' S
    clear HO3 HO4 HT hb4
    go_wp2_with fail
    refine (qxa g 12 _ HO5.out.drw (by decide) (by decide)).mono ?_
    rintro x W6 ⟨b, rfl, hd6, hs6⟩
    have HO6 : Hid (OfS g w bx 2 0 0 S ⟨#[]⟩ 0 0 false W6) := HO5.out.save hs6 hd6
    clear HO5 hd6 hs6 c3 cf
    cases b with
    | false =>
      have hlen : S.size ≤ 600 := by omega
      have hle : ¬ (600 : Int) < (S.size : Int) := by omega
      have e0 := HO6.out.x.c0
      have e1 := HO6.out.x.c1
      have e2 := HO6.out.x.c2
      have e3 := HO6.out.x.c3
      have e4 := HO6.out.x.c4
      have e5 := HO6.out.x.c5
      have e6 := HO6.out.x.c6
      have e7 := HO6.out.x.c7
      have n3 := HO6.out.x.fz 3
      have n4 := HO6.out.x.fz 4
      have n5 := HO6.out.x.fz 5
      have n6 := HO6.out.x.fz 6
      have n7 := HO6.out.x.fz 7
      have r0 := HO6.out.res.c0
      have f0 := HO6.out.res.fz 0
      have r1 := HO6.out.res.c1
      have f1 := HO6.out.res.fz 1
      have r2 := HO6.out.res.c2
      have f2 := HO6.out.res.fz 2
      have r3 := HO6.out.res.c3
      have f3 := HO6.out.res.fz 3
      have r4 := HO6.out.res.c4
      have f4 := HO6.out.res.fz 4
      have r5 := HO6.out.res.c5
      have f5 := HO6.out.res.fz 5
      have r6 := HO6.out.res.c6
      have f6 := HO6.out.res.fz 6
      have r7 := HO6.out.res.c7
      have f7 := HO6.out.res.fz 7
      have hnn := HO6.out.ne
      have HF : Hid _ := HO6.out.fin
      go_wp2
      refine bodyPost_ret (qjb (p := 4) (by kernel_rfl) (by kernel_rfl) HF.out.1) rfl ?_
      exact ⟨2, _, _, _, _, _, rfl, hlen, by decide, by decide, by decide, by decide, HF.out.2.1, HF.out.2.2⟩
    | true =>
      go_wp2_with fail
      refine (l12Text_any g W6 HO6.out.drw).mono ?_
      rintro x W7 ⟨T, rfl, hT, hd7, hs7⟩
      have HO7 : Hid (OfS g w bx 2 0 0 S ⟨#[]⟩ 0 0 false W7) := HO6.out.save hs7 hd7
      have HO8 : Hid (OfS g w bx 2 0 0 T ⟨#[]⟩ 0 0 false (W7.setCell ⟨bx, 3, none⟩ (.string T))) := HO7.out.text' T
      clear HO6 hd7 hs7
      have e0 := HO7.out.x.c0
      have e1 := HO7.out.x.c1
      have e2 := HO7.out.x.c2
      have e3 := HO7.out.x.c3
      have e4 := HO7.out.x.c4
      have e5 := HO7.out.x.c5
      have e6 := HO7.out.x.c6
      have e7 := HO7.out.x.c7
      have n3 := HO7.out.x.fz 3
      have n4 := HO7.out.x.fz 4
      have n5 := HO7.out.x.fz 5
      have n6 := HO7.out.x.fz 6
      have n7 := HO7.out.x.fz 7
      have r0 := HO7.out.res.c0
      have f0 := HO7.out.res.fz 0
      have r1 := HO7.out.res.c1
      have f1 := HO7.out.res.fz 1
      have r2 := HO7.out.res.c2
      have f2 := HO7.out.res.fz 2
      have r3 := HO7.out.res.c3
      have f3 := HO7.out.res.fz 3
      have r4 := HO7.out.res.c4
      have f4 := HO7.out.res.fz 4
      have r5 := HO7.out.res.c5
      have f5 := HO7.out.res.fz 5
      have r6 := HO7.out.res.c6
      have f6 := HO7.out.res.fz 6
      have r7 := HO7.out.res.c7
      have f7 := HO7.out.res.fz 7
      have hnn := HO7.out.ne
      by_cases hlen : T.size ≤ 600
      · have hle : ¬ (600 : Int) < (T.size : Int) := by omega
        have HF : Hid _ := HO8.out.fin
        clear HO7 HO8
        go_wp2
        refine bodyPost_ret (qjb (p := 4) (by kernel_rfl) (by kernel_rfl) HF.out.1) rfl ?_
        exact ⟨2, _, _, _, _, _, rfl, hlen, by decide, by decide, by decide, by decide, HF.out.2.1, HF.out.2.2⟩
      · have hle : (600 : Int) < (T.size : Int) := by omega
        have HF : Hid _ := (HO8.out.text' ⟨#[100, 97, 103]⟩).fin
        clear HO7 HO8
        go_wp2
        refine bodyPost_ret (qjb (p := 4) (by kernel_rfl) (by kernel_rfl) HF.out.1) rfl ?_
        exact ⟨2, _, _, _, _, _, rfl, by decide, by decide, by decide, by decide, by decide, HF.out.2.1, HF.out.2.2⟩
  · have HO1 : Hid (OfS g w bx 3 0 0 ⟨#[97, 110, 110]⟩ ⟨#[]⟩ 0 0 false (V1.setCell ⟨bx, 3, none⟩ (.string ⟨#[97, 110, 110]⟩))) := HO.out.text' _
    have c00 := HO.out.x.c0
    have c3 := HO.out.x.c3
    have cf := HO.out.x.fz 3
    clear HX HPC HNB HO
    go_wp2_with fail
    refine (qxa g 3 _ HO1.out.drw (by decide) (by decide)).mono ?_
    rintro x W5 ⟨b, rfl, hd5, hs5⟩
    have HO2 : Hid (OfS g w bx 3 0 0 ⟨#[97, 110, 110]⟩ ⟨#[]⟩ 0 0 false W5) := HO1.out.save hs5 hd5
    clear HO1 hd5 hs5 c3 cf
    have e0 := HO2.out.x.c0
    have e1 := HO2.out.x.c1
    have e2 := HO2.out.x.c2
    have e3 := HO2.out.x.c3
    have e4 := HO2.out.x.c4
    have e5 := HO2.out.x.c5
    have e6 := HO2.out.x.c6
    have e7 := HO2.out.x.c7
    have n3 := HO2.out.x.fz 3
    have n4 := HO2.out.x.fz 4
    have n5 := HO2.out.x.fz 5
    have n6 := HO2.out.x.fz 6
    have n7 := HO2.out.x.fz 7
    have r0 := HO2.out.res.c0
    have f0 := HO2.out.res.fz 0
    have r1 := HO2.out.res.c1
    have f1 := HO2.out.res.fz 1
    have r2 := HO2.out.res.c2
    have f2 := HO2.out.res.fz 2
    have r3 := HO2.out.res.c3
    have f3 := HO2.out.res.fz 3
    have r4 := HO2.out.res.c4
    have f4 := HO2.out.res.fz 4
    have r5 := HO2.out.res.c5
    have f5 := HO2.out.res.fz 5
    have r6 := HO2.out.res.c6
    have f6 := HO2.out.res.fz 6
    have r7 := HO2.out.res.c7
    have f7 := HO2.out.res.fz 7
    have hnn := HO2.out.ne
    have HF : Hid _ := (HO2.out.yes' b).fin
    clear HO2
    go_wp2
    refine bodyPost_ret (qjb (p := 4) (by kernel_rfl) (by kernel_rfl) HF.out.1) rfl ?_
    exact ⟨3, _, _, _, _, _, rfl, htx, by decide, by decide, by decide, by decide, HF.out.2.1, HF.out.2.2⟩
  · have c00 := HO.out.x.c0
    have j3 := SvW.cell HX.out.c3 hx
    haveI : Nonempty (SvW g V1) := ⟨⟨V1, Save.refl _ _, HO.out.drw⟩⟩
    have HDY : Hid (Drw V1.drew g) := HO.out.drw.keep ((Below.refl _ _).drew)
    go_wp2
    refine qha (fun w' => ∃ x : SvW g V1, w' = x.at') [0, 1, 2] 6 3 (by kernel_rfl) (by decide) (by decide) (by kernel_rfl) (fun _ _ d _ _ h => by cases d <;> exact h) ⟨⟨V1.drew, (Save.refl _ _).drew, HDY.out⟩, rfl⟩ ?_
    repeat (refine qea rfl (by first | (intro x h; cases h; done) | (intro x h; cases h; exact ⟨_, rfl⟩)) ?_; go_big_quiet_step (fail); refine wpQuiet_nil ?_)
    refine qda ?_
    refine qfa (fuel := 2) (i := 3) (by kernel_rfl) rfl rfl ?_
    intro K hK
    go_wp2
    have HDA : Hid (Drw (V1.drew.alloc (.cells #[.int .i64 0, .int .i64 1, .int .i64 2, .int .i64 5, .int .i64 10, .int .i64 30] 3)) g) := HDY.out.keep ((ba (Below.refl _ _) _).mono HDY.out.lt)
    have HSA : Hid (Save g V1 (V1.drew.alloc (.cells #[.int .i64 0, .int .i64 1, .int .i64 2, .int .i64 5, .int .i64 10, .int .i64 30] 3))) := (Save.refl _ V1).drew.alloc _
    refine hK.out _ _ ⟨⟨_, HSA.out, HDA.out⟩, rfl⟩ ?_
    clear hK K HDA HSA
    refine qfa (fuel := 1) (i := 4) (by kernel_rfl) rfl rfl ?_
    intro K hK
    go_wp2_with fail
    refine (pickIn_from g [0, 1, 2, 5, 10, 30] V1 V1.drew HDY.out (Save.refl _ V1).drew (by decide) (by decide) #[.int .i64 0, .int .i64 1, .int .i64 2, .int .i64 5, .int .i64 10, .int .i64 30] rfl 6 rfl).mono ?_
    rintro e V2 ⟨p, hp, rfl, hdv, hsv⟩
    have hp2 : 0 ≤ p ∧ p ≤ 30 := by
      simp only [List.mem_cons, List.not_mem_nil, or_false] at hp
      omega
    have p0 := hp2.1
    have p1 := hp2.2
    have k0 := hck.1
    have k1 := hck.2
    have HDV : Hid (Drw V2 g) := hdv
    have HSV : Hid (Save g V1 V2) := hsv
    clear hdv hsv hp hp2
    go_wp2
    refine hK.out _ _ ⟨⟨V2, HSV.out, HDV.out⟩, rfl⟩ ?_
    clear hK K
    refine qzb [5] 6 0 ⟨⟨V2, HSV.out, HDV.out⟩, rfl⟩ (by kernel_rfl) (fun _ _ d _ _ h => by cases d <;> exact h) ?_
    repeat (refine qea rfl (by first | (intro x h; cases h; done) | (intro x h; cases h; exact ⟨_, rfl⟩)) ?_; go_big_quiet_step (fail); refine wpQuiet_nil ?_)
    refine qda ?_
    refine qoa (by kernel_rfl) ?_
    simp only [List.drop_succ_cons, List.drop_zero]
    have HO3 : Hid (OfS g w bx 4 0 0 ⟨#[]⟩ ⟨#[]⟩ 0 0 false V2) := HO.out.save HSV.out HDV.out
    have HX3 := HX.out.save HSV.out hx
    obtain ⟨u, hu⟩ : ∃ u, ck + p = u := ⟨_, rfl⟩
    have hu0 : 0 ≤ u := by omega
    have hu1 : u ≤ 2000 := by omega
    have HO4 : Hid (OfS g w bx 4 0 0 ⟨#[]⟩ ⟨#[]⟩ u 0 false (V2.setCell ⟨bx, 5, none⟩ (.int .i64 u))) := HO3.out.num' u
    have HX4 : Hid (B5 151 (V2.setCell ⟨bx, 5, none⟩ (.int .i64 u)) w.heap.size sv (.slice (some ⟨pb, 0, none⟩) 1 pc) (.slice ar 0 cr) (.int .i64 ck) (.int .i64 tk)) := HX3.far (p := ⟨bx, 5, none⟩) HNB.out _
    have c5 := HO3.out.x.c5
    have c5f := HO3.out.x.fz 5
    have b3 := HX3.c3
    have hnb := HNB.out
    have hnb2 := HNB.out.symm
    clear HO3 HX3 HDV HSV HDY j3 this HO HX HPC c00
    by_cases h60 : ck < 60
    · go_wp2_with fail
      refine (qxa g 2 _ HO4.out.drw (by decide) (by decide)).mono ?_
      rintro x W6 ⟨b6, rfl, hd6, hs6⟩
      have HO6 : Hid (OfS g w bx 4 0 0 ⟨#[]⟩ ⟨#[]⟩ u 0 false W6) := HO4.out.save hs6 hd6
      have HX6 := HX4.out.save hs6 hx
      have b3' := HX6.c3
      have d5 := HO6.out.x.c5
      have d5f := HO6.out.x.fz 5
      clear HO4 HX4 hd6 hs6 b3 c5 c5f HX6
      cases b6 with
      | false =>
        go_wp2_with fail
        refine (qxa g 12 _ HO6.out.drw (by decide) (by decide)).mono ?_
        rintro x W8 ⟨b8, rfl, hd8, hs8⟩
        have HT8 : Hid (OfS g w bx 4 0 0 ⟨#[]⟩ ⟨#[]⟩ u 0 false W8) := HO6.out.save hs8 hd8
        clear HO6 hd8 hs8
        cases b8 with
        | false =>
          have e0 := HT8.out.x.c0
          have e1 := HT8.out.x.c1
          have e2 := HT8.out.x.c2
          have e3 := HT8.out.x.c3
          have e4 := HT8.out.x.c4
          have e5 := HT8.out.x.c5
          have e6 := HT8.out.x.c6
          have e7 := HT8.out.x.c7
          have n3 := HT8.out.x.fz 3
          have n4 := HT8.out.x.fz 4
          have n5 := HT8.out.x.fz 5
          have n6 := HT8.out.x.fz 6
          have n7 := HT8.out.x.fz 7
          have r0 := HT8.out.res.c0
          have f0 := HT8.out.res.fz 0
          have r1 := HT8.out.res.c1
          have f1 := HT8.out.res.fz 1
          have r2 := HT8.out.res.c2
          have f2 := HT8.out.res.fz 2
          have r3 := HT8.out.res.c3
          have f3 := HT8.out.res.fz 3
          have r4 := HT8.out.res.c4
          have f4 := HT8.out.res.fz 4
          have r5 := HT8.out.res.c5
          have f5 := HT8.out.res.fz 5
          have r6 := HT8.out.res.c6
          have f6 := HT8.out.res.fz 6
          have r7 := HT8.out.res.c7
          have f7 := HT8.out.res.fz 7
          have hnn := HT8.out.ne
          have HF : Hid _ := HT8.out.fin
          clear HT8
          go_wp2
          refine bodyPost_ret (qjb (p := 4) (by kernel_rfl) (by kernel_rfl) HF.out.1) rfl ?_
          exact ⟨4, _, _, _, _, _, rfl, by decide, by decide, ⟨hu0, hu1⟩, by decide, by decide, HF.out.2.1, HF.out.2.2⟩
        | true =>
          go_wp2_with fail
          refine (qga g 100 _ HT8.out.drw (by decide) (by decide)).mono ?_
          rintro x W9 ⟨q9, rfl, q90, q91, hd9, hs9⟩
          have HT9 : Hid (OfS g w bx 4 0 0 ⟨#[]⟩ ⟨#[]⟩ u 0 false W9) := HT8.out.save hs9 hd9
          clear HT8 hd9 hs9
          have e0 := HT9.out.x.c0
          have e1 := HT9.out.x.c1
          have e2 := HT9.out.x.c2
          have e3 := HT9.out.x.c3
          have e4 := HT9.out.x.c4
          have e5 := HT9.out.x.c5
          have e6 := HT9.out.x.c6
          have e7 := HT9.out.x.c7
          have n3 := HT9.out.x.fz 3
          have n4 := HT9.out.x.fz 4
          have n5 := HT9.out.x.fz 5
          have n6 := HT9.out.x.fz 6
          have n7 := HT9.out.x.fz 7
          have r0 := HT9.out.res.c0
          have f0 := HT9.out.res.fz 0
          have r1 := HT9.out.res.c1
          have f1 := HT9.out.res.fz 1
          have r2 := HT9.out.res.c2
          have f2 := HT9.out.res.fz 2
          have r3 := HT9.out.res.c3
          have f3 := HT9.out.res.fz 3
          have r4 := HT9.out.res.c4
          have f4 := HT9.out.res.fz 4
          have r5 := HT9.out.res.c5
          have f5 := HT9.out.res.fz 5
          have r6 := HT9.out.res.c6
          have f6 := HT9.out.res.fz 6
          have r7 := HT9.out.res.c7
          have f7 := HT9.out.res.fz 7
          have hnn := HT9.out.ne
          have HF : Hid _ := (HT9.out.num' q9).fin
          clear HT9
          go_wp2
          refine bodyPost_ret (qjb (p := 4) (by kernel_rfl) (by kernel_rfl) HF.out.1) rfl ?_
          exact ⟨4, _, _, _, _, _, rfl, by decide, by decide, ⟨q90, by omega⟩, by decide, by decide, HF.out.2.1, HF.out.2.2⟩
      | true =>
        have HO7 : Hid (OfS g w bx 4 0 0 ⟨#[]⟩ ⟨#[]⟩ (ck + 40) 0 false (W6.setCell ⟨bx, 5, none⟩ (.int .i64 (ck + 40)))) := HO6.out.num' _
        clear HO6
        go_wp2_with fail
        refine (qxa g 12 _ HO7.out.drw (by decide) (by decide)).mono ?_
        rintro x W8 ⟨b8, rfl, hd8, hs8⟩
        have HT8 : Hid (OfS g w bx 4 0 0 ⟨#[]⟩ ⟨#[]⟩ (ck + 40) 0 false W8) := HO7.out.save hs8 hd8
        clear HO7 hd8 hs8
        cases b8 with
        | false =>
          have e0 := HT8.out.x.c0
          have e1 := HT8.out.x.c1
          have e2 := HT8.out.x.c2
          have e3 := HT8.out.x.c3
          have e4 := HT8.out.x.c4
          have e5 := HT8.out.x.c5
          have e6 := HT8.out.x.c6
          have e7 := HT8.out.x.c7
          have n3 := HT8.out.x.fz 3
          have n4 := HT8.out.x.fz 4
          have n5 := HT8.out.x.fz 5
          have n6 := HT8.out.x.fz 6
          have n7 := HT8.out.x.fz 7
          have r0 := HT8.out.res.c0
          have f0 := HT8.out.res.fz 0
          have r1 := HT8.out.res.c1
          have f1 := HT8.out.res.fz 1
          have r2 := HT8.out.res.c2
          have f2 := HT8.out.res.fz 2
          have r3 := HT8.out.res.c3
          have f3 := HT8.out.res.fz 3
          have r4 := HT8.out.res.c4
          have f4 := HT8.out.res.fz 4
          have r5 := HT8.out.res.c5
          have f5 := HT8.out.res.fz 5
          have r6 := HT8.out.res.c6
          have f6 := HT8.out.res.fz 6
          have r7 := HT8.out.res.c7
          have f7 := HT8.out.res.fz 7
          have hnn := HT8.out.ne
          have HF : Hid _ := HT8.out.fin
          clear HT8
          go_wp2
          refine bodyPost_ret (qjb (p := 4) (by kernel_rfl) (by kernel_rfl) HF.out.1) rfl ?_
          exact ⟨4, _, _, _, _, _, rfl, by decide, by decide, ⟨by omega, by omega⟩, by decide, by decide, HF.out.2.1, HF.out.2.2⟩
        | true =>
          go_wp2_with fail
          refine (qga g 100 _ HT8.out.drw (by decide) (by decide)).mono ?_
          rintro x W9 ⟨q9, rfl, q90, q91, hd9, hs9⟩
          have HT9 : Hid (OfS g w bx 4 0 0 ⟨#[]⟩ ⟨#[]⟩ (ck + 40) 0 false W9) := HT8.out.save hs9 hd9
          clear HT8 hd9 hs9
          have e0 := HT9.out.x.c0
          have e1 := HT9.out.x.c1
          have e2 := HT9.out.x.c2
          have e3 := HT9.out.x.c3
          have e4 := HT9.out.x.c4
          have e5 := HT9.out.x.c5
          have e6 := HT9.out.x.c6
          have e7 := HT9.out.x.c7
          have n3 := HT9.out.x.fz 3
          have n4 := HT9.out.x.fz 4
          have n5 := HT9.out.x.fz 5
          have n6 := HT9.out.x.fz 6
          have n7 := HT9.out.x.fz 7
          have r0 := HT9.out.res.c0
          have f0 := HT9.out.res.fz 0
          have r1 := HT9.out.res.c1
          have f1 := HT9.out.res.fz 1
          have r2 := HT9.out.res.c2
          have f2 := HT9.out.res.fz 2
          have r3 := HT9.out.res.c3
          have f3 := HT9.out.res.fz 3
          have r4 := HT9.out.res.c4
          have f4 := HT9.out.res.fz 4
          have r5 := HT9.out.res.c5
          have f5 := HT9.out.res.fz 5
          have r6 := HT9.out.res.c6
          have f6 := HT9.out.res.fz 6
          have r7 := HT9.out.res.c7
          have f7 := HT9.out.res.fz 7
          have hnn := HT9.out.ne
          have HF : Hid _ := (HT9.out.num' q9).fin
          clear HT9
          go_wp2
          refine bodyPost_ret (qjb (p := 4) (by kernel_rfl) (by kernel_rfl) HF.out.1) rfl ?_
          exact ⟨4, _, _, _, _, _, rfl, by decide, by decide, ⟨q90, by omega⟩, by decide, by decide, HF.out.2.1, HF.out.2.2⟩
    · clear HX4
      go_wp2_with fail
      refine (qxa g 12 _ HO4.out.drw (by decide) (by decide)).mono ?_
      rintro x W8 ⟨b8, rfl, hd8, hs8⟩
      have HT8 : Hid (OfS g w bx 4 0 0 ⟨#[]⟩ ⟨#[]⟩ u 0 false W8) := HO4.out.save hs8 hd8
      clear HO4 hd8 hs8
      cases b8 with
      | false =>
        have e0 := HT8.out.x.c0
        have e1 := HT8.out.x.c1
        have e2 := HT8.out.x.c2
        have e3 := HT8.out.x.c3
        have e4 := HT8.out.x.c4
        have e5 := HT8.out.x.c5
        have e6 := HT8.out.x.c6
        have e7 := HT8.out.x.c7
        have n3 := HT8.out.x.fz 3
        have n4 := HT8.out.x.fz 4
        have n5 := HT8.out.x.fz 5
        have n6 := HT8.out.x.fz 6
        have n7 := HT8.out.x.fz 7
        have r0 := HT8.out.res.c0
        have f0 := HT8.out.res.fz 0
        have r1 := HT8.out.res.c1
        have f1 := HT8.out.res.fz 1
        have r2 := HT8.out.res.c2
        have f2 := HT8.out.res.fz 2
        have r3 := HT8.out.res.c3
        have f3 := HT8.out.res.fz 3
        have r4 := HT8.out.res.c4
        have f4 := HT8.out.res.fz 4
        have r5 := HT8.out.res.c5
        have f5 := HT8.out.res.fz 5
        have r6 := HT8.out.res.c6
        have f6 := HT8.out.res.fz 6
        have r7 := HT8.out.res.c7
        have f7 := HT8.out.res.fz 7
        have hnn := HT8.out.ne
        have HF : Hid _ := HT8.out.fin
        clear HT8
        go_wp2
        refine bodyPost_ret (qjb (p := 4) (by kernel_rfl) (by kernel_rfl) HF.out.1) rfl ?_
        exact ⟨4, _, _, _, _, _, rfl, by decide, by decide, ⟨hu0, hu1⟩, by decide, by decide, HF.out.2.1, HF.out.2.2⟩
      | true =>
        go_wp2_with fail
        refine (qga g 100 _ HT8.out.drw (by decide) (by decide)).mono ?_
        rintro x W9 ⟨q9, rfl, q90, q91, hd9, hs9⟩
        have HT9 : Hid (OfS g w bx 4 0 0 ⟨#[]⟩ ⟨#[]⟩ u 0 false W9) := HT8.out.save hs9 hd9
        clear HT8 hd9 hs9
        have e0 := HT9.out.x.c0
        have e1 := HT9.out.x.c1
        have e2 := HT9.out.x.c2
        have e3 := HT9.out.x.c3
        have e4 := HT9.out.x.c4
        have e5 := HT9.out.x.c5
        have e6 := HT9.out.x.c6
        have e7 := HT9.out.x.c7
        have n3 := HT9.out.x.fz 3
        have n4 := HT9.out.x.fz 4
        have n5 := HT9.out.x.fz 5
        have n6 := HT9.out.x.fz 6
        have n7 := HT9.out.x.fz 7
        have r0 := HT9.out.res.c0
        have f0 := HT9.out.res.fz 0
        have r1 := HT9.out.res.c1
        have f1 := HT9.out.res.fz 1
        have r2 := HT9.out.res.c2
        have f2 := HT9.out.res.fz 2
        have r3 := HT9.out.res.c3
        have f3 := HT9.out.res.fz 3
        have r4 := HT9.out.res.c4
        have f4 := HT9.out.res.fz 4
        have r5 := HT9.out.res.c5
        have f5 := HT9.out.res.fz 5
        have r6 := HT9.out.res.c6
        have f6 := HT9.out.res.fz 6
        have r7 := HT9.out.res.c7
        have f7 := HT9.out.res.fz 7
        have hnn := HT9.out.ne
        have HF : Hid _ := (HT9.out.num' q9).fin
        clear HT9
        go_wp2
        refine bodyPost_ret (qjb (p := 4) (by kernel_rfl) (by kernel_rfl) HF.out.1) rfl ?_
        exact ⟨4, _, _, _, _, _, rfl, by decide, by decide, ⟨q90, by omega⟩, by decide, by decide, HF.out.2.1, HF.out.2.2⟩
  · clear HX HPC HNB
    have e0 := HO.out.x.c0
    have e1 := HO.out.x.c1
    have e2 := HO.out.x.c2
    have e3 := HO.out.x.c3
    have e4 := HO.out.x.c4
    have e5 := HO.out.x.c5
    have e6 := HO.out.x.c6
    have e7 := HO.out.x.c7
    have n3 := HO.out.x.fz 3
    have n4 := HO.out.x.fz 4
    have n5 := HO.out.x.fz 5
    have n6 := HO.out.x.fz 6
    have n7 := HO.out.x.fz 7
    have r0 := HO.out.res.c0
    have f0 := HO.out.res.fz 0
    have r1 := HO.out.res.c1
    have f1 := HO.out.res.fz 1
    have r2 := HO.out.res.c2
    have f2 := HO.out.res.fz 2
    have r3 := HO.out.res.c3
    have f3 := HO.out.res.fz 3
    have r4 := HO.out.res.c4
    have f4 := HO.out.res.fz 4
    have r5 := HO.out.res.c5
    have f5 := HO.out.res.fz 5
    have r6 := HO.out.res.c6
    have f6 := HO.out.res.fz 6
    have r7 := HO.out.res.c7
    have f7 := HO.out.res.fz 7
    have hnn := HO.out.ne
    have HF : Hid _ := HO.out.fin
    clear HO
    go_wp2
    refine bodyPost_ret (qjb (p := 4) (by kernel_rfl) (by kernel_rfl) HF.out.1) rfl ?_
    exact ⟨5, _, _, _, _, _, rfl, by decide, by decide, by decide, by decide, by decide, HF.out.2.1, HF.out.2.2⟩
  · have t4 := HX.out.c4
    have HBL : Hid (∀ W, Drw W g → Calls Tryz.prog 41 #[.pointer (some ⟨g, 0, none⟩), .int .i64 (tk + 2)] W fun e w' => ∃ x : Int, e = .returned (.int .i64 x) ∧ 0 ≤ x ∧ x < tk + 2 ∧ Drw w' g ∧ Save g W w') := fun W h => qga g (tk + 2) W h (by omega) (by omega)
    have e0' := HO.out.x.c0
    go_wp2_with fail
    refine (HBL.out _ HO.out.drw).mono ?_
    rintro x W5 ⟨q, rfl, q0, q1, hd5, hs5⟩
    have HO1 : Hid (OfS g w bx 6 0 0 ⟨#[]⟩ ⟨#[]⟩ 0 0 false W5) := HO.out.save hs5 hd5
    have HX1 := HX.out.save hs5 hx
    have HO2 : Hid (OfS g w bx 6 0 0 ⟨#[]⟩ ⟨#[]⟩ q 0 false (W5.setCell ⟨bx, 5, none⟩ (.int .i64 q))) := HO1.out.num' q
    have HX2 : Hid (B5 151 (W5.setCell ⟨bx, 5, none⟩ (.int .i64 q)) w.heap.size sv (.slice (some ⟨pb, 0, none⟩) 1 pc) (.slice ar 0 cr) (.int .i64 ck) (.int .i64 tk)) := HX1.far (p := ⟨bx, 5, none⟩) HNB.out _
    have c5 := HO1.out.x.c5
    have cf := HO1.out.x.fz 5
    clear HO HX HBL t4 HPC HO1 HX1 hd5 hs5 e0'
    go_wp2
    go_loopw [7] (fun iv wr => iv = .int .i64 0 ∧ Hid (OfS g w bx 6 0 0 ⟨#[]⟩ ⟨#[]⟩ q 0 false wr) ∧ Hid (B5 151 wr w.heap.size sv (.slice (some ⟨pb, 0, none⟩) 1 pc) (.slice ar 0 cr) (.int .i64 ck) (.int .i64 tk))) (fun _ _ => 0)
    case atStart => exact ⟨rfl, HO2, HX2⟩
    case round =>
      clear HO2 HX2 c5 cf
      obtain ⟨rfl, HO, HX⟩ := hrel
      have x2 := HX.out.c2
      have e0 := HO.out.x.c0
      have e1 := HO.out.x.c1
      have e2 := HO.out.x.c2
      have e3 := HO.out.x.c3
      have e4 := HO.out.x.c4
      have e5 := HO.out.x.c5
      have e6 := HO.out.x.c6
      have e7 := HO.out.x.c7
      have n3 := HO.out.x.fz 3
      have n4 := HO.out.x.fz 4
      have n5 := HO.out.x.fz 5
      have n6 := HO.out.x.fz 6
      have n7 := HO.out.x.fz 7
      have r0 := HO.out.res.c0
      have f0 := HO.out.res.fz 0
      have r1 := HO.out.res.c1
      have f1 := HO.out.res.fz 1
      have r2 := HO.out.res.c2
      have f2 := HO.out.res.fz 2
      have r3 := HO.out.res.c3
      have f3 := HO.out.res.fz 3
      have r4 := HO.out.res.c4
      have f4 := HO.out.res.fz 4
      have r5 := HO.out.res.c5
      have f5 := HO.out.res.fz 5
      have r6 := HO.out.res.c6
      have f6 := HO.out.res.fz 6
      have r7 := HO.out.res.c7
      have f7 := HO.out.res.fz 7
      have hnn := HO.out.ne
      have HF : Hid _ := (HO.out.yes' false).fin
      clear HO HX
      go_wp2
      refine bodyPost_ret (qjb (p := 4) (by kernel_rfl) (by kernel_rfl) HF.out.1) rfl ?_
      exact ⟨6, _, _, _, _, _, rfl, by decide, by decide, ⟨q0, by omega⟩, by decide, by decide, HF.out.2.1, HF.out.2.2⟩
  · have t4 := HX.out.c4
    have HBL : Hid (∀ W, Drw W g → Calls Tryz.prog 41 #[.pointer (some ⟨g, 0, none⟩), .int .i64 (tk + 2)] W fun e w' => ∃ x : Int, e = .returned (.int .i64 x) ∧ 0 ≤ x ∧ x < tk + 2 ∧ Drw w' g ∧ Save g W w') := fun W h => qga g (tk + 2) W h (by omega) (by omega)
    have e0' := HO.out.x.c0
    go_wp2_with fail
    refine (HBL.out _ HO.out.drw).mono ?_
    rintro x W5 ⟨q, rfl, q0, q1, hd5, hs5⟩
    have HO1 : Hid (OfS g w bx 7 0 0 ⟨#[]⟩ ⟨#[]⟩ 0 0 false W5) := HO.out.save hs5 hd5
    have HX1 := HX.out.save hs5 hx
    have HO2 : Hid (OfS g w bx 7 0 0 ⟨#[]⟩ ⟨#[]⟩ q 0 false (W5.setCell ⟨bx, 5, none⟩ (.int .i64 q))) := HO1.out.num' q
    have HX2 : Hid (B5 151 (W5.setCell ⟨bx, 5, none⟩ (.int .i64 q)) w.heap.size sv (.slice (some ⟨pb, 0, none⟩) 1 pc) (.slice ar 0 cr) (.int .i64 ck) (.int .i64 tk)) := HX1.far (p := ⟨bx, 5, none⟩) HNB.out _
    have c5 := HO1.out.x.c5
    have cf := HO1.out.x.fz 5
    clear HO HX HBL t4 HPC HO1 HX1 hd5 hs5 e0'
    go_wp2
    go_loopw [7] (fun iv wr => iv = .int .i64 0 ∧ Hid (OfS g w bx 7 0 0 ⟨#[]⟩ ⟨#[]⟩ q 0 false wr) ∧ Hid (B5 151 wr w.heap.size sv (.slice (some ⟨pb, 0, none⟩) 1 pc) (.slice ar 0 cr) (.int .i64 ck) (.int .i64 tk))) (fun _ _ => 0)
    case atStart => exact ⟨rfl, HO2, HX2⟩
    case round =>
      clear HO2 HX2 c5 cf
      obtain ⟨rfl, HO, HX⟩ := hrel
      have x2 := HX.out.c2
      have c0 := HO.out.x.c0
      go_wp2_with fail
      refine (qxa g 4 _ HO.out.drw (by decide) (by decide)).mono ?_
      rintro x W6 ⟨b, rfl, hd6, hs6⟩
      have HO6 : Hid (OfS g w bx 7 0 0 ⟨#[]⟩ ⟨#[]⟩ q 0 false W6) := HO.out.save hs6 hd6
      clear HO HX hd6 hs6 c0 x2
      have e0 := HO6.out.x.c0
      have e1 := HO6.out.x.c1
      have e2 := HO6.out.x.c2
      have e3 := HO6.out.x.c3
      have e4 := HO6.out.x.c4
      have e5 := HO6.out.x.c5
      have e6 := HO6.out.x.c6
      have e7 := HO6.out.x.c7
      have n3 := HO6.out.x.fz 3
      have n4 := HO6.out.x.fz 4
      have n5 := HO6.out.x.fz 5
      have n6 := HO6.out.x.fz 6
      have n7 := HO6.out.x.fz 7
      have r0 := HO6.out.res.c0
      have f0 := HO6.out.res.fz 0
      have r1 := HO6.out.res.c1
      have f1 := HO6.out.res.fz 1
      have r2 := HO6.out.res.c2
      have f2 := HO6.out.res.fz 2
      have r3 := HO6.out.res.c3
      have f3 := HO6.out.res.fz 3
      have r4 := HO6.out.res.c4
      have f4 := HO6.out.res.fz 4
      have r5 := HO6.out.res.c5
      have f5 := HO6.out.res.fz 5
      have r6 := HO6.out.res.c6
      have f6 := HO6.out.res.fz 6
      have r7 := HO6.out.res.c7
      have f7 := HO6.out.res.fz 7
      have hnn := HO6.out.ne
      have HF : Hid _ := (HO6.out.yes' (!b)).fin
      clear HO6
      go_wp2
      refine bodyPost_ret (qjb (p := 4) (by kernel_rfl) (by kernel_rfl) HF.out.1) rfl ?_
      exact ⟨7, _, _, _, _, _, rfl, by decide, by decide, ⟨q0, by omega⟩, by decide, by decide, HF.out.2.1, HF.out.2.2⟩
  · have HO1 : Hid (OfS g w bx 8 0 0 ⟨#[97, 110, 110]⟩ ⟨#[]⟩ 0 0 false (V1.setCell ⟨bx, 3, none⟩ (.string ⟨#[97, 110, 110]⟩))) := HO.out.text' _
    have c00 := HO.out.x.c0
    have c3 := HO.out.x.c3
    have cf := HO.out.x.fz 3
    clear HX HPC HNB HO
    go_wp2_with fail
    refine (qga g 40 _ HO1.out.drw (by decide) (by decide)).mono ?_
    rintro x W5 ⟨q, rfl, q0, q1, hd5, hs5⟩
    have HO2 : Hid (OfS g w bx 8 0 0 ⟨#[97, 110, 110]⟩ ⟨#[]⟩ 0 0 false W5) := HO1.out.save hs5 hd5
    have HO3 : Hid (OfS g w bx 8 0 0 ⟨#[97, 110, 110]⟩ ⟨#[]⟩ q 0 false (W5.setCell ⟨bx, 5, none⟩ (.int .i64 q))) := HO2.out.num' q
    have c5 := HO2.out.x.c5
    have c5f := HO2.out.x.fz 5
    obtain ⟨Y, HY⟩ : ∃ Y, Hid (W5.setCell ⟨bx, 5, none⟩ (.int .i64 q) = Y) := ⟨_, rfl⟩
    rw [HY.out] at HO3
    clear HO1 HO2 hd5 hs5 c00 c3 cf
    go_wp2
    rw [HY.out]
    have hbg : bx ≠ g := by have := HO3.out.lo; omega
    have j5 := SvW.cell HO3.out.x.c5 hbg
    haveI : Nonempty (SvW g Y) := ⟨⟨Y, Save.refl _ _, HO3.out.drw⟩⟩
    have HDY : Hid (Drw Y.drew g) := HO3.out.drw.keep ((Below.refl _ _).drew)
    clear c5 c5f HY
    refine qha (fun w' => ∃ x : SvW g Y, w' = x.at') [0, 1, 2] 5 2 (by kernel_rfl) (by decide) (by decide) (by kernel_rfl) (fun _ _ d _ _ h => by cases d <;> exact h) ⟨⟨Y.drew, (Save.refl _ _).drew, HDY.out⟩, rfl⟩ ?_
    repeat (refine qea rfl (by first | (intro x h; cases h; done) | (intro x h; cases h; exact ⟨_, rfl⟩)) ?_; go_big_quiet_step (fail); refine wpQuiet_nil ?_)
    refine qda ?_
    refine qfa (fuel := 1) (i := 3) (by kernel_rfl) rfl rfl ?_
    intro K hK
    go_wp2_with fail
    refine (qga g 100 _ HDY.out (by decide) (by decide)).mono ?_
    rintro e V2 ⟨p, rfl, p0, p1, hdv, hsv⟩
    have HDV : Hid (Drw V2 g) := hdv
    have HSV : Hid (Save g Y V2) := (Save.refl _ Y).drew.trans hsv
    clear hdv hsv
    go_wp2
    refine hK.out _ _ ⟨⟨V2, HSV.out, HDV.out⟩, rfl⟩ ?_
    clear hK K
    refine qzb [4] 5 0 ⟨⟨V2, HSV.out, HDV.out⟩, rfl⟩ (by kernel_rfl) (fun _ _ d _ _ h => by cases d <;> exact h) ?_
    repeat (refine qea rfl (by first | (intro x h; cases h; done) | (intro x h; cases h; exact ⟨_, rfl⟩)) ?_; go_big_quiet_step (fail); refine wpQuiet_nil ?_)
    refine qda ?_
    refine qoa (by kernel_rfl) ?_
    simp only [List.drop_succ_cons, List.drop_zero]
    have HO5 : Hid (OfS g w bx 8 0 0 ⟨#[97, 110, 110]⟩ ⟨#[]⟩ q 0 false V2) := HO3.out.save HSV.out HDV.out
    obtain ⟨u, hu⟩ : ∃ u, q + p = u := ⟨_, rfl⟩
    have hu0 : 0 ≤ u := by omega
    have hu1 : u ≤ 2000 := by omega
    clear HO3 HDV HSV HDY j5 this
    have e0 := HO5.out.x.c0
    have e1 := HO5.out.x.c1
    have e2 := HO5.out.x.c2
    have e3 := HO5.out.x.c3
    have e4 := HO5.out.x.c4
    have e5 := HO5.out.x.c5
    have e6 := HO5.out.x.c6
    have e7 := HO5.out.x.c7
    have n3 := HO5.out.x.fz 3
    have n4 := HO5.out.x.fz 4
    have n5 := HO5.out.x.fz 5
    have n6 := HO5.out.x.fz 6
    have n7 := HO5.out.x.fz 7
    have r0 := HO5.out.res.c0
    have f0 := HO5.out.res.fz 0
    have r1 := HO5.out.res.c1
    have f1 := HO5.out.res.fz 1
    have r2 := HO5.out.res.c2
    have f2 := HO5.out.res.fz 2
    have r3 := HO5.out.res.c3
    have f3 := HO5.out.res.fz 3
    have r4 := HO5.out.res.c4
    have f4 := HO5.out.res.fz 4
    have r5 := HO5.out.res.c5
    have f5 := HO5.out.res.fz 5
    have r6 := HO5.out.res.c6
    have f6 := HO5.out.res.fz 6
    have r7 := HO5.out.res.c7
    have f7 := HO5.out.res.fz 7
    have hnn := HO5.out.ne
    have HF : Hid _ := (HO5.out.top' u).fin
    clear HO5
    go_wp2
    refine bodyPost_ret (qjb (p := 4) (by kernel_rfl) (by kernel_rfl) HF.out.1) rfl ?_
    exact ⟨8, _, _, _, _, _, rfl, htx, by decide, ⟨q0, by omega⟩, ⟨hu0, hu1⟩, by decide, HF.out.2.1, HF.out.2.2⟩
  · have HO1 : Hid (OfS g w bx 9 0 0 ⟨#[97, 110, 110]⟩ ⟨#[]⟩ 0 0 false (V1.setCell ⟨bx, 3, none⟩ (.string ⟨#[97, 110, 110]⟩))) := HO.out.text' _
    have HX1 : Hid (B5 151 (V1.setCell ⟨bx, 3, none⟩ (.string ⟨#[97, 110, 110]⟩)) w.heap.size sv (.slice (some ⟨pb, 0, none⟩) 1 pc) (.slice ar 0 cr) (.int .i64 ck) (.int .i64 tk)) := HX.out.far (p := ⟨bx, 3, none⟩) HNB.out _
    have c00 := HO.out.x.c0
    have c3 := HO.out.x.c3
    have cf := HO.out.x.fz 3
    clear HX HPC HNB HO
    obtain ⟨Y, HY⟩ : ∃ Y, Hid (V1.setCell ⟨bx, 3, none⟩ (.string ⟨#[97, 110, 110]⟩) = Y) := ⟨_, rfl⟩
    rw [HY.out] at HO1 HX1
    have hYs : V1.heap.size = Y.heap.size := by rw [← HY.out]; simp
    go_wp2_with fail
    rw [HY.out]
    try rw [hYs]
    refine (qlc g [(⟨#[97]⟩ : ByteArray), (⟨#[98]⟩ : ByteArray), (⟨#[99]⟩ : ByteArray), (⟨#[100]⟩ : ByteArray)] Y Y HO1.out.drw (Save.refl _ _) (by decide) (by decide) #[.string ⟨#[97]⟩, .string ⟨#[98]⟩, .string ⟨#[99]⟩, .string ⟨#[100]⟩] rfl 4 rfl).mono ?_
    rintro x W5 ⟨u, hu, rfl, hd5, hs5⟩
    have hus : u.size ≤ 8 := by
      simp only [List.mem_cons, List.not_mem_nil, or_false] at hu
      rcases hu with rfl | rfl | rfl | rfl <;> decide
    have HO2 : Hid (OfS g w bx 9 0 0 ⟨#[97, 110, 110]⟩ ⟨#[]⟩ 0 0 false W5) := HO1.out.save hs5 hd5
    have HX2 := HX1.out.save hs5 hx
    have x2 := HX2.c2
    clear HO1 HX1 hd5 hs5 c3 cf hu HY hYs HX2
    have e0 := HO2.out.x.c0
    have e1 := HO2.out.x.c1
    have e2 := HO2.out.x.c2
    have e3 := HO2.out.x.c3
    have e4 := HO2.out.x.c4
    have e5 := HO2.out.x.c5
    have e6 := HO2.out.x.c6
    have e7 := HO2.out.x.c7
    have n3 := HO2.out.x.fz 3
    have n4 := HO2.out.x.fz 4
    have n5 := HO2.out.x.fz 5
    have n6 := HO2.out.x.fz 6
    have n7 := HO2.out.x.fz 7
    have r0 := HO2.out.res.c0
    have f0 := HO2.out.res.fz 0
    have r1 := HO2.out.res.c1
    have f1 := HO2.out.res.fz 1
    have r2 := HO2.out.res.c2
    have f2 := HO2.out.res.fz 2
    have r3 := HO2.out.res.c3
    have f3 := HO2.out.res.fz 3
    have r4 := HO2.out.res.c4
    have f4 := HO2.out.res.fz 4
    have r5 := HO2.out.res.c5
    have f5 := HO2.out.res.fz 5
    have r6 := HO2.out.res.c6
    have f6 := HO2.out.res.fz 6
    have r7 := HO2.out.res.c7
    have f7 := HO2.out.res.fz 7
    have hnn := HO2.out.ne
    have HF : Hid _ := (HO2.out.task' u).fin
    clear HO2
    go_wp2
    refine bodyPost_ret (qjb (p := 4) (by kernel_rfl) (by kernel_rfl) HF.out.1) rfl ?_
    exact ⟨9, _, _, _, _, _, rfl, htx, hus, by decide, by decide, by decide, HF.out.2.1, HF.out.2.2⟩
end Go.Proofs.YtpjpheicldegkaaGreatDoor
