/- Dgd -/
import Derived.Test.YtpjpheicldegkaaGreatDoorGM15
import Derived.Test.YtpjpheicldegkaaGreatDoorHd1
import Derived.Test.YtpjpheicldegkaaGreatDoorLiy
namespace Go.Proofs.YtpjpheicldegkaaGreatDoor
open Go Go.RowKit
set_option linter.unusedVariables false

structure SvW (g : Nat) (W : World) where
  at' : World
  sv : Save g W at'
  dr : Drw at' g
theorem SvW.cell {g : Nat} {W : World} {p : Addr} {v : Value} (hc : W.cell? p = some v) (hp : p.block ≠ g) : ∀ x : SvW g W, x.at'.cell? p = some v := fun x => x.sv.cell hp hc
structure DgW (g D Nn : Nat) (w0 : World) (nm cr : ByteArray) (fr up : Int) (cu : Bool) (tv : Value) (ks : List Tk) (ts : List Ta) where
  at' : World
  ok : DgS g D Nn w0 nm cr fr up cu tv ks ts at'
structure DgX (g D Nn : Nat) (w0 : World) (nm cr : ByteArray) (fr up : Int) (cu : Bool) (tv : Value) (ks : List Tk) (ts : List Ta) (X : Nat) (xn xp : ByteArray) (xr : Int) (xq : Bool) (av : Value) (al : List ByteArray) where
  at' : World
  ok : DgI g D Nn w0 nm cr fr up cu tv ks ts X xn xp xr xq av al at'
theorem Nm4.at' {b : Nat} {j : Nat} (hj : j < 4) : ∀ W, Nm4 W b → W.cell? ⟨b, j, none⟩ = some (.string (nm4 j)) := by
  match j, hj with
  | 0, _ => exact fun W h => by simp [World.cell?, show W.heap[b]? = _ from h, nm4]
  | 1, _ => exact fun W h => by simp [World.cell?, show W.heap[b]? = _ from h, nm4]
  | 2, _ => exact fun W h => by simp [World.cell?, show W.heap[b]? = _ from h, nm4]
  | 3, _ => exact fun W h => by simp [World.cell?, show W.heap[b]? = _ from h, nm4]
theorem dag_right {nm cr : ByteArray} {fr up : Int} {cu : Bool} {ts : List Ta} {rank : Nat → Nat} (hn : nameB nm = true) (hc : (pcO cr).isSome = true) (ha : againS cr = cr) (h0 : 0 ≤ fr) (h1 : fr ≤ up) (h2 : up ≤ 1000) (h3 : 1 ≤ ts.length) (h4 : ts.length ≤ 4) (hg : GoodT ts rank) : dagB ⟨nm, cr, fr, up, cu, ts⟩ = true := by
  unfold dagB
  simp only [hn, hc, ha, hg.tasks, hg.order]
  have e1 : (0 ≤ up ∧ up ≤ 68374079) := by omega
  have e2 : (0 ≤ fr ∧ fr ≤ up) := by omega
  have e3 : (1 ≤ (ts.length : Int) ∧ (ts.length : Int) ≤ 4) := by omega
  simp [e1, e2, e3]
def SmT (ts : List Ta) : Prop := ∀ t ∈ ts, t.after.length ≤ 4 ∧ t.name.size ≤ 8 ∧ t.pool.size ≤ 8 ∧ (0 ≤ t.ret ∧ t.ret ≤ 2) ∧ ∀ s ∈ t.after, s.size ≤ 8
theorem DrT.small {tn : Nat} {ts : List Ta} (h : DrT tn ts) : SmT ts := fun t ht => by
  obtain ⟨i, hi⟩ := List.getElem?_of_mem ht
  have ha := h.aft i t hi
  refine ⟨ha.len, by rw [h.name i t hi]; exact nm4_size _, (h.pool t ht).2, h.ret t ht, fun s hs => ?_⟩
  obtain ⟨q, _, _, e, _⟩ := ha.mem s hs
  rw [e]
  exact nm4_size _
theorem SmT.turn {t0 : Ta} {l : List Ta} (h : SmT (t0 :: l)) : SmT (l ++ [t0]) := fun t ht => h t (by
  rcases List.mem_append.1 ht with ht | ht
  · exact List.mem_cons_of_mem _ ht
  · rw [List.mem_singleton.1 ht]; exact List.mem_cons_self ..)
theorem at_ahead {tn p : Nat} {ts : List Ta} (h : DrT tn ts) (hp : p < 4) (ha : 0 ≤ atN ts (nm4 p)) : ∃ j, j < ts.length ∧ p = (j + tn) % 4 := by
  obtain ⟨j, t, hj, hn, _⟩ := atG_ex ts 0 ha
  have hl := (List.getElem?_eq_some_iff.1 hj).1
  rw [h.name j t hj] at hn
  exact ⟨j, hl, (nm4_inj (Nat.mod_lt _ (by decide)) hp hn).symm⟩
structure DgY (X Nn : Nat) (av : Value) where
  at' : World
  okx : at'.cell? ⟨X, 4, none⟩ = some av
  okn : Nm4 at' Nn
theorem tx_built (w : World) (s : ByteArray) : Reads ((w.alloc (.cells #[.string s] 9)).drew) (.slice (some ⟨w.heap.size, 0, none⟩) 1 1) [s] := by
  refine ⟨some ⟨w.heap.size, 0, none⟩, 1, rfl, fun _ => ⟨w.heap.size, 0, rfl, by show _ < (w.alloc _).heap.size; simp, fun i x hx j u hu => ?_⟩⟩
  match i, hx with
  | 0, hx =>
    simp only [List.getElem?_cons_zero, Option.some.injEq] at hx
    subst hx
    match j, hu with
    | 0, hu => cases hu; simp [go_sem]
    | j + 1, hu => simp [Rec.cells] at hu
  | i + 1, hx => simp at hx
theorem tx_one (s : ByteArray) : ∀ x ∈ [s], ∀ u ∈ Rec.cells x, u.oneCell' = true := by
  intro x hx u hu
  simp only [Rec.cells, List.mem_singleton] at hu
  subst hu
  rfl
theorem ret_d1 {W : World} {b : Nat} {nm cr : ByteArray} {fr up : Int} {cu : Bool} {tv : Value} {fn : Func} {p : Tmp} {tmps : Array Value} (h : fn.results = #[.cell p 163]) (hp : tmps.getD p undef = .pointer (some ⟨b, 0, none⟩)) (hb : D6 W b nm cr fr up cu tv) :
    (results fn tmps).run Tryz.prog W = .ok (.agg #[.string nm, .string cr, .int .i64 fr, .int .i64 up, .bool cu, tv]) W := by
  have hp' : tmps[p]?.getD undef = .pointer (some ⟨b, 0, none⟩) := by simpa using hp
  simp [results, h, hp', hb.c0, hb.c1, hb.c2, hb.c3, hb.c4, hb.c5, asAddr, go_sem]
structure DgZ (D : Nat) (nm cr : ByteArray) (fr up : Int) (cu : Bool) (tv : Value) (F : Nat) (x0 x1 x2 x3 x4 : Value) where
  at' : World
  okd : D6 at' D nm cr fr up cu tv
  okf : B5 192 at' F x0 x1 x2 x3 x4
theorem cells_tk {W : World} {b : Nat} {kn kp : ByteArray} {kr : Int} {kq : Bool} {a0 : Option Addr} {a1 a2 : Nat} (h : B5 192 W b (.string kn) (.string kp) (.int .i64 kr) (.bool kq) (.slice a0 a1 a2)) : ∀ j u, (Rec.cells (Tk.mk kn kp kr kq (.slice a0 a1 a2)))[j]? = some u → W.cell? ⟨b, j, none⟩ = some u ∧ u.oneCell' = true := by
  intro j u hu
  match j, hu with
  | 0, hu => cases hu; exact ⟨h.c0, rfl⟩
  | 1, hu => cases hu; exact ⟨h.c1, rfl⟩
  | 2, hu => cases hu; exact ⟨h.c2, rfl⟩
  | 3, hu => cases hu; exact ⟨h.c3, rfl⟩
  | 4, hu => cases hu; exact ⟨h.c4, rfl⟩
  | j + 5, hu => simp [Rec.cells] at hu
def DdP (g : Nat) (w : World) (x : Ending) (w' : World) : Prop :=
  ∃ (nm cr : ByteArray) (fr up : Int) (cu : Bool) (tv : Value) (ks : List Tk) (ts : List Ta), x = .returned (.agg #[.string nm, .string cr, .int .i64 fr, .int .i64 up, .bool cu, tv]) ∧ Reads w' tv ks ∧ AfL w' w.heap.size ks ts ∧ dagB ⟨nm, cr, fr, up, cu, ts⟩ = true ∧ SmT ts ∧ 1 ≤ ts.length ∧ ts.length ≤ 4 ∧ nm.size ≤ 8 ∧ cr.size ≤ 40 ∧ 0 ≤ fr ∧ fr ≤ up ∧ up ≤ 1000 ∧ (∀ a m d, tv = .slice (some a) m d → w.heap.size ≤ a.block) ∧ Drw w' g ∧ Save g w w'

set_option maxRecDepth 10000 in
set_option maxHeartbeats 4000000 in
theorem l12Dag_any (g : Nat) (w : World) (hd : Drw w g) : Calls Tryz.prog 117 #[.pointer (some ⟨g, 0, none⟩)] w (DdP g w) := by
  have hgl : g < w.heap.size := hd.lt
  obtain ⟨W1, HW1⟩ : ∃ W1, Hid (w.alloc (.cells #[.string ⟨#[]⟩, .string ⟨#[]⟩, .int .i64 0, .int .i64 0, .bool false, .slice none 0 0] 163) = W1) := ⟨_, rfl⟩
  have HD1 : Hid (Drw W1 g) := by show Drw _ _; rw [← HW1.out]; exact hd.keep ((Below.refl _ _).alloc (by omega) _)
  have HS1 : Hid (Save g w W1) := by show Save _ _ _; rw [← HW1.out]; exact (Save.refl _ _).alloc _
  have HR1 : Hid (D6 W1 w.heap.size ⟨#[]⟩ ⟨#[]⟩ 0 0 false (.slice none 0 0)) := by
    show (D6 _ _ _ _ _ _ _ _)
    rw [← HW1.out]
    show (w.heap.push _)[w.heap.size]? = _
    simp
  have hs1 : Hid (W1.heap.size = w.heap.size + 1) := by show _ = _; rw [← HW1.out]; simp
  clear hd
  have HP1 : Hid (Calls Tryz.prog 119 #[.pointer (some ⟨g, 0, none⟩), .slice (some ⟨w.heap.size + 1, 0, none⟩) 3 3] (W1.alloc (.cells #[.string ⟨#[97, 110, 110]⟩, .string ⟨#[98, 111, 98]⟩, .string ⟨#[99, 121]⟩] 9)) fun e w' => ∃ x ∈ [(⟨#[97, 110, 110]⟩ : ByteArray), (⟨#[98, 111, 98]⟩ : ByteArray), (⟨#[99, 121]⟩ : ByteArray)], e = .returned (.string x) ∧ Drw w' g ∧ Save g W1 w') := by
    have := qlc g [(⟨#[97, 110, 110]⟩ : ByteArray), (⟨#[98, 111, 98]⟩ : ByteArray), (⟨#[99, 121]⟩ : ByteArray)] W1 W1 HD1.out (Save.refl _ _) (by decide) (by decide) #[.string ⟨#[97, 110, 110]⟩, .string ⟨#[98, 111, 98]⟩, .string ⟨#[99, 121]⟩] rfl 3 rfl
    rw [hs1.out] at this
    exact this
  go_enter Tryz.func117, Tryz.ntmps117
  go_wp2_with fail
  rw [HW1.out]
  refine HP1.out.mono ?_
  rintro x W2 ⟨nm, hnm, rfl, hd2, hsv2⟩
  have HNM : Hid (nameB nm = true ∧ nm.size ≤ 8) := by
    show _ ∧ _
    simp only [List.mem_cons, List.not_mem_nil, or_false] at hnm
    rcases hnm with rfl | rfl | rfl <;> exact ⟨by decide +kernel, by decide⟩
  have HD2 : Hid (Drw W2 g) := hd2
  have HS2 : Hid (Save g W1 W2) := hsv2
  clear hnm hd2 hsv2 HP1 HW1
  go_wp2_with fail
  refine (qlc g [(⟨#[42, 32, 42, 32, 42, 32, 42, 32, 42]⟩ : ByteArray), (⟨#[48, 44, 49, 48, 44, 50, 48, 44, 51, 48, 44, 52, 48, 44, 53, 48, 32, 42, 32, 42, 32, 42, 32, 42]⟩ : ByteArray), (⟨#[48, 32, 42, 32, 42, 32, 42, 32, 42]⟩ : ByteArray), (⟨#[48, 44, 50, 48, 44, 52, 48, 32, 42, 32, 42, 32, 42, 32, 42]⟩ : ByteArray)] W1 W2 HD2.out HS2.out (by decide) (by decide) #[.string ⟨#[42, 32, 42, 32, 42, 32, 42, 32, 42]⟩, .string ⟨#[48, 44, 49, 48, 44, 50, 48, 44, 51, 48, 44, 52, 48, 44, 53, 48, 32, 42, 32, 42, 32, 42, 32, 42]⟩, .string ⟨#[48, 32, 42, 32, 42, 32, 42, 32, 42]⟩, .string ⟨#[48, 44, 50, 48, 44, 52, 48, 32, 42, 32, 42, 32, 42, 32, 42]⟩] rfl 4 rfl).mono ?_
  rintro x W3 ⟨cr, hcr, rfl, hd3, hsv3⟩
  have HCR : Hid (((pcO cr).isSome = true ∧ againS cr = cr) ∧ cr.size ≤ 40) := by
    show (_ ∧ _) ∧ _
    simp only [List.mem_cons, List.not_mem_nil, or_false] at hcr
    rcases hcr with rfl | rfl | rfl | rfl <;> exact ⟨⟨by decide +kernel, by decide +kernel⟩, by decide⟩
  have HD3 : Hid (Drw W3 g) := hd3
  have HS3 : Hid (Save g W1 W3) := hsv3
  clear hcr hd3 hsv3 HD2 HS2
  go_wp2_with fail
  refine (qga g 5 _ HD3.out (by decide) (by decide)).mono ?_
  rintro x W4 ⟨q, rfl, q0, q1, hd4, hsv4⟩
  have HD4 : Hid (Drw W4 g) := hd4
  have HS4 : Hid (Save g W1 W4) := HS3.out.trans hsv4
  clear hd4 hsv4 HD3 HS3
  go_wp2_with fail
  refine (qxa g 3 _ HD4.out (by decide) (by decide)).mono ?_
  rintro x W5 ⟨cq, rfl, hd5, hsv5⟩
  have HD5 : Hid (Drw W5 g) := hd5
  have HS5 : Hid (Save g W1 W5) := HS4.out.trans hsv5
  clear hd5 hsv5 HD4 HS4
  obtain ⟨fr, hfr⟩ : ∃ f, 10 * q = f := ⟨_, rfl⟩
  have hf0 : 0 ≤ fr := by omega
  have hf1 : fr ≤ 40 := by omega
  obtain ⟨cu, hcu⟩ : ∃ c, (!cq) = c := ⟨_, rfl⟩
  have hD5 : w.heap.size < W5.heap.size := by have := hs1.out; have := HS5.out.size; omega
  obtain ⟨W6, HW6⟩ : ∃ W6, Hid (W5.alloc (.cells #[.string nm, .string cr, .int .i64 fr, .int .i64 0, .bool cu, .slice none 0 0] 163) = W6) := ⟨_, rfl⟩
  obtain ⟨D, hD⟩ : ∃ D, W5.heap.size = D := ⟨_, rfl⟩
  have HD6 : Hid (Drw W6 g) := by show Drw _ _; rw [← HW6.out]; exact HD5.out.keep ((Below.refl _ _).alloc (by omega) _)
  have HS6 : Hid (Save g W1 W6) := by show Save _ _ _; rw [← HW6.out]; exact HS5.out.alloc _
  have HB6 : Hid (D6 W6 D nm cr fr 0 cu (.slice none 0 0)) := by
    show D6 _ _ _ _ _ _ _ _
    rw [← HW6.out, ← hD]
    show (W5.heap.push _)[W5.heap.size]? = _
    simp
  rw [hD] at hD5
  go_wp2_with (rw [HW6.out])
  have j2 := SvW.cell HB6.out.c2 (show D ≠ g by omega)
  haveI : Nonempty (SvW g W6) := ⟨⟨W6, Save.refl _ _, HD6.out⟩⟩
  have HD6d : Hid (Drw W6.drew g) := HD6.out.keep ((Below.refl _ _).drew)
  refine qha (fun w' => ∃ x : SvW g W6, w' = x.at') [0, 1, 2] 6 3 (by kernel_rfl) (by decide) (by decide) (by kernel_rfl) (fun _ _ d _ _ h => by cases d <;> exact h) ⟨⟨W6.drew, (Save.refl _ _).drew, HD6d.out⟩, rfl⟩ ?_
  repeat (refine qea rfl (by first | (intro x h; cases h; done) | (intro x h; cases h; exact ⟨_, rfl⟩)) ?_; go_big_quiet_step (fail); refine wpQuiet_nil ?_)
  refine qda ?_
  refine qfa (fuel := 2) (i := 3) (by kernel_rfl) rfl rfl ?_
  intro K hK
  go_wp2_with fail
  refine (qga g 9 _ HD6d.out (by decide) (by decide)).mono ?_
  rintro e V1 ⟨t, rfl, t0, t1, hdv, hsv⟩
  have HDV : Hid (Drw V1 g) := hdv
  have HSV : Hid (Save g W6 V1) := (Save.refl _ W6).drew.trans hsv
  clear hdv hsv
  go_wp2
  refine hK.out _ _ ⟨⟨V1, HSV.out, HDV.out⟩, rfl⟩ ?_
  clear hK K
  refine qzb [4, 5] 6 0 ⟨⟨V1, HSV.out, HDV.out⟩, rfl⟩ (by kernel_rfl) (fun _ _ d _ _ h => by cases d <;> exact h) ?_
  repeat (refine qea rfl (by first | (intro x h; cases h; done) | (intro x h; cases h; exact ⟨_, rfl⟩)) ?_; go_big_quiet_step (fail); refine wpQuiet_nil ?_)
  refine qda ?_
  refine qoa (by kernel_rfl) ?_
  simp only [List.drop_succ_cons, List.drop_zero]
  obtain ⟨up, hup⟩ : ∃ u, fr + 60 * t = u := ⟨_, rfl⟩
  have hu0 : fr ≤ up := by omega
  have hu1 : up ≤ 1000 := by omega
  have HBV : Hid (D6 V1 D nm cr fr 0 cu (.slice none 0 0)) := (HSV.out.block _ HB6.out.lt (by omega)).trans HB6.out
  have b3 := HBV.out.c3
  have z3 := HBV.out.fz 3
  obtain ⟨Nn, hNn⟩ : ∃ n, V1.heap.size = n := ⟨_, rfl⟩
  obtain ⟨W7, HW7⟩ : ∃ W7, Hid ((V1.setCell ⟨D, 3, none⟩ (.int .i64 up)).alloc (.cells #[.string ⟨#[97]⟩, .string ⟨#[98]⟩, .string ⟨#[99]⟩, .string ⟨#[100]⟩] 9) = W7) := ⟨_, rfl⟩
  have HST : Hid (DgS g D Nn w nm cr fr up cu (.slice none 0 0) [] [] W7) := by
    show DgS _ _ _ _ _ _ _ _ _ _ _ _ _
    have hsvV : Save g W1 V1 := HS6.out.trans HSV.out
    have hVs := hsvV.size
    have h1 := hs1.out
    have hDV := HBV.out.lt
    have bw : Below w.heap.size V1 (V1.setCell ⟨D, 3, none⟩ (.int .i64 up)) := Below.setCell (Below.refl _ _) (by show w.heap.size ≤ D; omega) _
    have hsz : (V1.setCell ⟨D, 3, none⟩ (.int .i64 up)).heap.size = Nn := by rw [← hNn]; simp
    have hb : ∀ k, k < V1.heap.size → k ≠ D → W7.heap[k]? = V1.heap[k]? := fun k hk hne => by
      rw [← HW7.out]
      exact ((ba (Below.refl _ (V1.setCell ⟨D, 3, none⟩ (.int .i64 up))) _).block k (by rw [hsz]; omega)).trans (heap_setCell_other V1 ⟨D, 3, none⟩ k _ hne)
    have bw7 : Below w.heap.size V1 W7 := by rw [← HW7.out]; exact bw.alloc (by rw [hsz]; omega) _
    refine ⟨HDV.out.keep (bw7.mono (by omega)), (HS1.out.trans hsvV).qua bw7 (Nat.le_refl _), hgl, hD5, by omega, ?_, ?_, ?_, qmb _ _ _, AfL.nil _ _⟩
    · exact (hb _ (by omega) (by omega)).trans ((hsvV.block _ (by omega) (by omega)).trans HR1.out)
    · rw [← HW7.out]
      exact ((ba (Below.refl _ (V1.setCell ⟨D, 3, none⟩ (.int .i64 up))) _).block D (by rw [hsz]; omega)).trans (HBV.out.s3 up)
    · have e : Nm4 ((V1.setCell ⟨D, 3, none⟩ (.int .i64 up)).alloc (.cells #[.string ⟨#[97]⟩, .string ⟨#[98]⟩, .string ⟨#[99]⟩, .string ⟨#[100]⟩] 9)) (V1.setCell ⟨D, 3, none⟩ (.int .i64 up)).heap.size := by
        show ((V1.setCell ⟨D, 3, none⟩ (.int .i64 up)).heap.push _)[(V1.setCell ⟨D, 3, none⟩ (.int .i64 up)).heap.size]? = _
        rw [Array.getElem?_push, if_pos rfl]
      rw [HW7.out, hsz] at e
      exact e
  go_wp2_with (rw [HW7.out])
  clear b3 z3 HBV HDV HSV j2 HD6d HB6 HS6 HD6 HW6 HS5 HD5 HR1 HS1 HD1 hs1 HW7
  refine (qga g 4 _ HST.out.drw (by decide) (by decide)).mono ?_
  rintro e W8 ⟨n0, rfl, hn0, hn1, hd8, hsv8⟩
  have HST8 : Hid (DgS g D Nn w nm cr fr up cu (.slice none 0 0) [] [] W8) := HST.out.save hsv8 hd8
  clear hd8 hsv8 HST
  go_wp2_with fail
  refine (qga g 4 _ HST8.out.drw (by decide) (by decide)).mono ?_
  rintro e W9 ⟨tn, rfl, ht0, ht1, hd9, hsv9⟩
  have HST9 : Hid (DgS g D Nn w nm cr fr up cu (.slice none 0 0) [] [] W9) := HST8.out.save hsv9 hd9
  clear hd9 hsv9 HST8
  obtain ⟨n, hn⟩ : ∃ n : Nat, 1 + n0 = (n : Int) := ⟨(1 + n0).toNat, by omega⟩
  have hn4 : n ≤ 4 := by omega
  have hnp : 1 ≤ n := by omega
  obtain ⟨tN, HTN⟩ : ∃ t : Nat, Hid (tn = (t : Int)) := ⟨tn.toNat, by show _ = _; omega⟩
  go_wp2
  go_loopw [7] (fun iv wr => ∃ (k : Nat) (tv : Value) (ks : List Tk) (ts : List Ta), iv = .int .i64 k ∧ k ≤ n ∧ ks.length = k ∧ Hid (DgS g D Nn w nm cr fr up cu tv ks ts wr) ∧ Hid (DrT tN ts ∧ ts.length = k)) (fun iv _ => n - (intOf iv).toNat)
  case atStart => exact ⟨0, _, [], [], rfl, Nat.zero_le _, rfl, HST9, DrT.start tN, rfl⟩
  case round =>
    obtain ⟨k, tv, ks, ts, rfl, hk, hkl, HS, HDR⟩ := hrel
    clear HST9
    by_cases hlt : k < n
    · obtain ⟨j, HJ, hj⟩ : ∃ j : Nat, Hid (j = (k + tN) % 4) ∧ ((k : Int) + tn) % 4 = (j : Int) := ⟨(k + tN) % 4, rfl, by have := HTN.out; omega⟩
      have hj4 : j < 4 := by omega
      obtain ⟨xn, HXN⟩ : ∃ x, Hid (nm4 j = x) := ⟨_, rfl⟩
      have hnmc := Nm4.at' (b := Nn) hj4
      rw [HXN.out] at hnmc
      have j0 : ∀ x : DgW g D Nn w nm cr fr up cu tv ks ts, x.at'.cell? ⟨Nn, j, none⟩ = some (.string xn) := fun x => hnmc _ x.ok.n
      haveI : Nonempty (DgW g D Nn w nm cr fr up cu tv ks ts) := ⟨⟨wr, HS.out⟩⟩
      have hgr : wr.heap.size ≠ g := by have := HS.out.sv.size; omega
      clear hnmc
      go_wp2
      refine wp_puts' (α := Nat × Nat × ByteArray × Int × Bool) (fun x => [(43, .slice (some ⟨Nn, 0, none⟩) 4 4), (44, .int .i64 k), (45, .int .i64 tn), (46, .int .i64 ((k : Int) + tn)), (47, .int .i64 j), (48, .pointer (some ⟨Nn, j, none⟩)), (49, .string xn), (50, .pointer (some ⟨g, 0, none⟩)), (51, .slice (some ⟨x.2.1, 0, none⟩) 3 3), (52, .string x.2.2.1), (53, .pointer (some ⟨g, 0, none⟩)), (54, .int .i64 x.2.2.2.1), (55, .pointer (some ⟨g, 0, none⟩)), (56, .bool x.2.2.2.2), (57, .agg #[.string xn, .string x.2.2.1, .int .i64 x.2.2.2.1, .bool x.2.2.2.2, .slice none 0 0]), (8, .pointer (some ⟨x.1, 0, none⟩))]) (fun x w' => DgI g D Nn w nm cr fr up cu tv ks ts x.1 xn x.2.2.1 x.2.2.2.1 x.2.2.2.2 (.slice none 0 0) [] w' ∧ (poolN x.2.2.1 ≠ 0 ∧ x.2.2.1.size ≤ 8) ∧ 0 ≤ x.2.2.2.1 ∧ x.2.2.2.1 ≤ 2) ?_ ?_
      · refine qha (fun w' => ∃ x : DgW g D Nn w nm cr fr up cu tv ks ts, w' = x.at') [0, 1, 2, 3, 4, 5, 6, 7, 10, 12] 16 6 (by kernel_rfl) (by decide) (by decide) (by kernel_rfl) (fun _ _ d _ _ h => by cases d <;> exact h) ⟨⟨wr.drew, HS.out.drew⟩, rfl⟩ ?_
        repeat (refine qea rfl (by first | (intro x h; cases h; done) | (intro x h; cases h; exact ⟨_, rfl⟩)) ?_; go_big_quiet_step (fail); refine wpQuiet_nil ?_)
        refine qda ?_
        clear j0
        refine qod (fuel := 5) (i := 8) (j := 15) (by kernel_rfl) rfl rfl rfl rfl ?_ ?_
        · intro K hK
          go_wp2
          obtain ⟨Y1, hY1⟩ : ∃ V, (wr.alloc (.cells #[.string ⟨#[111, 110, 101]⟩, .string ⟨#[116, 119, 111]⟩, .string ⟨#[119, 105, 100, 101]⟩] 9)).drew = V := ⟨_, rfl⟩
          have Y1S : Hid (DgS g D Nn w nm cr fr up cu tv ks ts Y1) := by show DgS _ _ _ _ _ _ _ _ _ _ _ _ _; rw [← hY1]; exact (HS.out.alloc _).drew
          obtain ⟨PR, hPR⟩ : ∃ r, wr.heap.size = r := ⟨_, rfl⟩
          have hgp : PR ≠ g := by rw [← hPR]; have := (HS.out).sv.size; omega
          have Y1T : Hid (TextsAt Y1 g PR [(⟨#[111, 110, 101]⟩ : ByteArray), (⟨#[116, 119, 111]⟩ : ByteArray), (⟨#[119, 105, 100, 101]⟩ : ByteArray)]) := by
            show TextsAt _ _ _ _
            rw [← hY1, ← hPR]
            refine ⟨by rw [hPR]; exact hgp, fun q hq => ?_⟩
            match q, hq with
            | 0, _ => simp [go_sem]
            | 1, _ => simp [go_sem]
            | 2, _ => simp [go_sem]
          rw [hY1]
          try rw [hPR]
          clear hY1 hPR hgp
          refine hK.out _ _ ⟨⟨Y1, Y1S.out⟩, rfl⟩ ?_
          clear hK K
          refine qod (fuel := 4) (i := 9) (j := 15) (by kernel_rfl) rfl rfl rfl rfl ?_ ?_
          · intro K hK
            go_wp2_with fail
            refine (pick_any g PR 3 3 _ _ Y1S.out.drw (by decide) (by decide) rfl Y1T.out).mono ?_
            rintro e Y2 ⟨xp, hxp, rfl, hd2, hs2⟩
            have HXP : Hid (poolN xp ≠ 0 ∧ xp.size ≤ 8) := by
              show _ ∧ _
              simp only [List.mem_cons, List.not_mem_nil, or_false] at hxp
              rcases hxp with rfl | rfl | rfl <;> exact ⟨by decide +kernel, by decide⟩
            clear hxp
            have Y2S : Hid (DgS g D Nn w nm cr fr up cu tv ks ts Y2) := Y1S.out.save hs2 hd2
            clear hd2 hs2
            go_wp2
            refine hK.out _ _ ⟨⟨Y2, Y2S.out⟩, rfl⟩ ?_
            clear hK K
            refine qod (fuel := 3) (i := 11) (j := 15) (by kernel_rfl) rfl rfl rfl rfl ?_ ?_
            · intro K hK
              go_wp2_with fail
              refine (qga g 3 _ Y2S.out.drw (by decide) (by decide)).mono ?_
              rintro e Y3 ⟨xr, rfl, hr0, hr1, hd2, hs2⟩
              have Y3S : Hid (DgS g D Nn w nm cr fr up cu tv ks ts Y3) := Y2S.out.save hs2 hd2
              clear hd2 hs2
              go_wp2
              refine hK.out _ _ ⟨⟨Y3, Y3S.out⟩, rfl⟩ ?_
              clear hK K
              refine qod (fuel := 2) (i := 13) (j := 15) (by kernel_rfl) rfl rfl rfl rfl ?_ ?_
              · intro K hK
                go_wp2_with fail
                refine (qxa g 4 _ Y3S.out.drw (by decide) (by decide)).mono ?_
                rintro e Y4 ⟨xq, rfl, hd2, hs2⟩
                have Y4S : Hid (DgS g D Nn w nm cr fr up cu tv ks ts Y4) := Y3S.out.save hs2 hd2
                clear hd2 hs2
                go_wp2
                refine hK.out _ _ ⟨⟨Y4, Y4S.out⟩, rfl⟩ ?_
                clear hK K
                refine qzb [14] 16 1 ⟨⟨Y4, Y4S.out⟩, rfl⟩ (by kernel_rfl) (fun _ _ d _ _ h => by cases d <;> exact h) ?_
                repeat (refine qea rfl (by first | (intro x h; cases h; done) | (intro x h; cases h; exact ⟨_, rfl⟩)) ?_; go_big_quiet_step (fail); refine wpQuiet_nil ?_)
                refine qda ?_
                refine qfa (fuel := 0) (i := 15) (by kernel_rfl) rfl rfl ?_
                intro K hK
                go_wp2
                obtain ⟨X, hX⟩ : ∃ X, Y4.heap.size = X := ⟨_, rfl⟩
                obtain ⟨Y5, hY5⟩ : ∃ V, (Y4.alloc (.cells #[.string ⟨#[]⟩, .string ⟨#[]⟩, .int .i64 0, .bool false, .slice none 0 0] 192)) = V := ⟨_, rfl⟩
                have Y5I : Hid (DgI g D Nn w nm cr fr up cu tv ks ts X ⟨#[]⟩ ⟨#[]⟩ 0 false (.slice none 0 0) [] Y5) := by show DgI _ _ _ _ _ _ _ _ _ _ _ _ _ _ _ _ _ _ _ _; rw [← hY5, ← hX]; exact Y4S.out.begin ⟨#[]⟩ ⟨#[]⟩ 0 false
                rw [hY5]
                try rw [hX]
                clear hY5 hX
                refine hK.out _ _ ⟨⟨Y5, Y5I.out.o⟩, rfl⟩ ?_
                clear hK K
                refine qoa (by kernel_rfl) ?_
                simp only [List.drop_succ_cons, List.drop_zero]
                have HFL : Hid (DgI g D Nn w nm cr fr up cu tv ks ts X xn xp xr xq (.slice none 0 0) [] (set5 Y5 X (.string xn) (.string xp) (.int .i64 xr) (.bool xq) (.slice none 0 0))) := Y5I.out.fill xn xp xr xq
                have i0 := Y5I.out.x.c0
                have i1 := Y5I.out.x.c1
                have i2 := Y5I.out.x.c2
                have i3 := Y5I.out.x.c3
                have i4 := Y5I.out.x.c4
                have f0 := Y5I.out.x.fr 0
                have f1 := Y5I.out.x.fr 1
                have f2 := Y5I.out.x.fr 2
                have f3 := Y5I.out.x.fr 3
                have f4 := Y5I.out.x.fr 4
                go_wp2
                exact ⟨(X, PR, xp, xr, xq), by kernel_rfl, HFL.out, HXP.out, hr0, (show xr ≤ 2 by omega)⟩
              · intro K hK
                go_wp2
                obtain ⟨X, hX⟩ : ∃ X, Y3.heap.size = X := ⟨_, rfl⟩
                obtain ⟨Y6, hY6⟩ : ∃ V, (Y3.alloc (.cells #[.string ⟨#[]⟩, .string ⟨#[]⟩, .int .i64 0, .bool false, .slice none 0 0] 192)) = V := ⟨_, rfl⟩
                have Y6I : Hid (DgI g D Nn w nm cr fr up cu tv ks ts X ⟨#[]⟩ ⟨#[]⟩ 0 false (.slice none 0 0) [] Y6) := by show DgI _ _ _ _ _ _ _ _ _ _ _ _ _ _ _ _ _ _ _ _; rw [← hY6, ← hX]; exact Y3S.out.begin ⟨#[]⟩ ⟨#[]⟩ 0 false
                rw [hY6]
                try rw [hX]
                clear hY6 hX
                refine hK.out _ _ ⟨⟨Y6, Y6I.out.o⟩, rfl⟩ ?_
                clear hK K
                refine qfa (fuel := 1) (i := 13) (by kernel_rfl) rfl rfl ?_
                intro K hK
                go_wp2_with fail
                refine (qxa g 4 _ Y6I.out.o.drw (by decide) (by decide)).mono ?_
                rintro e Y7 ⟨xq, rfl, hd2, hs2⟩
                have Y7I : Hid (DgI g D Nn w nm cr fr up cu tv ks ts X ⟨#[]⟩ ⟨#[]⟩ 0 false (.slice none 0 0) [] Y7) := Y6I.out.save hs2 hd2
                clear hd2 hs2
                go_wp2
                refine hK.out _ _ ⟨⟨Y7, Y7I.out.o⟩, rfl⟩ ?_
                clear hK K
                refine qzb [14] 16 0 ⟨⟨Y7, Y7I.out.o⟩, rfl⟩ (by kernel_rfl) (fun _ _ d _ _ h => by cases d <;> exact h) ?_
                repeat (refine qea rfl (by first | (intro x h; cases h; done) | (intro x h; cases h; exact ⟨_, rfl⟩)) ?_; go_big_quiet_step (fail); refine wpQuiet_nil ?_)
                refine qda ?_
                refine qoa (by kernel_rfl) ?_
                simp only [List.drop_succ_cons, List.drop_zero]
                have HFL : Hid (DgI g D Nn w nm cr fr up cu tv ks ts X xn xp xr xq (.slice none 0 0) [] (set5 Y7 X (.string xn) (.string xp) (.int .i64 xr) (.bool xq) (.slice none 0 0))) := Y7I.out.fill xn xp xr xq
                have i0 := Y7I.out.x.c0
                have i1 := Y7I.out.x.c1
                have i2 := Y7I.out.x.c2
                have i3 := Y7I.out.x.c3
                have i4 := Y7I.out.x.c4
                have f0 := Y7I.out.x.fr 0
                have f1 := Y7I.out.x.fr 1
                have f2 := Y7I.out.x.fr 2
                have f3 := Y7I.out.x.fr 3
                have f4 := Y7I.out.x.fr 4
                go_wp2
                exact ⟨(X, PR, xp, xr, xq), by kernel_rfl, HFL.out, HXP.out, hr0, (show xr ≤ 2 by omega)⟩
            · intro K hK
              go_wp2
              obtain ⟨X, hX⟩ : ∃ X, Y2.heap.size = X := ⟨_, rfl⟩
              obtain ⟨Y8, hY8⟩ : ∃ V, (Y2.alloc (.cells #[.string ⟨#[]⟩, .string ⟨#[]⟩, .int .i64 0, .bool false, .slice none 0 0] 192)) = V := ⟨_, rfl⟩
              have Y8I : Hid (DgI g D Nn w nm cr fr up cu tv ks ts X ⟨#[]⟩ ⟨#[]⟩ 0 false (.slice none 0 0) [] Y8) := by show DgI _ _ _ _ _ _ _ _ _ _ _ _ _ _ _ _ _ _ _ _; rw [← hY8, ← hX]; exact Y2S.out.begin ⟨#[]⟩ ⟨#[]⟩ 0 false
              rw [hY8]
              try rw [hX]
              clear hY8 hX
              refine hK.out _ _ ⟨⟨Y8, Y8I.out.o⟩, rfl⟩ ?_
              clear hK K
              refine qfa (fuel := 2) (i := 11) (by kernel_rfl) rfl rfl ?_
              intro K hK
              go_wp2_with fail
              refine (qga g 3 _ Y8I.out.o.drw (by decide) (by decide)).mono ?_
              rintro e Y9 ⟨xr, rfl, hr0, hr1, hd2, hs2⟩
              have Y9I : Hid (DgI g D Nn w nm cr fr up cu tv ks ts X ⟨#[]⟩ ⟨#[]⟩ 0 false (.slice none 0 0) [] Y9) := Y8I.out.save hs2 hd2
              clear hd2 hs2
              go_wp2
              refine hK.out _ _ ⟨⟨Y9, Y9I.out.o⟩, rfl⟩ ?_
              clear hK K
              refine qfa (fuel := 1) (i := 13) (by kernel_rfl) rfl rfl ?_
              intro K hK
              go_wp2_with fail
              refine (qxa g 4 _ Y9I.out.o.drw (by decide) (by decide)).mono ?_
              rintro e Y10 ⟨xq, rfl, hd2, hs2⟩
              have Y10I : Hid (DgI g D Nn w nm cr fr up cu tv ks ts X ⟨#[]⟩ ⟨#[]⟩ 0 false (.slice none 0 0) [] Y10) := Y9I.out.save hs2 hd2
              clear hd2 hs2
              go_wp2
              refine hK.out _ _ ⟨⟨Y10, Y10I.out.o⟩, rfl⟩ ?_
              clear hK K
              refine qzb [14] 16 0 ⟨⟨Y10, Y10I.out.o⟩, rfl⟩ (by kernel_rfl) (fun _ _ d _ _ h => by cases d <;> exact h) ?_
              repeat (refine qea rfl (by first | (intro x h; cases h; done) | (intro x h; cases h; exact ⟨_, rfl⟩)) ?_; go_big_quiet_step (fail); refine wpQuiet_nil ?_)
              refine qda ?_
              refine qoa (by kernel_rfl) ?_
              simp only [List.drop_succ_cons, List.drop_zero]
              have HFL : Hid (DgI g D Nn w nm cr fr up cu tv ks ts X xn xp xr xq (.slice none 0 0) [] (set5 Y10 X (.string xn) (.string xp) (.int .i64 xr) (.bool xq) (.slice none 0 0))) := Y10I.out.fill xn xp xr xq
              have i0 := Y10I.out.x.c0
              have i1 := Y10I.out.x.c1
              have i2 := Y10I.out.x.c2
              have i3 := Y10I.out.x.c3
              have i4 := Y10I.out.x.c4
              have f0 := Y10I.out.x.fr 0
              have f1 := Y10I.out.x.fr 1
              have f2 := Y10I.out.x.fr 2
              have f3 := Y10I.out.x.fr 3
              have f4 := Y10I.out.x.fr 4
              go_wp2
              exact ⟨(X, PR, xp, xr, xq), by kernel_rfl, HFL.out, HXP.out, hr0, (show xr ≤ 2 by omega)⟩
          · intro K hK
            go_wp2
            obtain ⟨X, hX⟩ : ∃ X, Y1.heap.size = X := ⟨_, rfl⟩
            obtain ⟨Y11, hY11⟩ : ∃ V, (Y1.alloc (.cells #[.string ⟨#[]⟩, .string ⟨#[]⟩, .int .i64 0, .bool false, .slice none 0 0] 192)) = V := ⟨_, rfl⟩
            have Y11I : Hid (DgI g D Nn w nm cr fr up cu tv ks ts X ⟨#[]⟩ ⟨#[]⟩ 0 false (.slice none 0 0) [] Y11) := by show DgI _ _ _ _ _ _ _ _ _ _ _ _ _ _ _ _ _ _ _ _; rw [← hY11, ← hX]; exact Y1S.out.begin ⟨#[]⟩ ⟨#[]⟩ 0 false
            have Y11T : Hid (TextsAt Y11 g PR [(⟨#[111, 110, 101]⟩ : ByteArray), (⟨#[116, 119, 111]⟩ : ByteArray), (⟨#[119, 105, 100, 101]⟩ : ByteArray)]) := by show TextsAt _ _ _ _; rw [← hY11]; exact ⟨Y1T.out.1, fun q hq => qia (ba (Below.refl _ _) _) (Y1T.out.2 q hq)⟩
            rw [hY11]
            try rw [hX]
            clear hY11 hX
            refine hK.out _ _ ⟨⟨Y11, Y11I.out.o⟩, rfl⟩ ?_
            clear hK K
            refine qfa (fuel := 3) (i := 9) (by kernel_rfl) rfl rfl ?_
            intro K hK
            go_wp2_with fail
            refine (pick_any g PR 3 3 _ _ Y11I.out.o.drw (by decide) (by decide) rfl Y11T.out).mono ?_
            rintro e Y12 ⟨xp, hxp, rfl, hd2, hs2⟩
            have HXP : Hid (poolN xp ≠ 0 ∧ xp.size ≤ 8) := by
              show _ ∧ _
              simp only [List.mem_cons, List.not_mem_nil, or_false] at hxp
              rcases hxp with rfl | rfl | rfl <;> exact ⟨by decide +kernel, by decide⟩
            clear hxp
            have Y12I : Hid (DgI g D Nn w nm cr fr up cu tv ks ts X ⟨#[]⟩ ⟨#[]⟩ 0 false (.slice none 0 0) [] Y12) := Y11I.out.save hs2 hd2
            clear hd2 hs2
            go_wp2
            refine hK.out _ _ ⟨⟨Y12, Y12I.out.o⟩, rfl⟩ ?_
            clear hK K
            refine qfa (fuel := 2) (i := 11) (by kernel_rfl) rfl rfl ?_
            intro K hK
            go_wp2_with fail
            refine (qga g 3 _ Y12I.out.o.drw (by decide) (by decide)).mono ?_
            rintro e Y13 ⟨xr, rfl, hr0, hr1, hd2, hs2⟩
            have Y13I : Hid (DgI g D Nn w nm cr fr up cu tv ks ts X ⟨#[]⟩ ⟨#[]⟩ 0 false (.slice none 0 0) [] Y13) := Y12I.out.save hs2 hd2
            clear hd2 hs2
            go_wp2
            refine hK.out _ _ ⟨⟨Y13, Y13I.out.o⟩, rfl⟩ ?_
            clear hK K
            refine qfa (fuel := 1) (i := 13) (by kernel_rfl) rfl rfl ?_
            intro K hK
            go_wp2_with fail
            refine (qxa g 4 _ Y13I.out.o.drw (by decide) (by decide)).mono ?_
            rintro e Y14 ⟨xq, rfl, hd2, hs2⟩
            have Y14I : Hid (DgI g D Nn w nm cr fr up cu tv ks ts X ⟨#[]⟩ ⟨#[]⟩ 0 false (.slice none 0 0) [] Y14) := Y13I.out.save hs2 hd2
            clear hd2 hs2
            go_wp2
            refine hK.out _ _ ⟨⟨Y14, Y14I.out.o⟩, rfl⟩ ?_
            clear hK K
            refine qzb [14] 16 0 ⟨⟨Y14, Y14I.out.o⟩, rfl⟩ (by kernel_rfl) (fun _ _ d _ _ h => by cases d <;> exact h) ?_
            repeat (refine qea rfl (by first | (intro x h; cases h; done) | (intro x h; cases h; exact ⟨_, rfl⟩)) ?_; go_big_quiet_step (fail); refine wpQuiet_nil ?_)
            refine qda ?_
            refine qoa (by kernel_rfl) ?_
            simp only [List.drop_succ_cons, List.drop_zero]
            have HFL : Hid (DgI g D Nn w nm cr fr up cu tv ks ts X xn xp xr xq (.slice none 0 0) [] (set5 Y14 X (.string xn) (.string xp) (.int .i64 xr) (.bool xq) (.slice none 0 0))) := Y14I.out.fill xn xp xr xq
            have i0 := Y14I.out.x.c0
            have i1 := Y14I.out.x.c1
            have i2 := Y14I.out.x.c2
            have i3 := Y14I.out.x.c3
            have i4 := Y14I.out.x.c4
            have f0 := Y14I.out.x.fr 0
            have f1 := Y14I.out.x.fr 1
            have f2 := Y14I.out.x.fr 2
            have f3 := Y14I.out.x.fr 3
            have f4 := Y14I.out.x.fr 4
            go_wp2
            exact ⟨(X, PR, xp, xr, xq), by kernel_rfl, HFL.out, HXP.out, hr0, (show xr ≤ 2 by omega)⟩
        · intro K hK
          go_wp2
          obtain ⟨X, hX⟩ : ∃ X, wr.heap.size = X := ⟨_, rfl⟩
          obtain ⟨Y15, hY15⟩ : ∃ V, (wr.alloc (.cells #[.string ⟨#[]⟩, .string ⟨#[]⟩, .int .i64 0, .bool false, .slice none 0 0] 192)).drew = V := ⟨_, rfl⟩
          have Y15I : Hid (DgI g D Nn w nm cr fr up cu tv ks ts X ⟨#[]⟩ ⟨#[]⟩ 0 false (.slice none 0 0) [] Y15) := by show DgI _ _ _ _ _ _ _ _ _ _ _ _ _ _ _ _ _ _ _ _; rw [← hY15, ← hX]; exact (HS.out.begin ⟨#[]⟩ ⟨#[]⟩ 0 false).drew
          rw [hY15]
          try rw [hX]
          clear hY15 hX
          refine hK.out _ _ ⟨⟨Y15, Y15I.out.o⟩, rfl⟩ ?_
          clear hK K
          refine qfa (fuel := 4) (i := 8) (by kernel_rfl) rfl rfl ?_
          intro K hK
          go_wp2
          obtain ⟨Y16, hY16⟩ : ∃ V, (Y15.alloc (.cells #[.string ⟨#[111, 110, 101]⟩, .string ⟨#[116, 119, 111]⟩, .string ⟨#[119, 105, 100, 101]⟩] 9)) = V := ⟨_, rfl⟩
          have Y16I : Hid (DgI g D Nn w nm cr fr up cu tv ks ts X ⟨#[]⟩ ⟨#[]⟩ 0 false (.slice none 0 0) [] Y16) := by show DgI _ _ _ _ _ _ _ _ _ _ _ _ _ _ _ _ _ _ _ _; rw [← hY16]; exact Y15I.out.alloc _
          obtain ⟨PR, hPR⟩ : ∃ r, Y15.heap.size = r := ⟨_, rfl⟩
          have hgp : PR ≠ g := by rw [← hPR]; have := (Y15I.out.o).sv.size; omega
          have Y16T : Hid (TextsAt Y16 g PR [(⟨#[111, 110, 101]⟩ : ByteArray), (⟨#[116, 119, 111]⟩ : ByteArray), (⟨#[119, 105, 100, 101]⟩ : ByteArray)]) := by
            show TextsAt _ _ _ _
            rw [← hY16, ← hPR]
            refine ⟨by rw [hPR]; exact hgp, fun q hq => ?_⟩
            match q, hq with
            | 0, _ => simp [go_sem]
            | 1, _ => simp [go_sem]
            | 2, _ => simp [go_sem]
          rw [hY16]
          try rw [hPR]
          clear hY16 hPR hgp
          refine hK.out _ _ ⟨⟨Y16, Y16I.out.o⟩, rfl⟩ ?_
          clear hK K
          refine qfa (fuel := 3) (i := 9) (by kernel_rfl) rfl rfl ?_
          intro K hK
          go_wp2_with fail
          refine (pick_any g PR 3 3 _ _ Y16I.out.o.drw (by decide) (by decide) rfl Y16T.out).mono ?_
          rintro e Y17 ⟨xp, hxp, rfl, hd2, hs2⟩
          have HXP : Hid (poolN xp ≠ 0 ∧ xp.size ≤ 8) := by
            show _ ∧ _
            simp only [List.mem_cons, List.not_mem_nil, or_false] at hxp
            rcases hxp with rfl | rfl | rfl <;> exact ⟨by decide +kernel, by decide⟩
          clear hxp
          have Y17I : Hid (DgI g D Nn w nm cr fr up cu tv ks ts X ⟨#[]⟩ ⟨#[]⟩ 0 false (.slice none 0 0) [] Y17) := Y16I.out.save hs2 hd2
          clear hd2 hs2
          go_wp2
          refine hK.out _ _ ⟨⟨Y17, Y17I.out.o⟩, rfl⟩ ?_
          clear hK K
          refine qfa (fuel := 2) (i := 11) (by kernel_rfl) rfl rfl ?_
          intro K hK
          go_wp2_with fail
          refine (qga g 3 _ Y17I.out.o.drw (by decide) (by decide)).mono ?_
          rintro e Y18 ⟨xr, rfl, hr0, hr1, hd2, hs2⟩
          have Y18I : Hid (DgI g D Nn w nm cr fr up cu tv ks ts X ⟨#[]⟩ ⟨#[]⟩ 0 false (.slice none 0 0) [] Y18) := Y17I.out.save hs2 hd2
          clear hd2 hs2
          go_wp2
          refine hK.out _ _ ⟨⟨Y18, Y18I.out.o⟩, rfl⟩ ?_
          clear hK K
          refine qfa (fuel := 1) (i := 13) (by kernel_rfl) rfl rfl ?_
          intro K hK
          go_wp2_with fail
          refine (qxa g 4 _ Y18I.out.o.drw (by decide) (by decide)).mono ?_
          rintro e Y19 ⟨xq, rfl, hd2, hs2⟩
          have Y19I : Hid (DgI g D Nn w nm cr fr up cu tv ks ts X ⟨#[]⟩ ⟨#[]⟩ 0 false (.slice none 0 0) [] Y19) := Y18I.out.save hs2 hd2
          clear hd2 hs2
          go_wp2
          refine hK.out _ _ ⟨⟨Y19, Y19I.out.o⟩, rfl⟩ ?_
          clear hK K
          refine qzb [14] 16 0 ⟨⟨Y19, Y19I.out.o⟩, rfl⟩ (by kernel_rfl) (fun _ _ d _ _ h => by cases d <;> exact h) ?_
          repeat (refine qea rfl (by first | (intro x h; cases h; done) | (intro x h; cases h; exact ⟨_, rfl⟩)) ?_; go_big_quiet_step (fail); refine wpQuiet_nil ?_)
          refine qda ?_
          refine qoa (by kernel_rfl) ?_
          simp only [List.drop_succ_cons, List.drop_zero]
          have HFL : Hid (DgI g D Nn w nm cr fr up cu tv ks ts X xn xp xr xq (.slice none 0 0) [] (set5 Y19 X (.string xn) (.string xp) (.int .i64 xr) (.bool xq) (.slice none 0 0))) := Y19I.out.fill xn xp xr xq
          have i0 := Y19I.out.x.c0
          have i1 := Y19I.out.x.c1
          have i2 := Y19I.out.x.c2
          have i3 := Y19I.out.x.c3
          have i4 := Y19I.out.x.c4
          have f0 := Y19I.out.x.fr 0
          have f1 := Y19I.out.x.fr 1
          have f2 := Y19I.out.x.fr 2
          have f3 := Y19I.out.x.fr 3
          have f4 := Y19I.out.x.fr 4
          go_wp2
          exact ⟨(X, PR, xp, xr, xq), by kernel_rfl, HFL.out, HXP.out, hr0, (show xr ≤ 2 by omega)⟩
      rintro ⟨X, PR, xp, xr, xq⟩ W10 ⟨hI0, hxp, hxr⟩
      simp only at hI0 hxp hxr
      have HI0 : Hid (DgI g D Nn w nm cr fr up cu tv ks ts X xn xp xr xq (.slice none 0 0) [] W10) := hI0
      have HXP : Hid ((poolN xp ≠ 0 ∧ xp.size ≤ 8) ∧ 0 ≤ xr ∧ xr ≤ 2) := ⟨hxp, hxr⟩
      clear hI0 hxp hxr j0
      show Exit.then _ _ _ _ _
      simp only [putAll, Act.put]
      go_wp2
      go_loopw [9] (fun iv wx => ∃ (p : Nat) (av : Value) (al : List ByteArray), iv = .int .i64 p ∧ p ≤ 4 ∧ al.length ≤ p ∧ Hid (AlO tN k p al) ∧ Hid (DgI g D Nn w nm cr fr up cu tv ks ts X xn xp xr xq av al wx)) (fun iv _ => 4 - (intOf iv).toNat)
      case atStart => exact ⟨0, _, [], rfl, Nat.zero_le _, Nat.le_refl _, AlO.start _ _, HI0⟩
      case round =>
        obtain ⟨p, av, al, rfl, hp, hal, HAL, HI⟩ := hrel
        clear HI0 HS
        by_cases hp4 : p < 4
        · have hsc := Nm4.at' (b := Nn) hp4
          have hts := HI.out.o.tasks
          have hts9 : ts.length ≤ 1048577 := by have := HDR.out.2; omega
          obtain ⟨s, HSN⟩ : ∃ s, Hid (nm4 p = s) := ⟨_, rfl⟩
          rw [HSN.out] at hsc
          obtain ⟨at0, HAT, HA0⟩ : ∃ a, Hid (∀ x : Wd wr, Calls Tryz.prog 123 #[tv, .string s] x.at' fun e w' => e = .returned (.int .i64 a) ∧ w' = x.at') ∧ Hid (0 ≤ a → ∃ jj, jj < k ∧ p = (jj + tN) % 4) := ⟨_, fun x => qzd s (hts.below x.ok) hts9, fun h => by
            rw [← HSN.out] at h
            rw [← HDR.out.2]
            exact at_ahead HDR.out.1 hp4 h⟩
          have q5 := Wd.cell HI.out.o.d.c5
          have q6 := Wd.cell (hsc _ HI.out.o.n)
          have HSC : Hid (∀ W, Nm4 W Nn → W.cell? ⟨Nn, p, none⟩ = some (.string s)) := hsc
          clear hts hts9 hsc
          go_wp2
          refine qba (by kernel_rfl) (by kernel_rfl) ?_
          repeat (go_big_quiet_step ((go_at_call 123; refine qaa (v := .int .i64 at0) ?_; with_reducible exact HAT.out _)))
          refine wpQuiet_nil ?_
          rintro _ ⟨y, rfl⟩
          have HY0 : Hid (DgI g D Nn w nm cr fr up cu tv ks ts X xn xp xr xq av al y.at') := HI.out.save (Save.of_below y.ok) (HI.out.o.drw.keep (y.ok.mono (by have := HI.out.o.drw.lt; omega)))
          obtain ⟨Y, hY⟩ : ∃ Y : World, y.at' = Y := ⟨_, rfl⟩
          have HY : Hid (DgI g D Nn w nm cr fr up cu tv ks ts X xn xp xr xq av al Y) := by rw [← hY]; exact HY0.out
          rw [hY]
          clear HY0 hY q5 q6 HAT
          clear y
          by_cases hat : 0 ≤ at0
          · go_wp2_with fail
            refine (qxa g 2 _ HY.out.o.drw (by decide) (by decide)).mono ?_
            rintro e Y2 ⟨b, rfl, hd2, hs2⟩
            have HY2 : Hid (DgI g D Nn w nm cr fr up cu tv ks ts X xn xp xr xq av al Y2) := HY.out.save hs2 hd2
            clear hd2 hs2 HY
            cases b with
            | false =>
              go_wp2
              go_roundw
              case rel => exact ⟨p + 1, av, al, by go_num, by omega, by omega, HAL.out.skip, HY2⟩
              case measure => simp [intOf]; omega
            | true =>
              have k4 : ∀ x : DgY X Nn av, x.at'.cell? ⟨X, 4, none⟩ = some av := fun x => x.okx
              have k5 : ∀ x : DgY X Nn av, x.at'.cell? ⟨Nn, p, none⟩ = some (.string s) := fun x => HSC.out _ x.okn
              haveI : Nonempty (DgY X Nn av) := ⟨⟨Y2, HY2.out.x.c4, HY2.out.o.n⟩⟩
              go_wp2
              refine qha (fun w' => ∃ x : DgY X Nn av, w' = x.at') [0, 1, 2, 3, 4, 5] 8 2 (by kernel_rfl) (by decide) (by decide) (by kernel_rfl) (fun _ _ d _ _ h => by cases d <;> exact h) ⟨⟨Y2.drew, HY2.out.drew.x.c4, HY2.out.drew.o.n⟩, rfl⟩ ?_
              repeat (refine qea rfl (by first | (intro x h; cases h; done) | (intro x h; cases h; exact ⟨_, rfl⟩)) ?_; go_big_quiet_step (fail); refine wpQuiet_nil ?_)
              refine qda ?_
              clear k4 k5
              refine qfa (fuel := 1) (i := 6) (by kernel_rfl) rfl rfl ?_
              intro K hK
              go_wp2
              obtain ⟨Z1, hZ1⟩ : ∃ V, (Y2.alloc (.cells #[.string s] 9)).drew = V := ⟨_, rfl⟩
              have HZ1 : Hid (DgI g D Nn w nm cr fr up cu tv ks ts X xn xp xr xq av al Z1) := by show DgI _ _ _ _ _ _ _ _ _ _ _ _ _ _ _ _ _ _ _ _; rw [← hZ1]; exact (HY2.out.alloc _).drew
              have HB1 : Hid (Reads Z1 (.slice (some ⟨Y2.heap.size, 0, none⟩) 1 1) [s]) := by
                show Reads _ _ _
                rw [← hZ1]
                exact tx_built Y2 s
              rw [hZ1]
              clear hZ1
              refine hK.out _ _ ⟨⟨Z1, HZ1.out.x.c4, HZ1.out.o.n⟩, rfl⟩ ?_
              clear hK K
              refine qfa (fuel := 0) (i := 7) (by kernel_rfl) rfl rfl ?_
              intro K hK
              go_wp2_with (at_builtin; refine qca rfl (.tmp 76) (.tmp 81) 103 rfl X 9 _ 16 Tryz.underlying103 info9 rfl _ _ al [s] rfl rfl HZ1.out.row HB1.out (tx_one s) (by simp; omega) (by decide) (by have := HZ1.out.x.lt; omega) ?_; intro v' Z2 hov hgv)
              obtain ⟨y0, y1, y2, rfl⟩ := hov.slice3
              have HX2 : Hid (B5 192 Z2 X (.string xn) (.string xp) (.int .i64 xr) (.bool xq) av) := HZ1.out.x.grown hgv (HZ1.out.row.apartTy HZ1.out.tyX (by decide))
              have HN2 : Hid (Nm4 Z2 Nn) := (hgv.block _ HZ1.out.o.nlt (fun e => by have := (HZ1.out.row.lt _ e.symm).1; have := HZ1.out.nlt; omega)).trans HZ1.out.o.n
              have HY3 : Hid (DgI g D Nn w nm cr fr up cu tv ks ts X xn xp xr xq (.slice y0 y1 y2) (al ++ [s]) (Z2.setCell ⟨X, 4, none⟩ (.slice y0 y1 y2))) := HZ1.out.name hgv hov
              clear hov hgv
              go_wp2
              refine hK.out _ _ ⟨⟨Z2, HX2.out.c4, HN2.out⟩, rfl⟩ ?_
              clear hK K
              refine qoa (by kernel_rfl) ?_
              simp only [List.drop_succ_cons, List.drop_zero]
              have k4 := HX2.out.c4
              have k5 := HX2.out.fr 4
              clear HZ1 HB1 HX2 HN2 HY2
              go_wp2
              go_roundw
              case rel => exact ⟨p + 1, _, al ++ [s], by go_num, by omega, by simp; omega, (by
                obtain ⟨jj, h1, h2⟩ := HA0.out hat
                have := HAL.out.next hp4 h1 h2
                rw [HSN.out] at this
                exact this), HY3⟩
              case measure => simp [intOf]; omega
          · go_wp2
            go_roundw
            case rel => exact ⟨p + 1, av, al, by go_num, by omega, by omega, HAL.out.skip, HY⟩
            case measure => simp [intOf]; omega
        · obtain ⟨w0', w1', w2', rfl⟩ := HI.out.row.slice3
          have HXK : Hid (∀ x ∈ [Tk.mk xn xp xr xq (.slice w0' w1' w2')], ∀ u ∈ Rec.cells x, u.oneCell' = true) := by
            intro x hx u hu
            simp only [List.mem_singleton] at hx
            subst hx
            simp only [Rec.cells, List.mem_cons, List.not_mem_nil, or_false] at hu
            rcases hu with rfl | rfl | rfl | rfl | rfl <;> rfl
          have i0 := HI.out.x.c0
          have i1 := HI.out.x.c1
          have i2 := HI.out.x.c2
          have i3 := HI.out.x.c3
          have i4 := HI.out.x.c4
          have i5 := HI.out.o.d.c5
          have HIA : Hid (DgI g D Nn w nm cr fr up cu tv ks ts X xn xp xr xq (.slice w0' w1' w2') al (wr.alloc (.cells #[.string xn, .string xp, .int .i64 xr, .bool xq, .slice w0' w1' w2'] 192))) := HI.out.alloc _
          have HBT : Hid (Reads (wr.alloc (.cells #[.string xn, .string xp, .int .i64 xr, .bool xq, .slice w0' w1' w2'] 192)) (.slice (some ⟨wr.heap.size, 0, none⟩) 1 1) [Tk.mk xn xp xr xq (.slice w0' w1' w2')]) := qoc wr (Tk.mk xn xp xr xq (.slice w0' w1' w2'))
          have hks : ks.length + 1 ≤ 1048577 := by omega
          go_wp2_with (at_builtin; refine qca rfl (.tmp 85) (.tmp 87) 161 rfl w.heap.size 192 _ 72 qeb qtb rfl _ _ ks [Tk.mk xn xp xr xq (.slice w0' w1' w2')] rfl rfl HIA.out.o.own HBT.out HXK.out hks (by decide) HIA.out.o.sv.size ?_; intro v' Z hov hgv; obtain ⟨y0, y1, y2, rfl⟩ := hov.slice3; have HDZ : Hid (D6 Z D nm cr fr up cu tv) := (hgv.block _ HIA.out.o.dlt (HIA.out.o.own.apartTy HIA.out.o.tyD (by decide))).trans HIA.out.o.d; have HN1 : Hid (DgS g D Nn w nm cr fr up cu (.slice y0 y1 y2) (ks ++ [Tk.mk xn xp xr xq (.slice w0' w1' w2')]) (ts ++ [Ta.mk xn xp xr xq al]) (Z.setCell ⟨D, 5, none⟩ (.slice y0 y1 y2))) := HIA.out.done hgv hov; have m5 := HDZ.out.c5; have z5 := HDZ.out.fz 5; clear hov hgv i0 i1 i2 i3 i4 i5)
          go_roundw
          case rel => exact ⟨k + 1, _, ks ++ [Tk.mk xn xp xr xq (.slice w0' w1' w2')], ts ++ [Ta.mk xn xp xr xq al], by go_num, by omega, by simp; omega, HN1, (by
            have hp4e : p = 4 := by omega
            have hal := HAL.out
            rw [hp4e] at hal
            have h2 := HDR.out.2
            refine HDR.out.1.next (by omega) ?_ HXP.out.1 HXP.out.2 (by rw [h2]; exact hal)
            show xn = _
            rw [← HXN.out, HJ.out, h2]), by have := HDR.out.2; simp; omega⟩
          case measure => simp [intOf]; omega
    · have hkn : k = n := by omega
      obtain ⟨ta, tc, htv⟩ := HS.out.len
      subst htv
      have hkl3 : ks.length = n := by omega
      rw [hkl3] at HS
      subst hkn
      clear hkl hk hlt
      by_cases hn1 : 1 < k
      · have g1 : (1 : Int) < (k : Int) := by omega
        go_wp2_with fail
        refine (qxa g 3 _ HS.out.drw (by decide) (by decide)).mono ?_
        rintro e Y ⟨b, rfl, hdy, hsy⟩
        have HY : Hid (DgS g D Nn w nm cr fr up cu (.slice ta k tc) ks ts Y) := HS.out.save hsy hdy
        clear hdy hsy HS
        cases b with
        | false =>
          have HE : Hid (DgE g D w nm cr fr up cu (.slice ta k tc) ks ts Y) := HY.out.ends
          clear HY
          have e0 := HE.out.d.c0
          have e1 := HE.out.d.c1
          have e2 := HE.out.d.c2
          have e3 := HE.out.d.c3
          have e4 := HE.out.d.c4
          have e5 := HE.out.d.c5
          have r0 := HE.out.res.c0
          have r1 := HE.out.res.c1
          have r2 := HE.out.res.c2
          have r3 := HE.out.res.c3
          have r4 := HE.out.res.c4
          have r5 := HE.out.res.c5
          have z0 := HE.out.res.fz 0
          have z1 := HE.out.res.fz 1
          have z2 := HE.out.res.fz 2
          have z3 := HE.out.res.fz 3
          have z4 := HE.out.res.fz 4
          have z5 := HE.out.res.fz 5
          go_wp2
          have HFI := HE.out.fin
          refine bodyPost_ret (ret_d1 (p := 2) (by kernel_rfl) (by kernel_rfl) HFI.1) rfl ?_
          exact ⟨nm, cr, fr, up, cu, _, ks, ts, rfl, HFI.2.1, HFI.2.2.1, dag_right HNM.out.1 HCR.out.1.1 HCR.out.1.2 hf0 hu0 hu1 (by have := HDR.out.2; omega) (by have := HDR.out.2; omega) HDR.out.1.good, HDR.out.1.small, by have := HDR.out.2; omega, by have := HDR.out.2; omega, HNM.out.2, HCR.out.2, hf0, hu0, hu1, fun a m c e => (HE.out.at' a m c e).1, HFI.2.2.2.1, HFI.2.2.2.2⟩
        | true =>
          obtain ⟨r, cap, k0, l, htv, hkse, hcap⟩ : ∃ r cap k0 l, (Value.slice ta k tc) = .slice (some ⟨r, 0, none⟩) k cap ∧ ks = k0 :: l ∧ k ≤ cap := by
            obtain ⟨k0, l, rfl⟩ : ∃ k0 l, ks = k0 :: l := by
              match ks, hkl3 with
              | [], hkl3 => simp at hkl3; omega
              | k0 :: l, _ => exact ⟨k0, l, rfl⟩
            rcases HY.out.own.2 with ⟨h', h0⟩ | ⟨g', cap', cur, h', hb, hg, hc, _⟩
            · simp at h0
            · rw [hkl3] at h' hc
              exact ⟨g', cap', k0, l, h', rfl, hc⟩
          subst hkse
          rw [htv] at HY
          clear htv
          obtain ⟨t0, tl, rfl⟩ : ∃ t0 tl, ts = t0 :: tl := by
            have h2 := HDR.out.2
            match ts, h2 with
            | [], h2 => simp at h2; omega
            | t0 :: tl, _ => exact ⟨t0, tl, rfl⟩
          obtain ⟨m, rfl⟩ : ∃ m, k = m + 1 := ⟨k - 1, by omega⟩
          have HM : Hid (l.length = m) := by show _ = _; simpa using hkl3
          clear hkl3
          have hm3 : m ≤ 3 := by omega
          have hm0 : 1 ≤ m := by omega
          obtain ⟨hrl, -, -, hat0⟩ := HY.out.own.at (i := 0) rfl
          have u0 : Y.cell? ⟨r, 0, none⟩ = some (.string k0.name) := (hat0 0 (by decide)).1
          have u1 : Y.cell? ⟨r, 1, none⟩ = some (.string k0.pool) := (hat0 1 (by decide)).1
          have u2 : Y.cell? ⟨r, 2, none⟩ = some (.int .i64 k0.ret) := (hat0 2 (by decide)).1
          have u3 : Y.cell? ⟨r, 3, none⟩ = some (.bool k0.past) := (hat0 3 (by decide)).1
          have u4 : Y.cell? ⟨r, 4, none⟩ = some k0.after := (hat0 4 (by decide)).1
          have u5 := HY.out.d.c5
          obtain ⟨al0, hal0⟩ := HY.out.aft.of (List.mem_cons_self ..)
          obtain ⟨kn, kp, kr, kq, ka⟩ := k0
          simp only at u0 u1 u2 u3 u4 hal0
          obtain ⟨a0, a1, a2, rfl⟩ := hal0.slice3
          clear hat0 hal0
          have HF0 : Hid (B5 192 (Y.alloc (.cells #[.string kn, .string kp, .int .i64 kr, .bool kq, .slice a0 a1 a2] 192)) Y.heap.size (.string kn) (.string kp) (.int .i64 kr) (.bool kq) (.slice a0 a1 a2)) := B5.new _ _ _ _ _ _ _
          have HYA : Hid (DgS g D Nn w nm cr fr up cu (.slice (some ⟨r, 0, none⟩) (m + 1) cap) (Tk.mk kn kp kr kq (.slice a0 a1 a2) :: l) (t0 :: tl) (Y.alloc (.cells #[.string kn, .string kp, .int .i64 kr, .bool kq, .slice a0 a1 a2] 192))) := HY.out.alloc _
          have hFr : Y.heap.size ≠ r := by omega
          obtain ⟨F, hF⟩ : ∃ F, Y.heap.size = F := ⟨_, rfl⟩
          obtain ⟨Y1, HY1⟩ : ∃ Y1, Hid (Y.alloc (.cells #[.string kn, .string kp, .int .i64 kr, .bool kq, .slice a0 a1 a2] 192) = Y1) := ⟨_, rfl⟩
          rw [hF, HY1.out] at HF0
          rw [HY1.out] at HYA
          rw [hF] at hFr
          have hrun : ∀ wx, (Instr.slice 161 (.slice (some ⟨r, 0, none⟩) (m + 1) cap) (some (.int .i64 1)) none none).run Tryz.prog wx = .ok (.slice (some ⟨r, 5, none⟩) m (cap - 1)) wx := fun wx => by
            have hne : ¬ cap = 1 := by omega
            have hln : (1 : Int) ≤ ((m + 1 : Nat) : Int) := by omega
            rw [run_slice_l (P := Tryz.prog) wx 161 (some ⟨r, 0, none⟩) (m + 1) cap (by kernel_rfl) .i64 1 (by decide) hln]
            rw [show (sizeOf (Tryz.prog.elem 161)).run Tryz.prog wx = .ok 5 wx by kernel_rfl]
            simp [Result.andThen, sliced, hne, Addr.add]
          go_wp2_with (rw [HY1.out])
          have k5 : ∀ x : DgZ D nm cr fr up cu (.slice (some ⟨r, 0, none⟩) (m + 1) cap) F (.string kn) (.string kp) (.int .i64 kr) (.bool kq) (.slice a0 a1 a2), x.at'.cell? ⟨D, 5, none⟩ = some (.slice (some ⟨r, 0, none⟩) (m + 1) cap) := fun x => x.okd.c5
          have f0 : ∀ x : DgZ D nm cr fr up cu (.slice (some ⟨r, 0, none⟩) (m + 1) cap) F (.string kn) (.string kp) (.int .i64 kr) (.bool kq) (.slice a0 a1 a2), x.at'.cell? ⟨F, 0, none⟩ = some (.string kn) := fun x => x.okf.c0
          have f1 : ∀ x : DgZ D nm cr fr up cu (.slice (some ⟨r, 0, none⟩) (m + 1) cap) F (.string kn) (.string kp) (.int .i64 kr) (.bool kq) (.slice a0 a1 a2), x.at'.cell? ⟨F, 1, none⟩ = some (.string kp) := fun x => x.okf.c1
          have f2 : ∀ x : DgZ D nm cr fr up cu (.slice (some ⟨r, 0, none⟩) (m + 1) cap) F (.string kn) (.string kp) (.int .i64 kr) (.bool kq) (.slice a0 a1 a2), x.at'.cell? ⟨F, 2, none⟩ = some (.int .i64 kr) := fun x => x.okf.c2
          have f3 : ∀ x : DgZ D nm cr fr up cu (.slice (some ⟨r, 0, none⟩) (m + 1) cap) F (.string kn) (.string kp) (.int .i64 kr) (.bool kq) (.slice a0 a1 a2), x.at'.cell? ⟨F, 3, none⟩ = some (.bool kq) := fun x => x.okf.c3
          have f4 : ∀ x : DgZ D nm cr fr up cu (.slice (some ⟨r, 0, none⟩) (m + 1) cap) F (.string kn) (.string kp) (.int .i64 kr) (.bool kq) (.slice a0 a1 a2), x.at'.cell? ⟨F, 4, none⟩ = some (.slice a0 a1 a2) := fun x => x.okf.c4
          haveI : Nonempty (DgZ D nm cr fr up cu (.slice (some ⟨r, 0, none⟩) (m + 1) cap) F (.string kn) (.string kp) (.int .i64 kr) (.bool kq) (.slice a0 a1 a2)) := ⟨⟨Y1, HYA.out.d, HF0.out⟩⟩
          refine qha (fun w' => ∃ x : DgZ D nm cr fr up cu (.slice (some ⟨r, 0, none⟩) (m + 1) cap) F (.string kn) (.string kp) (.int .i64 kr) (.bool kq) (.slice a0 a1 a2), w' = x.at') [0, 1, 2, 3] 6 2 (by kernel_rfl) (by decide) (by decide) (by kernel_rfl) (fun _ _ d _ _ h => by cases d <;> exact h) ⟨⟨Y1.drew, HYA.out.drew.d, HF0.out⟩, rfl⟩ ?_
          repeat (refine qea rfl (by first | (intro x h; cases h; done) | (intro x h; cases h; exact ⟨_, rfl⟩)) ?_; go_big_quiet_step (fail); refine wpQuiet_nil ?_)
          refine qda ?_
          clear k5 f0 f1 f2 f3 f4
          refine qfa (fuel := 1) (i := 4) (by kernel_rfl) rfl rfl ?_
          intro K hK
          go_wp2
          obtain ⟨b1, hb1⟩ : ∃ b, Y1.heap.size = b := ⟨_, rfl⟩
          obtain ⟨V1, hV1⟩ : ∃ V, (Y1.alloc (.cells #[.string kn, .string kp, .int .i64 kr, .bool kq, .slice a0 a1 a2] 192)).drew = V := ⟨_, rfl⟩
          have HV1 : Hid (DgS g D Nn w nm cr fr up cu (.slice (some ⟨r, 0, none⟩) (m + 1) cap) (Tk.mk kn kp kr kq (.slice a0 a1 a2) :: l) (t0 :: tl) V1) := by show DgS _ _ _ _ _ _ _ _ _ _ _ _ _; rw [← hV1]; exact (HYA.out.alloc _).drew
          have HF1 : Hid (B5 192 V1 F (.string kn) (.string kp) (.int .i64 kr) (.bool kq) (.slice a0 a1 a2)) := by show B5 _ _ _ _ _ _ _ _; rw [← hV1]; exact HF0.out.alloc _
          have HB1 : Hid (B5 192 V1 b1 (.string kn) (.string kp) (.int .i64 kr) (.bool kq) (.slice a0 a1 a2)) := by show B5 _ _ _ _ _ _ _ _; rw [← hV1, ← hb1]; exact B5.new _ _ _ _ _ _ _
          rw [hV1]
          try rw [hb1]
          clear hV1 hb1
          refine hK.out _ _ ⟨⟨V1, HV1.out.d, HF1.out⟩, rfl⟩ ?_
          clear hK K
          refine qfa (fuel := 0) (i := 5) (by kernel_rfl) rfl rfl ?_
          intro K hK
          go_wp2_with (at_builtin; refine wpList_append_cut rfl (.tmp 102) (.tmp 104) 161 rfl qeb qtb rfl HV1.out.own b1 1 (Tk.mk kn kp kr kq (.slice a0 a1 a2)) rfl rfl (cells_tk HB1.out) (by have := HM.out; omega) (by decide) ?_; intro v' Z hrd hgz hatz)
          have HDZ : Hid (D6 Z D nm cr fr up cu (.slice (some ⟨r, 0, none⟩) (m + 1) cap)) := (hgz.block D HV1.out.dlt (fun e => (HV1.out.own.apartTy HV1.out.tyD (by decide)) (by rw [e]; rfl))).trans HV1.out.d
          have HFZ : Hid (B5 192 Z F (.string kn) (.string kp) (.int .i64 kr) (.bool kq) (.slice a0 a1 a2)) := HF1.out.grown hgz (fun e => hFr (Option.some.inj e))
          obtain ⟨y0, y1, y2, rfl⟩ : ∃ a n c, v' = .slice a n c := by obtain ⟨a, c, e, _⟩ := hrd; exact ⟨a, _, c, e⟩
          have HE : Hid (DgE g D w nm cr fr up cu (.slice y0 y1 y2) (l ++ [Tk.mk kn kp kr kq (.slice a0 a1 a2)]) (tl ++ [t0]) (Z.setCell ⟨D, 5, none⟩ (.slice y0 y1 y2))) := HV1.out.turned hgz hrd (fun _ _ h => h.turn) hatz
          clear hrd hgz hatz
          go_wp2
          refine hK.out _ _ ⟨⟨Z, HDZ.out, HFZ.out⟩, rfl⟩ ?_
          clear hK K
          refine qoa (by kernel_rfl) ?_
          simp only [List.drop_succ_cons, List.drop_zero]
          obtain ⟨Z2, HZ2⟩ : ∃ Z2, Hid (Z.setCell ⟨D, 5, none⟩ (.slice y0 y1 y2) = Z2) := ⟨_, rfl⟩
          rw [HZ2.out] at HE
          have d5 := HDZ.out.c5
          have z9 := HDZ.out.fz 5
          clear HV1 HF1 HB1 HFZ HDZ HYA HF0 HY1 HY
          clear u0 u1 u2 u3 u4 u5
          have e0 := HE.out.d.c0
          have e1 := HE.out.d.c1
          have e2 := HE.out.d.c2
          have e3 := HE.out.d.c3
          have e4 := HE.out.d.c4
          have e5 := HE.out.d.c5
          have r0 := HE.out.res.c0
          have r1 := HE.out.res.c1
          have r2 := HE.out.res.c2
          have r3 := HE.out.res.c3
          have r4 := HE.out.res.c4
          have r5 := HE.out.res.c5
          have z0 := HE.out.res.fz 0
          have z1 := HE.out.res.fz 1
          have z2 := HE.out.res.fz 2
          have z3 := HE.out.res.fz 3
          have z4 := HE.out.res.fz 4
          have z5 := HE.out.res.fz 5
          go_wp2_with (rw [HZ2.out])
          have HFI := HE.out.fin
          refine bodyPost_ret (ret_d1 (p := 2) (by kernel_rfl) (by kernel_rfl) HFI.1) rfl ?_
          exact ⟨nm, cr, fr, up, cu, _, l ++ [Tk.mk kn kp kr kq (.slice a0 a1 a2)], tl ++ [t0], rfl, HFI.2.1, HFI.2.2.1, dag_right HNM.out.1 HCR.out.1.1 HCR.out.1.2 hf0 hu0 hu1 (by simp) (by have := HDR.out.2; simp at this; simp; omega) HDR.out.1.turn, HDR.out.1.small.turn, by simp, by have := HDR.out.2; simp at this; simp; omega, HNM.out.2, HCR.out.2, hf0, hu0, hu1, fun a m c e => (HE.out.at' a m c e).1, HFI.2.2.2.1, HFI.2.2.2.2⟩
      · have g1 : ¬ (1 : Int) < (k : Int) := by omega
        have HE : Hid (DgE g D w nm cr fr up cu (.slice ta k tc) ks ts wr) := HS.out.ends
        clear HS
        have e0 := HE.out.d.c0
        have e1 := HE.out.d.c1
        have e2 := HE.out.d.c2
        have e3 := HE.out.d.c3
        have e4 := HE.out.d.c4
        have e5 := HE.out.d.c5
        have r0 := HE.out.res.c0
        have r1 := HE.out.res.c1
        have r2 := HE.out.res.c2
        have r3 := HE.out.res.c3
        have r4 := HE.out.res.c4
        have r5 := HE.out.res.c5
        have z0 := HE.out.res.fz 0
        have z1 := HE.out.res.fz 1
        have z2 := HE.out.res.fz 2
        have z3 := HE.out.res.fz 3
        have z4 := HE.out.res.fz 4
        have z5 := HE.out.res.fz 5
        go_wp2
        have HFI := HE.out.fin
        refine bodyPost_ret (ret_d1 (p := 2) (by kernel_rfl) (by kernel_rfl) HFI.1) rfl ?_
        exact ⟨nm, cr, fr, up, cu, _, ks, ts, rfl, HFI.2.1, HFI.2.2.1, dag_right HNM.out.1 HCR.out.1.1 HCR.out.1.2 hf0 hu0 hu1 (by have := HDR.out.2; omega) (by have := HDR.out.2; omega) HDR.out.1.good, HDR.out.1.small, by have := HDR.out.2; omega, by have := HDR.out.2; omega, HNM.out.2, HCR.out.2, hf0, hu0, hu1, fun a m c e => (HE.out.at' a m c e).1, HFI.2.2.2.1, HFI.2.2.2.2⟩
end Go.Proofs.YtpjpheicldegkaaGreatDoor
