/-
  A task ends, as the specification does it: the walk.
-/
import Derived.Test.YtjmclcjhimcehaaGreatDoorH4
namespace Go.Proofs.YtjmclcjhimcehaaGreatDoor
open Go Go.RowKit
set_option linter.unusedVariables false

set_option maxRecDepth 10000 in
set_option maxHeartbeats 8000000 in
theorem specFinish_any (ao : Option Addr) (n cap : Nat) (nm cr : ByteArray) (fr up : Int) (cu : Bool) (ts : List Ta) (ro : Option Addr) (rl rc : Nat) (rn : ByteArray) (rf ru re : Int) (st : List Sa) (i : Int) (good : Bool) (now : Int) (w : World) (hd : DagAt w (.slice ao n cap) ⟨nm, cr, fr, up, cu, ts⟩) (hr : Reads w (.slice ro rl rc) st) (hl : rl ≤ 1048577) (R : Rr) (HRR : Hid (finR ⟨nm, cr, fr, up, cu, ts⟩ ⟨rn, rf, ru, re, st⟩ i good now = R)) :
    Calls Tryz.prog 25 #[.agg #[.string nm, .string cr, .int .i64 fr, .int .i64 up, .bool cu, .slice ao n cap], .agg #[.string rn, .int .i64 rf, .int .i64 ru, .int .i64 re, .slice ro rl rc], .int .i64 i, .bool good, .int .i64 now] w fun e w' => ∃ v, e = .returned (.tuple #[.agg #[.string R.nm, .int .i64 R.fr, .int .i64 R.up, .int .i64 R.ep, v], .bool (finB ⟨nm, cr, fr, up, cu, ts⟩ ⟨rn, rf, ru, re, st⟩ i now)]) ∧ ownsR w' w.heap.size 85 v R.st ∧ Below w.heap.size w w' := by
  have HN : Hid (ts.length = n) := by
    obtain ⟨ao', cap', e⟩ := hd.tasks.slice
    injection e with _ e2 _
    exact e2.symm
  have HRN : Hid (st.length = rl) := hr.len.symm
  obtain ⟨q, HQ⟩ : ∃ q, Hid (runB ⟨nm, cr, fr, up, cu, ts⟩ ⟨rn, rf, ru, re, st⟩ = q) := ⟨_, rfl⟩
  have HD : Hid (∀ W, Below w.heap.size w W → Calls Tryz.prog 20 #[.agg #[.string nm, .string cr, .int .i64 fr, .int .i64 up, .bool cu, .slice ao n cap], .agg #[.string rn, .int .i64 rf, .int .i64 ru, .int .i64 re, .slice ro rl rc]] W fun e w' => e = .returned (.bool q) ∧ Below W.heap.size W w') := fun W hb => by
    have := specRunOk_any ao n cap nm cr fr up cu ts ro rl rc rn rf ru re st W (hd.below hb) (hr.below hb) hl
    rw [HQ.out] at this
    exact this
  obtain ⟨z, HZ⟩ : ∃ z, Hid (isN st i 1 = z) := ⟨_, rfl⟩
  obtain ⟨mi, HMI⟩ : ∃ mi, Hid (decide (0 ≤ now ∧ now ≤ 68374079) = mi) := ⟨_, rfl⟩
  have HMN : Hid (∀ W : World, Calls Tryz.prog 56 #[.int .i64 now, .int .i64 0, .int .i64 68374079] W fun e w' => e = .returned (.bool mi) ∧ Below W.heap.size W w') := fun W => inB_any now 0 68374079 mi HMI.out W
  have HIN : Hid (∀ (b : Bool), decide (0 ≤ i ∧ i < (rl : Int)) = b → ∀ W : World, Calls Tryz.prog 56 #[.int .i64 i, .int .i64 0, .int .i64 ((rl : Int) - 1)] W fun e w' => e = .returned (.bool b) ∧ Below W.heap.size W w') := fun b hb W => inB_any i 0 ((rl : Int) - 1) b (by rw [← hb]; exact decide_eq_decide.2 ⟨fun h => ⟨h.1, by omega⟩, fun h => ⟨h.1, by omega⟩⟩) W
  have HFB : Hid (finB ⟨nm, cr, fr, up, cu, ts⟩ ⟨rn, rf, ru, re, st⟩ i now = (q && (z && mi))) := by show finB _ _ _ _ = _; unfold finB; rw [HQ.out, HMI.out]; show (q && (isN st i 1 && mi)) = _; rw [HZ.out]
  have HC : Hid (∀ W : World, Below w.heap.size w W → Calls Tryz.prog 57 #[.agg #[.string rn, .int .i64 rf, .int .i64 ru, .int .i64 re, .slice ro rl rc]] W fun e w' => ∃ v, e = .returned (.agg #[.string rn, .int .i64 rf, .int .i64 ru, .int .i64 re, v]) ∧ ownsR w' W.heap.size 85 v st ∧ Below W.heap.size W w') := fun W hb => l14Copy_any ro rl rc rn rf ru re st W (hr.below hb) hl
  have HDA : Hid (∀ W, Below w.heap.size w W → DagAt W (.slice ao n cap) ⟨nm, cr, fr, up, cu, ts⟩) := fun W hb => hd.below hb
  have HRD : Hid (∀ W, Below w.heap.size w W → Reads W (.slice ro rl rc) st) := fun W hb => hr.below hb
  clear hd hr
  obtain ⟨W1, hW1⟩ : ∃ W1, ((w.alloc (.cells #[.string nm, .string cr, .int .i64 fr, .int .i64 up, .bool cu, .slice ao n cap] 36)).alloc (.cells #[.string rn, .int .i64 rf, .int .i64 ru, .int .i64 re, .slice ro rl rc] 31)).alloc (.cells #[.string ⟨#[]⟩, .int .i64 0, .int .i64 0, .int .i64 0, .slice none 0 0] 31) = W1 := ⟨_, rfl⟩
  have Z1 : P6 W1 w.heap.size nm cr fr up cu (.slice ao n cap) := by rw [← hW1]; exact (P6.new _ _ _ _ _ _ _).on (ba (ba (Below.refl _ _) (.cells #[.string rn, .int .i64 rf, .int .i64 ru, .int .i64 re, .slice ro rl rc] 31)) (.cells #[.string ⟨#[]⟩, .int .i64 0, .int .i64 0, .int .i64 0, .slice none 0 0] 31))
  have X1 : R5 W1 (w.heap.size + 1) rn rf ru re (.slice ro rl rc) := by
    rw [← hW1]
    have := (R5.new (w.alloc (.cells #[.string nm, .string cr, .int .i64 fr, .int .i64 up, .bool cu, .slice ao n cap] 36)) rn rf ru re (.slice ro rl rc)).on (ba (Below.refl _ _) (.cells #[.string ⟨#[]⟩, .int .i64 0, .int .i64 0, .int .i64 0, .slice none 0 0] 31))
    simpa using this
  have Y1 : R5 W1 (w.heap.size + 1 + 1) ⟨#[]⟩ 0 0 0 (.slice none 0 0) := by
    rw [← hW1]
    have := R5.new ((w.alloc (.cells #[.string nm, .string cr, .int .i64 fr, .int .i64 up, .bool cu, .slice ao n cap] 36)).alloc (.cells #[.string rn, .int .i64 rf, .int .i64 ru, .int .i64 re, .slice ro rl rc] 31)) ⟨#[]⟩ 0 0 0 (.slice none 0 0)
    simpa using this
  have B1 : Below w.heap.size w W1 := by rw [← hW1]; exact ba (ba (ba (Below.refl _ _) _) _) _
  have c0 := Z1.c0
  have c1 := Z1.c1
  have c2 := Z1.c2
  have c3 := Z1.c3
  have c4 := Z1.c4
  have c5 := Z1.c5
  have x0 := X1.c0
  have x1 := X1.c1
  have x2 := X1.c2
  have x3 := X1.c3
  have x4 := X1.c4
  go_enter Tryz.func25, Tryz.ntmps25
  go_wp2_with fail
  refine (HD.out _ B1).mono ?_
  rintro e w2 ⟨rfl, hb2⟩
  have Z2 := Z1.on hb2
  have X2 := X1.on hb2
  have Y2 := Y1.on hb2
  have B2 := Below.on B1 hb2
  clear c0 c1 c2 c3 c4 c5 x0 x1 x2 x3 x4 Z1 X1 Y1 B1 hb2 HD hW1
  cases q with
  | false =>
    have HF : Hid (finB ⟨nm, cr, fr, up, cu, ts⟩ ⟨rn, rf, ru, re, st⟩ i now = false) := HFB.out
    have HR0 : Hid (R = noneR) := by show R = _; rw [← HRR.out]; exact if_neg (by rw [HF.out]; decide)
    have y0 := Y2.c0
    have y1 := Y2.c1
    have y2 := Y2.c2
    have y3 := Y2.c3
    have y4 := Y2.c4
    have yf := Y2.fz
    go_wp2
    refine bodyPost_ret (ret_run2 rfl rfl rfl (Y2.set ⟨#[]⟩ 0 0 0 (.slice none 0 0))) rfl ⟨.slice none 0 0, ?_, ?_, below_putR5 B2 (by omega) ⟨#[]⟩ 0 0 0 (.slice none 0 0)⟩
    · rw [HR0.out, HF.out]; rfl
    · rw [HR0.out]; exact ownsR_nil _ _ _
  | true =>
  have x4 := X2.c4
  by_cases hi : 0 ≤ i ∧ i < (rl : Int)
  case neg =>
    have HI := HIN.out false (decide_eq_false hi) w2
    have hz : z = false := by rw [← HZ.out]; exact isN_out (by have := HRN.out; omega) 1
    subst hz
    clear hi
    go_wp2_with fail
    refine HI.mono ?_
    rintro e w3 ⟨rfl, hb3⟩
    have Y3 := Y2.on hb3
    have B3 := Below.on B2 hb3
    clear x4
    have HF : Hid (finB ⟨nm, cr, fr, up, cu, ts⟩ ⟨rn, rf, ru, re, st⟩ i now = false) := HFB.out
    have HR0 : Hid (R = noneR) := by show R = _; rw [← HRR.out]; exact if_neg (by rw [HF.out]; decide)
    have y0 := Y3.c0
    have y1 := Y3.c1
    have y2 := Y3.c2
    have y3 := Y3.c3
    have y4 := Y3.c4
    have yf := Y3.fz
    go_wp2
    refine bodyPost_ret (ret_run2 rfl rfl rfl (Y3.set ⟨#[]⟩ 0 0 0 (.slice none 0 0))) rfl ⟨.slice none 0 0, ?_, ?_, below_putR5 B3 (by omega) ⟨#[]⟩ 0 0 0 (.slice none 0 0)⟩
    · rw [HR0.out, HF.out]; rfl
    · rw [HR0.out]; exact ownsR_nil _ _ _
  have HI := HIN.out true (decide_eq_true hi) w2
  obtain ⟨k, rfl⟩ : ∃ k : Nat, i = (k : Int) := ⟨i.toNat, by omega⟩
  have hk : k < rl := by omega
  obtain ⟨x, hx⟩ : ∃ x, st[k]? = some x := ⟨_, List.getElem?_eq_getElem (by rw [HRN.out]; exact hk)⟩
  clear hi
  go_wp2_with fail
  refine HI.mono ?_
  rintro e w3 ⟨rfl, hb3⟩
  have Z3 := Z2.on hb3
  have X3 := X2.on hb3
  have Y3 := Y2.on hb3
  have B3 := Below.on B2 hb3
  clear x4 Z2 X2 Y2 B2 hb3 HI HIN
  obtain ⟨bs, os, es, hbs, d0, -, -, -⟩ := sa_at (HRD.out w3 B3) hx
  subst es
  have x4 := X3.c4
  have hzx : z = decide (x.is = 1) := by rw [← HZ.out]; exact isN_in hx 1
  by_cases h1 : x.is = 1
  case neg =>
    have h1' : (x.is != 1) = true := bne_iff_ne.2 h1
    have hz : z = false := by rw [hzx]; exact decide_eq_false h1
    subst hz
    clear hzx h1
    have HF : Hid (finB ⟨nm, cr, fr, up, cu, ts⟩ ⟨rn, rf, ru, re, st⟩ (k : Int) now = false) := HFB.out
    have HR0 : Hid (R = noneR) := by show R = _; rw [← HRR.out]; exact if_neg (by rw [HF.out]; decide)
    have y0 := Y3.c0
    have y1 := Y3.c1
    have y2 := Y3.c2
    have y3 := Y3.c3
    have y4 := Y3.c4
    have yf := Y3.fz
    go_wp2
    refine bodyPost_ret (ret_run2 rfl rfl rfl (Y3.set ⟨#[]⟩ 0 0 0 (.slice none 0 0))) rfl ⟨.slice none 0 0, ?_, ?_, below_putR5 B3 (by omega) ⟨#[]⟩ 0 0 0 (.slice none 0 0)⟩
    · rw [HR0.out, HF.out]; rfl
    · rw [HR0.out]; exact ownsR_nil _ _ _
  have hz : z = true := by rw [hzx]; exact decide_eq_true h1
  subst hz
  have h1' : (x.is != 1) = false := by rw [h1]; rfl
  clear hzx
  go_wp2_with fail
  refine (HMN.out _).mono ?_
  rintro e w4 ⟨rfl, hb4⟩
  have Z4 := Z3.on hb4
  have X4 := X3.on hb4
  have Y4 := Y3.on hb4
  have B4 := Below.on B3 hb4
  clear x4 d0 Z3 X3 Y3 B3 hb4 HMN
  cases mi with
  | false =>
    have HF : Hid (finB ⟨nm, cr, fr, up, cu, ts⟩ ⟨rn, rf, ru, re, st⟩ (k : Int) now = false) := HFB.out
    have HR0 : Hid (R = noneR) := by show R = _; rw [← HRR.out]; exact if_neg (by rw [HF.out]; decide)
    have y0 := Y4.c0
    have y1 := Y4.c1
    have y2 := Y4.c2
    have y3 := Y4.c3
    have y4 := Y4.c4
    have yf := Y4.fz
    go_wp2
    refine bodyPost_ret (ret_run2 rfl rfl rfl (Y4.set ⟨#[]⟩ 0 0 0 (.slice none 0 0))) rfl ⟨.slice none 0 0, ?_, ?_, below_putR5 B4 (by omega) ⟨#[]⟩ 0 0 0 (.slice none 0 0)⟩
    · rw [HR0.out, HF.out]; rfl
    · rw [HR0.out]; exact ownsR_nil _ _ _
  | true =>
  have HF : Hid (finB ⟨nm, cr, fr, up, cu, ts⟩ ⟨rn, rf, ru, re, st⟩ (k : Int) now = true) := HFB.out
  have hnow : 0 ≤ now ∧ now ≤ 68374079 := of_decide_eq_true HMI.out
  have HRUN : Hid (runB ⟨nm, cr, fr, up, cu, ts⟩ ⟨rn, rf, ru, re, st⟩ = true) := HQ.out
  have HIS : Hid (isN (Rr.st ⟨rn, rf, ru, re, st⟩) (k : Int) 1 = true) := HZ.out
  have hln : rl = n := by have := run_len HRUN.out; rw [← HRN.out, ← HN.out]; exact this
  subst hln
  obtain ⟨t, ht⟩ : ∃ t, ts[k]? = some t := ⟨_, List.getElem?_eq_getElem (by rw [HN.out]; exact hk)⟩
  have hret : 0 ≤ t.ret ∧ t.ret ≤ 3 := ret_of (d := ⟨nm, cr, fr, up, cu, ts⟩) (run_parts HRUN.out).1 ht
  have hok : saB x t.ret = true := by
    have := (run_ok HRUN.out (i := k) (x := x) hx).1.right
    rw [show retN (Dg.tasks ⟨nm, cr, fr, up, cu, ts⟩) k = t.ret from retN_at ht] at this
    exact this
  have htr : 0 ≤ x.tries ∧ x.tries ≤ t.ret + 1 := ⟨(of_decide_eq_true hok).1, (of_decide_eq_true hok).2.1⟩
  have HR0 : Hid (R = ⟨rn, rf, ru, re, if good = true then st.set k ⟨2, x.tries, 0, 0⟩ else blockL ts (st.set k (failS x t.ret now))⟩) := by
    show R = _
    rw [← HRR.out]
    unfold finR
    rw [HF.out, if_pos rfl]
    show Rr.mk rn rf ru re (finishS ⟨nm, cr, fr, up, cu, ts⟩ ⟨rn, rf, ru, re, st⟩ (k : Int) good now) = _
    unfold finishS
    rw [Int.toNat_natCast, show sAt (Rr.st ⟨rn, rf, ru, re, st⟩) k = x from sAt_at hx, show retN (Dg.tasks ⟨nm, cr, fr, up, cu, ts⟩) k = t.ret from retN_at ht]
  have HX : Hid (st[k]? = some x) := hx
  have HTK : Hid (ts[k]? = some t) := ht
  have HDG : Hid (dagB ⟨nm, cr, fr, up, cu, ts⟩ = true) := (run_parts HRUN.out).1
  obtain ⟨is, tr, tk, tl⟩ := x
  obtain ⟨nn, np, nr, npa, naf⟩ := t
  replace h1 : is = 1 := h1
  subst h1
  replace htr : 0 ≤ tr ∧ tr ≤ nr + 1 := htr
  replace hret : 0 ≤ nr ∧ nr ≤ 3 := hret
  replace HR0 : Hid (R = ⟨rn, rf, ru, re, if good = true then st.set k ⟨2, tr, 0, 0⟩ else blockL ts (st.set k (failS ⟨1, tr, tk, tl⟩ nr now))⟩) := HR0
  clear hx ht hok HRR HFB HQ HZ HMI h1'
  have x0 := X4.c0
  have x1 := X4.c1
  have x2 := X4.c2
  have x3 := X4.c3
  have x4 := X4.c4
  go_wp2_with fail
  refine (HC.out _ B4).mono ?_
  rintro e w5 ⟨v5, rfl, ho5, hb5⟩
  have Z5 := Z4.on hb5
  have X5 := X4.on hb5
  have Y5 := Y4.on hb5
  have B5 := Below.on B4 hb5
  obtain ⟨g, vc, ev, hg1, hg2, hvc⟩ := own_some ho5 HX.out
  have hgl : w.heap.size + 1 + 1 < g := Nat.lt_of_lt_of_le Y4.lt hg1
  have HO5 : Hid (ownsR w5 w.heap.size 85 v5 st) := ho5.mono B4.size
  clear x0 x1 x2 x3 x4 Z4 X4 Y4 B4 hb5 HC ho5 hg1
  subst ev
  rw [HRN.out] at HO5 hvc
  rw [HRN.out]
  obtain ⟨W6, hW6⟩ : ∃ W, w5.alloc (.cells #[.string rn, .int .i64 rf, .int .i64 ru, .int .i64 re, (.slice (some ⟨g, 0, none⟩) rl vc)] 31) = W := ⟨_, rfl⟩
  have hb6 : Below w5.heap.size w5 W6 := by rw [← hW6]; exact ba (Below.refl _ _) _
  have UW6 : R5 W6 w5.heap.size rn rf ru re (.slice (some ⟨g, 0, none⟩) rl vc) := by rw [← hW6]; exact R5.new _ _ _ _ _ _
  have ZW6 := Z5.on hb6
  have XW6 := X5.on hb6
  have YW6 := Y5.on hb6
  have BW6 := Below.on B5 hb6
  have HOW6 : Hid (ownsR W6 w.heap.size 85 (.slice (some ⟨g, 0, none⟩) rl vc) st) := HO5.out.all hb6
  obtain ⟨P, hP⟩ : ∃ P, w5.heap.size = P := ⟨_, rfl⟩
  have hgP : g < P := by rw [← hP]; exact hg2
  rw [hP] at UW6
  obtain ⟨bs2, os2, es2, hbs2, d0, d1, d2, d3⟩ := sa_at (HRD.out W6 BW6) HX.out
  injection es2 with es2
  injection es2 with es3 es4 _
  subst es3 es4
  replace d0 : W6.cell? ⟨bs, os + k * 4, none⟩ = some (.int .i64 1) := d0
  replace d1 : W6.cell? ⟨bs, os + k * 4 + 1, none⟩ = some (.int .i64 tr) := d1
  replace d2 : W6.cell? ⟨bs, os + k * 4 + 2, none⟩ = some (.int .i64 tk) := d2
  replace d3 : W6.cell? ⟨bs, os + k * 4 + 3, none⟩ = some (.int .i64 tl) := d3
  have x4 := XW6.c4
  have hpl := UW6.lt
  cases good with
  | true =>
    have HR1 : Hid (R = ⟨rn, rf, ru, re, st.set k ⟨2, tr, 0, 0⟩⟩) := HR0.out
    obtain ⟨W7, hW7⟩ : ∃ W, W6.alloc (.cells #[.int .i64 2, .int .i64 tr, .int .i64 0, .int .i64 0] 85) = W := ⟨_, rfl⟩
    have hb7 : Below W6.heap.size W6 W7 := by rw [← hW7]; exact ba (Below.refl _ _) _
    have S7 : S4 W7 W6.heap.size 2 tr 0 0 := by rw [← hW7]; exact S4.new _ _ _ _ _
    have UW7 := UW6.on hb7
    have YW7 := YW6.on hb7
    have ZW7 := ZW6.on hb7
    have BW7 := Below.on BW6 hb7
    have HOW7 : Hid (ownsR W7 w.heap.size 85 (.slice (some ⟨g, 0, none⟩) rl vc) st) := HOW6.out.all hb7
    have Ox := sa_put HOW7.out ⟨2, tr, 0, 0⟩ HX.out
    have UW8 := (((UW7.far (a := ⟨g, k * 4, none⟩) (by show g ≠ P; omega) (.int .i64 2)).far (a := ⟨g, k * 4 + 1, none⟩) (by show g ≠ P; omega) (.int .i64 tr)).far (a := ⟨g, k * 4 + 2, none⟩) (by show g ≠ P; omega) (.int .i64 0)).far (a := ⟨g, k * 4 + 3, none⟩) (by show g ≠ P; omega) (.int .i64 0)
    have YW8 := (((YW7.far (a := ⟨g, k * 4, none⟩) (by show g ≠ w.heap.size + 1 + 1; omega) (.int .i64 2)).far (a := ⟨g, k * 4 + 1, none⟩) (by show g ≠ w.heap.size + 1 + 1; omega) (.int .i64 tr)).far (a := ⟨g, k * 4 + 2, none⟩) (by show g ≠ w.heap.size + 1 + 1; omega) (.int .i64 0)).far (a := ⟨g, k * 4 + 3, none⟩) (by show g ≠ w.heap.size + 1 + 1; omega) (.int .i64 0)
    have ZW8 := (((ZW7.far (a := ⟨g, k * 4, none⟩) (by show g ≠ w.heap.size; omega) (.int .i64 2)).far (a := ⟨g, k * 4 + 1, none⟩) (by show g ≠ w.heap.size; omega) (.int .i64 tr)).far (a := ⟨g, k * 4 + 2, none⟩) (by show g ≠ w.heap.size; omega) (.int .i64 0)).far (a := ⟨g, k * 4 + 3, none⟩) (by show g ≠ w.heap.size; omega) (.int .i64 0)
    have BW8 := (((BW7.setCell (p := ⟨g, k * 4, none⟩) (by show w.heap.size ≤ g; omega) (.int .i64 2)).setCell (p := ⟨g, k * 4 + 1, none⟩) (by show w.heap.size ≤ g; omega) (.int .i64 tr)).setCell (p := ⟨g, k * 4 + 2, none⟩) (by show w.heap.size ≤ g; omega) (.int .i64 0)).setCell (p := ⟨g, k * 4 + 3, none⟩) (by show w.heap.size ≤ g; omega) (.int .i64 0)
    obtain ⟨W8, hW8⟩ : ∃ W, (((W7.setCell ⟨g, k * 4, none⟩ (.int .i64 2)).setCell ⟨g, k * 4 + 1, none⟩ (.int .i64 tr)).setCell ⟨g, k * 4 + 2, none⟩ (.int .i64 0)).setCell ⟨g, k * 4 + 3, none⟩ (.int .i64 0) = W := ⟨_, rfl⟩
    have HWW8 : Hid ((((W7.setCell ⟨g, k * 4, none⟩ (.int .i64 2)).setCell ⟨g, k * 4 + 1, none⟩ (.int .i64 tr)).setCell ⟨g, k * 4 + 2, none⟩ (.int .i64 0)).setCell ⟨g, k * 4 + 3, none⟩ (.int .i64 0) = W8) := hW8
    rw [hW8] at UW8 YW8 ZW8 BW8
    have HOW8 : Hid (ownsR W8 w.heap.size 85 (.slice (some ⟨g, 0, none⟩) rl vc) (st.set k ⟨2, tr, 0, 0⟩)) := by show ownsR _ _ _ _ _; rw [← hW8]; exact Ox
    clear hW8 Ox
    obtain ⟨hg_W7, ⟨a0, a1, a2, a3⟩, af0, af1, af2, af3⟩ := sa_own HOW7.out HX.out
    have s0 := S7.c0
    have s1 := S7.c1
    have s2 := S7.c2
    have s3 := S7.c3
    have u74 := UW7.c4
    have x0 := UW8.c0
    have x1 := UW8.c1
    have x2 := UW8.c2
    have x3 := UW8.c3
    have x4 := UW8.c4
    have y0 := YW8.c0
    have y1 := YW8.c1
    have y2 := YW8.c2
    have y3 := YW8.c3
    have y4 := YW8.c4
    have yf := YW8.fz
    go_wp2_with (rw [HWW8.out])
    refine bodyPost_ret (ret_run2 rfl rfl rfl (YW8.set rn rf ru re (.slice (some ⟨g, 0, none⟩) rl vc))) rfl ⟨(.slice (some ⟨g, 0, none⟩) rl vc), ?_, ?_, below_putR5 BW8 (by omega) rn rf ru re (.slice (some ⟨g, 0, none⟩) rl vc)⟩
    · rw [HR1.out, HF.out]; rfl
    · rw [HR1.out]; exact own_putR5 HOW8.out (not_rowR5 YW8 HOW8.out) rn rf ru re (.slice (some ⟨g, 0, none⟩) rl vc)
  | false =>
    obtain ⟨W7, hW7⟩ : ∃ W, W6.alloc (.cells #[.int .i64 1, .int .i64 tr, .int .i64 0, .int .i64 0] 85) = W := ⟨_, rfl⟩
    have hb7 : Below W6.heap.size W6 W7 := by rw [← hW7]; exact ba (Below.refl _ _) _
    have SW7 : S4 W7 W6.heap.size 1 tr 0 0 := by rw [← hW7]; exact S4.new _ _ _ _ _
    have UW7 := UW6.on hb7
    have YW7 := YW6.on hb7
    have ZW7 := ZW6.on hb7
    have BW7 := Below.on BW6 hb7
    have HOW7 : Hid (ownsR W7 w.heap.size 85 (.slice (some ⟨g, 0, none⟩) rl vc) st) := HOW6.out.all hb7
    obtain ⟨Q, hQ⟩ : ∃ Q, W6.heap.size = Q := ⟨_, rfl⟩
    have hPQ : P < Q := by rw [← hQ]; exact hpl
    rw [hQ] at SW7
    obtain ⟨b1, o1, av, e1, hb1, -, -, nc_W6, -, -, -⟩ := (HDA.out W6 BW6).tasks.at HTK.out
    subst e1
    have hbQ : b1 < Q := by rw [← hQ]; exact hb1
    replace nc_W6 : W6.cell? ⟨b1, o1 + k * 5 + 2, none⟩ = some (.int .i64 nr) := nc_W6
    have nc_W7 := (hb7.cell (p := ⟨b1, o1 + k * 5 + 2, none⟩) hb1).trans nc_W6
    have HW7 : Hid (W6.alloc (.cells #[.int .i64 1, .int .i64 tr, .int .i64 0, .int .i64 0] 85) = W7) := hW7
    clear hW7
    go_wp2_with fail
    rw [HW7.out]
    clear HW7 hW6 d0 d1 d2 d3 x4 hb7 nc_W6 UW6 YW6 ZW6 XW6 BW6 HOW6 hb6 Z5 X5 Y5 B5 HO5
    have qs1 := Wd.cell SW7.c1
    have qz5 := Wd.cell ZW7.c5
    have qn := Wd.cell (nc_W7)
    refine wp_region_wd (by kernel_rfl) (by kernel_rfl) ?_
    repeat (go_big_quiet_step (fail))
    refine wpQuiet_nil ?_
    rintro _ ⟨y, rfl⟩
    have hby := y.ok
    obtain ⟨V5, hV5⟩ : ∃ V, y.at' = V := ⟨_, rfl⟩
    rw [hV5] at hby
    rw [hV5]
    clear hV5 y qs1 qz5 qn
    have UV5 := UW7.on hby
    have YV5 := YW7.on hby
    have ZV5 := ZW7.on hby
    have BV5 := Below.on BW7 hby
    have HOV5 : Hid (ownsR V5 w.heap.size 85 (.slice (some ⟨g, 0, none⟩) rl vc) st) := HOW7.out.all hby
    have SV5 := SW7.on hby
    have nc_V5 := (hby.cell (p := ⟨b1, o1 + k * 5 + 2, none⟩) (World.block_lt_of_cell? _ _ nc_W7)).trans nc_W7
    clear hby SW7 UW7 YW7 ZW7 BW7 HOW7 nc_W7
    by_cases htn : tr ≤ nr
    · have htn' : decide (tr ≤ nr) = true := decide_eq_true htn
      have HFT : Hid (failS ⟨1, tr, tk, tl⟩ nr now = if nr < tr + 1 then ⟨3, tr + 1, 0, 0⟩ else ⟨0, tr + 1, 0, now + backN (tr + 1)⟩) := by show failS _ _ _ = _; unfold failS; rw [show min tr nr = tr by omega]
      have s51 := SV5.c1
      have SV6 := SV5.s1 (tr + 1)
      have UV6 := UV5.far (a := ⟨Q, 1, none⟩) (by show Q ≠ P; omega) (.int .i64 (tr + 1))
      have YV6 := YV5.far (a := ⟨Q, 1, none⟩) (by show Q ≠ w.heap.size + 1 + 1; omega) (.int .i64 (tr + 1))
      have ZV6 := ZV5.far (a := ⟨Q, 1, none⟩) (by show Q ≠ w.heap.size; omega) (.int .i64 (tr + 1))
      have BV6 := BV5.setCell (p := ⟨Q, 1, none⟩) (by show w.heap.size ≤ Q; omega) (.int .i64 (tr + 1))
      have OV6 := grown_put (w' := V5) (p := ⟨Q, 1, none⟩) HOV5.out (.int .i64 (tr + 1)) (fun e => by have : some g = some Q := e; injection this with this; omega)
      have nc_V6 : (V5.setCell ⟨Q, 1, none⟩ (.int .i64 (tr + 1))).cell? ⟨b1, o1 + k * 5 + 2, none⟩ = some (.int .i64 nr) := by
        refine Eq.trans ?_ nc_V5
        unfold World.cell?
        rw [show (V5.setCell ⟨Q, 1, none⟩ (.int .i64 (tr + 1))).heap[b1]? = V5.heap[b1]? from heap_setCell_other V5 ⟨Q, 1, none⟩ b1 _ (fun e => by have e' : b1 = Q := e; omega)]
      obtain ⟨V6, hV6⟩ : ∃ W, V5.setCell ⟨Q, 1, none⟩ (.int .i64 (tr + 1)) = W := ⟨_, rfl⟩
      have HEV6 : Hid (V5.setCell ⟨Q, 1, none⟩ (.int .i64 (tr + 1)) = V6) := hV6
      rw [hV6] at SV6 UV6 YV6 ZV6 BV6 OV6 nc_V6
      have HOV6 : Hid (ownsR V6 w.heap.size 85 (.slice (some ⟨g, 0, none⟩) rl vc) st) := OV6
      have sc_V6 := SV5.c1
      have sf_V6 := SV5.fz 1
      clear hV6 OV6
      go_wp2_with (rw [HEV6.out])
      clear s51 sc_V6 sf_V6 HEV6
      by_cases hf : nr < (tr + 1)
      · have hf' : decide (nr < (tr + 1)) = true := decide_eq_true hf
        have hf3 : decide (nr ≤ tr) = true := decide_eq_true (by omega)
        have HR1 : Hid (R = ⟨rn, rf, ru, re, blockL ts (st.set k ⟨3, (tr + 1), 0, 0⟩)⟩) := by show R = _; rw [HR0.out, HFT.out, if_pos hf]; rfl
        have qs1 := Wd.cell SV6.c1
        have qz5 := Wd.cell ZV6.c5
        have qn := Wd.cell (nc_V6)
        refine wp_region_wd (by kernel_rfl) (by kernel_rfl) ?_
        repeat (go_big_quiet_step (fail))
        refine wpQuiet_nil ?_
        rintro _ ⟨y, rfl⟩
        have hby := y.ok
        obtain ⟨V7, hV7⟩ : ∃ V, y.at' = V := ⟨_, rfl⟩
        rw [hV7] at hby
        rw [hV7]
        clear hV7 y qs1 qz5 qn
        have UV7 := UV6.on hby
        have YV7 := YV6.on hby
        have ZV7 := ZV6.on hby
        have BV7 := Below.on BV6 hby
        have HOV7 : Hid (ownsR V7 w.heap.size 85 (.slice (some ⟨g, 0, none⟩) rl vc) st) := HOV6.out.all hby
        have SV7 := SV6.on hby
        have nc_V7 := (hby.cell (p := ⟨b1, o1 + k * 5 + 2, none⟩) (World.block_lt_of_cell? _ _ nc_V6)).trans nc_V6
        clear hby SV6 UV6 YV6 ZV6 BV6 HOV6 nc_V6
        clear hf htn
        have HBR : Hid (∀ W, Below w.heap.size w W → Reads W (.slice (some ⟨g, 0, none⟩) rl vc) (st.set k ⟨3, (tr + 1), 0, 0⟩) → Calls Tryz.prog 58 #[.agg #[.string nm, .string cr, .int .i64 fr, .int .i64 up, .bool cu, .slice (some ⟨b1, o1, none⟩) rl cap], .agg #[.string rn, .int .i64 rf, .int .i64 ru, .int .i64 re, .slice (some ⟨g, 0, none⟩) rl vc]] W fun e w' => ∃ (va : Option Addr) (vd : Nat), e = .returned (.agg #[.string rn, .int .i64 rf, .int .i64 ru, .int .i64 re, .slice va rl vd]) ∧ ownsR w' W.heap.size 85 (.slice va rl vd) (blockL ts (st.set k ⟨3, (tr + 1), 0, 0⟩)) ∧ Below W.heap.size W w') := fun W hb hrd => by
          have hbl : blkR ⟨nm, cr, fr, up, cu, ts⟩ ⟨rn, rf, ru, re, st.set k ⟨3, (tr + 1), 0, 0⟩⟩ = ⟨rn, rf, ru, re, blockL ts (st.set k ⟨3, (tr + 1), 0, 0⟩)⟩ := by
            show Rr.mk rn rf ru re (blockR ⟨nm, cr, fr, up, cu, ts⟩ _) = _
            unfold blockR
            rw [if_pos ⟨HDG.out, by show (st.set k _).length = ts.length; rw [List.length_set, HRN.out, HN.out]⟩]
          refine (specBlockRest_any (some ⟨b1, o1, none⟩) rl cap nm cr fr up cu ts (some ⟨g, 0, none⟩) rl vc rn rf ru re (st.set k ⟨3, (tr + 1), 0, 0⟩) W (HDA.out W hb) hrd hl _ hbl).mono fun e w' ⟨v, he, ho, hb2⟩ => ?_
          obtain ⟨va, vd, ev⟩ := ho.slice
          have hlen : (blockL ts (st.set k ⟨3, (tr + 1), 0, 0⟩)).length = rl := by rw [blockL_len, List.length_set]; exact HRN.out
          rw [show (Rr.st ⟨rn, rf, ru, re, blockL ts (st.set k ⟨3, (tr + 1), 0, 0⟩)⟩).length = rl from hlen] at ev
          subst ev
          exact ⟨va, vd, he, ho, hb2⟩
        have SV8 := SV7.s0 3
        have UV8 := UV7.far (a := ⟨Q, 0, none⟩) (by show Q ≠ P; omega) (.int .i64 3)
        have YV8 := YV7.far (a := ⟨Q, 0, none⟩) (by show Q ≠ w.heap.size + 1 + 1; omega) (.int .i64 3)
        have ZV8 := ZV7.far (a := ⟨Q, 0, none⟩) (by show Q ≠ w.heap.size; omega) (.int .i64 3)
        have BV8 := BV7.setCell (p := ⟨Q, 0, none⟩) (by show w.heap.size ≤ Q; omega) (.int .i64 3)
        have OV8 := grown_put (w' := V7) (p := ⟨Q, 0, none⟩) HOV7.out (.int .i64 3) (fun e => by have : some g = some Q := e; injection this with this; omega)
        have nc_V8 : (V7.setCell ⟨Q, 0, none⟩ (.int .i64 3)).cell? ⟨b1, o1 + k * 5 + 2, none⟩ = some (.int .i64 nr) := by
          refine Eq.trans ?_ nc_V7
          unfold World.cell?
          rw [show (V7.setCell ⟨Q, 0, none⟩ (.int .i64 3)).heap[b1]? = V7.heap[b1]? from heap_setCell_other V7 ⟨Q, 0, none⟩ b1 _ (fun e => by have e' : b1 = Q := e; omega)]
        obtain ⟨V8, hV8⟩ : ∃ W, V7.setCell ⟨Q, 0, none⟩ (.int .i64 3) = W := ⟨_, rfl⟩
        have HEV8 : Hid (V7.setCell ⟨Q, 0, none⟩ (.int .i64 3) = V8) := hV8
        rw [hV8] at SV8 UV8 YV8 ZV8 BV8 OV8 nc_V8
        have HOV8 : Hid (ownsR V8 w.heap.size 85 (.slice (some ⟨g, 0, none⟩) rl vc) st) := OV8
        have sc_V8 := SV7.c0
        have sf_V8 := SV7.fz 0
        clear hV8 OV8
        have Ox := sa_put HOV8.out ⟨3, (tr + 1), 0, 0⟩ HX.out
        have UV9 := (((UV8.far (a := ⟨g, k * 4, none⟩) (by show g ≠ P; omega) (.int .i64 3)).far (a := ⟨g, k * 4 + 1, none⟩) (by show g ≠ P; omega) (.int .i64 (tr + 1))).far (a := ⟨g, k * 4 + 2, none⟩) (by show g ≠ P; omega) (.int .i64 0)).far (a := ⟨g, k * 4 + 3, none⟩) (by show g ≠ P; omega) (.int .i64 0)
        have YV9 := (((YV8.far (a := ⟨g, k * 4, none⟩) (by show g ≠ w.heap.size + 1 + 1; omega) (.int .i64 3)).far (a := ⟨g, k * 4 + 1, none⟩) (by show g ≠ w.heap.size + 1 + 1; omega) (.int .i64 (tr + 1))).far (a := ⟨g, k * 4 + 2, none⟩) (by show g ≠ w.heap.size + 1 + 1; omega) (.int .i64 0)).far (a := ⟨g, k * 4 + 3, none⟩) (by show g ≠ w.heap.size + 1 + 1; omega) (.int .i64 0)
        have ZV9 := (((ZV8.far (a := ⟨g, k * 4, none⟩) (by show g ≠ w.heap.size; omega) (.int .i64 3)).far (a := ⟨g, k * 4 + 1, none⟩) (by show g ≠ w.heap.size; omega) (.int .i64 (tr + 1))).far (a := ⟨g, k * 4 + 2, none⟩) (by show g ≠ w.heap.size; omega) (.int .i64 0)).far (a := ⟨g, k * 4 + 3, none⟩) (by show g ≠ w.heap.size; omega) (.int .i64 0)
        have BV9 := (((BV8.setCell (p := ⟨g, k * 4, none⟩) (by show w.heap.size ≤ g; omega) (.int .i64 3)).setCell (p := ⟨g, k * 4 + 1, none⟩) (by show w.heap.size ≤ g; omega) (.int .i64 (tr + 1))).setCell (p := ⟨g, k * 4 + 2, none⟩) (by show w.heap.size ≤ g; omega) (.int .i64 0)).setCell (p := ⟨g, k * 4 + 3, none⟩) (by show w.heap.size ≤ g; omega) (.int .i64 0)
        obtain ⟨V9, hV9⟩ : ∃ W, (((V8.setCell ⟨g, k * 4, none⟩ (.int .i64 3)).setCell ⟨g, k * 4 + 1, none⟩ (.int .i64 (tr + 1))).setCell ⟨g, k * 4 + 2, none⟩ (.int .i64 0)).setCell ⟨g, k * 4 + 3, none⟩ (.int .i64 0) = W := ⟨_, rfl⟩
        have HWV9 : Hid ((((V8.setCell ⟨g, k * 4, none⟩ (.int .i64 3)).setCell ⟨g, k * 4 + 1, none⟩ (.int .i64 (tr + 1))).setCell ⟨g, k * 4 + 2, none⟩ (.int .i64 0)).setCell ⟨g, k * 4 + 3, none⟩ (.int .i64 0) = V9) := hV9
        rw [hV9] at UV9 YV9 ZV9 BV9
        have HOV9 : Hid (ownsR V9 w.heap.size 85 (.slice (some ⟨g, 0, none⟩) rl vc) (st.set k ⟨3, (tr + 1), 0, 0⟩)) := by show ownsR _ _ _ _ _; rw [← hV9]; exact Ox
        clear hV9 Ox
        obtain ⟨hg_V8, ⟨a0, a1, a2, a3⟩, af0, af1, af2, af3⟩ := sa_own HOV8.out HX.out
        have s0 := SV8.c0
        have s1 := SV8.c1
        have s2 := SV8.c2
        have s3 := SV8.c3
        have u84 := UV8.c4
        have x0 := UV9.c0
        have x1 := UV9.c1
        have x2 := UV9.c2
        have x3 := UV9.c3
        have x4 := UV9.c4
        have c0 := ZV9.c0
        have c1 := ZV9.c1
        have c2 := ZV9.c2
        have c3 := ZV9.c3
        have c4 := ZV9.c4
        have c5 := ZV9.c5
        go_wp2_with (first | rw [HEV8.out] | rw [HWV9.out])
        refine (HBR.out _ BV9 HOV9.out.reads).mono ?_
        rintro e w9 ⟨va9, vd9, rfl, ho9, hb9⟩
        have Y9 := YV9.on hb9
        have B9 := Below.on BV9 hb9
        have HO9 : Hid (ownsR w9 w.heap.size 85 (.slice va9 rl vd9) (blockL ts (st.set k ⟨3, (tr + 1), 0, 0⟩))) := ho9.mono BV9.size
        clear c0 c1 c2 c3 c4 c5 x0 x1 x2 x3 x4 a0 a1 a2 a3 af0 af1 af2 af3 s0 s1 s2 s3 sc_V8 sf_V8 u84 hb9 ho9 HEV8 HWV9
        have y0 := Y9.c0
        have y1 := Y9.c1
        have y2 := Y9.c2
        have y3 := Y9.c3
        have y4 := Y9.c4
        have yf := Y9.fz
        go_wp2
        refine bodyPost_ret (ret_run2 rfl rfl rfl (Y9.set rn rf ru re (.slice va9 rl vd9))) rfl ⟨.slice va9 rl vd9, ?_, ?_, below_putR5 B9 (by omega) rn rf ru re _⟩
        · rw [HR1.out, HF.out]; rfl
        · rw [HR1.out]; exact own_putR5 HO9.out (not_rowR5 Y9 HO9.out) rn rf ru re _
      · have hf' : decide (nr < (tr + 1)) = false := decide_eq_false hf
        have hf3 : decide (nr ≤ tr) = false := decide_eq_false (by omega)
        have hbk := back_bd ((tr + 1))
        obtain ⟨bk, HBK⟩ : ∃ bk, Hid (backN ((tr + 1)) = bk) := ⟨_, rfl⟩
        rw [HBK.out] at hbk
        have HR1 : Hid (R = ⟨rn, rf, ru, re, st.set k ⟨0, (tr + 1), 0, now + bk⟩⟩) := by
          show R = _
          rw [HR0.out, HFT.out, if_neg hf, HBK.out]
          congr 1
          exact again_none (r := ⟨rn, rf, ru, re, st⟩) HRUN.out HIS.out rfl
        have qs1 := Wd.cell SV6.c1
        have qz5 := Wd.cell ZV6.c5
        have qn := Wd.cell (nc_V6)
        refine wp_region_wd (by kernel_rfl) (by kernel_rfl) ?_
        repeat (go_big_quiet_step (fail))
        refine wpQuiet_nil ?_
        rintro _ ⟨y, rfl⟩
        have hby := y.ok
        obtain ⟨V7, hV7⟩ : ∃ V, y.at' = V := ⟨_, rfl⟩
        rw [hV7] at hby
        rw [hV7]
        clear hV7 y qs1 qz5 qn
        have UV7 := UV6.on hby
        have YV7 := YV6.on hby
        have ZV7 := ZV6.on hby
        have BV7 := Below.on BV6 hby
        have HOV7 : Hid (ownsR V7 w.heap.size 85 (.slice (some ⟨g, 0, none⟩) rl vc) st) := HOV6.out.all hby
        have SV7 := SV6.on hby
        have nc_V7 := (hby.cell (p := ⟨b1, o1 + k * 5 + 2, none⟩) (World.block_lt_of_cell? _ _ nc_V6)).trans nc_V6
        clear hby SV6 UV6 YV6 ZV6 BV6 HOV6 nc_V6
        clear hf htn
        have SV8 := SV7.s0 0
        have UV8 := UV7.far (a := ⟨Q, 0, none⟩) (by show Q ≠ P; omega) (.int .i64 0)
        have YV8 := YV7.far (a := ⟨Q, 0, none⟩) (by show Q ≠ w.heap.size + 1 + 1; omega) (.int .i64 0)
        have ZV8 := ZV7.far (a := ⟨Q, 0, none⟩) (by show Q ≠ w.heap.size; omega) (.int .i64 0)
        have BV8 := BV7.setCell (p := ⟨Q, 0, none⟩) (by show w.heap.size ≤ Q; omega) (.int .i64 0)
        have OV8 := grown_put (w' := V7) (p := ⟨Q, 0, none⟩) HOV7.out (.int .i64 0) (fun e => by have : some g = some Q := e; injection this with this; omega)
        have nc_V8 : (V7.setCell ⟨Q, 0, none⟩ (.int .i64 0)).cell? ⟨b1, o1 + k * 5 + 2, none⟩ = some (.int .i64 nr) := by
          refine Eq.trans ?_ nc_V7
          unfold World.cell?
          rw [show (V7.setCell ⟨Q, 0, none⟩ (.int .i64 0)).heap[b1]? = V7.heap[b1]? from heap_setCell_other V7 ⟨Q, 0, none⟩ b1 _ (fun e => by have e' : b1 = Q := e; omega)]
        obtain ⟨V8, hV8⟩ : ∃ W, V7.setCell ⟨Q, 0, none⟩ (.int .i64 0) = W := ⟨_, rfl⟩
        have HEV8 : Hid (V7.setCell ⟨Q, 0, none⟩ (.int .i64 0) = V8) := hV8
        rw [hV8] at SV8 UV8 YV8 ZV8 BV8 OV8 nc_V8
        have HOV8 : Hid (ownsR V8 w.heap.size 85 (.slice (some ⟨g, 0, none⟩) rl vc) st) := OV8
        have sc_V8 := SV7.c0
        have sf_V8 := SV7.fz 0
        clear hV8 OV8
        have HB := specBack_any ((tr + 1)) V8
        rw [HBK.out] at HB
        have s1 := SV8.c1
        go_wp2_with (rw [HEV8.out])
        refine HB.mono ?_
        rintro e w8 ⟨rfl, hw⟩
        have hw2 := hw.symm
        subst hw2
        clear s1 sc_V8 sf_V8 HB HEV8
        have SV9 := SV8.s3 (now + bk)
        have UV9 := UV8.far (a := ⟨Q, 3, none⟩) (by show Q ≠ P; omega) (.int .i64 (now + bk))
        have YV9 := YV8.far (a := ⟨Q, 3, none⟩) (by show Q ≠ w.heap.size + 1 + 1; omega) (.int .i64 (now + bk))
        have ZV9 := ZV8.far (a := ⟨Q, 3, none⟩) (by show Q ≠ w.heap.size; omega) (.int .i64 (now + bk))
        have BV9 := BV8.setCell (p := ⟨Q, 3, none⟩) (by show w.heap.size ≤ Q; omega) (.int .i64 (now + bk))
        have OV9 := grown_put (w' := V8) (p := ⟨Q, 3, none⟩) HOV8.out (.int .i64 (now + bk)) (fun e => by have : some g = some Q := e; injection this with this; omega)
        have nc_V9 : (V8.setCell ⟨Q, 3, none⟩ (.int .i64 (now + bk))).cell? ⟨b1, o1 + k * 5 + 2, none⟩ = some (.int .i64 nr) := by
          refine Eq.trans ?_ nc_V8
          unfold World.cell?
          rw [show (V8.setCell ⟨Q, 3, none⟩ (.int .i64 (now + bk))).heap[b1]? = V8.heap[b1]? from heap_setCell_other V8 ⟨Q, 3, none⟩ b1 _ (fun e => by have e' : b1 = Q := e; omega)]
        obtain ⟨V9, hV9⟩ : ∃ W, V8.setCell ⟨Q, 3, none⟩ (.int .i64 (now + bk)) = W := ⟨_, rfl⟩
        have HEV9 : Hid (V8.setCell ⟨Q, 3, none⟩ (.int .i64 (now + bk)) = V9) := hV9
        rw [hV9] at SV9 UV9 YV9 ZV9 BV9 OV9 nc_V9
        have HOV9 : Hid (ownsR V9 w.heap.size 85 (.slice (some ⟨g, 0, none⟩) rl vc) st) := OV9
        have sc_V9 := SV8.c3
        have sf_V9 := SV8.fz 3
        clear hV9 OV9
        have Ox := sa_put HOV9.out ⟨0, (tr + 1), 0, (now + bk)⟩ HX.out
        have UVA := (((UV9.far (a := ⟨g, k * 4, none⟩) (by show g ≠ P; omega) (.int .i64 0)).far (a := ⟨g, k * 4 + 1, none⟩) (by show g ≠ P; omega) (.int .i64 (tr + 1))).far (a := ⟨g, k * 4 + 2, none⟩) (by show g ≠ P; omega) (.int .i64 0)).far (a := ⟨g, k * 4 + 3, none⟩) (by show g ≠ P; omega) (.int .i64 (now + bk))
        have YVA := (((YV9.far (a := ⟨g, k * 4, none⟩) (by show g ≠ w.heap.size + 1 + 1; omega) (.int .i64 0)).far (a := ⟨g, k * 4 + 1, none⟩) (by show g ≠ w.heap.size + 1 + 1; omega) (.int .i64 (tr + 1))).far (a := ⟨g, k * 4 + 2, none⟩) (by show g ≠ w.heap.size + 1 + 1; omega) (.int .i64 0)).far (a := ⟨g, k * 4 + 3, none⟩) (by show g ≠ w.heap.size + 1 + 1; omega) (.int .i64 (now + bk))
        have ZVA := (((ZV9.far (a := ⟨g, k * 4, none⟩) (by show g ≠ w.heap.size; omega) (.int .i64 0)).far (a := ⟨g, k * 4 + 1, none⟩) (by show g ≠ w.heap.size; omega) (.int .i64 (tr + 1))).far (a := ⟨g, k * 4 + 2, none⟩) (by show g ≠ w.heap.size; omega) (.int .i64 0)).far (a := ⟨g, k * 4 + 3, none⟩) (by show g ≠ w.heap.size; omega) (.int .i64 (now + bk))
        have BVA := (((BV9.setCell (p := ⟨g, k * 4, none⟩) (by show w.heap.size ≤ g; omega) (.int .i64 0)).setCell (p := ⟨g, k * 4 + 1, none⟩) (by show w.heap.size ≤ g; omega) (.int .i64 (tr + 1))).setCell (p := ⟨g, k * 4 + 2, none⟩) (by show w.heap.size ≤ g; omega) (.int .i64 0)).setCell (p := ⟨g, k * 4 + 3, none⟩) (by show w.heap.size ≤ g; omega) (.int .i64 (now + bk))
        obtain ⟨VA, hVA⟩ : ∃ W, (((V9.setCell ⟨g, k * 4, none⟩ (.int .i64 0)).setCell ⟨g, k * 4 + 1, none⟩ (.int .i64 (tr + 1))).setCell ⟨g, k * 4 + 2, none⟩ (.int .i64 0)).setCell ⟨g, k * 4 + 3, none⟩ (.int .i64 (now + bk)) = W := ⟨_, rfl⟩
        have HWVA : Hid ((((V9.setCell ⟨g, k * 4, none⟩ (.int .i64 0)).setCell ⟨g, k * 4 + 1, none⟩ (.int .i64 (tr + 1))).setCell ⟨g, k * 4 + 2, none⟩ (.int .i64 0)).setCell ⟨g, k * 4 + 3, none⟩ (.int .i64 (now + bk)) = VA) := hVA
        rw [hVA] at UVA YVA ZVA BVA
        have HOVA : Hid (ownsR VA w.heap.size 85 (.slice (some ⟨g, 0, none⟩) rl vc) (st.set k ⟨0, (tr + 1), 0, (now + bk)⟩)) := by show ownsR _ _ _ _ _; rw [← hVA]; exact Ox
        clear hVA Ox
        obtain ⟨hg_V9, ⟨a0, a1, a2, a3⟩, af0, af1, af2, af3⟩ := sa_own HOV9.out HX.out
        have s0 := SV9.c0
        have s1 := SV9.c1
        have s2 := SV9.c2
        have s3 := SV9.c3
        have u94 := UV9.c4
        have x0 := UVA.c0
        have x1 := UVA.c1
        have x2 := UVA.c2
        have x3 := UVA.c3
        have x4 := UVA.c4
        have y0 := YVA.c0
        have y1 := YVA.c1
        have y2 := YVA.c2
        have y3 := YVA.c3
        have y4 := YVA.c4
        have yf := YVA.fz
        go_wp2_with (first | rw [HEV9.out] | rw [HWVA.out])
        refine bodyPost_ret (ret_run2 rfl rfl rfl (YVA.set rn rf ru re (.slice (some ⟨g, 0, none⟩) rl vc))) rfl ⟨(.slice (some ⟨g, 0, none⟩) rl vc), ?_, ?_, below_putR5 BVA (by omega) rn rf ru re (.slice (some ⟨g, 0, none⟩) rl vc)⟩
        · rw [HR1.out, HF.out]; rfl
        · rw [HR1.out]; exact own_putR5 HOVA.out (not_rowR5 YVA HOVA.out) rn rf ru re (.slice (some ⟨g, 0, none⟩) rl vc)
    · have htn' : decide (tr ≤ nr) = false := decide_eq_false htn
      have HFT : Hid (failS ⟨1, tr, tk, tl⟩ nr now = if nr < tr then ⟨3, tr, 0, 0⟩ else ⟨0, tr, 0, now + backN tr⟩) := by show failS _ _ _ = _; unfold failS; rw [show min tr nr + 1 = tr by omega]
      go_wp2_with fail
      by_cases hf : nr < tr
      · have hf' : decide (nr < tr) = true := decide_eq_true hf
        have HR1 : Hid (R = ⟨rn, rf, ru, re, blockL ts (st.set k ⟨3, tr, 0, 0⟩)⟩) := by show R = _; rw [HR0.out, HFT.out, if_pos hf]; rfl
        have qs1 := Wd.cell SV5.c1
        have qz5 := Wd.cell ZV5.c5
        have qn := Wd.cell (nc_V5)
        refine wp_region_wd (by kernel_rfl) (by kernel_rfl) ?_
        repeat (go_big_quiet_step (fail))
        refine wpQuiet_nil ?_
        rintro _ ⟨y, rfl⟩
        have hby := y.ok
        obtain ⟨V7, hV7⟩ : ∃ V, y.at' = V := ⟨_, rfl⟩
        rw [hV7] at hby
        rw [hV7]
        clear hV7 y qs1 qz5 qn
        have UV7 := UV5.on hby
        have YV7 := YV5.on hby
        have ZV7 := ZV5.on hby
        have BV7 := Below.on BV5 hby
        have HOV7 : Hid (ownsR V7 w.heap.size 85 (.slice (some ⟨g, 0, none⟩) rl vc) st) := HOV5.out.all hby
        have SV7 := SV5.on hby
        have nc_V7 := (hby.cell (p := ⟨b1, o1 + k * 5 + 2, none⟩) (World.block_lt_of_cell? _ _ nc_V5)).trans nc_V5
        clear hby SV5 UV5 YV5 ZV5 BV5 HOV5 nc_V5
        clear hf htn
        have HBR : Hid (∀ W, Below w.heap.size w W → Reads W (.slice (some ⟨g, 0, none⟩) rl vc) (st.set k ⟨3, tr, 0, 0⟩) → Calls Tryz.prog 58 #[.agg #[.string nm, .string cr, .int .i64 fr, .int .i64 up, .bool cu, .slice (some ⟨b1, o1, none⟩) rl cap], .agg #[.string rn, .int .i64 rf, .int .i64 ru, .int .i64 re, .slice (some ⟨g, 0, none⟩) rl vc]] W fun e w' => ∃ (va : Option Addr) (vd : Nat), e = .returned (.agg #[.string rn, .int .i64 rf, .int .i64 ru, .int .i64 re, .slice va rl vd]) ∧ ownsR w' W.heap.size 85 (.slice va rl vd) (blockL ts (st.set k ⟨3, tr, 0, 0⟩)) ∧ Below W.heap.size W w') := fun W hb hrd => by
          have hbl : blkR ⟨nm, cr, fr, up, cu, ts⟩ ⟨rn, rf, ru, re, st.set k ⟨3, tr, 0, 0⟩⟩ = ⟨rn, rf, ru, re, blockL ts (st.set k ⟨3, tr, 0, 0⟩)⟩ := by
            show Rr.mk rn rf ru re (blockR ⟨nm, cr, fr, up, cu, ts⟩ _) = _
            unfold blockR
            rw [if_pos ⟨HDG.out, by show (st.set k _).length = ts.length; rw [List.length_set, HRN.out, HN.out]⟩]
          refine (specBlockRest_any (some ⟨b1, o1, none⟩) rl cap nm cr fr up cu ts (some ⟨g, 0, none⟩) rl vc rn rf ru re (st.set k ⟨3, tr, 0, 0⟩) W (HDA.out W hb) hrd hl _ hbl).mono fun e w' ⟨v, he, ho, hb2⟩ => ?_
          obtain ⟨va, vd, ev⟩ := ho.slice
          have hlen : (blockL ts (st.set k ⟨3, tr, 0, 0⟩)).length = rl := by rw [blockL_len, List.length_set]; exact HRN.out
          rw [show (Rr.st ⟨rn, rf, ru, re, blockL ts (st.set k ⟨3, tr, 0, 0⟩)⟩).length = rl from hlen] at ev
          subst ev
          exact ⟨va, vd, he, ho, hb2⟩
        have SV8 := SV7.s0 3
        have UV8 := UV7.far (a := ⟨Q, 0, none⟩) (by show Q ≠ P; omega) (.int .i64 3)
        have YV8 := YV7.far (a := ⟨Q, 0, none⟩) (by show Q ≠ w.heap.size + 1 + 1; omega) (.int .i64 3)
        have ZV8 := ZV7.far (a := ⟨Q, 0, none⟩) (by show Q ≠ w.heap.size; omega) (.int .i64 3)
        have BV8 := BV7.setCell (p := ⟨Q, 0, none⟩) (by show w.heap.size ≤ Q; omega) (.int .i64 3)
        have OV8 := grown_put (w' := V7) (p := ⟨Q, 0, none⟩) HOV7.out (.int .i64 3) (fun e => by have : some g = some Q := e; injection this with this; omega)
        have nc_V8 : (V7.setCell ⟨Q, 0, none⟩ (.int .i64 3)).cell? ⟨b1, o1 + k * 5 + 2, none⟩ = some (.int .i64 nr) := by
          refine Eq.trans ?_ nc_V7
          unfold World.cell?
          rw [show (V7.setCell ⟨Q, 0, none⟩ (.int .i64 3)).heap[b1]? = V7.heap[b1]? from heap_setCell_other V7 ⟨Q, 0, none⟩ b1 _ (fun e => by have e' : b1 = Q := e; omega)]
        obtain ⟨V8, hV8⟩ : ∃ W, V7.setCell ⟨Q, 0, none⟩ (.int .i64 3) = W := ⟨_, rfl⟩
        have HEV8 : Hid (V7.setCell ⟨Q, 0, none⟩ (.int .i64 3) = V8) := hV8
        rw [hV8] at SV8 UV8 YV8 ZV8 BV8 OV8 nc_V8
        have HOV8 : Hid (ownsR V8 w.heap.size 85 (.slice (some ⟨g, 0, none⟩) rl vc) st) := OV8
        have sc_V8 := SV7.c0
        have sf_V8 := SV7.fz 0
        clear hV8 OV8
        have Ox := sa_put HOV8.out ⟨3, tr, 0, 0⟩ HX.out
        have UV9 := (((UV8.far (a := ⟨g, k * 4, none⟩) (by show g ≠ P; omega) (.int .i64 3)).far (a := ⟨g, k * 4 + 1, none⟩) (by show g ≠ P; omega) (.int .i64 tr)).far (a := ⟨g, k * 4 + 2, none⟩) (by show g ≠ P; omega) (.int .i64 0)).far (a := ⟨g, k * 4 + 3, none⟩) (by show g ≠ P; omega) (.int .i64 0)
        have YV9 := (((YV8.far (a := ⟨g, k * 4, none⟩) (by show g ≠ w.heap.size + 1 + 1; omega) (.int .i64 3)).far (a := ⟨g, k * 4 + 1, none⟩) (by show g ≠ w.heap.size + 1 + 1; omega) (.int .i64 tr)).far (a := ⟨g, k * 4 + 2, none⟩) (by show g ≠ w.heap.size + 1 + 1; omega) (.int .i64 0)).far (a := ⟨g, k * 4 + 3, none⟩) (by show g ≠ w.heap.size + 1 + 1; omega) (.int .i64 0)
        have ZV9 := (((ZV8.far (a := ⟨g, k * 4, none⟩) (by show g ≠ w.heap.size; omega) (.int .i64 3)).far (a := ⟨g, k * 4 + 1, none⟩) (by show g ≠ w.heap.size; omega) (.int .i64 tr)).far (a := ⟨g, k * 4 + 2, none⟩) (by show g ≠ w.heap.size; omega) (.int .i64 0)).far (a := ⟨g, k * 4 + 3, none⟩) (by show g ≠ w.heap.size; omega) (.int .i64 0)
        have BV9 := (((BV8.setCell (p := ⟨g, k * 4, none⟩) (by show w.heap.size ≤ g; omega) (.int .i64 3)).setCell (p := ⟨g, k * 4 + 1, none⟩) (by show w.heap.size ≤ g; omega) (.int .i64 tr)).setCell (p := ⟨g, k * 4 + 2, none⟩) (by show w.heap.size ≤ g; omega) (.int .i64 0)).setCell (p := ⟨g, k * 4 + 3, none⟩) (by show w.heap.size ≤ g; omega) (.int .i64 0)
        obtain ⟨V9, hV9⟩ : ∃ W, (((V8.setCell ⟨g, k * 4, none⟩ (.int .i64 3)).setCell ⟨g, k * 4 + 1, none⟩ (.int .i64 tr)).setCell ⟨g, k * 4 + 2, none⟩ (.int .i64 0)).setCell ⟨g, k * 4 + 3, none⟩ (.int .i64 0) = W := ⟨_, rfl⟩
        have HWV9 : Hid ((((V8.setCell ⟨g, k * 4, none⟩ (.int .i64 3)).setCell ⟨g, k * 4 + 1, none⟩ (.int .i64 tr)).setCell ⟨g, k * 4 + 2, none⟩ (.int .i64 0)).setCell ⟨g, k * 4 + 3, none⟩ (.int .i64 0) = V9) := hV9
        rw [hV9] at UV9 YV9 ZV9 BV9
        have HOV9 : Hid (ownsR V9 w.heap.size 85 (.slice (some ⟨g, 0, none⟩) rl vc) (st.set k ⟨3, tr, 0, 0⟩)) := by show ownsR _ _ _ _ _; rw [← hV9]; exact Ox
        clear hV9 Ox
        obtain ⟨hg_V8, ⟨a0, a1, a2, a3⟩, af0, af1, af2, af3⟩ := sa_own HOV8.out HX.out
        have s0 := SV8.c0
        have s1 := SV8.c1
        have s2 := SV8.c2
        have s3 := SV8.c3
        have u84 := UV8.c4
        have x0 := UV9.c0
        have x1 := UV9.c1
        have x2 := UV9.c2
        have x3 := UV9.c3
        have x4 := UV9.c4
        have c0 := ZV9.c0
        have c1 := ZV9.c1
        have c2 := ZV9.c2
        have c3 := ZV9.c3
        have c4 := ZV9.c4
        have c5 := ZV9.c5
        go_wp2_with (first | rw [HEV8.out] | rw [HWV9.out])
        refine (HBR.out _ BV9 HOV9.out.reads).mono ?_
        rintro e w9 ⟨va9, vd9, rfl, ho9, hb9⟩
        have Y9 := YV9.on hb9
        have B9 := Below.on BV9 hb9
        have HO9 : Hid (ownsR w9 w.heap.size 85 (.slice va9 rl vd9) (blockL ts (st.set k ⟨3, tr, 0, 0⟩))) := ho9.mono BV9.size
        clear c0 c1 c2 c3 c4 c5 x0 x1 x2 x3 x4 a0 a1 a2 a3 af0 af1 af2 af3 s0 s1 s2 s3 sc_V8 sf_V8 u84 hb9 ho9 HEV8 HWV9
        have y0 := Y9.c0
        have y1 := Y9.c1
        have y2 := Y9.c2
        have y3 := Y9.c3
        have y4 := Y9.c4
        have yf := Y9.fz
        go_wp2
        refine bodyPost_ret (ret_run2 rfl rfl rfl (Y9.set rn rf ru re (.slice va9 rl vd9))) rfl ⟨.slice va9 rl vd9, ?_, ?_, below_putR5 B9 (by omega) rn rf ru re _⟩
        · rw [HR1.out, HF.out]; rfl
        · rw [HR1.out]; exact own_putR5 HO9.out (not_rowR5 Y9 HO9.out) rn rf ru re _
      · exfalso
        omega
end Go.Proofs.YtjmclcjhimcehaaGreatDoor
