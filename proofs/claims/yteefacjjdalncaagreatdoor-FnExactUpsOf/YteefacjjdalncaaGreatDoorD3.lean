/-
  The law on the places that a task is after: the walk.
-/
import Derived.Test.YteefacjjdalncaaGreatDoorC2
import Derived.Test.YteefacjjdalncaaGreatDoorD1
import Derived.Test.YteefacjjdalncaaGreatDoorC7
namespace Go.Proofs.YteefacjjdalncaaGreatDoor
open Go Go.RowKit
set_option linter.unusedVariables false

theorem upsD_len (d : Dg) (i : Int) : (upsD d i).length ≤ 4 := by
  unfold upsD
  by_cases hq : dagB d = true ∧ 0 ≤ i ∧ i < (d.tasks.length : Int)
  · rw [if_pos hq]; exact Nat.le_trans (ascL_len _ _) (rg_of hq.1).few
  · rw [if_neg hq]; exact Nat.zero_le _
theorem L6.twx {w w' : World} {g B S : Nat} {nm cr : ByteArray} {fr up : Int} {cu : Bool} {tv : Value} (h : L6 w g nm cr fr up cu tv) (ht : Twx B S w w') (hg : g < B ∨ S ≤ g) : L6 w' g nm cr fr up cu tv := (ht.block g h.lt hg).trans h
set_option maxRecDepth 10000 in
set_option maxHeartbeats 8000000 in
theorem law_UpsOf (ao : Option Addr) (n cap : Nat) (nm cr : ByteArray) (fr up : Int) (cu : Bool) (ts : List Ta) (i : Int) (w : World) (hr : Tasks w (.slice ao n cap) ts) (hf : FitD ⟨nm, cr, fr, up, cu, ts⟩ n) (hg : Gl w) :
    Calls Tryz.prog 8 #[.agg #[.string nm, .string cr, .int .i64 fr, .int .i64 up, .bool cu, .slice ao n cap], .int .i64 i] w fun x w' => x = .returned (.bool true) ∧ Below w.heap.size w w' := by
  have HN : Hid (ts.length = n) := by
    obtain ⟨ao', cap', e⟩ := hr.slice
    injection e with _ e2 _
    exact e2.symm
  have HZ : Hid (∀ W, Below w.heap.size w W → Calls Tryz.prog 39 #[.agg #[.string nm, .string cr, .int .i64 fr, .int .i64 up, .bool cu, .slice ao n cap], .int .i64 1048576] W fun e w' => ∃ r : Int, e = .returned (.int .i64 r) ∧ r ≤ 1048576 ∧ -1 ≤ r ∧ (0 ≤ r → (nm.size : Int) ≤ 1048576 ∧ (cr.size : Int) ≤ 1048576 ∧ (ts.length : Int) ≤ 1048576 ∧ ∀ t ∈ ts, Wei t 1048576) ∧ Below W.heap.size W w') := fun W hb => szD_any ao n cap nm cr fr up cu ts 1048576 W (hr.below hb) hf (by decide) (by decide)
  have HR : Hid (∀ W, Below w.heap.size w W → Tasks W (.slice ao n cap) ts) := fun W hb => hr.below hb
  have HG : Hid (∀ W, Below w.heap.size w W → Gl W) := fun W hb => hg.up hb
  clear hr hf hg
  obtain ⟨R, HQ⟩ : ∃ R, Hid (upsD ⟨nm, cr, fr, up, cu, ts⟩ i = R) := ⟨_, rfl⟩
  have HRL : Hid (R.length ≤ 4) := by show R.length ≤ 4; rw [← HQ.out]; exact upsD_len _ i
  go_enter Tryz.func8, Tryz.ntmps8
  go_wp2_with fail
  refine (HZ.out _ (ba (Below.refl _ _) _)).mono ?_
  rintro x w0 ⟨r, rfl, hr1, hr2, hr3, hb0⟩
  have Z0 := (L6.new w nm cr fr up cu (.slice ao n cap)).on hb0
  have B0 := below_new hb0
  have HR3 : Hid (0 ≤ r → (nm.size : Int) ≤ 1048576 ∧ (cr.size : Int) ≤ 1048576 ∧ (ts.length : Int) ≤ 1048576 ∧ ∀ t ∈ ts, Wei t 1048576) := hr3
  clear hb0 hr3 HZ
  by_cases hneg : r < 0
  · go_wp2
    go_ret
    exact ⟨rfl, B0⟩
  have HK := HR3.out (by omega)
  have HK1 : Hid (∀ t ∈ ts, t.after.length ≤ 1048576) := fun t ht => by have := (HK.2.2.2 t ht).2.1; omega
  have hn : n ≤ 1048576 := by have h1 := HK.2.2.1; have h2 := HN.out; omega
  have HSm : Hid (∀ t ∈ ts, Sm t) := fun t ht => by
    obtain ⟨y1, y2, y3⟩ := HK.2.2.2 t ht
    exact ⟨by omega, by omega, fun s hs => by have := y3 s hs; omega⟩
  have HA : Hid (∀ (go : Option Addr) W, Below w.heap.size w W → Tasks W (.slice go n n) ts → Calls Tryz.prog 30 #[.agg #[.string nm, .string cr, .int .i64 fr, .int .i64 up, .bool cu, .slice go n n], .int .i64 i] W fun x w' => ∃ v, x = .returned v ∧ ownsR w' W.heap.size 3 v R ∧ Below W.heap.size W w') := fun go W hb ht => by
    rw [← HQ.out]; exact implUps_any go n n nm cr fr up cu ts i W ⟨ht, Nat.le_refl _, Nat.le_succ_of_le hn, HSm.out, by have := HK.2.1; show cr.size ≤ 1048576; omega, by have := HK.1; show nm.size ≤ 9223372036854775807; omega⟩ (HG.out W hb)
  have HS : Hid (∀ (go : Option Addr) W, Below w.heap.size w W → Tasks W (.slice go n n) ts → Calls Tryz.prog 44 #[.agg #[.string nm, .string cr, .int .i64 fr, .int .i64 up, .bool cu, .slice go n n], .int .i64 i] W fun x w' => ∃ v, x = .returned v ∧ ownsR w' W.heap.size 3 v R ∧ Below W.heap.size W w') := fun go W hb ht => by
    rw [← HQ.out]; exact specUps_any go n n nm cr fr up cu ts i W ⟨ht, by show ts.length ≤ 1048577; rw [HN.out]; exact Nat.le_succ_of_le hn, fun t ht => ⟨(HSm.out t ht).few, (HSm.out t ht).name⟩, by have := HK.2.1; show cr.size ≤ 1048576; omega, by have := HK.1; show nm.size ≤ 9223372036854775807; omega⟩
  clear HK HR3
  have HT : Hid (∀ W, Below w.heap.size w W → Calls Tryz.prog 40 #[.agg #[.string nm, .string cr, .int .i64 fr, .int .i64 up, .bool cu, .slice ao n cap]] W fun e w' => ∃ g, e = .returned (.agg #[.string nm, .string cr, .int .i64 fr, .int .i64 up, .bool cu, .slice (some ⟨g, 0, none⟩) n n]) ∧ TasksO W.heap.size w' (.slice (some ⟨g, 0, none⟩) n n) ts ∧ Below W.heap.size W w') := fun W hb => toD_own ao n cap nm cr fr up cu ts W (HR.out W hb) hn HK1.out
  obtain ⟨rl, HRE⟩ : ∃ rl, Hid (R.length = rl) := ⟨_, rfl⟩
  have hrl : rl ≤ 4 := by rw [← HRE.out]; exact HRL.out
  have c0 := Z0.c0
  have c1 := Z0.c1
  have c2 := Z0.c2
  have c3 := Z0.c3
  have c4 := Z0.c4
  have c5 := Z0.c5
  go_wp2_with fail
  refine (HT.out _ B0).mono ?_
  rintro x w1 ⟨g1, rfl, ht1, hb1⟩
  have Z1 := Z0.on hb1
  have B1 := Below.on B0 hb1
  have HT1 : Hid (Tasks w1 (.slice (some ⟨g1, 0, none⟩) n n) ts) := ht1.tasks
  clear c0 c1 c2 c3 c4 c5 Z0 B0 hb1 ht1
  go_wp2_with fail
  refine (HS.out _ _ B1 HT1.out).mono ?_
  rintro x w2 ⟨sv, rfl, hs2, hb2⟩
  have Z2 := Z1.on hb2
  have B2 := Below.on B1 hb2
  have HSV2 : Hid (ownsR w2 w.heap.size 3 sv R) := hs2.mono B1.size
  obtain ⟨sa, sc, es⟩ := HSV2.out.slice
  subst es
  have HSB : Hid (∀ k, (Value.slice sa R.length sc).ownBlock = some k → k < w2.heap.size) := fun k hk => (own_low HSV2.out hk).2
  rw [HRE.out] at HSV2 HSB
  rw [HRE.out]
  clear Z1 B1 hb2 HT1 HS hs2
  have c0 := Z2.c0
  have c1 := Z2.c1
  have c2 := Z2.c2
  have c3 := Z2.c3
  have c4 := Z2.c4
  have c5 := Z2.c5
  go_wp2_with fail
  refine (HT.out _ B2).mono ?_
  rintro x w3 ⟨g3, rfl, ht3, hb3⟩
  have Z3 := Z2.on hb3
  have B3 := Below.on B2 hb3
  have HSV3 : Hid (ownsR w3 w.heap.size 3 (.slice sa rl sc) R) := HSV2.out.all hb3
  have HO3 : Hid (TasksO w2.heap.size w3 (.slice (some ⟨g3, 0, none⟩) n n) ts) := ht3
  obtain ⟨W4, hW4⟩ : ∃ W4, w3.alloc (.cells #[.string nm, .string cr, .int .i64 fr, .int .i64 up, .bool cu, .slice (some ⟨g3, 0, none⟩) n n] 26) = W4 := ⟨_, rfl⟩
  have BB4 : Below w3.heap.size w3 W4 := by rw [← hW4]; exact ba (Below.refl _ _) _
  have B4 := Below.on B3 BB4
  have HT4 : Hid (Tasks W4 (.slice (some ⟨g3, 0, none⟩) n n) ts) := ht3.tasks.below BB4
  have Z4 := Z3.on BB4
  have X4 : P6 W4 w3.heap.size nm cr fr up cu (.slice (some ⟨g3, 0, none⟩) n n) := by rw [← hW4]; exact P6.new w3 nm cr fr up cu (.slice (some ⟨g3, 0, none⟩) n n)
  have HSV4 : Hid (ownsR W4 w.heap.size 3 (.slice sa rl sc) R) := HSV3.out.all BB4
  have h23 : w2.heap.size ≤ w3.heap.size := hb3.size
  have hzl : w.heap.size < w2.heap.size := Z2.lt
  clear c0 c1 c2 c3 c4 c5 Z2 Z3 B2 B3 hb3 ht3 HSV2 HSV3
  have c0 := X4.c0
  have c1 := X4.c1
  have c2 := X4.c2
  have c3 := X4.c3
  have c4 := X4.c4
  have c5 := X4.c5
  go_wp2_with fail
  refine (HA.out _ _ B4 HT4.out).mono ?_
  rintro x w5 ⟨gv, rfl, hg5, hb5⟩
  have Z5 := Z4.on hb5
  have X5 := X4.on hb5
  have B5' := Below.on B4 hb5
  have HSV5 : Hid (ownsR w5 w.heap.size 3 (.slice sa rl sc) R) := HSV4.out.all hb5
  have hX4 : w3.heap.size < W4.heap.size := X4.lt
  have HGB : Hid (∀ k, gv.ownBlock = some k → w3.heap.size ≤ k) := fun k hk => by have := (own_low hg5 hk).1; omega
  have HGV5 : Hid (ownsR w5 w.heap.size 3 gv R) := hg5.mono B4.size
  have BB5 : Below w3.heap.size w3 w5 := Below.on BB4 hb5
  obtain ⟨ga, gc, eg⟩ := HGV5.out.slice
  subst eg
  rw [HRE.out] at HGV5 HGB
  rw [HRE.out]
  clear c0 c1 c2 c3 c4 c5 Z4 X4 B4 hb5 HT4 hg5 BB4 hW4 HSV4
  have HE5 := eqIntS_any ga sa rl gc sc R w5 HGV5.out.reads HSV5.out.reads (by omega)
  go_wp2_with fail
  refine HE5.mono ?_
  rintro x w6 ⟨rfl, hw6⟩
  have Z6 := Z5.on hw6
  have X6 := X5.on hw6
  have B6' := Below.on B5' hw6
  have HSV6 : Hid (ownsR w6 w.heap.size 3 (.slice sa rl sc) R) := HSV5.out.all hw6
  have HGV6 : Hid (ownsR w6 w.heap.size 3 (.slice ga rl gc) R) := HGV5.out.all hw6
  have BB6 := Below.on BB5 hw6
  clear Z5 X5 B5' HSV5 HGV5 BB5 hw6 HE5
  have HT6 : Hid (Tasks w6 (.slice (some ⟨g3, 0, none⟩) n n) ts) := HO3.out.tasks.below BB6
  have K0 := Below.cellOf (B := w6.heap.size) (W := w6) (p := ⟨w.heap.size, 0, none⟩) Z6.lt Z6.c0
  have J0 := Below.cellOf (B := w6.heap.size) (W := w6) (p := ⟨w3.heap.size, 0, none⟩) X6.lt X6.c0
  have K1 := Below.cellOf (B := w6.heap.size) (W := w6) (p := ⟨w.heap.size, 1, none⟩) Z6.lt Z6.c1
  have J1 := Below.cellOf (B := w6.heap.size) (W := w6) (p := ⟨w3.heap.size, 1, none⟩) X6.lt X6.c1
  have K2 := Below.cellOf (B := w6.heap.size) (W := w6) (p := ⟨w.heap.size, 2, none⟩) Z6.lt Z6.c2
  have J2 := Below.cellOf (B := w6.heap.size) (W := w6) (p := ⟨w3.heap.size, 2, none⟩) X6.lt X6.c2
  have K3 := Below.cellOf (B := w6.heap.size) (W := w6) (p := ⟨w.heap.size, 3, none⟩) Z6.lt Z6.c3
  have J3 := Below.cellOf (B := w6.heap.size) (W := w6) (p := ⟨w3.heap.size, 3, none⟩) X6.lt X6.c3
  have K4 := Below.cellOf (B := w6.heap.size) (W := w6) (p := ⟨w.heap.size, 4, none⟩) Z6.lt Z6.c4
  have J4 := Below.cellOf (B := w6.heap.size) (W := w6) (p := ⟨w3.heap.size, 4, none⟩) X6.lt X6.c4
  have K5 := Below.cellOf (B := w6.heap.size) (W := w6) (p := ⟨w.heap.size, 5, none⟩) Z6.lt Z6.c5
  have J5 := Below.cellOf (B := w6.heap.size) (W := w6) (p := ⟨w3.heap.size, 5, none⟩) X6.lt X6.c5
  go_wp2_with fail
  go_region_held3 (fun w' => Below w6.heap.size w6 w') ((first | exact (Below.refl _ _).drew | exact hS6 | exact hS7)) ((first | (go_at_call 40; refine (HT.out _ (Below.on B6' (by assumption))).mono ?_; rintro x wq ⟨g6, rfl, ht6, hb6⟩; have hS6 := keep_on (B := w6.heap.size) (W := w6) hb6 (by assumption) (Nat.le_refl _)) | (go_at_call 36; refine (eqD_any _ _ _ _ _ _ _ _ _ _ ts _ (HT6.out.below hS6) ht6.tasks (Nat.le_succ_of_le hn) (fun t ht => Nat.le_succ_of_le (HK1.out t ht))).mono ?_; rintro x w7 ⟨rfl, hb7⟩; have hS7 := keep_on (B := w6.heap.size) (W := w6) hb7 hS6 (Nat.le_refl _))))
  have B7 := Below.on B6' hS7
  have Z7 := Z6.on hS7
  have X7 := X6.on hS7
  have HSV7 : Hid (ownsR w7 w.heap.size 3 (.slice sa rl sc) R) := HSV6.out.all hS7
  have HGV7 : Hid (ownsR w7 w.heap.size 3 (.slice ga rl gc) R) := HGV6.out.all hS7
  have HM : Hid (Calls Tryz.prog 37 #[.agg #[.string nm, .string cr, .int .i64 fr, .int .i64 up, .bool cu, .slice (some ⟨g3, 0, none⟩) n n], .int .i64 1] w7 fun e w' => ∃ y : Int, e = .returned (.int .i64 y) ∧ 1 ≤ y ∧ y ≤ 4000000000000000 ∧ Twx w2.heap.size w3.heap.size w7 w') := markD_any nm cr fr up cu HO3.out HN.out hn HK1.out rfl (Below.on BB6 hS7)
  clear ht6 hb6 hb7 hS6 K0 J0 K1 J1 K2 J2 K3 J3 K4 J4 K5 J5 hS7 HT6 HSV6 HGV6 Z6 X6 B6' BB6 HO3
  have c0 := X7.c0
  have c1 := X7.c1
  have c2 := X7.c2
  have c3 := X7.c3
  have c4 := X7.c4
  have c5 := X7.c5
  go_wp2_with fail
  refine HM.out.mono ?_
  rintro x w8 ⟨y, rfl, hy1, hy2, htw⟩
  have Z8 := Z7.twx htw (.inl hzl)
  have HSV8 : Hid (ownsR w8 w.heap.size 3 (.slice sa rl sc) R) := HSV7.out.keep fun k hk => htw.block k (own_low HSV7.out hk).2 (.inl (HSB.out k hk))
  have HGV8 : Hid (ownsR w8 w.heap.size 3 (.slice ga rl gc) R) := HGV7.out.keep fun k hk => htw.block k (own_low HGV7.out hk).2 (.inr (HGB.out k hk))
  have h27 : w2.heap.size ≤ w7.heap.size := Nat.le_of_lt (by have := X7.lt; omega)
  have B8 : Below w.heap.size w w8 := B7.trans ((htw.below h27).mono (by omega))
  have hy0 : decide (y < 0) = false := decide_eq_false (by omega)
  clear c0 c1 c2 c3 c4 c5 Z7 X7 B7 htw HSV7 HGV7 HM
  have HE8 := eqIntS_any ga sa rl gc sc R w8 HGV8.out.reads HSV8.out.reads (by omega)
  go_wp2_with fail
  refine HE8.mono ?_
  rintro x w9 ⟨rfl, hw9⟩
  have Z9 := Z8.on hw9
  have B9 := Below.on B8 hw9
  have HSV9 : Hid (ownsR w9 w.heap.size 3 (.slice sa rl sc) R) := HSV8.out.all hw9
  have HGV9 : Hid (ownsR w9 w.heap.size 3 (.slice ga rl gc) R) := HGV8.out.all hw9
  clear Z8 B8 HSV8 HGV8 hw9 HE8
  have HMI : Hid (Calls Tryz.prog 42 #[.slice ga rl gc, .int .i64 1] w9 fun e w' => e = .returned (.int .i64 (1 + (rl : Int))) ∧ ownsR w' w.heap.size 3 (.slice ga rl gc) (marksR id 1 1 rl) ∧ w9.grownBy w' (Value.slice ga rl gc).ownBlock) := by
    have := markInt_any HGV9.out (by have := HRL.out; omega)
    rw [HRE.out] at this
    exact this
  go_wp2_with fail
  refine HMI.out.mono ?_
  rintro x w10 ⟨rfl, ho10, hg10⟩
  have HGM : Hid (ownsR w10 w.heap.size 3 (.slice ga rl gc) (marksR id 1 1 rl)) := ho10
  have HSV10 : Hid (ownsR w10 w.heap.size 3 (.slice sa rl sc) R) := HSV9.out.keep fun k hk => hg10.block k (own_low HSV9.out hk).2 fun e => by
    have h1 := HSB.out k hk
    have h2 := HGB.out k e.symm
    omega
  have Z10 := Z9.grown hg10 (fun e => not_own HGV9.out Z9 (by decide) e.symm)
  have B10 : Below w.heap.size w w10 := B9.grown hg10 B9.size fun k hk => (own_low HGV9.out hk).1
  clear ho10 hg10 HMI HGV9 HSV9 Z9 B9
  have HH10 := heldInt_any HGM.out.reads (by omega)
  go_wp2_with fail
  refine HH10.mono ?_
  rintro x w11 ⟨rfl, hw11⟩
  have hq11 := hw11.symm
  subst hq11
  have hq0 : decide ((1 : Int) + (rl : Int) < 0) = false := decide_eq_false (by omega)
  have c0 := Z10.c0
  have c1 := Z10.c1
  have c2 := Z10.c2
  have c3 := Z10.c3
  have c4 := Z10.c4
  have c5 := Z10.c5
  go_wp2_with fail
  refine (HT.out _ B10).mono ?_
  rintro x w12 ⟨g12, rfl, ht12, hb12⟩
  have B12 := Below.on B10 hb12
  have HT12 : Hid (Tasks w12 (.slice (some ⟨g12, 0, none⟩) n n) ts) := ht12.tasks
  have HSV12 : Hid (ownsR w12 w.heap.size 3 (.slice sa rl sc) R) := HSV10.out.all hb12
  have HGM12 : Hid (ownsR w12 w.heap.size 3 (.slice ga rl gc) (marksR id 1 1 rl)) := HGM.out.all hb12
  clear c0 c1 c2 c3 c4 c5 Z10 B10 hb12 ht12 HSV10 HGM
  go_wp2_with fail
  refine (HA.out _ _ B12 HT12.out).mono ?_
  rintro x w13 ⟨hv, rfl, hh13, hb13⟩
  have B13 := Below.on B12 hb13
  have HHV : Hid (ownsR w13 w.heap.size 3 hv R) := hh13.mono B12.size
  have HSV13 : Hid (ownsR w13 w.heap.size 3 (.slice sa rl sc) R) := HSV12.out.all hb13
  have HGM13 : Hid (ownsR w13 w.heap.size 3 (.slice ga rl gc) (marksR id 1 1 rl)) := HGM12.out.all hb13
  obtain ⟨ha, hc, eh⟩ := HHV.out.slice
  subst eh
  rw [HRE.out] at HHV
  rw [HRE.out]
  clear hh13 hb13 B12 HT12 HSV12 HGM12 HA
  have HE13 := eqIntS_any ha sa rl hc sc R w13 HHV.out.reads HSV13.out.reads (by omega)
  go_wp2_with fail
  refine HE13.mono ?_
  rintro x w14 ⟨rfl, hw14⟩
  have B14 := Below.on B13 hw14
  have HGM14 : Hid (ownsR w14 w.heap.size 3 (.slice ga rl gc) (marksR id 1 1 rl)) := HGM13.out.all hw14
  clear B13 HGM13 hw14 HE13
  have HH13 := heldInt_any HGM14.out.reads (by omega)
  go_wp2_with fail
  refine HH13.mono ?_
  rintro x w15 ⟨rfl, hw15⟩
  have hq15 := hw15.symm
  subst hq15
  go_wp2
  go_ret
  exact ⟨rfl, B14⟩
end Go.Proofs.YteefacjjdalncaaGreatDoor

