/-
  The law on Begin: the walk.
-/
import Derived.Test.YtbaooljchilkhaaRbg
import Derived.Test.YtbaooljchilkhaaRlh
namespace Go.Proofs.Ytbaooljchilkhaa
open Go Go.RowKit
set_option linter.unusedVariables false

set_option maxRecDepth 10000 in
set_option maxHeartbeats 8000000 in
theorem law_Begin (ro : Option Addr) (rl rc : Nat) (rn : ByteArray) (rf ru re : Int) (st : List Sa) (i : Int) (tok : Int) (til : Int) (w : World) (rr : Reads w (.slice ro rl rc) st) (rfit : rl ≤ 9223372036854775807 ∧ rn.size ≤ 9223372036854775807) :
    Calls Try.prog 4 #[.agg #[.string rn, .int .i64 rf, .int .i64 ru, .int .i64 re, .slice ro rl rc], .int .i64 i, .int .i64 tok, .int .i64 til] w fun x w' => x = .returned (.bool true) ∧ Below w.heap.size w w' := by
  have HRN : Hid (st.length = rl) := rr.len.symm
  have HZR : Hid (∀ (W : World) (L : Int), 0 ≤ L → L ≤ 1048576 → Calls Try.prog 6 #[.agg #[.string rn, .int .i64 rf, .int .i64 ru, .int .i64 re, .slice ro rl rc], .int .i64 L] W fun e w' => ∃ r : Int, e = .returned (.int .i64 r) ∧ r ≤ 1048576 ∧ -1 ≤ r ∧ (0 ≤ r → (rn.size : Int) ≤ 1048576 ∧ (rl : Int) ≤ 1048576) ∧ Below W.heap.size W w') := fun W L h0 h1 => szRun_any ro rl rc rn rf ru re L W h1 h0 rfit.1 rfit.2
  have HRD : Hid (∀ W, Below w.heap.size w W → Reads W (.slice ro rl rc) st) := fun W hb => rr.below hb
  clear rr rfit
  obtain ⟨⟨an, af, au, ae, av⟩, HRR⟩ : ∃ R, Hid (begR ⟨rn, rf, ru, re, st⟩ i tok til = R) := ⟨_, rfl⟩
  obtain ⟨q, HQ⟩ : ∃ q, Hid (isN st i 0 = q) := ⟨_, rfl⟩
  obtain ⟨W0, hV0⟩ : ∃ V, w.alloc (.cells #[.string rn, .int .i64 rf, .int .i64 ru, .int .i64 re, .slice ro rl rc] 26) = V := ⟨_, rfl⟩
  have K0 : K5 W0 (w.heap.size) rn rf ru re (.slice ro rl rc) := by rw [← hV0]; exact K5.new _ _ _ _ _ _
  have B0 : Below w.heap.size w W0 := by rw [← hV0]; exact ba (Below.refl _ _) _
  have s0 : w.heap.size < W0.heap.size := K0.lt
  go_enter Try.func4, Try.ntmps4
  have Kc0 := K0.c0
  have Kc1 := K0.c1
  have Kc2 := K0.c2
  have Kc3 := K0.c3
  have Kc4 := K0.c4
  go_wp2_with fail
  refine (HZR.out _ 1048576 (by decide) (by decide)).mono ?_
  rintro x W1 ⟨r1, rfl, hq1, hq2, hq3, hb⟩
  clear hV0
  clear Kc0 Kc1 Kc2 Kc3 Kc4
  have K1 := K0.on hb
  have B1 := Below.on B0 hb
  have s1 : W0.heap.size ≤ W1.heap.size := hb.size
  clear K0 B0 hb
  have HQ3 : Hid (0 ≤ r1 → (rn.size : Int) ≤ 1048576 ∧ (rl : Int) ≤ 1048576) := hq3
  clear hq3 HZR
  by_cases hneg1 : r1 < 0
  · go_wp2
    go_ret
    exact ⟨rfl, B1⟩
  have hrl : rl ≤ 1048576 := by have := (HQ3.out (by omega)).2; omega
  have hrz : rn.size ≤ 1048576 := by have := (HQ3.out (by omega)).1; omega
  clear HQ3
  have HTR : Hid (∀ W, Below w.heap.size w W → Calls Try.prog 8 #[.agg #[.string rn, .int .i64 rf, .int .i64 ru, .int .i64 re, .slice ro rl rc]] W fun e w' => ∃ (va : Option Addr) (vc : Nat), e = .returned (.agg #[.string rn, .int .i64 rf, .int .i64 ru, .int .i64 re, .slice va rl vc]) ∧ ownsR w' W.heap.size 44 (.slice va rl vc) st ∧ Below W.heap.size W w') := fun W hb => (toRun_any ro rl rc rn rf ru re st W (HRD.out W hb) hrl).mono fun e w' ⟨v, he, ho, hb⟩ => by
    obtain ⟨va, vc, ev⟩ := ho.slice
    rw [HRN.out] at ev
    subst ev
    exact ⟨va, vc, he, ho, hb⟩
  have HS : Hid (∀ (vo : Option Addr) (vc : Nat) W, Below w.heap.size w W → Reads W (.slice vo rl vc) st → Calls Try.prog 11 #[.agg #[.string rn, .int .i64 rf, .int .i64 ru, .int .i64 re, .slice vo rl vc], .int .i64 i, .int .i64 tok, .int .i64 til] W fun x w' => ∃ (va : Option Addr) (vc : Nat), x = .returned (.tuple #[.agg #[.string an, .int .i64 af, .int .i64 au, .int .i64 ae, .slice va av.length vc], .bool q]) ∧ ownsR w' W.heap.size 44 (.slice va av.length vc) av ∧ Below W.heap.size W w') := fun vo vc W hb tr => by
    have := specBegin_any vo rl vc rn rf ru re st i tok til W tr (Nat.le_succ_of_le hrl) ⟨an, af, au, ae, av⟩ HRR
    rw [HQ.out] at this
    refine this.mono fun e w' ⟨v, he, ho, hb⟩ => ?_
    obtain ⟨va, vc, ev⟩ := ho.slice
    subst ev
    exact ⟨va, vc, he, ho, hb⟩
  have HA : Hid (∀ (vo : Option Addr) (vc : Nat) W, Below w.heap.size w W → Reads W (.slice vo rl vc) st → Calls Try.prog 12 #[.agg #[.string rn, .int .i64 rf, .int .i64 ru, .int .i64 re, .slice vo rl vc], .int .i64 i, .int .i64 tok, .int .i64 til] W fun x w' => ∃ (va : Option Addr) (vc : Nat), x = .returned (.tuple #[.agg #[.string an, .int .i64 af, .int .i64 au, .int .i64 ae, .slice va av.length vc], .bool q]) ∧ ownsR w' W.heap.size 44 (.slice va av.length vc) av ∧ Below W.heap.size W w') := fun vo vc W hb tr => by
    have := implBegin_any vo rl vc rn rf ru re st i tok til W tr (Nat.le_succ_of_le hrl) hrz ⟨an, af, au, ae, av⟩ HRR
    rw [HQ.out] at this
    refine this.mono fun e w' ⟨v, he, ho, hb⟩ => ?_
    obtain ⟨va, vc, ev⟩ := ho.slice
    subst ev
    exact ⟨va, vc, he, ho, hb⟩
  have HAL : Hid (av.length ≤ 1048577) := by
    have := begR_len ⟨rn, rf, ru, re, st⟩ i tok til
    rw [HRR.out] at this
    exact Nat.le_trans this (by have := HRN.out; show st.length ≤ 1048577; omega)
  obtain ⟨al, HLE⟩ : ∃ al, Hid (av.length = al) := ⟨_, rfl⟩
  rw [HLE.out] at HS HA
  have hal : al ≤ 1048577 := by rw [← HLE.out]; exact HAL.out
  clear HAL
  have Kc0 := K1.c0
  have Kc1 := K1.c1
  have Kc2 := K1.c2
  have Kc3 := K1.c3
  have Kc4 := K1.c4
  go_wp2_with fail
  refine (HTR.out _ B1).mono ?_
  rintro x W2 ⟨ta, tc, rfl, ho, hb⟩
  clear Kc0 Kc1 Kc2 Kc3 Kc4
  have HT1 : Hid (Reads W2 (.slice ta rl tc) st) := ho.reads
  clear ho
  have K2 := K1.on hb
  have B2 := Below.on B1 hb
  have s2 : W1.heap.size ≤ W2.heap.size := hb.size
  clear K1 B1 hb
  go_wp2_with fail
  refine (HS.out ta tc W2 B2 HT1.out).mono ?_
  rintro x W3 ⟨wa, wc, rfl, ho, hb⟩
  have HBw : Hid (∀ k, (Value.slice wa al wc).ownBlock = some k → W2.heap.size ≤ k ∧ k < W3.heap.size) := fun k hk => ho.lt k hk
  have Vw3 : Hid (ownsR W3 w.heap.size 44 (.slice wa al wc) av) := ho.mono B2.size
  clear ho
  have K3 := K2.on hb
  have B3 := Below.on B2 hb
  have s3 : W2.heap.size ≤ W3.heap.size := hb.size
  clear K2 B2 hb
  obtain ⟨W4, hal4⟩ : ∃ V, W3.alloc (.cells #[.string an, .int .i64 af, .int .i64 au, .int .i64 ae, .slice wa al wc] 32) = V := ⟨_, rfl⟩
  have hb : Below W3.heap.size W3 W4 := by rw [← hal4]; exact ba (Below.refl _ _) _
  have Xn : R5 W4 W3.heap.size an af au ae (.slice wa al wc) := by rw [← hal4]; exact R5.new _ _ _ _ _ _
  have K4 := K3.on hb
  have Vw4 : Hid (ownsR W4 w.heap.size 44 (.slice wa al wc) av) := Vw3.out.all hb
  have B4 := Below.on B3 hb
  have s4 : W3.heap.size ≤ W4.heap.size := hb.size
  clear K3 Vw3 B3 hb
  have Xw4 := Xn
  clear Xn
  clear HT1
  have Kc0 := K4.c0
  have Kc1 := K4.c1
  have Kc2 := K4.c2
  have Kc3 := K4.c3
  have Kc4 := K4.c4
  go_wp2_with fail
  refine (HTR.out _ B4).mono ?_
  rintro x W5 ⟨xa, xc, rfl, ho, hb⟩
  clear hal4
  clear Kc0 Kc1 Kc2 Kc3 Kc4
  have HBx : Hid (∀ k, (Value.slice xa rl xc).ownBlock = some k → W4.heap.size ≤ k ∧ k < W5.heap.size) := fun k hk => ho.lt k hk
  have Vx5 : Hid (ownsR W5 w.heap.size 44 (.slice xa rl xc) st) := ho.mono B4.size
  clear ho
  have K5 := K4.on hb
  have Vw5 : Hid (ownsR W5 w.heap.size 44 (.slice wa al wc) av) := Vw4.out.all hb
  have Xw5 := Xw4.on hb
  have B5 := Below.on B4 hb
  have s5 : W4.heap.size ≤ W5.heap.size := hb.size
  clear K4 Vw4 Xw4 B4 hb
  obtain ⟨W6, hal6⟩ : ∃ V, W5.alloc (.cells #[.string rn, .int .i64 rf, .int .i64 ru, .int .i64 re, .slice xa rl xc] 32) = V := ⟨_, rfl⟩
  have hb : Below W5.heap.size W5 W6 := by rw [← hal6]; exact ba (Below.refl _ _) _
  have Xn : R5 W6 W5.heap.size rn rf ru re (.slice xa rl xc) := by rw [← hal6]; exact R5.new _ _ _ _ _ _
  have K6 := K5.on hb
  have Vw6 : Hid (ownsR W6 w.heap.size 44 (.slice wa al wc) av) := Vw5.out.all hb
  have Xw6 := Xw5.on hb
  have Vx6 : Hid (ownsR W6 w.heap.size 44 (.slice xa rl xc) st) := Vx5.out.all hb
  have B6 := Below.on B5 hb
  have s6 : W5.heap.size ≤ W6.heap.size := hb.size
  clear K5 Vw5 Xw5 Vx5 B5 hb
  have Xx6 := Xn
  clear Xn
  have Xxc0 := Xx6.c0
  have Xxc1 := Xx6.c1
  have Xxc2 := Xx6.c2
  have Xxc3 := Xx6.c3
  have Xxc4 := Xx6.c4
  go_wp2_with fail
  refine (HA.out xa xc W6 B6 Vx6.out.reads).mono ?_
  rintro x W7 ⟨ga, gc, rfl, ho, hb⟩
  clear hal6
  clear Xxc0 Xxc1 Xxc2 Xxc3 Xxc4
  have HBg : Hid (∀ k, (Value.slice ga al gc).ownBlock = some k → W6.heap.size ≤ k ∧ k < W7.heap.size) := fun k hk => ho.lt k hk
  have Vg7 : Hid (ownsR W7 w.heap.size 44 (.slice ga al gc) av) := ho.mono B6.size
  clear ho
  have K7 := K6.on hb
  have Vw7 : Hid (ownsR W7 w.heap.size 44 (.slice wa al wc) av) := Vw6.out.all hb
  have Xw7 := Xw6.on hb
  have Vx7 : Hid (ownsR W7 w.heap.size 44 (.slice xa rl xc) st) := Vx6.out.all hb
  have Xx7 := Xx6.on hb
  have B7 := Below.on B6 hb
  have s7 : W6.heap.size ≤ W7.heap.size := hb.size
  clear K6 Vw6 Xw6 Vx6 Xx6 B6 hb
  obtain ⟨W8, hal8⟩ : ∃ V, W7.alloc (.cells #[.string an, .int .i64 af, .int .i64 au, .int .i64 ae, .slice ga al gc] 32) = V := ⟨_, rfl⟩
  have hb : Below W7.heap.size W7 W8 := by rw [← hal8]; exact ba (Below.refl _ _) _
  have Xn : R5 W8 W7.heap.size an af au ae (.slice ga al gc) := by rw [← hal8]; exact R5.new _ _ _ _ _ _
  have K8 := K7.on hb
  have Vw8 : Hid (ownsR W8 w.heap.size 44 (.slice wa al wc) av) := Vw7.out.all hb
  have Xw8 := Xw7.on hb
  have Vx8 : Hid (ownsR W8 w.heap.size 44 (.slice xa rl xc) st) := Vx7.out.all hb
  have Xx8 := Xx7.on hb
  have Vg8 : Hid (ownsR W8 w.heap.size 44 (.slice ga al gc) av) := Vg7.out.all hb
  have B8 := Below.on B7 hb
  have s8 : W7.heap.size ≤ W8.heap.size := hb.size
  clear K7 Vw7 Xw7 Vx7 Xx7 Vg7 B7 hb
  have Xg8 := Xn
  clear Xn
  have Xgc0 := Xg8.c0
  have Xgc1 := Xg8.c1
  have Xgc2 := Xg8.c2
  have Xgc3 := Xg8.c3
  have Xgc4 := Xg8.c4
  have Xwc0 := Xw8.c0
  have Xwc1 := Xw8.c1
  have Xwc2 := Xw8.c2
  have Xwc3 := Xw8.c3
  have Xwc4 := Xw8.c4
  go_wp2_with fail
  refine (eqRun_any ga wa al gc wc an af au ae av W8 Vg8.out.reads Vw8.out.reads hal).mono ?_
  rintro x W9 ⟨rfl, hb⟩
  clear hal8
  clear Xgc0 Xgc1 Xgc2 Xgc3 Xgc4 Xwc0 Xwc1 Xwc2 Xwc3 Xwc4
  have K9 := K8.on hb
  have Vw9 : Hid (ownsR W9 w.heap.size 44 (.slice wa al wc) av) := Vw8.out.all hb
  have Xw9 := Xw8.on hb
  have Vx9 : Hid (ownsR W9 w.heap.size 44 (.slice xa rl xc) st) := Vx8.out.all hb
  have Xx9 := Xx8.on hb
  have Vg9 : Hid (ownsR W9 w.heap.size 44 (.slice ga al gc) av) := Vg8.out.all hb
  have Xg9 := Xg8.on hb
  have B9 := Below.on B8 hb
  have s9 : W8.heap.size ≤ W9.heap.size := hb.size
  clear K8 Vw8 Xw8 Vx8 Xx8 Vg8 Xg8 B8 hb
  have Kk0 := Below.cellOf (B := W9.heap.size) (W := W9) (p := ⟨w.heap.size, 0, none⟩) K9.lt K9.c0
  have Kk1 := Below.cellOf (B := W9.heap.size) (W := W9) (p := ⟨w.heap.size, 1, none⟩) K9.lt K9.c1
  have Kk2 := Below.cellOf (B := W9.heap.size) (W := W9) (p := ⟨w.heap.size, 2, none⟩) K9.lt K9.c2
  have Kk3 := Below.cellOf (B := W9.heap.size) (W := W9) (p := ⟨w.heap.size, 3, none⟩) K9.lt K9.c3
  have Kk4 := Below.cellOf (B := W9.heap.size) (W := W9) (p := ⟨w.heap.size, 4, none⟩) K9.lt K9.c4
  have Xxk0 := Below.cellOf (B := W9.heap.size) (W := W9) (p := ⟨W5.heap.size, 0, none⟩) Xx9.lt Xx9.c0
  have Xxk1 := Below.cellOf (B := W9.heap.size) (W := W9) (p := ⟨W5.heap.size, 1, none⟩) Xx9.lt Xx9.c1
  have Xxk2 := Below.cellOf (B := W9.heap.size) (W := W9) (p := ⟨W5.heap.size, 2, none⟩) Xx9.lt Xx9.c2
  have Xxk3 := Below.cellOf (B := W9.heap.size) (W := W9) (p := ⟨W5.heap.size, 3, none⟩) Xx9.lt Xx9.c3
  have Xxk4 := Below.cellOf (B := W9.heap.size) (W := W9) (p := ⟨W5.heap.size, 4, none⟩) Xx9.lt Xx9.c4
  go_wp2_with fail
  go_region_held3 (fun w' => Below W9.heap.size W9 w') ((first | exact (Below.refl _ _).drew | exact hS6 | exact hS7)) ((first | (go_at_call 8; refine (HTR.out _ (Below.on B9 (by assumption))).mono ?_; rintro x wq ⟨ya, yc, rfl, ho6, hb6⟩; have hS6 := keep_on (B := W9.heap.size) (W := W9) hb6 (by assumption) (Nat.le_refl _)) | (go_at_call 10; refine (eqRun_any _ _ _ _ _ _ _ _ _ st _ (Vx9.out.reads.below hS6) ho6.reads (Nat.le_succ_of_le hrl)).mono ?_; rintro x W10 ⟨rfl, hb7⟩; have hS7 := keep_on (B := W9.heap.size) (W := W9) hb7 hS6 (Nat.le_refl _))))
  have hb := hS7
  clear ho6 hb6 hb7 hS6 hS7 Kk0 Kk1 Kk2 Kk3 Kk4 Xxk0 Xxk1 Xxk2 Xxk3 Xxk4
  have K10 := K9.on hb
  have Vw10 : Hid (ownsR W10 w.heap.size 44 (.slice wa al wc) av) := Vw9.out.all hb
  have Xw10 := Xw9.on hb
  have Vx10 : Hid (ownsR W10 w.heap.size 44 (.slice xa rl xc) st) := Vx9.out.all hb
  have Xx10 := Xx9.on hb
  have Vg10 : Hid (ownsR W10 w.heap.size 44 (.slice ga al gc) av) := Vg9.out.all hb
  have Xg10 := Xg9.on hb
  have B10 := Below.on B9 hb
  have s10 : W9.heap.size ≤ W10.heap.size := hb.size
  clear K9 Vw9 Xw9 Vx9 Xx9 Vg9 Xg9 B9 hb
  have HM : Hid (Calls Try.prog 13 #[.agg #[.string rn, .int .i64 rf, .int .i64 ru, .int .i64 re, (.slice xa rl xc)], .int .i64 1] W10 fun e w' => e = .returned (.int .i64 (1 + 4 * (rl : Int))) ∧ ownsR w' w.heap.size 44 (.slice xa rl xc) (marksSa 1 rl) ∧ W10.grownBy w' (Value.slice xa rl xc).ownBlock) := by
    have := markRun_any (x := 1) rn rf ru re Vx10.out (by rw [HRN.out]; omega) (by omega) (by omega)
    rw [HRN.out] at this
    exact this
  have Xxc0 := Xx10.c0
  have Xxc1 := Xx10.c1
  have Xxc2 := Xx10.c2
  have Xxc3 := Xx10.c3
  have Xxc4 := Xx10.c4
  go_wp2_with fail
  refine HM.out.mono ?_
  rintro x W11 ⟨rfl, ho, hgr⟩
  clear Xxc0 Xxc1 Xxc2 Xxc3 Xxc4
  have K11 := K10.grown hgr (fun e => by have h1 := HBx.out _ e.symm; omega)
  have Vw11 : Hid (ownsR W11 w.heap.size 44 (.slice wa al wc) av) := own_keep Vw10.out fun k hk => hgr.block k (Vw10.out.lt k hk).2 fun e => by
    have h1 := HBw.out k hk
    have h2 := HBx.out k e.symm
    omega
  have Xw11 := Xw10.grown hgr (fun e => not_rowR5 Xw10 Vx10.out e.symm)
  have Vg11 : Hid (ownsR W11 w.heap.size 44 (.slice ga al gc) av) := own_keep Vg10.out fun k hk => hgr.block k (Vg10.out.lt k hk).2 fun e => by
    have h1 := HBg.out k hk
    have h2 := HBx.out k e.symm
    omega
  have Xg11 := Xg10.grown hgr (fun e => not_rowR5 Xg10 Vx10.out e.symm)
  have B11 : Below w.heap.size w W11 := B10.grown hgr B10.size fun k hk => (Vx10.out.lt k hk).1
  have s11 : W10.heap.size ≤ W11.heap.size := hgr.size
  clear K10 Vw10 Xw10 Vx10 Xx10 Vg10 Xg10 B10 ho hgr HM
  have hk0 : decide ((1 : Int) + 4 * (rl : Int) < 0) = false := decide_eq_false (by omega)
  have Xgc0 := Xg11.c0
  have Xgc1 := Xg11.c1
  have Xgc2 := Xg11.c2
  have Xgc3 := Xg11.c3
  have Xgc4 := Xg11.c4
  have Xwc0 := Xw11.c0
  have Xwc1 := Xw11.c1
  have Xwc2 := Xw11.c2
  have Xwc3 := Xw11.c3
  have Xwc4 := Xw11.c4
  go_wp2_with fail
  refine (eqRun_any ga wa al gc wc an af au ae av W11 Vg11.out.reads Vw11.out.reads hal).mono ?_
  rintro x W12 ⟨rfl, hb⟩
  clear Xgc0 Xgc1 Xgc2 Xgc3 Xgc4 Xwc0 Xwc1 Xwc2 Xwc3 Xwc4
  have K12 := K11.on hb
  have Vw12 : Hid (ownsR W12 w.heap.size 44 (.slice wa al wc) av) := Vw11.out.all hb
  have Xw12 := Xw11.on hb
  have Vg12 : Hid (ownsR W12 w.heap.size 44 (.slice ga al gc) av) := Vg11.out.all hb
  have Xg12 := Xg11.on hb
  have B12 := Below.on B11 hb
  have s12 : W11.heap.size ≤ W12.heap.size := hb.size
  clear K11 Vw11 Xw11 Vg11 Xg11 B11 hb
  have HM : Hid (Calls Try.prog 13 #[.agg #[.string an, .int .i64 af, .int .i64 au, .int .i64 ae, (.slice ga al gc)], .int .i64 1] W12 fun e w' => e = .returned (.int .i64 (1 + 4 * (al : Int))) ∧ ownsR w' w.heap.size 44 (.slice ga al gc) (marksSa 1 al) ∧ W12.grownBy w' (Value.slice ga al gc).ownBlock) := by
    have := markRun_any (x := 1) an af au ae Vg12.out (by rw [HLE.out]; exact hal) (by omega) (by omega)
    rw [HLE.out] at this
    exact this
  have Xgc0 := Xg12.c0
  have Xgc1 := Xg12.c1
  have Xgc2 := Xg12.c2
  have Xgc3 := Xg12.c3
  have Xgc4 := Xg12.c4
  go_wp2_with fail
  refine HM.out.mono ?_
  rintro x W13 ⟨rfl, ho, hgr⟩
  clear Xgc0 Xgc1 Xgc2 Xgc3 Xgc4
  have K13 := K12.grown hgr (fun e => by have h1 := HBg.out _ e.symm; omega)
  have Vw13 : Hid (ownsR W13 w.heap.size 44 (.slice wa al wc) av) := own_keep Vw12.out fun k hk => hgr.block k (Vw12.out.lt k hk).2 fun e => by
    have h1 := HBw.out k hk
    have h2 := HBg.out k e.symm
    omega
  have Xw13 := Xw12.grown hgr (fun e => not_rowR5 Xw12 Vg12.out e.symm)
  have Vg13 : Hid (ownsR W13 w.heap.size 44 (.slice ga al gc) (marksSa 1 al)) := ho
  have Xg13 := Xg12.grown hgr (fun e => not_rowR5 Xg12 Vg12.out e.symm)
  have B13 : Below w.heap.size w W13 := B12.grown hgr B12.size fun k hk => (Vg12.out.lt k hk).1
  have s13 : W12.heap.size ≤ W13.heap.size := hgr.size
  clear K12 Vw12 Xw12 Vg12 Xg12 B12 ho hgr HM
  have hk1 : decide ((1 : Int) + 4 * (al : Int) < 0) = false := decide_eq_false (by omega)
  have HH := heldRun_any ga al gc an af au ae 1 W13 Vg13.out.reads hal (by decide) (by decide)
  have Xgc0 := Xg13.c0
  have Xgc1 := Xg13.c1
  have Xgc2 := Xg13.c2
  have Xgc3 := Xg13.c3
  have Xgc4 := Xg13.c4
  go_wp2_with fail
  refine (HH).mono ?_
  rintro x W14 ⟨rfl, hb⟩
  clear Xgc0 Xgc1 Xgc2 Xgc3 Xgc4
  have K14 := K13.on hb
  have Vw14 : Hid (ownsR W14 w.heap.size 44 (.slice wa al wc) av) := Vw13.out.all hb
  have Xw14 := Xw13.on hb
  have Vg14 : Hid (ownsR W14 w.heap.size 44 (.slice ga al gc) (marksSa 1 al)) := Vg13.out.all hb
  have Xg14 := Xg13.on hb
  have B14 := Below.on B13 hb
  have s14 : W13.heap.size ≤ W14.heap.size := hb.size
  clear K13 Vw13 Xw13 Vg13 Xg13 B13 hb
  clear HH
  have Kc0 := K14.c0
  have Kc1 := K14.c1
  have Kc2 := K14.c2
  have Kc3 := K14.c3
  have Kc4 := K14.c4
  go_wp2_with fail
  refine (HTR.out _ B14).mono ?_
  rintro x W15 ⟨ua, uc, rfl, ho, hb⟩
  clear Kc0 Kc1 Kc2 Kc3 Kc4
  have HT2 : Hid (Reads W15 (.slice ua rl uc) st) := ho.reads
  clear ho
  have K15 := K14.on hb
  have Vw15 : Hid (ownsR W15 w.heap.size 44 (.slice wa al wc) av) := Vw14.out.all hb
  have Xw15 := Xw14.on hb
  have Vg15 : Hid (ownsR W15 w.heap.size 44 (.slice ga al gc) (marksSa 1 al)) := Vg14.out.all hb
  have Xg15 := Xg14.on hb
  have B15 := Below.on B14 hb
  have s15 : W14.heap.size ≤ W15.heap.size := hb.size
  clear K14 Vw14 Xw14 Vg14 Xg14 B14 hb
  go_wp2_with fail
  refine (HA.out ua uc W15 B15 HT2.out).mono ?_
  rintro x W16 ⟨ha, hc, rfl, ho, hb⟩
  have HBh : Hid (∀ k, (Value.slice ha al hc).ownBlock = some k → W15.heap.size ≤ k ∧ k < W16.heap.size) := fun k hk => ho.lt k hk
  have Vh16 : Hid (ownsR W16 w.heap.size 44 (.slice ha al hc) av) := ho.mono B15.size
  clear ho
  have K16 := K15.on hb
  have Vw16 : Hid (ownsR W16 w.heap.size 44 (.slice wa al wc) av) := Vw15.out.all hb
  have Xw16 := Xw15.on hb
  have Vg16 : Hid (ownsR W16 w.heap.size 44 (.slice ga al gc) (marksSa 1 al)) := Vg15.out.all hb
  have Xg16 := Xg15.on hb
  have B16 := Below.on B15 hb
  have s16 : W15.heap.size ≤ W16.heap.size := hb.size
  clear K15 Vw15 Xw15 Vg15 Xg15 B15 hb
  obtain ⟨W17, hal17⟩ : ∃ V, W16.alloc (.cells #[.string an, .int .i64 af, .int .i64 au, .int .i64 ae, .slice ha al hc] 32) = V := ⟨_, rfl⟩
  have hb : Below W16.heap.size W16 W17 := by rw [← hal17]; exact ba (Below.refl _ _) _
  have Xn : R5 W17 W16.heap.size an af au ae (.slice ha al hc) := by rw [← hal17]; exact R5.new _ _ _ _ _ _
  have K17 := K16.on hb
  have Vw17 : Hid (ownsR W17 w.heap.size 44 (.slice wa al wc) av) := Vw16.out.all hb
  have Xw17 := Xw16.on hb
  have Vg17 : Hid (ownsR W17 w.heap.size 44 (.slice ga al gc) (marksSa 1 al)) := Vg16.out.all hb
  have Xg17 := Xg16.on hb
  have Vh17 : Hid (ownsR W17 w.heap.size 44 (.slice ha al hc) av) := Vh16.out.all hb
  have B17 := Below.on B16 hb
  have s17 : W16.heap.size ≤ W17.heap.size := hb.size
  clear K16 Vw16 Xw16 Vg16 Xg16 Vh16 B16 hb
  have Xh17 := Xn
  clear Xn
  clear HT2
  have Xhc0 := Xh17.c0
  have Xhc1 := Xh17.c1
  have Xhc2 := Xh17.c2
  have Xhc3 := Xh17.c3
  have Xhc4 := Xh17.c4
  have Xwc0 := Xw17.c0
  have Xwc1 := Xw17.c1
  have Xwc2 := Xw17.c2
  have Xwc3 := Xw17.c3
  have Xwc4 := Xw17.c4
  go_wp2_with fail
  refine (eqRun_any ha wa al hc wc an af au ae av W17 Vh17.out.reads Vw17.out.reads hal).mono ?_
  rintro x W18 ⟨rfl, hb⟩
  clear hal17
  clear Xhc0 Xhc1 Xhc2 Xhc3 Xhc4 Xwc0 Xwc1 Xwc2 Xwc3 Xwc4
  have K18 := K17.on hb
  have Vw18 : Hid (ownsR W18 w.heap.size 44 (.slice wa al wc) av) := Vw17.out.all hb
  have Xw18 := Xw17.on hb
  have Vg18 : Hid (ownsR W18 w.heap.size 44 (.slice ga al gc) (marksSa 1 al)) := Vg17.out.all hb
  have Xg18 := Xg17.on hb
  have Vh18 : Hid (ownsR W18 w.heap.size 44 (.slice ha al hc) av) := Vh17.out.all hb
  have Xh18 := Xh17.on hb
  have B18 := Below.on B17 hb
  have s18 : W17.heap.size ≤ W18.heap.size := hb.size
  clear K17 Vw17 Xw17 Vg17 Xg17 Vh17 Xh17 B17 hb
  have HH := heldRun_any ga al gc an af au ae 1 W18 Vg18.out.reads hal (by decide) (by decide)
  have Xgc0 := Xg18.c0
  have Xgc1 := Xg18.c1
  have Xgc2 := Xg18.c2
  have Xgc3 := Xg18.c3
  have Xgc4 := Xg18.c4
  go_wp2_with fail
  refine (HH).mono ?_
  rintro x W19 ⟨rfl, hb⟩
  clear Xgc0 Xgc1 Xgc2 Xgc3 Xgc4
  have K19 := K18.on hb
  have Vw19 : Hid (ownsR W19 w.heap.size 44 (.slice wa al wc) av) := Vw18.out.all hb
  have Xw19 := Xw18.on hb
  have Vg19 : Hid (ownsR W19 w.heap.size 44 (.slice ga al gc) (marksSa 1 al)) := Vg18.out.all hb
  have Xg19 := Xg18.on hb
  have Vh19 : Hid (ownsR W19 w.heap.size 44 (.slice ha al hc) av) := Vh18.out.all hb
  have Xh19 := Xh18.on hb
  have B19 := Below.on B18 hb
  have s19 : W18.heap.size ≤ W19.heap.size := hb.size
  clear K18 Vw18 Xw18 Vg18 Xg18 Vh18 Xh18 B18 hb
  clear HH
  go_wp2
  go_ret
  exact ⟨rfl, B19⟩
end Go.Proofs.Ytbaooljchilkhaa
