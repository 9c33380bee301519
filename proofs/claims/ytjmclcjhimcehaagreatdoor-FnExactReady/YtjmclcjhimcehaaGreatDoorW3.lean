/-
  The law on Ready: the walk.
-/
import Derived.Test.YtjmclcjhimcehaaGreatDoorP2
import Derived.Test.YtjmclcjhimcehaaGreatDoorG29
import Derived.Test.YtjmclcjhimcehaaGreatDoorG30
import Derived.Test.YtjmclcjhimcehaaGreatDoorG31
namespace Go.Proofs.YtjmclcjhimcehaaGreatDoor
open Go Go.RowKit
set_option linter.unusedVariables false

set_option maxRecDepth 10000 in
set_option maxHeartbeats 8000000 in
theorem law_Ready (ao : Option Addr) (n cap : Nat) (nm cr : ByteArray) (fr up : Int) (cu : Bool) (ts : List Ta) (ro : Option Addr) (rl rc : Nat) (rn : ByteArray) (rf ru re : Int) (st : List Sa) (i : Int) (past : Bool) (now : Int) (w : World) (hr : Tasks w (.slice ao n cap) ts) (hf : FitD ⟨nm, cr, fr, up, cu, ts⟩ n) (hg : Gl w) (rr : Reads w (.slice ro rl rc) st) (rfit : rl ≤ 9223372036854775807 ∧ rn.size ≤ 9223372036854775807) :
    Calls Tryz.prog 5 #[.agg #[.string nm, .string cr, .int .i64 fr, .int .i64 up, .bool cu, .slice ao n cap], .agg #[.string rn, .int .i64 rf, .int .i64 ru, .int .i64 re, .slice ro rl rc], .int .i64 i, .bool past, .int .i64 now] w fun x w' => x = .returned (.bool true) ∧ Below w.heap.size w w' := by
  have HN : Hid (ts.length = n) := by
    obtain ⟨ao', cap', e⟩ := hr.slice
    injection e with _ e2 _
    exact e2.symm
  have HZD : Hid (∀ W, Below w.heap.size w W → Calls Tryz.prog 9 #[.agg #[.string nm, .string cr, .int .i64 fr, .int .i64 up, .bool cu, .slice ao n cap], .int .i64 1048576] W fun e w' => ∃ r : Int, e = .returned (.int .i64 r) ∧ r ≤ 1048576 ∧ -1 ≤ r ∧ (0 ≤ r → (nm.size : Int) ≤ 1048576 ∧ (cr.size : Int) ≤ 1048576 ∧ (ts.length : Int) ≤ 1048576 ∧ ∀ t ∈ ts, Wei t 1048576) ∧ Below W.heap.size W w') := fun W hb => szD_any ao n cap nm cr fr up cu ts 1048576 W (hr.below hb) hf (by decide) (by decide)
  have HDR : Hid (∀ W, Below w.heap.size w W → Tasks W (.slice ao n cap) ts) := fun W hb => hr.below hb
  have HG : Hid (∀ W, Below w.heap.size w W → Gl W) := fun W hb => hg.up hb
  clear hr hf hg
  have HRN : Hid (st.length = rl) := rr.len.symm
  have HZR : Hid (∀ (W : World) (L : Int), 0 ≤ L → L ≤ 1048576 → Calls Tryz.prog 19 #[.agg #[.string rn, .int .i64 rf, .int .i64 ru, .int .i64 re, .slice ro rl rc], .int .i64 L] W fun e w' => ∃ r : Int, e = .returned (.int .i64 r) ∧ r ≤ 1048576 ∧ -1 ≤ r ∧ (0 ≤ r → (rn.size : Int) ≤ 1048576 ∧ (rl : Int) ≤ 1048576) ∧ Below W.heap.size W w') := fun W L h0 h1 => szRun_any ro rl rc rn rf ru re L W h1 h0 rfit.1 rfit.2
  have HRD : Hid (∀ W, Below w.heap.size w W → Reads W (.slice ro rl rc) st) := fun W hb => rr.below hb
  clear rr rfit
  obtain ⟨q, HQ⟩ : ∃ q, Hid (readyB ⟨nm, cr, fr, up, cu, ts⟩ ⟨rn, rf, ru, re, st⟩ i past now = q) := ⟨_, rfl⟩
  obtain ⟨W0, hV0⟩ : ∃ V, (w.alloc (.cells #[.string nm, .string cr, .int .i64 fr, .int .i64 up, .bool cu, .slice ao n cap] 24)).alloc (.cells #[.string rn, .int .i64 rf, .int .i64 ru, .int .i64 re, .slice ro rl rc] 46) = V := ⟨_, rfl⟩
  have Z0 : L6 W0 (w.heap.size) nm cr fr up cu (.slice ao n cap) := by
    rw [← hV0]
    have := (L6.new w nm cr fr up cu (.slice ao n cap)).on (ba (Below.refl _ _) (.cells #[.string rn, .int .i64 rf, .int .i64 ru, .int .i64 re, .slice ro rl rc] 46))
    simpa using this
  have K0 : K5 W0 (w.heap.size + 1) rn rf ru re (.slice ro rl rc) := by
    rw [← hV0]
    have := (K5.new (w.alloc (.cells #[.string nm, .string cr, .int .i64 fr, .int .i64 up, .bool cu, .slice ao n cap] 24)) rn rf ru re (.slice ro rl rc)).on (Below.refl _ _)
    simpa using this
  have B0 : Below w.heap.size w W0 := by rw [← hV0]; exact ba (ba (Below.refl _ _) _) _
  have s0 : w.heap.size + 1 < W0.heap.size := K0.lt
  go_enter Tryz.func5, Tryz.ntmps5
  have Zc0 := Z0.c0
  have Zc1 := Z0.c1
  have Zc2 := Z0.c2
  have Zc3 := Z0.c3
  have Zc4 := Z0.c4
  have Zc5 := Z0.c5
  go_wp2_with fail
  refine (HZD.out _ B0).mono ?_
  rintro x W1 ⟨r0, rfl, hr1, hr2, hr3, hb⟩
  clear hV0
  clear Zc0 Zc1 Zc2 Zc3 Zc4 Zc5
  have Z1 := Z0.on hb
  have K1 := K0.on hb
  have B1 := Below.on B0 hb
  have s1 : W0.heap.size ≤ W1.heap.size := hb.size
  clear Z0 K0 B0 hb
  have HR3 : Hid (0 ≤ r0 → (nm.size : Int) ≤ 1048576 ∧ (cr.size : Int) ≤ 1048576 ∧ (ts.length : Int) ≤ 1048576 ∧ ∀ t ∈ ts, Wei t 1048576) := hr3
  clear hr3 HZD
  by_cases hneg0 : r0 < 0
  · go_wp2
    go_ret
    exact ⟨rfl, B1⟩
  have HK := HR3.out (by omega)
  have HK1 : Hid (∀ t ∈ ts, t.after.length ≤ 1048576) := fun t ht => by have := (HK.2.2.2 t ht).2.1; omega
  have hn : n ≤ 1048576 := by have h1 := HK.2.2.1; have h2 := HN.out; omega
  have HSm : Hid (∀ t ∈ ts, Sm t) := fun t ht => by
    obtain ⟨y1, y2, y3⟩ := HK.2.2.2 t ht
    exact ⟨by omega, by omega, fun s hs => by have := y3 s hs; omega⟩
  have HCR : Hid (cr.size ≤ 1048576 ∧ nm.size ≤ 1048576) := ⟨by have := HK.2.1; omega, by have := HK.1; omega⟩
  clear HK HR3
  have Kc0 := K1.c0
  have Kc1 := K1.c1
  have Kc2 := K1.c2
  have Kc3 := K1.c3
  have Kc4 := K1.c4
  go_wp2_with fail
  refine (HZR.out _ r0 (by omega) (by omega)).mono ?_
  rintro x W2 ⟨r1, rfl, hq1, hq2, hq3, hb⟩
  clear Kc0 Kc1 Kc2 Kc3 Kc4
  have Z2 := Z1.on hb
  have K2 := K1.on hb
  have B2 := Below.on B1 hb
  have s2 : W1.heap.size ≤ W2.heap.size := hb.size
  clear Z1 K1 B1 hb
  have HQ3 : Hid (0 ≤ r1 → (rn.size : Int) ≤ 1048576 ∧ (rl : Int) ≤ 1048576) := hq3
  clear hq3 HZR
  by_cases hneg1 : r1 < 0
  · go_wp2
    go_ret
    exact ⟨rfl, B2⟩
  have hrl : rl ≤ 1048576 := by have := (HQ3.out (by omega)).2; omega
  have hrz : rn.size ≤ 1048576 := by have := (HQ3.out (by omega)).1; omega
  clear HQ3
  have HTD : Hid (∀ W, Below w.heap.size w W → Calls Tryz.prog 11 #[.agg #[.string nm, .string cr, .int .i64 fr, .int .i64 up, .bool cu, .slice ao n cap]] W fun e w' => ∃ g, e = .returned (.agg #[.string nm, .string cr, .int .i64 fr, .int .i64 up, .bool cu, .slice (some ⟨g, 0, none⟩) n n]) ∧ TasksO W.heap.size w' (.slice (some ⟨g, 0, none⟩) n n) ts ∧ Below W.heap.size W w') := fun W hb => toD_own ao n cap nm cr fr up cu ts W (HDR.out W hb) hn HK1.out
  have HTR : Hid (∀ W, Below w.heap.size w W → Calls Tryz.prog 21 #[.agg #[.string rn, .int .i64 rf, .int .i64 ru, .int .i64 re, .slice ro rl rc]] W fun e w' => ∃ (va : Option Addr) (vc : Nat), e = .returned (.agg #[.string rn, .int .i64 rf, .int .i64 ru, .int .i64 re, .slice va rl vc]) ∧ ownsR w' W.heap.size 85 (.slice va rl vc) st ∧ Below W.heap.size W w') := fun W hb => (toRun_any ro rl rc rn rf ru re st W (HRD.out W hb) hrl).mono fun e w' ⟨v, he, ho, hb⟩ => by
    obtain ⟨va, vc, ev⟩ := ho.slice
    rw [HRN.out] at ev
    subst ev
    exact ⟨va, vc, he, ho, hb⟩
  have HS : Hid (∀ (go : Option Addr) (vo : Option Addr) (vc : Nat) W, Below w.heap.size w W → Tasks W (.slice go n n) ts → Reads W (.slice vo rl vc) st → Calls Tryz.prog 23 #[.agg #[.string nm, .string cr, .int .i64 fr, .int .i64 up, .bool cu, .slice go n n], .agg #[.string rn, .int .i64 rf, .int .i64 ru, .int .i64 re, .slice vo rl vc], .int .i64 i, .bool past, .int .i64 now] W fun x w' => x = .returned (.bool q) ∧ Below W.heap.size W w') := fun go vo vc W hb td tr => by
    have := specReady_any go n n nm cr fr up cu ts vo rl vc rn rf ru re st i past now W ⟨td, by show ts.length ≤ 1048577; rw [HN.out]; exact Nat.le_succ_of_le hn, fun t ht => ⟨(HSm.out t ht).few, (HSm.out t ht).name⟩, HCR.out.1, by have := HCR.out.2; show nm.size ≤ 9223372036854775807; omega⟩ tr (Nat.le_succ_of_le hrl)
    rw [HQ.out] at this
    exact this
  have HA : Hid (∀ (go : Option Addr) (vo : Option Addr) (vc : Nat) W, Below w.heap.size w W → Tasks W (.slice go n n) ts → Reads W (.slice vo rl vc) st → Calls Tryz.prog 24 #[.agg #[.string nm, .string cr, .int .i64 fr, .int .i64 up, .bool cu, .slice go n n], .agg #[.string rn, .int .i64 rf, .int .i64 ru, .int .i64 re, .slice vo rl vc], .int .i64 i, .bool past, .int .i64 now] W fun x w' => x = .returned (.bool q) ∧ Below W.heap.size W w') := fun go vo vc W hb td tr => by
    have := implReady_any go n n nm cr fr up cu ts vo rl vc rn rf ru re st i past now W ⟨td, Nat.le_refl _, Nat.le_succ_of_le hn, HSm.out, HCR.out.1, by have := HCR.out.2; show nm.size ≤ 9223372036854775807; omega⟩ (HG.out W hb) tr (Nat.le_succ_of_le hrl)
    rw [HQ.out] at this
    exact this
  have Zk0 := Below.cellOf (B := W2.heap.size) (W := W2) (p := ⟨w.heap.size, 0, none⟩) Z2.lt Z2.c0
  have Zk1 := Below.cellOf (B := W2.heap.size) (W := W2) (p := ⟨w.heap.size, 1, none⟩) Z2.lt Z2.c1
  have Zk2 := Below.cellOf (B := W2.heap.size) (W := W2) (p := ⟨w.heap.size, 2, none⟩) Z2.lt Z2.c2
  have Zk3 := Below.cellOf (B := W2.heap.size) (W := W2) (p := ⟨w.heap.size, 3, none⟩) Z2.lt Z2.c3
  have Zk4 := Below.cellOf (B := W2.heap.size) (W := W2) (p := ⟨w.heap.size, 4, none⟩) Z2.lt Z2.c4
  have Zk5 := Below.cellOf (B := W2.heap.size) (W := W2) (p := ⟨w.heap.size, 5, none⟩) Z2.lt Z2.c5
  have Kk0 := Below.cellOf (B := W2.heap.size) (W := W2) (p := ⟨w.heap.size + 1, 0, none⟩) K2.lt K2.c0
  have Kk1 := Below.cellOf (B := W2.heap.size) (W := W2) (p := ⟨w.heap.size + 1, 1, none⟩) K2.lt K2.c1
  have Kk2 := Below.cellOf (B := W2.heap.size) (W := W2) (p := ⟨w.heap.size + 1, 2, none⟩) K2.lt K2.c2
  have Kk3 := Below.cellOf (B := W2.heap.size) (W := W2) (p := ⟨w.heap.size + 1, 3, none⟩) K2.lt K2.c3
  have Kk4 := Below.cellOf (B := W2.heap.size) (W := W2) (p := ⟨w.heap.size + 1, 4, none⟩) K2.lt K2.c4
  go_wp2_with fail
  go_region_held3 (fun w' => Below W2.heap.size W2 w') ((first | exact (Below.refl _ _).drew | exact hS5 | exact hS6 | exact hS7)) ((first | (go_at_call 23; refine (HS.out _ _ _ _ (Below.on B2 hS6) (ht5.below hb6) ho6.reads).mono ?_; rintro x W3 ⟨rfl, hb7⟩; have hS7 := keep_on (B := W2.heap.size) (W := W2) hb7 (by assumption) (Nat.le_refl _)) | (go_at_call 11; refine (HTD.out _ (Below.on B2 (by assumption))).mono ?_; rintro x w5 ⟨g5, rfl, hto5, hb5⟩; have ht5 := hto5.tasks; clear hto5; have hS5 := keep_on (B := W2.heap.size) (W := W2) hb5 (by assumption) (Nat.le_refl _)) | (go_at_call 21; refine (HTR.out _ (Below.on B2 (by assumption))).mono ?_; rintro x w6 ⟨va6, vc6, rfl, ho6, hb6⟩; have hS6 := keep_on (B := W2.heap.size) (W := W2) hb6 (by assumption) (Nat.le_refl _))))
  have hb := hS7
  clear ht5 hb5 hS5 ho6 hb6 hS6 hb7 hS7 Zk0 Zk1 Zk2 Zk3 Zk4 Zk5 Kk0 Kk1 Kk2 Kk3 Kk4
  have Z3 := Z2.on hb
  have K3 := K2.on hb
  have B3 := Below.on B2 hb
  have s3 : W2.heap.size ≤ W3.heap.size := hb.size
  clear Z2 K2 B2 hb
  have Zc0 := Z3.c0
  have Zc1 := Z3.c1
  have Zc2 := Z3.c2
  have Zc3 := Z3.c3
  have Zc4 := Z3.c4
  have Zc5 := Z3.c5
  go_wp2_with fail
  refine (HTD.out _ B3).mono ?_
  rintro x W4 ⟨gd, rfl, hto, hb⟩
  clear Zc0 Zc1 Zc2 Zc3 Zc4 Zc5
  have HDO : Hid (TasksO W3.heap.size W4 (.slice (some ⟨gd, 0, none⟩) n n) ts) := hto
  clear hto
  have Z4 := Z3.on hb
  have K4 := K3.on hb
  have B4 := Below.on B3 hb
  have s4 : W3.heap.size ≤ W4.heap.size := hb.size
  clear Z3 K3 B3 hb
  have D4 : Below W4.heap.size W4 W4 := Below.refl _ _
  obtain ⟨W5, hal5⟩ : ∃ V, W4.alloc (.cells #[.string nm, .string cr, .int .i64 fr, .int .i64 up, .bool cu, .slice (some ⟨gd, 0, none⟩) n n] 36) = V := ⟨_, rfl⟩
  have hb : Below W4.heap.size W4 W5 := by rw [← hal5]; exact ba (Below.refl _ _) _
  have Xn : P6 W5 W4.heap.size nm cr fr up cu (.slice (some ⟨gd, 0, none⟩) n n) := by rw [← hal5]; exact P6.new _ _ _ _ _ _ _
  have Z5 := Z4.on hb
  have K5 := K4.on hb
  have D5 := Below.on D4 hb
  have B5 := Below.on B4 hb
  have s5 : W4.heap.size ≤ W5.heap.size := hb.size
  clear Z4 K4 D4 B4 hb
  have Xd5 := Xn
  clear Xn
  have Kc0 := K5.c0
  have Kc1 := K5.c1
  have Kc2 := K5.c2
  have Kc3 := K5.c3
  have Kc4 := K5.c4
  go_wp2_with fail
  refine (HTR.out _ B5).mono ?_
  rintro x W6 ⟨xa, xc, rfl, ho, hb⟩
  clear hal5
  clear Kc0 Kc1 Kc2 Kc3 Kc4
  have HBx : Hid (∀ k, (Value.slice xa rl xc).ownBlock = some k → W5.heap.size ≤ k ∧ k < W6.heap.size) := fun k hk => ho.lt k hk
  have Vx6 : Hid (ownsR W6 w.heap.size 85 (.slice xa rl xc) st) := ho.mono B5.size
  clear ho
  have Z6 := Z5.on hb
  have K6 := K5.on hb
  have D6 := Below.on D5 hb
  have Xd6 := Xd5.on hb
  have B6 := Below.on B5 hb
  have s6 : W5.heap.size ≤ W6.heap.size := hb.size
  clear Z5 K5 D5 Xd5 B5 hb
  obtain ⟨W7, hal7⟩ : ∃ V, W6.alloc (.cells #[.string rn, .int .i64 rf, .int .i64 ru, .int .i64 re, .slice xa rl xc] 31) = V := ⟨_, rfl⟩
  have hb : Below W6.heap.size W6 W7 := by rw [← hal7]; exact ba (Below.refl _ _) _
  have Xn : R5 W7 W6.heap.size rn rf ru re (.slice xa rl xc) := by rw [← hal7]; exact R5.new _ _ _ _ _ _
  have Z7 := Z6.on hb
  have K7 := K6.on hb
  have D7 := Below.on D6 hb
  have Xd7 := Xd6.on hb
  have Vx7 : Hid (ownsR W7 w.heap.size 85 (.slice xa rl xc) st) := Vx6.out.all hb
  have B7 := Below.on B6 hb
  have s7 : W6.heap.size ≤ W7.heap.size := hb.size
  clear Z6 K6 D6 Xd6 Vx6 B6 hb
  have Xx7 := Xn
  clear Xn
  have Xdc0 := Xd7.c0
  have Xdc1 := Xd7.c1
  have Xdc2 := Xd7.c2
  have Xdc3 := Xd7.c3
  have Xdc4 := Xd7.c4
  have Xdc5 := Xd7.c5
  have Xxc0 := Xx7.c0
  have Xxc1 := Xx7.c1
  have Xxc2 := Xx7.c2
  have Xxc3 := Xx7.c3
  have Xxc4 := Xx7.c4
  go_wp2_with fail
  refine (HA.out _ xa xc W7 B7 (HDO.out.tasks.below D7) Vx7.out.reads).mono ?_
  rintro x W8 ⟨rfl, hb⟩
  clear hal7
  clear Xdc0 Xdc1 Xdc2 Xdc3 Xdc4 Xdc5 Xxc0 Xxc1 Xxc2 Xxc3 Xxc4
  have Z8 := Z7.on hb
  have K8 := K7.on hb
  have D8 := Below.on D7 hb
  have Xd8 := Xd7.on hb
  have Vx8 : Hid (ownsR W8 w.heap.size 85 (.slice xa rl xc) st) := Vx7.out.all hb
  have Xx8 := Xx7.on hb
  have B8 := Below.on B7 hb
  have s8 : W7.heap.size ≤ W8.heap.size := hb.size
  clear Z7 K7 D7 Xd7 Vx7 Xx7 B7 hb
  have Zk0 := Below.cellOf (B := W8.heap.size) (W := W8) (p := ⟨w.heap.size, 0, none⟩) Z8.lt Z8.c0
  have Zk1 := Below.cellOf (B := W8.heap.size) (W := W8) (p := ⟨w.heap.size, 1, none⟩) Z8.lt Z8.c1
  have Zk2 := Below.cellOf (B := W8.heap.size) (W := W8) (p := ⟨w.heap.size, 2, none⟩) Z8.lt Z8.c2
  have Zk3 := Below.cellOf (B := W8.heap.size) (W := W8) (p := ⟨w.heap.size, 3, none⟩) Z8.lt Z8.c3
  have Zk4 := Below.cellOf (B := W8.heap.size) (W := W8) (p := ⟨w.heap.size, 4, none⟩) Z8.lt Z8.c4
  have Zk5 := Below.cellOf (B := W8.heap.size) (W := W8) (p := ⟨w.heap.size, 5, none⟩) Z8.lt Z8.c5
  have Xdk0 := Below.cellOf (B := W8.heap.size) (W := W8) (p := ⟨W4.heap.size, 0, none⟩) Xd8.lt Xd8.c0
  have Xdk1 := Below.cellOf (B := W8.heap.size) (W := W8) (p := ⟨W4.heap.size, 1, none⟩) Xd8.lt Xd8.c1
  have Xdk2 := Below.cellOf (B := W8.heap.size) (W := W8) (p := ⟨W4.heap.size, 2, none⟩) Xd8.lt Xd8.c2
  have Xdk3 := Below.cellOf (B := W8.heap.size) (W := W8) (p := ⟨W4.heap.size, 3, none⟩) Xd8.lt Xd8.c3
  have Xdk4 := Below.cellOf (B := W8.heap.size) (W := W8) (p := ⟨W4.heap.size, 4, none⟩) Xd8.lt Xd8.c4
  have Xdk5 := Below.cellOf (B := W8.heap.size) (W := W8) (p := ⟨W4.heap.size, 5, none⟩) Xd8.lt Xd8.c5
  have HT6 : Hid (Tasks W8 (.slice (some ⟨gd, 0, none⟩) n n) ts) := HDO.out.tasks.below D8
  go_wp2_with fail
  go_region_held3 (fun w' => Below W8.heap.size W8 w') ((first | exact (Below.refl _ _).drew | exact hS6 | exact hS7)) ((first | (go_at_call 11; refine (HTD.out _ (Below.on B8 (by assumption))).mono ?_; rintro x wq ⟨g6, rfl, ht6, hb6⟩; have hS6 := keep_on (B := W8.heap.size) (W := W8) hb6 (by assumption) (Nat.le_refl _)) | (go_at_call 15; refine (eqD_any _ _ _ _ _ _ _ _ _ _ ts _ (HT6.out.below hS6) ht6.tasks (Nat.le_succ_of_le hn) (fun t ht => Nat.le_succ_of_le (HK1.out t ht))).mono ?_; rintro x W9 ⟨rfl, hb7⟩; have hS7 := keep_on (B := W8.heap.size) (W := W8) hb7 hS6 (Nat.le_refl _))))
  have hb := hS7
  clear ht6 hb6 hb7 hS6 hS7 HT6 Zk0 Zk1 Zk2 Zk3 Zk4 Zk5 Xdk0 Xdk1 Xdk2 Xdk3 Xdk4 Xdk5
  have Z9 := Z8.on hb
  have K9 := K8.on hb
  have D9 := Below.on D8 hb
  have Xd9 := Xd8.on hb
  have Vx9 : Hid (ownsR W9 w.heap.size 85 (.slice xa rl xc) st) := Vx8.out.all hb
  have Xx9 := Xx8.on hb
  have B9 := Below.on B8 hb
  have s9 : W8.heap.size ≤ W9.heap.size := hb.size
  clear Z8 K8 D8 Xd8 Vx8 Xx8 B8 hb
  have Kk0 := Below.cellOf (B := W9.heap.size) (W := W9) (p := ⟨w.heap.size + 1, 0, none⟩) K9.lt K9.c0
  have Kk1 := Below.cellOf (B := W9.heap.size) (W := W9) (p := ⟨w.heap.size + 1, 1, none⟩) K9.lt K9.c1
  have Kk2 := Below.cellOf (B := W9.heap.size) (W := W9) (p := ⟨w.heap.size + 1, 2, none⟩) K9.lt K9.c2
  have Kk3 := Below.cellOf (B := W9.heap.size) (W := W9) (p := ⟨w.heap.size + 1, 3, none⟩) K9.lt K9.c3
  have Kk4 := Below.cellOf (B := W9.heap.size) (W := W9) (p := ⟨w.heap.size + 1, 4, none⟩) K9.lt K9.c4
  have Xxk0 := Below.cellOf (B := W9.heap.size) (W := W9) (p := ⟨W6.heap.size, 0, none⟩) Xx9.lt Xx9.c0
  have Xxk1 := Below.cellOf (B := W9.heap.size) (W := W9) (p := ⟨W6.heap.size, 1, none⟩) Xx9.lt Xx9.c1
  have Xxk2 := Below.cellOf (B := W9.heap.size) (W := W9) (p := ⟨W6.heap.size, 2, none⟩) Xx9.lt Xx9.c2
  have Xxk3 := Below.cellOf (B := W9.heap.size) (W := W9) (p := ⟨W6.heap.size, 3, none⟩) Xx9.lt Xx9.c3
  have Xxk4 := Below.cellOf (B := W9.heap.size) (W := W9) (p := ⟨W6.heap.size, 4, none⟩) Xx9.lt Xx9.c4
  go_wp2_with fail
  go_region_held3 (fun w' => Below W9.heap.size W9 w') ((first | exact (Below.refl _ _).drew | exact hS6 | exact hS7)) ((first | (go_at_call 21; refine (HTR.out _ (Below.on B9 (by assumption))).mono ?_; rintro x wq ⟨ya, yc, rfl, ho6, hb6⟩; have hS6 := keep_on (B := W9.heap.size) (W := W9) hb6 (by assumption) (Nat.le_refl _)) | (go_at_call 14; refine (eqRun_any _ _ _ _ _ _ _ _ _ st _ (Vx9.out.reads.below hS6) ho6.reads (Nat.le_succ_of_le hrl)).mono ?_; rintro x W10 ⟨rfl, hb7⟩; have hS7 := keep_on (B := W9.heap.size) (W := W9) hb7 hS6 (Nat.le_refl _))))
  have hb := hS7
  clear ho6 hb6 hb7 hS6 hS7 Kk0 Kk1 Kk2 Kk3 Kk4 Xxk0 Xxk1 Xxk2 Xxk3 Xxk4
  have Z10 := Z9.on hb
  have K10 := K9.on hb
  have D10 := Below.on D9 hb
  have Xd10 := Xd9.on hb
  have Vx10 : Hid (ownsR W10 w.heap.size 85 (.slice xa rl xc) st) := Vx9.out.all hb
  have Xx10 := Xx9.on hb
  have B10 := Below.on B9 hb
  have s10 : W9.heap.size ≤ W10.heap.size := hb.size
  clear Z9 K9 D9 Xd9 Vx9 Xx9 B9 hb
  go_wp2
  go_ret
  exact ⟨rfl, B10⟩
end Go.Proofs.YtjmclcjhimcehaaGreatDoor
