/-
  The law on Finish: the walk.
-/
import Derived.Test.YtjmclcjhimcehaaGreatDoorH4
import Derived.Test.YtjmclcjhimcehaaGreatDoorH5
import Derived.Test.YtjmclcjhimcehaaGreatDoorG29
import Derived.Test.YtjmclcjhimcehaaGreatDoorG30
import Derived.Test.YtjmclcjhimcehaaGreatDoorG31
import Derived.Test.YtjmclcjhimcehaaGreatDoorH3
namespace Go.Proofs.YtjmclcjhimcehaaGreatDoor
open Go Go.RowKit
set_option linter.unusedVariables false

set_option maxRecDepth 10000 in
set_option maxHeartbeats 8000000 in
theorem law_Finish (ao : Option Addr) (n cap : Nat) (nm cr : ByteArray) (fr up : Int) (cu : Bool) (ts : List Ta) (ro : Option Addr) (rl rc : Nat) (rn : ByteArray) (rf ru re : Int) (st : List Sa) (i : Int) (good : Bool) (now : Int) (w : World) (hr : Tasks w (.slice ao n cap) ts) (hf : FitD ⟨nm, cr, fr, up, cu, ts⟩ n) (hg : Gl w) (rr : Reads w (.slice ro rl rc) st) (rfit : rl ≤ 9223372036854775807 ∧ rn.size ≤ 9223372036854775807) :
    Calls Tryz.prog 6 #[.agg #[.string nm, .string cr, .int .i64 fr, .int .i64 up, .bool cu, .slice ao n cap], .agg #[.string rn, .int .i64 rf, .int .i64 ru, .int .i64 re, .slice ro rl rc], .int .i64 i, .bool good, .int .i64 now] w fun x w' => x = .returned (.bool true) ∧ Below w.heap.size w w' := by
  have HN : Hid (ts.length = n) := by
    obtain ⟨ao', cap', e⟩ := hr.slice
    injection e with _ e2 _
    exact e2.symm
  have HZD : Hid (∀ W, Below w.heap.size w W → Calls Tryz.prog 9 #[.agg #[.string nm, .string cr, .int .i64 fr, .int .i64 up, .bool cu, .slice ao n cap], .int .i64 1048576] W fun e w' => ∃ r : Int, e = .returned (.int .i64 r) ∧ r ≤ 1048576 ∧ -1 ≤ r ∧ (0 ≤ r → (nm.size : Int) ≤ 1048576 ∧ (cr.size : Int) ≤ 1048576 ∧ (ts.length : Int) ≤ 1048576 ∧ ∀ t ∈ ts, Wei t 1048576) ∧ Below W.heap.size W w') := fun W hb => szD_any ao n cap nm cr fr up cu ts 1048576 W (hr.below hb) hf (by decide) (by decide)
  have HDR : Hid (∀ W, Below w.heap.size w W → Tasks W (.slice ao n cap) ts) := fun W hb => hr.below hb
  have HG : Hid (∀ W, Below w.heap.size w W → Gl W) := fun W hb => hg.up hb
  clear hr hf hg
  have HRN : Hid (st.length = rl) := rr.len.symm
  have HZR : Hid (∀ (W : World) (L : Int), 0 ≤ L → L ≤ 1048576 → Calls Tryz.prog 19 #[.agg #[.string rn, .int .i64 rf, .int .i64 ru, .int .i64 re, .slice ro rl rc], .int .i64 L] W fun e w' => ∃ r : Int, e = .returned (.int .i64 r) ∧ r ≤ 1048576 ∧ -1 ≤ r ∧ (0 ≤ r → (rn.size : Int) ≤ 1048576 ∧ (rl : Int) ≤ 1048576) ∧ Below W.heap.size W w') := fun W L h0 h1 => szRun_any ro rl rc rn rf ru re L W h1 h0 rfit.1 rfit.2
  have HRD : Hid (∀ W, Below w.heap.size w W → Reads W (.slice ro rl rc) st) := fun W hb => rr.below hb
  clear rr rfit
  obtain ⟨⟨an, af, au, ae, av⟩, HRR⟩ : ∃ R, Hid (finR ⟨nm, cr, fr, up, cu, ts⟩ ⟨rn, rf, ru, re, st⟩ i good now = R) := ⟨_, rfl⟩
  obtain ⟨q, HQ⟩ : ∃ q, Hid (finB ⟨nm, cr, fr, up, cu, ts⟩ ⟨rn, rf, ru, re, st⟩ i now = q) := ⟨_, rfl⟩
  obtain ⟨W0, hV0⟩ : ∃ V, (w.alloc (.cells #[.string nm, .string cr, .int .i64 fr, .int .i64 up, .bool cu, .slice ao n cap] 24)).alloc (.cells #[.string rn, .int .i64 rf, .int .i64 ru, .int .i64 re, .slice ro rl rc] 46) = V := ⟨_, rfl⟩
  have Z0 : L6 W0 (w.heap.size) nm cr fr up cu (.slice ao n cap) := by
    rw [← hV0]
    have := (L6.new w nm cr fr up cu (.slice ao n cap)).on (ba (Below.refl _ _) (.cells #[.string rn, .int .i64 rf, .int .i64 ru, .int .i64 re, .slice ro rl rc] 46))
    simpa using this
  have K0 : K5 W0 (w.heap.size + 1) rn rf ru re (.slice ro rl rc) := by
    rw [← hV0]
    have := (K5.new (w.alloc (.cells #[.string nm, .string cr, .int .i64 fr, .int .i64 up, .bool cu, .slice ao n cap] 24)) rn rf ru re (.slice ro rl rc)).on (Below.refl _ _)
    simpa using this
  have B0 : Below w.heap.size w W0 := by rw [← hV0]; exact ba (ba (Below.refl _ _) _) _
  have s0 : w.heap.size + 1 < W0.heap.size := K0.lt
  go_enter Tryz.func6, Tryz.ntmps6
  have Zc0 := Z0.c0
  have Zc1 := Z0.c1
  have Zc2 := Z0.c2
  have Zc3 := Z0.c3
  have Zc4 := Z0.c4
  have Zc5 := Z0.c5
  go_wp2_with fail
  refine (HZD.out _ B0).mono ?_
  rintro x W1 ⟨r0, rfl, hr1, hr2, hr3, hb⟩
  clear hV0
  clear Zc0 Zc1 Zc2 Zc3 Zc4 Zc5
  have Z1 := Z0.on hb
  have K1 := K0.on hb
  have B1 := Below.on B0 hb
  have s1 : W0.heap.size ≤ W1.heap.size := hb.size
  clear Z0 K0 B0 hb
  have HR3 : Hid (0 ≤ r0 → (nm.size : Int) ≤ 1048576 ∧ (cr.size : Int) ≤ 1048576 ∧ (ts.length : Int) ≤ 1048576 ∧ ∀ t ∈ ts, Wei t 1048576) := hr3
  clear hr3 HZD
  by_cases hneg0 : r0 < 0
  · go_wp2
    go_ret
    exact ⟨rfl, B1⟩
  have HK := HR3.out (by omega)
  have HK1 : Hid (∀ t ∈ ts, t.after.length ≤ 1048576) := fun t ht => by have := (HK.2.2.2 t ht).2.1; omega
  have hn : n ≤ 1048576 := by have h1 := HK.2.2.1; have h2 := HN.out; omega
  have HSm : Hid (∀ t ∈ ts, Sm t) := fun t ht => by
    obtain ⟨y1, y2, y3⟩ := HK.2.2.2 t ht
    exact ⟨by omega, by omega, fun s hs => by have := y3 s hs; omega⟩
  have HCR : Hid (cr.size ≤ 1048576 ∧ nm.size ≤ 1048576) := ⟨by have := HK.2.1; omega, by have := HK.1; omega⟩
  clear HK HR3
  have Kc0 := K1.c0
  have Kc1 := K1.c1
  have Kc2 := K1.c2
  have Kc3 := K1.c3
  have Kc4 := K1.c4
  go_wp2_with fail
  refine (HZR.out _ r0 (by omega) (by omega)).mono ?_
  rintro x W2 ⟨r1, rfl, hq1, hq2, hq3, hb⟩
  clear Kc0 Kc1 Kc2 Kc3 Kc4
  have Z2 := Z1.on hb
  have K2 := K1.on hb
  have B2 := Below.on B1 hb
  have s2 : W1.heap.size ≤ W2.heap.size := hb.size
  clear Z1 K1 B1 hb
  have HQ3 : Hid (0 ≤ r1 → (rn.size : Int) ≤ 1048576 ∧ (rl : Int) ≤ 1048576) := hq3
  clear hq3 HZR
  by_cases hneg1 : r1 < 0
  · go_wp2
    go_ret
    exact ⟨rfl, B2⟩
  have hrl : rl ≤ 1048576 := by have := (HQ3.out (by omega)).2; omega
  have hrz : rn.size ≤ 1048576 := by have := (HQ3.out (by omega)).1; omega
  clear HQ3
  have HTD : Hid (∀ W, Below w.heap.size w W → Calls Tryz.prog 11 #[.agg #[.string nm, .string cr, .int .i64 fr, .int .i64 up, .bool cu, .slice ao n cap]] W fun e w' => ∃ g, e = .returned (.agg #[.string nm, .string cr, .int .i64 fr, .int .i64 up, .bool cu, .slice (some ⟨g, 0, none⟩) n n]) ∧ TasksO W.heap.size w' (.slice (some ⟨g, 0, none⟩) n n) ts ∧ Below W.heap.size W w') := fun W hb => toD_own ao n cap nm cr fr up cu ts W (HDR.out W hb) hn HK1.out
  have HTR : Hid (∀ W, Below w.heap.size w W → Calls Tryz.prog 21 #[.agg #[.string rn, .int .i64 rf, .int .i64 ru, .int .i64 re, .slice ro rl rc]] W fun e w' => ∃ (va : Option Addr) (vc : Nat), e = .returned (.agg #[.string rn, .int .i64 rf, .int .i64 ru, .int .i64 re, .slice va rl vc]) ∧ ownsR w' W.heap.size 85 (.slice va rl vc) st ∧ Below W.heap.size W w') := fun W hb => (toRun_any ro rl rc rn rf ru re st W (HRD.out W hb) hrl).mono fun e w' ⟨v, he, ho, hb⟩ => by
    obtain ⟨va, vc, ev⟩ := ho.slice
    rw [HRN.out] at ev
    subst ev
    exact ⟨va, vc, he, ho, hb⟩
  have HS : Hid (∀ (go : Option Addr) (vo : Option Addr) (vc : Nat) W, Below w.heap.size w W → Tasks W (.slice go n n) ts → Reads W (.slice vo rl vc) st → Calls Tryz.prog 25 #[.agg #[.string nm, .string cr, .int .i64 fr, .int .i64 up, .bool cu, .slice go n n], .agg #[.string rn, .int .i64 rf, .int .i64 ru, .int .i64 re, .slice vo rl vc], .int .i64 i, .bool good, .int .i64 now] W fun x w' => ∃ (va : Option Addr) (vc : Nat), x = .returned (.tuple #[.agg #[.string an, .int .i64 af, .int .i64 au, .int .i64 ae, .slice va av.length vc], .bool q]) ∧ ownsR w' W.heap.size 85 (.slice va av.length vc) av ∧ Below W.heap.size W w') := fun go vo vc W hb td tr => by
    have := specFinish_any go n n nm cr fr up cu ts vo rl vc rn rf ru re st i good now W ⟨td, by show ts.length ≤ 1048577; rw [HN.out]; exact Nat.le_succ_of_le hn, fun t ht => ⟨(HSm.out t ht).few, (HSm.out t ht).name⟩, HCR.out.1, by have := HCR.out.2; show nm.size ≤ 9223372036854775807; omega⟩ tr (Nat.le_succ_of_le hrl) ⟨an, af, au, ae, av⟩ HRR
    rw [HQ.out] at this
    refine this.mono fun e w' ⟨v, he, ho, hb⟩ => ?_
    obtain ⟨va, vc, ev⟩ := ho.slice
    subst ev
    exact ⟨va, vc, he, ho, hb⟩
  have HA : Hid (∀ (go : Option Addr) (vo : Option Addr) (vc : Nat) W, Below w.heap.size w W → Tasks W (.slice go n n) ts → Reads W (.slice vo rl vc) st → Calls Tryz.prog 26 #[.agg #[.string nm, .string cr, .int .i64 fr, .int .i64 up, .bool cu, .slice go n n], .agg #[.string rn, .int .i64 rf, .int .i64 ru, .int .i64 re, .slice vo rl vc], .int .i64 i, .bool good, .int .i64 now] W fun x w' => ∃ (va : Option Addr) (vc : Nat), x = .returned (.tuple #[.agg #[.string an, .int .i64 af, .int .i64 au, .int .i64 ae, .slice va av.length vc], .bool q]) ∧ ownsR w' W.heap.size 85 (.slice va av.length vc) av ∧ Below W.heap.size W w') := fun go vo vc W hb td tr => by
    have := implFinish_any go n n nm cr fr up cu ts vo rl vc rn rf ru re st i good now W ⟨td, Nat.le_refl _, Nat.le_succ_of_le hn, HSm.out, HCR.out.1, by have := HCR.out.2; show nm.size ≤ 9223372036854775807; omega⟩ (HG.out W hb) tr (Nat.le_succ_of_le hrl) hrz ⟨an, af, au, ae, av⟩ HRR
    rw [HQ.out] at this
    refine this.mono fun e w' ⟨v, he, ho, hb⟩ => ?_
    obtain ⟨va, vc, ev⟩ := ho.slice
    subst ev
    exact ⟨va, vc, he, ho, hb⟩
  have HAL : Hid (av.length ≤ 1048577) := by
    have := finR_len ⟨nm, cr, fr, up, cu, ts⟩ ⟨rn, rf, ru, re, st⟩ i good now
    rw [HRR.out] at this
    exact Nat.le_trans this (by have := HRN.out; show st.length ≤ 1048577; omega)
  obtain ⟨al, HLE⟩ : ∃ al, Hid (av.length = al) := ⟨_, rfl⟩
  rw [HLE.out] at HS HA
  have hal : al ≤ 1048577 := by rw [← HLE.out]; exact HAL.out
  clear HAL
  go_wp2_with fail
  have Zq0 := Wd.cell Z2.c0
  have Zq1 := Wd.cell Z2.c1
  have Zq2 := Wd.cell Z2.c2
  have Zq3 := Wd.cell Z2.c3
  have Zq4 := Wd.cell Z2.c4
  have Zq5 := Wd.cell Z2.c5
  have Kq0 := Wd.cell K2.c0
  have Kq1 := Wd.cell K2.c1
  have Kq2 := Wd.cell K2.c2
  have Kq3 := Wd.cell K2.c3
  have Kq4 := Wd.cell K2.c4
  refine wp_puts (α := RunX) (fun x => [(34, .agg #[.string nm, .string cr, .int .i64 fr, .int .i64 up, .bool cu, .slice ao n cap]), (35, .agg #[.string nm, .string cr, .int .i64 fr, .int .i64 up, .bool cu, .slice (some ⟨x.g, 0, none⟩) n n]), (36, .agg #[.string rn, .int .i64 rf, .int .i64 ru, .int .i64 re, .slice ro rl rc]), (37, .agg #[.string rn, .int .i64 rf, .int .i64 ru, .int .i64 re, .slice x.va rl x.vc]), (38, .int .i64 i), (39, .bool good), (40, .int .i64 now), (41, .tuple #[.agg #[.string an, .int .i64 af, .int .i64 au, .int .i64 ae, .slice x.ra al x.rc], .bool q]), (33, .tuple #[.agg #[.string an, .int .i64 af, .int .i64 au, .int .i64 ae, .slice x.ra al x.rc], .bool q]), (42, .agg #[.string an, .int .i64 af, .int .i64 au, .int .i64 ae, .slice x.ra al x.rc]), (43, .bool q), (12, .pointer (some ⟨x.X, 0, none⟩)), (13, .bool q)]) (fun x w' => NewRun W2 w' x.X an af au ae (.slice x.ra al x.rc) av) ?_ ?_
  · skip
    have hdr : Below W2.heap.size W2 W2.drew := (Below.refl _ _).drew
    refine wp_region_pick (fun w' => ∃ x : Wd W2, w' = x.at') [0, 2, 4, 5, 6] 13 8 (by kernel_rfl) (by decide) (by decide) (by kernel_rfl) (fun _ _ _ _ _ h => (by cases h.1)) ⟨⟨W2.drew, hdr⟩, rfl⟩ ?_
    repeat (refine wpTakes_l rfl (by first | (intro x h; cases h; done) | (intro x h; cases h; exact ⟨_, rfl⟩)) ?_; go_big_quiet_step (fail); refine wpQuiet_nil ?_)
    refine takes_nil ?_
    clear Zq0 Zq1 Zq2 Zq3 Zq4 Zq5 Kq0 Kq1 Kq2 Kq3 Kq4
    obtain ⟨U0, hU0⟩ : ∃ V, W2.drew = V := ⟨_, rfl⟩
    rw [hU0] at hdr
    rw [hU0]
    clear hU0
    have BU0 := hdr
    clear hdr
    refine pk_two (fuel := 7) (i := 1) (j := 11) (by kernel_rfl) rfl rfl rfl rfl ?_ ?_
    · skip
      intro K hK
      go_wp2_with fail
      refine (HTD.out _ (Below.on B2 BU0)).mono ?_
      rintro x U1 ⟨g5, rfl, hto5, hb5⟩
      have htU1 := hto5.tasks
      clear hto5
      have BU1 : Below W2.heap.size W2 U1 := Below.on BU0 hb5
      clear hb5
      go_wp2
      refine hK.out _ _ ⟨⟨U1, BU1⟩, rfl⟩ ?_
      clear hK K
      refine pk_two (fuel := 6) (i := 3) (j := 11) (by kernel_rfl) rfl rfl rfl rfl ?_ ?_
      · skip
        intro K hK
        go_wp2_with fail
        refine (HTR.out _ (Below.on B2 BU1)).mono ?_
        rintro x U2 ⟨va6, vc6, rfl, ho6, hb6⟩
        have hrU2 := ho6.reads
        clear ho6
        have htU2 := htU1.below hb6
        have BU2 : Below W2.heap.size W2 U2 := Below.on BU1 hb6
        clear hb6
        go_wp2
        refine hK.out _ _ ⟨⟨U2, BU2⟩, rfl⟩ ?_
        clear hK K
        refine pk_two (fuel := 5) (i := 7) (j := 11) (by kernel_rfl) rfl rfl rfl rfl ?_ ?_
        · skip
          intro K hK
          go_wp2_with fail
          refine (HS.out _ _ _ _ (Below.on B2 BU2) htU2 hrU2).mono ?_
          rintro x U3 ⟨ra7, rc7, rfl, ho7, hb7⟩
          have HOU3 : Hid (ownsR U3 W2.heap.size 85 (.slice ra7 al rc7) av) := ho7.mono BU2.size
          clear ho7
          have BU3 : Below W2.heap.size W2 U3 := Below.on BU2 hb7
          clear hb7
          go_wp2
          refine hK.out _ _ ⟨⟨U3, BU3⟩, rfl⟩ ?_
          clear hK K
          refine pk_takes [8, 9, 10] 13 2 ⟨⟨U3, BU3⟩, rfl⟩ (by kernel_rfl) (fun _ _ _ _ _ h => (by cases h.1)) ?_
          repeat (refine wpTakes_l rfl (by first | (intro x h; cases h; done) | (intro x h; cases h; exact ⟨_, rfl⟩)) ?_; go_big_quiet_step (fail); refine wpQuiet_nil ?_)
          refine takes_nil ?_
          refine any_one (fuel := 1) (i := 11) (by kernel_rfl) rfl rfl ?_
          intro K hK
          go_wp2
          obtain ⟨U4, hU4⟩ : ∃ V, U3.alloc (.cells #[.string ⟨#[]⟩, .int .i64 0, .int .i64 0, .int .i64 0, .slice none 0 0] 31) = V := ⟨_, rfl⟩
          have hb8 : Below U3.heap.size U3 U4 := by rw [← hU4]; exact ba (Below.refl _ _) _
          have BU4 : Below W2.heap.size W2 U4 := Below.on BU3 hb8
          have HXU4 : Hid (R5 U4 U3.heap.size ⟨#[]⟩ 0 0 0 (.slice none 0 0)) := by show R5 _ _ _ _ _ _ _; rw [← hU4]; exact R5.new _ _ _ _ _ _
          have leU4 : W2.heap.size ≤ U3.heap.size := BU3.size
          have HOU4 : Hid (ownsR U4 W2.heap.size 85 (.slice ra7 al rc7) av) := HOU3.out.all hb8
          first | rw [hU4] | rw [show _ = U4 from hU4]
          clear hU4 hb8
          refine hK.out _ _ ⟨⟨U4, BU4⟩, rfl⟩ ?_
          clear hK K
          refine any_one (fuel := 0) (i := 12) (by kernel_rfl) rfl rfl ?_
          intro K hK
          have v0 := HXU4.out.c0
          have v1 := HXU4.out.c1
          have v2 := HXU4.out.c2
          have v3 := HXU4.out.c3
          have v4 := HXU4.out.c4
          have vf := HXU4.out.fz
          go_wp2
          have HNR := newRun_a (nm := an) (fr := af) (up := au) (ep := ae) BU4 HXU4.out leU4 HOU4.out
          refine hK.out _ _ ⟨⟨_, HNR.below⟩, rfl⟩ ?_
          clear hK K v0 v1 v2 v3 v4 vf
          refine any_done (by kernel_rfl) ?_
          simp only [List.drop_succ_cons, List.drop_zero]
          go_wp2
          first | refine ⟨rfl, ⟨U3.heap.size, g5, va6, vc6, ra7, rc7⟩, ?_, HNR⟩ | refine ⟨⟨U3.heap.size, g5, va6, vc6, ra7, rc7⟩, ?_, HNR⟩
          kernel_rfl
        · skip
          intro K hK
          go_wp2
          obtain ⟨U5, hU5⟩ : ∃ V, U2.alloc (.cells #[.string ⟨#[]⟩, .int .i64 0, .int .i64 0, .int .i64 0, .slice none 0 0] 31) = V := ⟨_, rfl⟩
          have hb8 : Below U2.heap.size U2 U5 := by rw [← hU5]; exact ba (Below.refl _ _) _
          have BU5 : Below W2.heap.size W2 U5 := Below.on BU2 hb8
          have HXU5 : Hid (R5 U5 U2.heap.size ⟨#[]⟩ 0 0 0 (.slice none 0 0)) := by show R5 _ _ _ _ _ _ _; rw [← hU5]; exact R5.new _ _ _ _ _ _
          have leU5 : W2.heap.size ≤ U2.heap.size := BU2.size
          have htU5 := htU2.below hb8
          have hrU5 := hrU2.below hb8
          first | rw [hU5] | rw [show _ = U5 from hU5]
          clear hU5 hb8
          refine hK.out _ _ ⟨⟨U5, BU5⟩, rfl⟩ ?_
          clear hK K
          refine any_one (fuel := 4) (i := 7) (by kernel_rfl) rfl rfl ?_
          intro K hK
          go_wp2_with fail
          refine (HS.out _ _ _ _ (Below.on B2 BU5) htU5 hrU5).mono ?_
          rintro x U6 ⟨ra7, rc7, rfl, ho7, hb7⟩
          have HOU6 : Hid (ownsR U6 W2.heap.size 85 (.slice ra7 al rc7) av) := ho7.mono BU5.size
          clear ho7
          have HXU6 : Hid (R5 U6 U2.heap.size ⟨#[]⟩ 0 0 0 (.slice none 0 0)) := HXU5.out.on hb7
          have BU6 : Below W2.heap.size W2 U6 := Below.on BU5 hb7
          clear hb7
          go_wp2
          refine hK.out _ _ ⟨⟨U6, BU6⟩, rfl⟩ ?_
          clear hK K
          refine pk_takes [8, 9, 10] 13 1 ⟨⟨U6, BU6⟩, rfl⟩ (by kernel_rfl) (fun _ _ _ _ _ h => (by cases h.1)) ?_
          repeat (refine wpTakes_l rfl (by first | (intro x h; cases h; done) | (intro x h; cases h; exact ⟨_, rfl⟩)) ?_; go_big_quiet_step (fail); refine wpQuiet_nil ?_)
          refine takes_nil ?_
          refine any_one (fuel := 0) (i := 12) (by kernel_rfl) rfl rfl ?_
          intro K hK
          have v0 := HXU6.out.c0
          have v1 := HXU6.out.c1
          have v2 := HXU6.out.c2
          have v3 := HXU6.out.c3
          have v4 := HXU6.out.c4
          have vf := HXU6.out.fz
          go_wp2
          have HNR := newRun_a (nm := an) (fr := af) (up := au) (ep := ae) BU6 HXU6.out leU5 HOU6.out
          refine hK.out _ _ ⟨⟨_, HNR.below⟩, rfl⟩ ?_
          clear hK K v0 v1 v2 v3 v4 vf
          refine any_done (by kernel_rfl) ?_
          simp only [List.drop_succ_cons, List.drop_zero]
          go_wp2
          first | refine ⟨rfl, ⟨U2.heap.size, g5, va6, vc6, ra7, rc7⟩, ?_, HNR⟩ | refine ⟨⟨U2.heap.size, g5, va6, vc6, ra7, rc7⟩, ?_, HNR⟩
          kernel_rfl
      · skip
        intro K hK
        go_wp2
        obtain ⟨U7, hU7⟩ : ∃ V, U1.alloc (.cells #[.string ⟨#[]⟩, .int .i64 0, .int .i64 0, .int .i64 0, .slice none 0 0] 31) = V := ⟨_, rfl⟩
        have hb8 : Below U1.heap.size U1 U7 := by rw [← hU7]; exact ba (Below.refl _ _) _
        have BU7 : Below W2.heap.size W2 U7 := Below.on BU1 hb8
        have HXU7 : Hid (R5 U7 U1.heap.size ⟨#[]⟩ 0 0 0 (.slice none 0 0)) := by show R5 _ _ _ _ _ _ _; rw [← hU7]; exact R5.new _ _ _ _ _ _
        have leU7 : W2.heap.size ≤ U1.heap.size := BU1.size
        have htU7 := htU1.below hb8
        first | rw [hU7] | rw [show _ = U7 from hU7]
        clear hU7 hb8
        refine hK.out _ _ ⟨⟨U7, BU7⟩, rfl⟩ ?_
        clear hK K
        refine any_one (fuel := 5) (i := 3) (by kernel_rfl) rfl rfl ?_
        intro K hK
        go_wp2_with fail
        refine (HTR.out _ (Below.on B2 BU7)).mono ?_
        rintro x U8 ⟨va6, vc6, rfl, ho6, hb6⟩
        have hrU8 := ho6.reads
        clear ho6
        have htU8 := htU7.below hb6
        have HXU8 : Hid (R5 U8 U1.heap.size ⟨#[]⟩ 0 0 0 (.slice none 0 0)) := HXU7.out.on hb6
        have BU8 : Below W2.heap.size W2 U8 := Below.on BU7 hb6
        clear hb6
        go_wp2
        refine hK.out _ _ ⟨⟨U8, BU8⟩, rfl⟩ ?_
        clear hK K
        refine any_one (fuel := 4) (i := 7) (by kernel_rfl) rfl rfl ?_
        intro K hK
        go_wp2_with fail
        refine (HS.out _ _ _ _ (Below.on B2 BU8) htU8 hrU8).mono ?_
        rintro x U9 ⟨ra7, rc7, rfl, ho7, hb7⟩
        have HOU9 : Hid (ownsR U9 W2.heap.size 85 (.slice ra7 al rc7) av) := ho7.mono BU8.size
        clear ho7
        have HXU9 : Hid (R5 U9 U1.heap.size ⟨#[]⟩ 0 0 0 (.slice none 0 0)) := HXU8.out.on hb7
        have BU9 : Below W2.heap.size W2 U9 := Below.on BU8 hb7
        clear hb7
        go_wp2
        refine hK.out _ _ ⟨⟨U9, BU9⟩, rfl⟩ ?_
        clear hK K
        refine pk_takes [8, 9, 10] 13 1 ⟨⟨U9, BU9⟩, rfl⟩ (by kernel_rfl) (fun _ _ _ _ _ h => (by cases h.1)) ?_
        repeat (refine wpTakes_l rfl (by first | (intro x h; cases h; done) | (intro x h; cases h; exact ⟨_, rfl⟩)) ?_; go_big_quiet_step (fail); refine wpQuiet_nil ?_)
        refine takes_nil ?_
        refine any_one (fuel := 0) (i := 12) (by kernel_rfl) rfl rfl ?_
        intro K hK
        have v0 := HXU9.out.c0
        have v1 := HXU9.out.c1
        have v2 := HXU9.out.c2
        have v3 := HXU9.out.c3
        have v4 := HXU9.out.c4
        have vf := HXU9.out.fz
        go_wp2
        have HNR := newRun_a (nm := an) (fr := af) (up := au) (ep := ae) BU9 HXU9.out leU7 HOU9.out
        refine hK.out _ _ ⟨⟨_, HNR.below⟩, rfl⟩ ?_
        clear hK K v0 v1 v2 v3 v4 vf
        refine any_done (by kernel_rfl) ?_
        simp only [List.drop_succ_cons, List.drop_zero]
        go_wp2
        first | refine ⟨rfl, ⟨U1.heap.size, g5, va6, vc6, ra7, rc7⟩, ?_, HNR⟩ | refine ⟨⟨U1.heap.size, g5, va6, vc6, ra7, rc7⟩, ?_, HNR⟩
        kernel_rfl
    · skip
      intro K hK
      go_wp2
      obtain ⟨U10, hU10⟩ : ∃ V, U0.alloc (.cells #[.string ⟨#[]⟩, .int .i64 0, .int .i64 0, .int .i64 0, .slice none 0 0] 31) = V := ⟨_, rfl⟩
      have hb8 : Below U0.heap.size U0 U10 := by rw [← hU10]; exact ba (Below.refl _ _) _
      have BU10 : Below W2.heap.size W2 U10 := Below.on BU0 hb8
      have HXU10 : Hid (R5 U10 U0.heap.size ⟨#[]⟩ 0 0 0 (.slice none 0 0)) := by show R5 _ _ _ _ _ _ _; rw [← hU10]; exact R5.new _ _ _ _ _ _
      have leU10 : W2.heap.size ≤ U0.heap.size := BU0.size
      first | rw [hU10] | rw [show _ = U10 from hU10]
      clear hU10 hb8
      refine hK.out _ _ ⟨⟨U10, BU10⟩, rfl⟩ ?_
      clear hK K
      refine any_one (fuel := 6) (i := 1) (by kernel_rfl) rfl rfl ?_
      intro K hK
      go_wp2_with fail
      refine (HTD.out _ (Below.on B2 BU10)).mono ?_
      rintro x U11 ⟨g5, rfl, hto5, hb5⟩
      have htU11 := hto5.tasks
      clear hto5
      have HXU11 : Hid (R5 U11 U0.heap.size ⟨#[]⟩ 0 0 0 (.slice none 0 0)) := HXU10.out.on hb5
      have BU11 : Below W2.heap.size W2 U11 := Below.on BU10 hb5
      clear hb5
      go_wp2
      refine hK.out _ _ ⟨⟨U11, BU11⟩, rfl⟩ ?_
      clear hK K
      refine any_one (fuel := 5) (i := 3) (by kernel_rfl) rfl rfl ?_
      intro K hK
      go_wp2_with fail
      refine (HTR.out _ (Below.on B2 BU11)).mono ?_
      rintro x U12 ⟨va6, vc6, rfl, ho6, hb6⟩
      have hrU12 := ho6.reads
      clear ho6
      have htU12 := htU11.below hb6
      have HXU12 : Hid (R5 U12 U0.heap.size ⟨#[]⟩ 0 0 0 (.slice none 0 0)) := HXU11.out.on hb6
      have BU12 : Below W2.heap.size W2 U12 := Below.on BU11 hb6
      clear hb6
      go_wp2
      refine hK.out _ _ ⟨⟨U12, BU12⟩, rfl⟩ ?_
      clear hK K
      refine any_one (fuel := 4) (i := 7) (by kernel_rfl) rfl rfl ?_
      intro K hK
      go_wp2_with fail
      refine (HS.out _ _ _ _ (Below.on B2 BU12) htU12 hrU12).mono ?_
      rintro x U13 ⟨ra7, rc7, rfl, ho7, hb7⟩
      have HOU13 : Hid (ownsR U13 W2.heap.size 85 (.slice ra7 al rc7) av) := ho7.mono BU12.size
      clear ho7
      have HXU13 : Hid (R5 U13 U0.heap.size ⟨#[]⟩ 0 0 0 (.slice none 0 0)) := HXU12.out.on hb7
      have BU13 : Below W2.heap.size W2 U13 := Below.on BU12 hb7
      clear hb7
      go_wp2
      refine hK.out _ _ ⟨⟨U13, BU13⟩, rfl⟩ ?_
      clear hK K
      refine pk_takes [8, 9, 10] 13 1 ⟨⟨U13, BU13⟩, rfl⟩ (by kernel_rfl) (fun _ _ _ _ _ h => (by cases h.1)) ?_
      repeat (refine wpTakes_l rfl (by first | (intro x h; cases h; done) | (intro x h; cases h; exact ⟨_, rfl⟩)) ?_; go_big_quiet_step (fail); refine wpQuiet_nil ?_)
      refine takes_nil ?_
      refine any_one (fuel := 0) (i := 12) (by kernel_rfl) rfl rfl ?_
      intro K hK
      have v0 := HXU13.out.c0
      have v1 := HXU13.out.c1
      have v2 := HXU13.out.c2
      have v3 := HXU13.out.c3
      have v4 := HXU13.out.c4
      have vf := HXU13.out.fz
      go_wp2
      have HNR := newRun_a (nm := an) (fr := af) (up := au) (ep := ae) BU13 HXU13.out leU10 HOU13.out
      refine hK.out _ _ ⟨⟨_, HNR.below⟩, rfl⟩ ?_
      clear hK K v0 v1 v2 v3 v4 vf
      refine any_done (by kernel_rfl) ?_
      simp only [List.drop_succ_cons, List.drop_zero]
      go_wp2
      first | refine ⟨rfl, ⟨U0.heap.size, g5, va6, vc6, ra7, rc7⟩, ?_, HNR⟩ | refine ⟨⟨U0.heap.size, g5, va6, vc6, ra7, rc7⟩, ?_, HNR⟩
      kernel_rfl
  clear Zq0 Zq1 Zq2 Zq3 Zq4 Zq5 Kq0 Kq1 Kq2 Kq3 Kq4
  rintro ⟨Pw, gw9, bw9, cw9, wa, wc⟩ W3 hN
  simp only [putAll]
  dsimp only at hN
  have hb := hN.below
  have HBw : Hid (∀ k, (Value.slice wa al wc).ownBlock = some k → W2.heap.size ≤ k ∧ k < W3.heap.size) := fun k hk => hN.own.lt k hk
  have Vw3 : Hid (ownsR W3 w.heap.size 85 (.slice wa al wc) av) := hN.own.mono B2.size
  have Xw3 : R5 W3 Pw an af au ae (.slice wa al wc) := hN.box
  have ow : W2.heap.size ≤ Pw := hN.old
  clear hN
  have Z3 := Z2.on hb
  have K3 := K2.on hb
  have B3 := Below.on B2 hb
  have s3 : W2.heap.size ≤ W3.heap.size := hb.size
  clear Z2 K2 B2 hb
  have lw : Pw < W3.heap.size := Xw3.lt
  have Zc0 := Z3.c0
  have Zc1 := Z3.c1
  have Zc2 := Z3.c2
  have Zc3 := Z3.c3
  have Zc4 := Z3.c4
  have Zc5 := Z3.c5
  go_wp2_with fail
  refine (HTD.out _ B3).mono ?_
  rintro x W4 ⟨gd, rfl, hto, hb⟩
  clear Zc0 Zc1 Zc2 Zc3 Zc4 Zc5
  have HDO : Hid (TasksO W3.heap.size W4 (.slice (some ⟨gd, 0, none⟩) n n) ts) := hto
  clear hto
  have Z4 := Z3.on hb
  have K4 := K3.on hb
  have Vw4 : Hid (ownsR W4 w.heap.size 85 (.slice wa al wc) av) := Vw3.out.all hb
  have Xw4 := Xw3.on hb
  have B4 := Below.on B3 hb
  have s4 : W3.heap.size ≤ W4.heap.size := hb.size
  clear Z3 K3 Vw3 Xw3 B3 hb
  have D4 : Below W4.heap.size W4 W4 := Below.refl _ _
  obtain ⟨W5, hal5⟩ : ∃ V, W4.alloc (.cells #[.string nm, .string cr, .int .i64 fr, .int .i64 up, .bool cu, .slice (some ⟨gd, 0, none⟩) n n] 36) = V := ⟨_, rfl⟩
  have hb : Below W4.heap.size W4 W5 := by rw [← hal5]; exact ba (Below.refl _ _) _
  have Xn : P6 W5 W4.heap.size nm cr fr up cu (.slice (some ⟨gd, 0, none⟩) n n) := by rw [← hal5]; exact P6.new _ _ _ _ _ _ _
  have Z5 := Z4.on hb
  have K5 := K4.on hb
  have Vw5 : Hid (ownsR W5 w.heap.size 85 (.slice wa al wc) av) := Vw4.out.all hb
  have Xw5 := Xw4.on hb
  have D5 := Below.on D4 hb
  have B5 := Below.on B4 hb
  have s5 : W4.heap.size ≤ W5.heap.size := hb.size
  clear Z4 K4 Vw4 Xw4 D4 B4 hb
  have Xd5 := Xn
  clear Xn
  have Kc0 := K5.c0
  have Kc1 := K5.c1
  have Kc2 := K5.c2
  have Kc3 := K5.c3
  have Kc4 := K5.c4
  go_wp2_with fail
  refine (HTR.out _ B5).mono ?_
  rintro x W6 ⟨xa, xc, rfl, ho, hb⟩
  clear hal5
  clear Kc0 Kc1 Kc2 Kc3 Kc4
  have HBx : Hid (∀ k, (Value.slice xa rl xc).ownBlock = some k → W5.heap.size ≤ k ∧ k < W6.heap.size) := fun k hk => ho.lt k hk
  have Vx6 : Hid (ownsR W6 w.heap.size 85 (.slice xa rl xc) st) := ho.mono B5.size
  clear ho
  have Z6 := Z5.on hb
  have K6 := K5.on hb
  have Vw6 : Hid (ownsR W6 w.heap.size 85 (.slice wa al wc) av) := Vw5.out.all hb
  have Xw6 := Xw5.on hb
  have D6 := Below.on D5 hb
  have Xd6 := Xd5.on hb
  have B6 := Below.on B5 hb
  have s6 : W5.heap.size ≤ W6.heap.size := hb.size
  clear Z5 K5 Vw5 Xw5 D5 Xd5 B5 hb
  obtain ⟨W7, hal7⟩ : ∃ V, W6.alloc (.cells #[.string rn, .int .i64 rf, .int .i64 ru, .int .i64 re, .slice xa rl xc] 31) = V := ⟨_, rfl⟩
  have hb : Below W6.heap.size W6 W7 := by rw [← hal7]; exact ba (Below.refl _ _) _
  have Xn : R5 W7 W6.heap.size rn rf ru re (.slice xa rl xc) := by rw [← hal7]; exact R5.new _ _ _ _ _ _
  have Z7 := Z6.on hb
  have K7 := K6.on hb
  have Vw7 : Hid (ownsR W7 w.heap.size 85 (.slice wa al wc) av) := Vw6.out.all hb
  have Xw7 := Xw6.on hb
  have D7 := Below.on D6 hb
  have Xd7 := Xd6.on hb
  have Vx7 : Hid (ownsR W7 w.heap.size 85 (.slice xa rl xc) st) := Vx6.out.all hb
  have B7 := Below.on B6 hb
  have s7 : W6.heap.size ≤ W7.heap.size := hb.size
  clear Z6 K6 Vw6 Xw6 D6 Xd6 Vx6 B6 hb
  have Xx7 := Xn
  clear Xn
  have Xdc0 := Xd7.c0
  have Xdc1 := Xd7.c1
  have Xdc2 := Xd7.c2
  have Xdc3 := Xd7.c3
  have Xdc4 := Xd7.c4
  have Xdc5 := Xd7.c5
  have Xxc0 := Xx7.c0
  have Xxc1 := Xx7.c1
  have Xxc2 := Xx7.c2
  have Xxc3 := Xx7.c3
  have Xxc4 := Xx7.c4
  go_wp2_with fail
  refine (HA.out _ xa xc W7 B7 (HDO.out.tasks.below D7) Vx7.out.reads).mono ?_
  rintro x W8 ⟨ga, gc, rfl, ho, hb⟩
  clear hal7
  clear Xdc0 Xdc1 Xdc2 Xdc3 Xdc4 Xdc5 Xxc0 Xxc1 Xxc2 Xxc3 Xxc4
  have HBg : Hid (∀ k, (Value.slice ga al gc).ownBlock = some k → W7.heap.size ≤ k ∧ k < W8.heap.size) := fun k hk => ho.lt k hk
  have Vg8 : Hid (ownsR W8 w.heap.size 85 (.slice ga al gc) av) := ho.mono B7.size
  clear ho
  have Z8 := Z7.on hb
  have K8 := K7.on hb
  have Vw8 : Hid (ownsR W8 w.heap.size 85 (.slice wa al wc) av) := Vw7.out.all hb
  have Xw8 := Xw7.on hb
  have D8 := Below.on D7 hb
  have Xd8 := Xd7.on hb
  have Vx8 : Hid (ownsR W8 w.heap.size 85 (.slice xa rl xc) st) := Vx7.out.all hb
  have Xx8 := Xx7.on hb
  have B8 := Below.on B7 hb
  have s8 : W7.heap.size ≤ W8.heap.size := hb.size
  clear Z7 K7 Vw7 Xw7 D7 Xd7 Vx7 Xx7 B7 hb
  obtain ⟨W9, hal9⟩ : ∃ V, W8.alloc (.cells #[.string an, .int .i64 af, .int .i64 au, .int .i64 ae, .slice ga al gc] 31) = V := ⟨_, rfl⟩
  have hb : Below W8.heap.size W8 W9 := by rw [← hal9]; exact ba (Below.refl _ _) _
  have Xn : R5 W9 W8.heap.size an af au ae (.slice ga al gc) := by rw [← hal9]; exact R5.new _ _ _ _ _ _
  have Z9 := Z8.on hb
  have K9 := K8.on hb
  have Vw9 : Hid (ownsR W9 w.heap.size 85 (.slice wa al wc) av) := Vw8.out.all hb
  have Xw9 := Xw8.on hb
  have D9 := Below.on D8 hb
  have Xd9 := Xd8.on hb
  have Vx9 : Hid (ownsR W9 w.heap.size 85 (.slice xa rl xc) st) := Vx8.out.all hb
  have Xx9 := Xx8.on hb
  have Vg9 : Hid (ownsR W9 w.heap.size 85 (.slice ga al gc) av) := Vg8.out.all hb
  have B9 := Below.on B8 hb
  have s9 : W8.heap.size ≤ W9.heap.size := hb.size
  clear Z8 K8 Vw8 Xw8 D8 Xd8 Vx8 Xx8 Vg8 B8 hb
  have Xg9 := Xn
  clear Xn
  have lg : W8.heap.size < W9.heap.size := Xg9.lt
  have Xgc0 := Xg9.c0
  have Xgc1 := Xg9.c1
  have Xgc2 := Xg9.c2
  have Xgc3 := Xg9.c3
  have Xgc4 := Xg9.c4
  have Xwc0 := Xw9.c0
  have Xwc1 := Xw9.c1
  have Xwc2 := Xw9.c2
  have Xwc3 := Xw9.c3
  have Xwc4 := Xw9.c4
  go_wp2_with fail
  refine (eqRun_any ga wa al gc wc an af au ae av W9 Vg9.out.reads Vw9.out.reads hal).mono ?_
  rintro x W10 ⟨rfl, hb⟩
  clear hal9
  clear Xgc0 Xgc1 Xgc2 Xgc3 Xgc4 Xwc0 Xwc1 Xwc2 Xwc3 Xwc4
  have Z10 := Z9.on hb
  have K10 := K9.on hb
  have Vw10 : Hid (ownsR W10 w.heap.size 85 (.slice wa al wc) av) := Vw9.out.all hb
  have Xw10 := Xw9.on hb
  have D10 := Below.on D9 hb
  have Xd10 := Xd9.on hb
  have Vx10 : Hid (ownsR W10 w.heap.size 85 (.slice xa rl xc) st) := Vx9.out.all hb
  have Xx10 := Xx9.on hb
  have Vg10 : Hid (ownsR W10 w.heap.size 85 (.slice ga al gc) av) := Vg9.out.all hb
  have Xg10 := Xg9.on hb
  have B10 := Below.on B9 hb
  have s10 : W9.heap.size ≤ W10.heap.size := hb.size
  clear Z9 K9 Vw9 Xw9 D9 Xd9 Vx9 Xx9 Vg9 Xg9 B9 hb
  have Zk0 := Below.cellOf (B := W10.heap.size) (W := W10) (p := ⟨w.heap.size, 0, none⟩) Z10.lt Z10.c0
  have Zk1 := Below.cellOf (B := W10.heap.size) (W := W10) (p := ⟨w.heap.size, 1, none⟩) Z10.lt Z10.c1
  have Zk2 := Below.cellOf (B := W10.heap.size) (W := W10) (p := ⟨w.heap.size, 2, none⟩) Z10.lt Z10.c2
  have Zk3 := Below.cellOf (B := W10.heap.size) (W := W10) (p := ⟨w.heap.size, 3, none⟩) Z10.lt Z10.c3
  have Zk4 := Below.cellOf (B := W10.heap.size) (W := W10) (p := ⟨w.heap.size, 4, none⟩) Z10.lt Z10.c4
  have Zk5 := Below.cellOf (B := W10.heap.size) (W := W10) (p := ⟨w.heap.size, 5, none⟩) Z10.lt Z10.c5
  have Xdk0 := Below.cellOf (B := W10.heap.size) (W := W10) (p := ⟨W4.heap.size, 0, none⟩) Xd10.lt Xd10.c0
  have Xdk1 := Below.cellOf (B := W10.heap.size) (W := W10) (p := ⟨W4.heap.size, 1, none⟩) Xd10.lt Xd10.c1
  have Xdk2 := Below.cellOf (B := W10.heap.size) (W := W10) (p := ⟨W4.heap.size, 2, none⟩) Xd10.lt Xd10.c2
  have Xdk3 := Below.cellOf (B := W10.heap.size) (W := W10) (p := ⟨W4.heap.size, 3, none⟩) Xd10.lt Xd10.c3
  have Xdk4 := Below.cellOf (B := W10.heap.size) (W := W10) (p := ⟨W4.heap.size, 4, none⟩) Xd10.lt Xd10.c4
  have Xdk5 := Below.cellOf (B := W10.heap.size) (W := W10) (p := ⟨W4.heap.size, 5, none⟩) Xd10.lt Xd10.c5
  have HT6 : Hid (Tasks W10 (.slice (some ⟨gd, 0, none⟩) n n) ts) := HDO.out.tasks.below D10
  go_wp2_with fail
  go_region_held3 (fun w' => Below W10.heap.size W10 w') ((first | exact (Below.refl _ _).drew | exact hS6 | exact hS7)) ((first | (go_at_call 11; refine (HTD.out _ (Below.on B10 (by assumption))).mono ?_; rintro x wq ⟨g6, rfl, ht6, hb6⟩; have hS6 := keep_on (B := W10.heap.size) (W := W10) hb6 (by assumption) (Nat.le_refl _)) | (go_at_call 15; refine (eqD_any _ _ _ _ _ _ _ _ _ _ ts _ (HT6.out.below hS6) ht6.tasks (Nat.le_succ_of_le hn) (fun t ht => Nat.le_succ_of_le (HK1.out t ht))).mono ?_; rintro x W11 ⟨rfl, hb7⟩; have hS7 := keep_on (B := W10.heap.size) (W := W10) hb7 hS6 (Nat.le_refl _))))
  have hb := hS7
  clear ht6 hb6 hb7 hS6 hS7 HT6 Zk0 Zk1 Zk2 Zk3 Zk4 Zk5 Xdk0 Xdk1 Xdk2 Xdk3 Xdk4 Xdk5
  have Z11 := Z10.on hb
  have K11 := K10.on hb
  have Vw11 : Hid (ownsR W11 w.heap.size 85 (.slice wa al wc) av) := Vw10.out.all hb
  have Xw11 := Xw10.on hb
  have D11 := Below.on D10 hb
  have Xd11 := Xd10.on hb
  have Vx11 : Hid (ownsR W11 w.heap.size 85 (.slice xa rl xc) st) := Vx10.out.all hb
  have Xx11 := Xx10.on hb
  have Vg11 : Hid (ownsR W11 w.heap.size 85 (.slice ga al gc) av) := Vg10.out.all hb
  have Xg11 := Xg10.on hb
  have B11 := Below.on B10 hb
  have s11 : W10.heap.size ≤ W11.heap.size := hb.size
  clear Z10 K10 Vw10 Xw10 D10 Xd10 Vx10 Xx10 Vg10 Xg10 B10 hb
  have Kk0 := Below.cellOf (B := W11.heap.size) (W := W11) (p := ⟨w.heap.size + 1, 0, none⟩) K11.lt K11.c0
  have Kk1 := Below.cellOf (B := W11.heap.size) (W := W11) (p := ⟨w.heap.size + 1, 1, none⟩) K11.lt K11.c1
  have Kk2 := Below.cellOf (B := W11.heap.size) (W := W11) (p := ⟨w.heap.size + 1, 2, none⟩) K11.lt K11.c2
  have Kk3 := Below.cellOf (B := W11.heap.size) (W := W11) (p := ⟨w.heap.size + 1, 3, none⟩) K11.lt K11.c3
  have Kk4 := Below.cellOf (B := W11.heap.size) (W := W11) (p := ⟨w.heap.size + 1, 4, none⟩) K11.lt K11.c4
  have Xxk0 := Below.cellOf (B := W11.heap.size) (W := W11) (p := ⟨W6.heap.size, 0, none⟩) Xx11.lt Xx11.c0
  have Xxk1 := Below.cellOf (B := W11.heap.size) (W := W11) (p := ⟨W6.heap.size, 1, none⟩) Xx11.lt Xx11.c1
  have Xxk2 := Below.cellOf (B := W11.heap.size) (W := W11) (p := ⟨W6.heap.size, 2, none⟩) Xx11.lt Xx11.c2
  have Xxk3 := Below.cellOf (B := W11.heap.size) (W := W11) (p := ⟨W6.heap.size, 3, none⟩) Xx11.lt Xx11.c3
  have Xxk4 := Below.cellOf (B := W11.heap.size) (W := W11) (p := ⟨W6.heap.size, 4, none⟩) Xx11.lt Xx11.c4
  go_wp2_with fail
  go_region_held3 (fun w' => Below W11.heap.size W11 w') ((first | exact (Below.refl _ _).drew | exact hS6 | exact hS7)) ((first | (go_at_call 21; refine (HTR.out _ (Below.on B11 (by assumption))).mono ?_; rintro x wq ⟨ya, yc, rfl, ho6, hb6⟩; have hS6 := keep_on (B := W11.heap.size) (W := W11) hb6 (by assumption) (Nat.le_refl _)) | (go_at_call 14; refine (eqRun_any _ _ _ _ _ _ _ _ _ st _ (Vx11.out.reads.below hS6) ho6.reads (Nat.le_succ_of_le hrl)).mono ?_; rintro x W12 ⟨rfl, hb7⟩; have hS7 := keep_on (B := W11.heap.size) (W := W11) hb7 hS6 (Nat.le_refl _))))
  have hb := hS7
  clear ho6 hb6 hb7 hS6 hS7 Kk0 Kk1 Kk2 Kk3 Kk4 Xxk0 Xxk1 Xxk2 Xxk3 Xxk4
  have Z12 := Z11.on hb
  have K12 := K11.on hb
  have Vw12 : Hid (ownsR W12 w.heap.size 85 (.slice wa al wc) av) := Vw11.out.all hb
  have Xw12 := Xw11.on hb
  have D12 := Below.on D11 hb
  have Xd12 := Xd11.on hb
  have Vx12 : Hid (ownsR W12 w.heap.size 85 (.slice xa rl xc) st) := Vx11.out.all hb
  have Xx12 := Xx11.on hb
  have Vg12 : Hid (ownsR W12 w.heap.size 85 (.slice ga al gc) av) := Vg11.out.all hb
  have Xg12 := Xg11.on hb
  have B12 := Below.on B11 hb
  have s12 : W11.heap.size ≤ W12.heap.size := hb.size
  clear Z11 K11 Vw11 Xw11 D11 Xd11 Vx11 Xx11 Vg11 Xg11 B11 hb
  have HM : Hid (Calls Tryz.prog 16 #[.agg #[.string nm, .string cr, .int .i64 fr, .int .i64 up, .bool cu, .slice (some ⟨gd, 0, none⟩) n n], .int .i64 1] W12 fun e w' => ∃ y : Int, e = .returned (.int .i64 y) ∧ 1 ≤ y ∧ y ≤ 4000000000000000 ∧ Twx W3.heap.size W4.heap.size W12 w') := markD_any nm cr fr up cu HDO.out HN.out hn HK1.out rfl D12
  have Xdc0 := Xd12.c0
  have Xdc1 := Xd12.c1
  have Xdc2 := Xd12.c2
  have Xdc3 := Xd12.c3
  have Xdc4 := Xd12.c4
  have Xdc5 := Xd12.c5
  go_wp2_with fail
  refine HM.out.mono ?_
  rintro x W13 ⟨y, rfl, hy1, hy2, htw⟩
  clear Xdc0 Xdc1 Xdc2 Xdc3 Xdc4 Xdc5
  have Z13 := Z12.twx htw (by have h9 := Z12.lt; omega)
  have K13 := K12.twx htw (by have h9 := K12.lt; omega)
  have Vw13 : Hid (ownsR W13 w.heap.size 85 (.slice wa al wc) av) := own_keep Vw12.out fun k hk => htw.block k (Vw12.out.lt k hk).2 (by have h1 := HBw.out k hk; omega)
  have Xw13 := Xw12.twx htw (by have h9 := Xw12.lt; omega)
  have Vx13 : Hid (ownsR W13 w.heap.size 85 (.slice xa rl xc) st) := own_keep Vx12.out fun k hk => htw.block k (Vx12.out.lt k hk).2 (by have h1 := HBx.out k hk; omega)
  have Xx13 := Xx12.twx htw (by have h9 := Xx12.lt; omega)
  have Vg13 : Hid (ownsR W13 w.heap.size 85 (.slice ga al gc) av) := own_keep Vg12.out fun k hk => htw.block k (Vg12.out.lt k hk).2 (by have h1 := HBg.out k hk; omega)
  have Xg13 := Xg12.twx htw (by have h9 := Xg12.lt; omega)
  have B13 : Below w.heap.size w W13 := B12.trans ((htw.below (by omega)).mono (by omega))
  have s13 : W12.heap.size ≤ W13.heap.size := htw.size
  clear Z12 K12 Vw12 Xw12 D12 Xd12 Vx12 Xx12 Vg12 Xg12 B12 htw HM
  have HM : Hid (Calls Tryz.prog 17 #[.agg #[.string rn, .int .i64 rf, .int .i64 ru, .int .i64 re, (.slice xa rl xc)], .int .i64 y] W13 fun e w' => e = .returned (.int .i64 (y + 4 * (rl : Int))) ∧ ownsR w' w.heap.size 85 (.slice xa rl xc) (marksSa y rl) ∧ W13.grownBy w' (Value.slice xa rl xc).ownBlock) := by
    have := markRun_any (x := y) rn rf ru re Vx13.out (by rw [HRN.out]; omega) (by omega) (by omega)
    rw [HRN.out] at this
    exact this
  have Xxc0 := Xx13.c0
  have Xxc1 := Xx13.c1
  have Xxc2 := Xx13.c2
  have Xxc3 := Xx13.c3
  have Xxc4 := Xx13.c4
  go_wp2_with fail
  refine HM.out.mono ?_
  rintro x W14 ⟨rfl, ho, hgr⟩
  clear Xxc0 Xxc1 Xxc2 Xxc3 Xxc4
  have Z14 := Z13.grown hgr (fun e => by have h1 := HBx.out _ e.symm; omega)
  have K14 := K13.grown hgr (fun e => by have h1 := HBx.out _ e.symm; omega)
  have Vw14 : Hid (ownsR W14 w.heap.size 85 (.slice wa al wc) av) := own_keep Vw13.out fun k hk => hgr.block k (Vw13.out.lt k hk).2 fun e => by
    have h1 := HBw.out k hk
    have h2 := HBx.out k e.symm
    omega
  have Xw14 := Xw13.grown hgr (fun e => not_rowR5 Xw13 Vx13.out e.symm)
  have Vg14 : Hid (ownsR W14 w.heap.size 85 (.slice ga al gc) av) := own_keep Vg13.out fun k hk => hgr.block k (Vg13.out.lt k hk).2 fun e => by
    have h1 := HBg.out k hk
    have h2 := HBx.out k e.symm
    omega
  have Xg14 := Xg13.grown hgr (fun e => not_rowR5 Xg13 Vx13.out e.symm)
  have B14 : Below w.heap.size w W14 := B13.grown hgr B13.size fun k hk => (Vx13.out.lt k hk).1
  have s14 : W13.heap.size ≤ W14.heap.size := hgr.size
  clear Z13 K13 Vw13 Xw13 Vx13 Xx13 Vg13 Xg13 B13 ho hgr HM
  have hk0 : decide (y + 4 * (rl : Int) < 0) = false := decide_eq_false (by omega)
  have Xgc0 := Xg14.c0
  have Xgc1 := Xg14.c1
  have Xgc2 := Xg14.c2
  have Xgc3 := Xg14.c3
  have Xgc4 := Xg14.c4
  have Xwc0 := Xw14.c0
  have Xwc1 := Xw14.c1
  have Xwc2 := Xw14.c2
  have Xwc3 := Xw14.c3
  have Xwc4 := Xw14.c4
  go_wp2_with fail
  refine (eqRun_any ga wa al gc wc an af au ae av W14 Vg14.out.reads Vw14.out.reads hal).mono ?_
  rintro x W15 ⟨rfl, hb⟩
  clear Xgc0 Xgc1 Xgc2 Xgc3 Xgc4 Xwc0 Xwc1 Xwc2 Xwc3 Xwc4
  have Z15 := Z14.on hb
  have K15 := K14.on hb
  have Vw15 : Hid (ownsR W15 w.heap.size 85 (.slice wa al wc) av) := Vw14.out.all hb
  have Xw15 := Xw14.on hb
  have Vg15 : Hid (ownsR W15 w.heap.size 85 (.slice ga al gc) av) := Vg14.out.all hb
  have Xg15 := Xg14.on hb
  have B15 := Below.on B14 hb
  have s15 : W14.heap.size ≤ W15.heap.size := hb.size
  clear Z14 K14 Vw14 Xw14 Vg14 Xg14 B14 hb
  have HM : Hid (Calls Tryz.prog 17 #[.agg #[.string an, .int .i64 af, .int .i64 au, .int .i64 ae, (.slice ga al gc)], .int .i64 1] W15 fun e w' => e = .returned (.int .i64 (1 + 4 * (al : Int))) ∧ ownsR w' w.heap.size 85 (.slice ga al gc) (marksSa 1 al) ∧ W15.grownBy w' (Value.slice ga al gc).ownBlock) := by
    have := markRun_any (x := 1) an af au ae Vg15.out (by rw [HLE.out]; exact hal) (by omega) (by omega)
    rw [HLE.out] at this
    exact this
  have Xgc0 := Xg15.c0
  have Xgc1 := Xg15.c1
  have Xgc2 := Xg15.c2
  have Xgc3 := Xg15.c3
  have Xgc4 := Xg15.c4
  go_wp2_with fail
  refine HM.out.mono ?_
  rintro x W16 ⟨rfl, ho, hgr⟩
  clear Xgc0 Xgc1 Xgc2 Xgc3 Xgc4
  have Z16 := Z15.grown hgr (fun e => by have h1 := HBg.out _ e.symm; omega)
  have K16 := K15.grown hgr (fun e => by have h1 := HBg.out _ e.symm; omega)
  have Vw16 : Hid (ownsR W16 w.heap.size 85 (.slice wa al wc) av) := own_keep Vw15.out fun k hk => hgr.block k (Vw15.out.lt k hk).2 fun e => by
    have h1 := HBw.out k hk
    have h2 := HBg.out k e.symm
    omega
  have Xw16 := Xw15.grown hgr (fun e => not_rowR5 Xw15 Vg15.out e.symm)
  have Vg16 : Hid (ownsR W16 w.heap.size 85 (.slice ga al gc) (marksSa 1 al)) := ho
  have Xg16 := Xg15.grown hgr (fun e => not_rowR5 Xg15 Vg15.out e.symm)
  have B16 : Below w.heap.size w W16 := B15.grown hgr B15.size fun k hk => (Vg15.out.lt k hk).1
  have s16 : W15.heap.size ≤ W16.heap.size := hgr.size
  clear Z15 K15 Vw15 Xw15 Vg15 Xg15 B15 ho hgr HM
  have hk1 : decide ((1 : Int) + 4 * (al : Int) < 0) = false := decide_eq_false (by omega)
  have HH := heldRun_any ga al gc an af au ae 1 W16 Vg16.out.reads hal (by decide) (by decide)
  have Xgc0 := Xg16.c0
  have Xgc1 := Xg16.c1
  have Xgc2 := Xg16.c2
  have Xgc3 := Xg16.c3
  have Xgc4 := Xg16.c4
  go_wp2_with fail
  refine (HH).mono ?_
  rintro x W17 ⟨rfl, hb⟩
  clear Xgc0 Xgc1 Xgc2 Xgc3 Xgc4
  have Z17 := Z16.on hb
  have K17 := K16.on hb
  have Vw17 : Hid (ownsR W17 w.heap.size 85 (.slice wa al wc) av) := Vw16.out.all hb
  have Xw17 := Xw16.on hb
  have Vg17 : Hid (ownsR W17 w.heap.size 85 (.slice ga al gc) (marksSa 1 al)) := Vg16.out.all hb
  have Xg17 := Xg16.on hb
  have B17 := Below.on B16 hb
  have s17 : W16.heap.size ≤ W17.heap.size := hb.size
  clear Z16 K16 Vw16 Xw16 Vg16 Xg16 B16 hb
  clear HH
  go_wp2_with fail
  have Zq0 := Wd.cell Z17.c0
  have Zq1 := Wd.cell Z17.c1
  have Zq2 := Wd.cell Z17.c2
  have Zq3 := Wd.cell Z17.c3
  have Zq4 := Wd.cell Z17.c4
  have Zq5 := Wd.cell Z17.c5
  have Kq0 := Wd.cell K17.c0
  have Kq1 := Wd.cell K17.c1
  have Kq2 := Wd.cell K17.c2
  have Kq3 := Wd.cell K17.c3
  have Kq4 := Wd.cell K17.c4
  refine wp_puts (α := RunX) (fun x => [(107, .agg #[.string nm, .string cr, .int .i64 fr, .int .i64 up, .bool cu, .slice ao n cap]), (108, .agg #[.string nm, .string cr, .int .i64 fr, .int .i64 up, .bool cu, .slice (some ⟨x.g, 0, none⟩) n n]), (109, .agg #[.string rn, .int .i64 rf, .int .i64 ru, .int .i64 re, .slice ro rl rc]), (110, .agg #[.string rn, .int .i64 rf, .int .i64 ru, .int .i64 re, .slice x.va rl x.vc]), (111, .int .i64 i), (112, .bool good), (113, .int .i64 now), (114, .tuple #[.agg #[.string an, .int .i64 af, .int .i64 au, .int .i64 ae, .slice x.ra al x.rc], .bool q]), (106, .tuple #[.agg #[.string an, .int .i64 af, .int .i64 au, .int .i64 ae, .slice x.ra al x.rc], .bool q]), (115, .agg #[.string an, .int .i64 af, .int .i64 au, .int .i64 ae, .slice x.ra al x.rc]), (116, .bool q), (21, .pointer (some ⟨x.X, 0, none⟩)), (22, .bool q)]) (fun x w' => NewRun W17 w' x.X an af au ae (.slice x.ra al x.rc) av) ?_ ?_
  · skip
    have hdr : Below W17.heap.size W17 W17.drew := (Below.refl _ _).drew
    refine wp_region_pick (fun w' => ∃ x : Wd W17, w' = x.at') [0, 2, 4, 5, 6] 13 8 (by kernel_rfl) (by decide) (by decide) (by kernel_rfl) (fun _ _ _ _ _ h => (by cases h.1)) ⟨⟨W17.drew, hdr⟩, rfl⟩ ?_
    repeat (refine wpTakes_l rfl (by first | (intro x h; cases h; done) | (intro x h; cases h; exact ⟨_, rfl⟩)) ?_; go_big_quiet_step (fail); refine wpQuiet_nil ?_)
    refine takes_nil ?_
    clear Zq0 Zq1 Zq2 Zq3 Zq4 Zq5 Kq0 Kq1 Kq2 Kq3 Kq4
    obtain ⟨U0, hU0⟩ : ∃ V, W17.drew = V := ⟨_, rfl⟩
    rw [hU0] at hdr
    rw [hU0]
    clear hU0
    have BU0 := hdr
    clear hdr
    refine pk_two (fuel := 7) (i := 1) (j := 11) (by kernel_rfl) rfl rfl rfl rfl ?_ ?_
    · skip
      intro K hK
      go_wp2_with fail
      refine (HTD.out _ (Below.on B17 BU0)).mono ?_
      rintro x U1 ⟨g5, rfl, hto5, hb5⟩
      have htU1 := hto5.tasks
      clear hto5
      have BU1 : Below W17.heap.size W17 U1 := Below.on BU0 hb5
      clear hb5
      go_wp2
      refine hK.out _ _ ⟨⟨U1, BU1⟩, rfl⟩ ?_
      clear hK K
      refine pk_two (fuel := 6) (i := 3) (j := 11) (by kernel_rfl) rfl rfl rfl rfl ?_ ?_
      · skip
        intro K hK
        go_wp2_with fail
        refine (HTR.out _ (Below.on B17 BU1)).mono ?_
        rintro x U2 ⟨va6, vc6, rfl, ho6, hb6⟩
        have hrU2 := ho6.reads
        clear ho6
        have htU2 := htU1.below hb6
        have BU2 : Below W17.heap.size W17 U2 := Below.on BU1 hb6
        clear hb6
        go_wp2
        refine hK.out _ _ ⟨⟨U2, BU2⟩, rfl⟩ ?_
        clear hK K
        refine pk_two (fuel := 5) (i := 7) (j := 11) (by kernel_rfl) rfl rfl rfl rfl ?_ ?_
        · skip
          intro K hK
          go_wp2_with fail
          refine (HA.out _ _ _ _ (Below.on B17 BU2) htU2 hrU2).mono ?_
          rintro x U3 ⟨ra7, rc7, rfl, ho7, hb7⟩
          have HOU3 : Hid (ownsR U3 W17.heap.size 85 (.slice ra7 al rc7) av) := ho7.mono BU2.size
          clear ho7
          have BU3 : Below W17.heap.size W17 U3 := Below.on BU2 hb7
          clear hb7
          go_wp2
          refine hK.out _ _ ⟨⟨U3, BU3⟩, rfl⟩ ?_
          clear hK K
          refine pk_takes [8, 9, 10] 13 2 ⟨⟨U3, BU3⟩, rfl⟩ (by kernel_rfl) (fun _ _ _ _ _ h => (by cases h.1)) ?_
          repeat (refine wpTakes_l rfl (by first | (intro x h; cases h; done) | (intro x h; cases h; exact ⟨_, rfl⟩)) ?_; go_big_quiet_step (fail); refine wpQuiet_nil ?_)
          refine takes_nil ?_
          refine any_one (fuel := 1) (i := 11) (by kernel_rfl) rfl rfl ?_
          intro K hK
          go_wp2
          obtain ⟨U4, hU4⟩ : ∃ V, U3.alloc (.cells #[.string ⟨#[]⟩, .int .i64 0, .int .i64 0, .int .i64 0, .slice none 0 0] 31) = V := ⟨_, rfl⟩
          have hb8 : Below U3.heap.size U3 U4 := by rw [← hU4]; exact ba (Below.refl _ _) _
          have BU4 : Below W17.heap.size W17 U4 := Below.on BU3 hb8
          have HXU4 : Hid (R5 U4 U3.heap.size ⟨#[]⟩ 0 0 0 (.slice none 0 0)) := by show R5 _ _ _ _ _ _ _; rw [← hU4]; exact R5.new _ _ _ _ _ _
          have leU4 : W17.heap.size ≤ U3.heap.size := BU3.size
          have HOU4 : Hid (ownsR U4 W17.heap.size 85 (.slice ra7 al rc7) av) := HOU3.out.all hb8
          first | rw [hU4] | rw [show _ = U4 from hU4]
          clear hU4 hb8
          refine hK.out _ _ ⟨⟨U4, BU4⟩, rfl⟩ ?_
          clear hK K
          refine any_one (fuel := 0) (i := 12) (by kernel_rfl) rfl rfl ?_
          intro K hK
          have v0 := HXU4.out.c0
          have v1 := HXU4.out.c1
          have v2 := HXU4.out.c2
          have v3 := HXU4.out.c3
          have v4 := HXU4.out.c4
          have vf := HXU4.out.fz
          go_wp2
          have HNR := newRun_a (nm := an) (fr := af) (up := au) (ep := ae) BU4 HXU4.out leU4 HOU4.out
          refine hK.out _ _ ⟨⟨_, HNR.below⟩, rfl⟩ ?_
          clear hK K v0 v1 v2 v3 v4 vf
          refine any_done (by kernel_rfl) ?_
          simp only [List.drop_succ_cons, List.drop_zero]
          go_wp2
          first | refine ⟨rfl, ⟨U3.heap.size, g5, va6, vc6, ra7, rc7⟩, ?_, HNR⟩ | refine ⟨⟨U3.heap.size, g5, va6, vc6, ra7, rc7⟩, ?_, HNR⟩
          kernel_rfl
        · skip
          intro K hK
          go_wp2
          obtain ⟨U5, hU5⟩ : ∃ V, U2.alloc (.cells #[.string ⟨#[]⟩, .int .i64 0, .int .i64 0, .int .i64 0, .slice none 0 0] 31) = V := ⟨_, rfl⟩
          have hb8 : Below U2.heap.size U2 U5 := by rw [← hU5]; exact ba (Below.refl _ _) _
          have BU5 : Below W17.heap.size W17 U5 := Below.on BU2 hb8
          have HXU5 : Hid (R5 U5 U2.heap.size ⟨#[]⟩ 0 0 0 (.slice none 0 0)) := by show R5 _ _ _ _ _ _ _; rw [← hU5]; exact R5.new _ _ _ _ _ _
          have leU5 : W17.heap.size ≤ U2.heap.size := BU2.size
          have htU5 := htU2.below hb8
          have hrU5 := hrU2.below hb8
          first | rw [hU5] | rw [show _ = U5 from hU5]
          clear hU5 hb8
          refine hK.out _ _ ⟨⟨U5, BU5⟩, rfl⟩ ?_
          clear hK K
          refine any_one (fuel := 4) (i := 7) (by kernel_rfl) rfl rfl ?_
          intro K hK
          go_wp2_with fail
          refine (HA.out _ _ _ _ (Below.on B17 BU5) htU5 hrU5).mono ?_
          rintro x U6 ⟨ra7, rc7, rfl, ho7, hb7⟩
          have HOU6 : Hid (ownsR U6 W17.heap.size 85 (.slice ra7 al rc7) av) := ho7.mono BU5.size
          clear ho7
          have HXU6 : Hid (R5 U6 U2.heap.size ⟨#[]⟩ 0 0 0 (.slice none 0 0)) := HXU5.out.on hb7
          have BU6 : Below W17.heap.size W17 U6 := Below.on BU5 hb7
          clear hb7
          go_wp2
          refine hK.out _ _ ⟨⟨U6, BU6⟩, rfl⟩ ?_
          clear hK K
          refine pk_takes [8, 9, 10] 13 1 ⟨⟨U6, BU6⟩, rfl⟩ (by kernel_rfl) (fun _ _ _ _ _ h => (by cases h.1)) ?_
          repeat (refine wpTakes_l rfl (by first | (intro x h; cases h; done) | (intro x h; cases h; exact ⟨_, rfl⟩)) ?_; go_big_quiet_step (fail); refine wpQuiet_nil ?_)
          refine takes_nil ?_
          refine any_one (fuel := 0) (i := 12) (by kernel_rfl) rfl rfl ?_
          intro K hK
          have v0 := HXU6.out.c0
          have v1 := HXU6.out.c1
          have v2 := HXU6.out.c2
          have v3 := HXU6.out.c3
          have v4 := HXU6.out.c4
          have vf := HXU6.out.fz
          go_wp2
          have HNR := newRun_a (nm := an) (fr := af) (up := au) (ep := ae) BU6 HXU6.out leU5 HOU6.out
          refine hK.out _ _ ⟨⟨_, HNR.below⟩, rfl⟩ ?_
          clear hK K v0 v1 v2 v3 v4 vf
          refine any_done (by kernel_rfl) ?_
          simp only [List.drop_succ_cons, List.drop_zero]
          go_wp2
          first | refine ⟨rfl, ⟨U2.heap.size, g5, va6, vc6, ra7, rc7⟩, ?_, HNR⟩ | refine ⟨⟨U2.heap.size, g5, va6, vc6, ra7, rc7⟩, ?_, HNR⟩
          kernel_rfl
      · skip
        intro K hK
        go_wp2
        obtain ⟨U7, hU7⟩ : ∃ V, U1.alloc (.cells #[.string ⟨#[]⟩, .int .i64 0, .int .i64 0, .int .i64 0, .slice none 0 0] 31) = V := ⟨_, rfl⟩
        have hb8 : Below U1.heap.size U1 U7 := by rw [← hU7]; exact ba (Below.refl _ _) _
        have BU7 : Below W17.heap.size W17 U7 := Below.on BU1 hb8
        have HXU7 : Hid (R5 U7 U1.heap.size ⟨#[]⟩ 0 0 0 (.slice none 0 0)) := by show R5 _ _ _ _ _ _ _; rw [← hU7]; exact R5.new _ _ _ _ _ _
        have leU7 : W17.heap.size ≤ U1.heap.size := BU1.size
        have htU7 := htU1.below hb8
        first | rw [hU7] | rw [show _ = U7 from hU7]
        clear hU7 hb8
        refine hK.out _ _ ⟨⟨U7, BU7⟩, rfl⟩ ?_
        clear hK K
        refine any_one (fuel := 5) (i := 3) (by kernel_rfl) rfl rfl ?_
        intro K hK
        go_wp2_with fail
        refine (HTR.out _ (Below.on B17 BU7)).mono ?_
        rintro x U8 ⟨va6, vc6, rfl, ho6, hb6⟩
        have hrU8 := ho6.reads
        clear ho6
        have htU8 := htU7.below hb6
        have HXU8 : Hid (R5 U8 U1.heap.size ⟨#[]⟩ 0 0 0 (.slice none 0 0)) := HXU7.out.on hb6
        have BU8 : Below W17.heap.size W17 U8 := Below.on BU7 hb6
        clear hb6
        go_wp2
        refine hK.out _ _ ⟨⟨U8, BU8⟩, rfl⟩ ?_
        clear hK K
        refine any_one (fuel := 4) (i := 7) (by kernel_rfl) rfl rfl ?_
        intro K hK
        go_wp2_with fail
        refine (HA.out _ _ _ _ (Below.on B17 BU8) htU8 hrU8).mono ?_
        rintro x U9 ⟨ra7, rc7, rfl, ho7, hb7⟩
        have HOU9 : Hid (ownsR U9 W17.heap.size 85 (.slice ra7 al rc7) av) := ho7.mono BU8.size
        clear ho7
        have HXU9 : Hid (R5 U9 U1.heap.size ⟨#[]⟩ 0 0 0 (.slice none 0 0)) := HXU8.out.on hb7
        have BU9 : Below W17.heap.size W17 U9 := Below.on BU8 hb7
        clear hb7
        go_wp2
        refine hK.out _ _ ⟨⟨U9, BU9⟩, rfl⟩ ?_
        clear hK K
        refine pk_takes [8, 9, 10] 13 1 ⟨⟨U9, BU9⟩, rfl⟩ (by kernel_rfl) (fun _ _ _ _ _ h => (by cases h.1)) ?_
        repeat (refine wpTakes_l rfl (by first | (intro x h; cases h; done) | (intro x h; cases h; exact ⟨_, rfl⟩)) ?_; go_big_quiet_step (fail); refine wpQuiet_nil ?_)
        refine takes_nil ?_
        refine any_one (fuel := 0) (i := 12) (by kernel_rfl) rfl rfl ?_
        intro K hK
        have v0 := HXU9.out.c0
        have v1 := HXU9.out.c1
        have v2 := HXU9.out.c2
        have v3 := HXU9.out.c3
        have v4 := HXU9.out.c4
        have vf := HXU9.out.fz
        go_wp2
        have HNR := newRun_a (nm := an) (fr := af) (up := au) (ep := ae) BU9 HXU9.out leU7 HOU9.out
        refine hK.out _ _ ⟨⟨_, HNR.below⟩, rfl⟩ ?_
        clear hK K v0 v1 v2 v3 v4 vf
        refine any_done (by kernel_rfl) ?_
        simp only [List.drop_succ_cons, List.drop_zero]
        go_wp2
        first | refine ⟨rfl, ⟨U1.heap.size, g5, va6, vc6, ra7, rc7⟩, ?_, HNR⟩ | refine ⟨⟨U1.heap.size, g5, va6, vc6, ra7, rc7⟩, ?_, HNR⟩
        kernel_rfl
    · skip
      intro K hK
      go_wp2
      obtain ⟨U10, hU10⟩ : ∃ V, U0.alloc (.cells #[.string ⟨#[]⟩, .int .i64 0, .int .i64 0, .int .i64 0, .slice none 0 0] 31) = V := ⟨_, rfl⟩
      have hb8 : Below U0.heap.size U0 U10 := by rw [← hU10]; exact ba (Below.refl _ _) _
      have BU10 : Below W17.heap.size W17 U10 := Below.on BU0 hb8
      have HXU10 : Hid (R5 U10 U0.heap.size ⟨#[]⟩ 0 0 0 (.slice none 0 0)) := by show R5 _ _ _ _ _ _ _; rw [← hU10]; exact R5.new _ _ _ _ _ _
      have leU10 : W17.heap.size ≤ U0.heap.size := BU0.size
      first | rw [hU10] | rw [show _ = U10 from hU10]
      clear hU10 hb8
      refine hK.out _ _ ⟨⟨U10, BU10⟩, rfl⟩ ?_
      clear hK K
      refine any_one (fuel := 6) (i := 1) (by kernel_rfl) rfl rfl ?_
      intro K hK
      go_wp2_with fail
      refine (HTD.out _ (Below.on B17 BU10)).mono ?_
      rintro x U11 ⟨g5, rfl, hto5, hb5⟩
      have htU11 := hto5.tasks
      clear hto5
      have HXU11 : Hid (R5 U11 U0.heap.size ⟨#[]⟩ 0 0 0 (.slice none 0 0)) := HXU10.out.on hb5
      have BU11 : Below W17.heap.size W17 U11 := Below.on BU10 hb5
      clear hb5
      go_wp2
      refine hK.out _ _ ⟨⟨U11, BU11⟩, rfl⟩ ?_
      clear hK K
      refine any_one (fuel := 5) (i := 3) (by kernel_rfl) rfl rfl ?_
      intro K hK
      go_wp2_with fail
      refine (HTR.out _ (Below.on B17 BU11)).mono ?_
      rintro x U12 ⟨va6, vc6, rfl, ho6, hb6⟩
      have hrU12 := ho6.reads
      clear ho6
      have htU12 := htU11.below hb6
      have HXU12 : Hid (R5 U12 U0.heap.size ⟨#[]⟩ 0 0 0 (.slice none 0 0)) := HXU11.out.on hb6
      have BU12 : Below W17.heap.size W17 U12 := Below.on BU11 hb6
      clear hb6
      go_wp2
      refine hK.out _ _ ⟨⟨U12, BU12⟩, rfl⟩ ?_
      clear hK K
      refine any_one (fuel := 4) (i := 7) (by kernel_rfl) rfl rfl ?_
      intro K hK
      go_wp2_with fail
      refine (HA.out _ _ _ _ (Below.on B17 BU12) htU12 hrU12).mono ?_
      rintro x U13 ⟨ra7, rc7, rfl, ho7, hb7⟩
      have HOU13 : Hid (ownsR U13 W17.heap.size 85 (.slice ra7 al rc7) av) := ho7.mono BU12.size
      clear ho7
      have HXU13 : Hid (R5 U13 U0.heap.size ⟨#[]⟩ 0 0 0 (.slice none 0 0)) := HXU12.out.on hb7
      have BU13 : Below W17.heap.size W17 U13 := Below.on BU12 hb7
      clear hb7
      go_wp2
      refine hK.out _ _ ⟨⟨U13, BU13⟩, rfl⟩ ?_
      clear hK K
      refine pk_takes [8, 9, 10] 13 1 ⟨⟨U13, BU13⟩, rfl⟩ (by kernel_rfl) (fun _ _ _ _ _ h => (by cases h.1)) ?_
      repeat (refine wpTakes_l rfl (by first | (intro x h; cases h; done) | (intro x h; cases h; exact ⟨_, rfl⟩)) ?_; go_big_quiet_step (fail); refine wpQuiet_nil ?_)
      refine takes_nil ?_
      refine any_one (fuel := 0) (i := 12) (by kernel_rfl) rfl rfl ?_
      intro K hK
      have v0 := HXU13.out.c0
      have v1 := HXU13.out.c1
      have v2 := HXU13.out.c2
      have v3 := HXU13.out.c3
      have v4 := HXU13.out.c4
      have vf := HXU13.out.fz
      go_wp2
      have HNR := newRun_a (nm := an) (fr := af) (up := au) (ep := ae) BU13 HXU13.out leU10 HOU13.out
      refine hK.out _ _ ⟨⟨_, HNR.below⟩, rfl⟩ ?_
      clear hK K v0 v1 v2 v3 v4 vf
      refine any_done (by kernel_rfl) ?_
      simp only [List.drop_succ_cons, List.drop_zero]
      go_wp2
      first | refine ⟨rfl, ⟨U0.heap.size, g5, va6, vc6, ra7, rc7⟩, ?_, HNR⟩ | refine ⟨⟨U0.heap.size, g5, va6, vc6, ra7, rc7⟩, ?_, HNR⟩
      kernel_rfl
  clear Zq0 Zq1 Zq2 Zq3 Zq4 Zq5 Kq0 Kq1 Kq2 Kq3 Kq4
  rintro ⟨Ph, gh9, bh9, ch9, ha, hc⟩ W18 hN
  simp only [putAll]
  dsimp only at hN
  have hb := hN.below
  have HBh : Hid (∀ k, (Value.slice ha al hc).ownBlock = some k → W17.heap.size ≤ k ∧ k < W18.heap.size) := fun k hk => hN.own.lt k hk
  have Vh18 : Hid (ownsR W18 w.heap.size 85 (.slice ha al hc) av) := hN.own.mono B17.size
  have Xh18 : R5 W18 Ph an af au ae (.slice ha al hc) := hN.box
  have oh : W17.heap.size ≤ Ph := hN.old
  clear hN
  have Z18 := Z17.on hb
  have K18 := K17.on hb
  have Vw18 : Hid (ownsR W18 w.heap.size 85 (.slice wa al wc) av) := Vw17.out.all hb
  have Xw18 := Xw17.on hb
  have Vg18 : Hid (ownsR W18 w.heap.size 85 (.slice ga al gc) (marksSa 1 al)) := Vg17.out.all hb
  have Xg18 := Xg17.on hb
  have B18 := Below.on B17 hb
  have s18 : W17.heap.size ≤ W18.heap.size := hb.size
  clear Z17 K17 Vw17 Xw17 Vg17 Xg17 B17 hb
  have lh : Ph < W18.heap.size := Xh18.lt
  have Xhc0 := Xh18.c0
  have Xhc1 := Xh18.c1
  have Xhc2 := Xh18.c2
  have Xhc3 := Xh18.c3
  have Xhc4 := Xh18.c4
  have Xwc0 := Xw18.c0
  have Xwc1 := Xw18.c1
  have Xwc2 := Xw18.c2
  have Xwc3 := Xw18.c3
  have Xwc4 := Xw18.c4
  go_wp2_with fail
  refine (eqRun_any ha wa al hc wc an af au ae av W18 Vh18.out.reads Vw18.out.reads hal).mono ?_
  rintro x W19 ⟨rfl, hb⟩
  clear Xhc0 Xhc1 Xhc2 Xhc3 Xhc4 Xwc0 Xwc1 Xwc2 Xwc3 Xwc4
  have Z19 := Z18.on hb
  have K19 := K18.on hb
  have Vw19 : Hid (ownsR W19 w.heap.size 85 (.slice wa al wc) av) := Vw18.out.all hb
  have Xw19 := Xw18.on hb
  have Vg19 : Hid (ownsR W19 w.heap.size 85 (.slice ga al gc) (marksSa 1 al)) := Vg18.out.all hb
  have Xg19 := Xg18.on hb
  have Vh19 : Hid (ownsR W19 w.heap.size 85 (.slice ha al hc) av) := Vh18.out.all hb
  have Xh19 := Xh18.on hb
  have B19 := Below.on B18 hb
  have s19 : W18.heap.size ≤ W19.heap.size := hb.size
  clear Z18 K18 Vw18 Xw18 Vg18 Xg18 Vh18 Xh18 B18 hb
  have HH := heldRun_any ga al gc an af au ae 1 W19 Vg19.out.reads hal (by decide) (by decide)
  have Xgc0 := Xg19.c0
  have Xgc1 := Xg19.c1
  have Xgc2 := Xg19.c2
  have Xgc3 := Xg19.c3
  have Xgc4 := Xg19.c4
  go_wp2_with fail
  refine (HH).mono ?_
  rintro x W20 ⟨rfl, hb⟩
  clear Xgc0 Xgc1 Xgc2 Xgc3 Xgc4
  have Z20 := Z19.on hb
  have K20 := K19.on hb
  have Vw20 : Hid (ownsR W20 w.heap.size 85 (.slice wa al wc) av) := Vw19.out.all hb
  have Xw20 := Xw19.on hb
  have Vg20 : Hid (ownsR W20 w.heap.size 85 (.slice ga al gc) (marksSa 1 al)) := Vg19.out.all hb
  have Xg20 := Xg19.on hb
  have Vh20 : Hid (ownsR W20 w.heap.size 85 (.slice ha al hc) av) := Vh19.out.all hb
  have Xh20 := Xh19.on hb
  have B20 := Below.on B19 hb
  have s20 : W19.heap.size ≤ W20.heap.size := hb.size
  clear Z19 K19 Vw19 Xw19 Vg19 Xg19 Vh19 Xh19 B19 hb
  clear HH
  go_wp2
  go_ret
  exact ⟨rfl, B20⟩
end Go.Proofs.YtjmclcjhimcehaaGreatDoor
