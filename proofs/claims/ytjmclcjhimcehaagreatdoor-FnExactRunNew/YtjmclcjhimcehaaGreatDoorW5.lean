/-
  The law on RunNew: the walk.
-/
import Derived.Test.YtjmclcjhimcehaaGreatDoorP3
import Derived.Test.YtjmclcjhimcehaaGreatDoorG29
import Derived.Test.YtjmclcjhimcehaaGreatDoorG30
import Derived.Test.YtjmclcjhimcehaaGreatDoorG31
import Derived.Test.YtjmclcjhimcehaaGreatDoorH3
namespace Go.Proofs.YtjmclcjhimcehaaGreatDoor
open Go Go.RowKit
set_option linter.unusedVariables false

set_option maxRecDepth 10000 in
set_option maxHeartbeats 8000000 in
theorem law_RunNew (ao : Option Addr) (n cap : Nat) (nm cr : ByteArray) (fr up : Int) (cu : Bool) (ts : List Ta) (sf su : Int) (w : World) (hr : Tasks w (.slice ao n cap) ts) (hf : FitD ⟨nm, cr, fr, up, cu, ts⟩ n) (hg : Gl w) :
    Calls Tryz.prog 3 #[.agg #[.string nm, .string cr, .int .i64 fr, .int .i64 up, .bool cu, .slice ao n cap], .agg #[.int .i64 sf, .int .i64 su]] w fun x w' => x = .returned (.bool true) ∧ Below w.heap.size w w' := by
  have HN : Hid (ts.length = n) := by
    obtain ⟨ao', cap', e⟩ := hr.slice
    injection e with _ e2 _
    exact e2.symm
  have HZD : Hid (∀ W, Below w.heap.size w W → Calls Tryz.prog 9 #[.agg #[.string nm, .string cr, .int .i64 fr, .int .i64 up, .bool cu, .slice ao n cap], .int .i64 1048576] W fun e w' => ∃ r : Int, e = .returned (.int .i64 r) ∧ r ≤ 1048576 ∧ -1 ≤ r ∧ (0 ≤ r → (nm.size : Int) ≤ 1048576 ∧ (cr.size : Int) ≤ 1048576 ∧ (ts.length : Int) ≤ 1048576 ∧ ∀ t ∈ ts, Wei t 1048576) ∧ Below W.heap.size W w') := fun W hb => szD_any ao n cap nm cr fr up cu ts 1048576 W (hr.below hb) hf (by decide) (by decide)
  have HDR : Hid (∀ W, Below w.heap.size w W → Tasks W (.slice ao n cap) ts) := fun W hb => hr.below hb
  have HG : Hid (∀ W, Below w.heap.size w W → Gl W) := fun W hb => hg.up hb
  clear hr hf hg
  obtain ⟨⟨an, af, au, ae, av⟩, HRR⟩ : ∃ R, Hid (newR ⟨nm, cr, fr, up, cu, ts⟩ sf su = R) := ⟨_, rfl⟩
  obtain ⟨q, HQ⟩ : ∃ q, Hid (newB ⟨nm, cr, fr, up, cu, ts⟩ sf su = q) := ⟨_, rfl⟩
  obtain ⟨W0, hV0⟩ : ∃ V, (w.alloc (.cells #[.string nm, .string cr, .int .i64 fr, .int .i64 up, .bool cu, .slice ao n cap] 24)).alloc (.cells #[.int .i64 sf, .int .i64 su] 26) = V := ⟨_, rfl⟩
  have Z0 : L6 W0 (w.heap.size) nm cr fr up cu (.slice ao n cap) := by
    rw [← hV0]
    have := (L6.new w nm cr fr up cu (.slice ao n cap)).on (ba (Below.refl _ _) (.cells #[.int .i64 sf, .int .i64 su] 26))
    simpa using this
  have S0 : S2 W0 (w.heap.size + 1) sf su := by
    rw [← hV0]
    have := (S2.new (w.alloc (.cells #[.string nm, .string cr, .int .i64 fr, .int .i64 up, .bool cu, .slice ao n cap] 24)) sf su).on (Below.refl _ _)
    simpa using this
  have B0 : Below w.heap.size w W0 := by rw [← hV0]; exact ba (ba (Below.refl _ _) _) _
  have s0 : w.heap.size + 1 < W0.heap.size := S0.lt
  go_enter Tryz.func3, Tryz.ntmps3
  have Zc0 := Z0.c0
  have Zc1 := Z0.c1
  have Zc2 := Z0.c2
  have Zc3 := Z0.c3
  have Zc4 := Z0.c4
  have Zc5 := Z0.c5
  go_wp2_with fail
  refine (HZD.out _ B0).mono ?_
  rintro x W1 ⟨r0, rfl, hr1, hr2, hr3, hb⟩
  clear hV0
  clear Zc0 Zc1 Zc2 Zc3 Zc4 Zc5
  have Z1 := Z0.on hb
  have S1 := S0.on hb
  have B1 := Below.on B0 hb
  have s1 : W0.heap.size ≤ W1.heap.size := hb.size
  clear Z0 S0 B0 hb
  have HR3 : Hid (0 ≤ r0 → (nm.size : Int) ≤ 1048576 ∧ (cr.size : Int) ≤ 1048576 ∧ (ts.length : Int) ≤ 1048576 ∧ ∀ t ∈ ts, Wei t 1048576) := hr3
  clear hr3 HZD
  by_cases hneg0 : r0 < 0
  · go_wp2
    go_ret
    exact ⟨rfl, B1⟩
  have HK := HR3.out (by omega)
  have HK1 : Hid (∀ t ∈ ts, t.after.length ≤ 1048576) := fun t ht => by have := (HK.2.2.2 t ht).2.1; omega
  have hn : n ≤ 1048576 := by have h1 := HK.2.2.1; have h2 := HN.out; omega
  have HSm : Hid (∀ t ∈ ts, Sm t) := fun t ht => by
    obtain ⟨y1, y2, y3⟩ := HK.2.2.2 t ht
    exact ⟨by omega, by omega, fun s hs => by have := y3 s hs; omega⟩
  have HCR : Hid (cr.size ≤ 1048576 ∧ nm.size ≤ 1048576) := ⟨by have := HK.2.1; omega, by have := HK.1; omega⟩
  clear HK HR3
  have HTD : Hid (∀ W, Below w.heap.size w W → Calls Tryz.prog 11 #[.agg #[.string nm, .string cr, .int .i64 fr, .int .i64 up, .bool cu, .slice ao n cap]] W fun e w' => ∃ g, e = .returned (.agg #[.string nm, .string cr, .int .i64 fr, .int .i64 up, .bool cu, .slice (some ⟨g, 0, none⟩) n n]) ∧ TasksO W.heap.size w' (.slice (some ⟨g, 0, none⟩) n n) ts ∧ Below W.heap.size W w') := fun W hb => toD_own ao n cap nm cr fr up cu ts W (HDR.out W hb) hn HK1.out
  have HS : Hid (∀ (go : Option Addr) W, Below w.heap.size w W → Tasks W (.slice go n n) ts → Calls Tryz.prog 10 #[.agg #[.string nm, .string cr, .int .i64 fr, .int .i64 up, .bool cu, .slice go n n], .agg #[.int .i64 sf, .int .i64 su]] W fun x w' => ∃ (va : Option Addr) (vc : Nat), x = .returned (.tuple #[.agg #[.string an, .int .i64 af, .int .i64 au, .int .i64 ae, .slice va av.length vc], .bool q]) ∧ ownsR w' W.heap.size 85 (.slice va av.length vc) av ∧ Below W.heap.size W w') := fun go W hb td => by
    have := specRunNew_any go n n nm cr fr up cu ts sf su W ⟨td, by show ts.length ≤ 1048577; rw [HN.out]; exact Nat.le_succ_of_le hn, fun t ht => ⟨(HSm.out t ht).few, (HSm.out t ht).name⟩, HCR.out.1, by have := HCR.out.2; show nm.size ≤ 9223372036854775807; omega⟩ ⟨an, af, au, ae, av⟩ HRR
    rw [HQ.out] at this
    refine this.mono fun e w' ⟨v, he, ho, hb⟩ => ?_
    obtain ⟨va, vc, ev⟩ := ho.slice
    subst ev
    exact ⟨va, vc, he, ho, hb⟩
  have HA : Hid (∀ (go : Option Addr) W, Below w.heap.size w W → Tasks W (.slice go n n) ts → Calls Tryz.prog 13 #[.agg #[.string nm, .string cr, .int .i64 fr, .int .i64 up, .bool cu, .slice go n n], .agg #[.int .i64 sf, .int .i64 su]] W fun x w' => ∃ (va : Option Addr) (vc : Nat), x = .returned (.tuple #[.agg #[.string an, .int .i64 af, .int .i64 au, .int .i64 ae, .slice va av.length vc], .bool q]) ∧ ownsR w' W.heap.size 85 (.slice va av.length vc) av ∧ Below W.heap.size W w') := fun go W hb td => by
    have := implRunNew_any go n n nm cr fr up cu ts sf su W ⟨td, Nat.le_refl _, Nat.le_succ_of_le hn, HSm.out, HCR.out.1, by have := HCR.out.2; show nm.size ≤ 9223372036854775807; omega⟩ (HG.out W hb) HCR.out.2 ⟨an, af, au, ae, av⟩ HRR
    rw [HQ.out] at this
    refine this.mono fun e w' ⟨v, he, ho, hb⟩ => ?_
    obtain ⟨va, vc, ev⟩ := ho.slice
    subst ev
    exact ⟨va, vc, he, ho, hb⟩
  have HAL : Hid (av.length ≤ 1048577) := by
    have := newR_len ⟨nm, cr, fr, up, cu, ts⟩ sf su
    rw [HRR.out] at this
    exact Nat.le_trans this (by decide)
  obtain ⟨al, HLE⟩ : ∃ al, Hid (av.length = al) := ⟨_, rfl⟩
  rw [HLE.out] at HS HA
  have hal : al ≤ 1048577 := by rw [← HLE.out]; exact HAL.out
  clear HAL
  go_wp2_with fail
  have Zq0 := Wd.cell Z1.c0
  have Zq1 := Wd.cell Z1.c1
  have Zq2 := Wd.cell Z1.c2
  have Zq3 := Wd.cell Z1.c3
  have Zq4 := Wd.cell Z1.c4
  have Zq5 := Wd.cell Z1.c5
  have Sq0 := Wd.cell S1.c0
  have Sq1 := Wd.cell S1.c1
  refine wp_puts (α := RunX) (fun x => [(22, .agg #[.string nm, .string cr, .int .i64 fr, .int .i64 up, .bool cu, .slice ao n cap]), (23, .agg #[.string nm, .string cr, .int .i64 fr, .int .i64 up, .bool cu, .slice (some ⟨x.g, 0, none⟩) n n]), (24, .agg #[.int .i64 sf, .int .i64 su]), (25, .agg #[.int .i64 sf, .int .i64 su]), (26, .tuple #[.agg #[.string an, .int .i64 af, .int .i64 au, .int .i64 ae, .slice x.ra al x.rc], .bool q]), (21, .tuple #[.agg #[.string an, .int .i64 af, .int .i64 au, .int .i64 ae, .slice x.ra al x.rc], .bool q]), (27, .agg #[.string an, .int .i64 af, .int .i64 au, .int .i64 ae, .slice x.ra al x.rc]), (28, .bool q), (6, .pointer (some ⟨x.X, 0, none⟩)), (7, .bool q)]) (fun x w' => NewRun W1 w' x.X an af au ae (.slice x.ra al x.rc) av) ?_ ?_
  · skip
    have hdr : Below W1.heap.size W1 W1.drew := (Below.refl _ _).drew
    refine wp_region_pick (fun w' => ∃ x : Wd W1, w' = x.at') [0, 2] 10 8 (by kernel_rfl) (by decide) (by decide) (by kernel_rfl) (fun _ _ _ _ _ h => (by cases h.1)) ⟨⟨W1.drew, hdr⟩, rfl⟩ ?_
    repeat (refine wpTakes_l rfl (by first | (intro x h; cases h; done) | (intro x h; cases h; exact ⟨_, rfl⟩)) ?_; go_big_quiet_step (fail); refine wpQuiet_nil ?_)
    refine takes_nil ?_
    clear Zq0 Zq1 Zq2 Zq3 Zq4 Zq5 Sq0 Sq1
    obtain ⟨U0, hU0⟩ : ∃ V, W1.drew = V := ⟨_, rfl⟩
    rw [hU0] at hdr
    rw [hU0]
    clear hU0
    have BU0 := hdr
    clear hdr
    refine pk_two (fuel := 7) (i := 1) (j := 8) (by kernel_rfl) rfl rfl rfl rfl ?_ ?_
    · skip
      intro K hK
      go_wp2_with fail
      refine (HTD.out _ (Below.on B1 BU0)).mono ?_
      rintro x U1 ⟨g5, rfl, hto5, hb5⟩
      have htU1 := hto5.tasks
      clear hto5
      have BU1 : Below W1.heap.size W1 U1 := Below.on BU0 hb5
      clear hb5
      go_wp2
      refine hK.out _ _ ⟨⟨U1, BU1⟩, rfl⟩ ?_
      clear hK K
      refine pk_two (fuel := 6) (i := 3) (j := 8) (by kernel_rfl) rfl rfl rfl rfl ?_ ?_
      · skip
        intro K hK
        go_wp2_with fail
        refine (toSpn_any sf su _).mono ?_
        rintro x U2 ⟨rfl, hb6⟩
        have htU2 := htU1.below hb6
        have BU2 : Below W1.heap.size W1 U2 := Below.on BU1 hb6
        clear hb6
        go_wp2
        refine hK.out _ _ ⟨⟨U2, BU2⟩, rfl⟩ ?_
        clear hK K
        refine pk_two (fuel := 5) (i := 4) (j := 8) (by kernel_rfl) rfl rfl rfl rfl ?_ ?_
        · skip
          intro K hK
          go_wp2_with fail
          refine (HS.out _ _ (Below.on B1 BU2) htU2).mono ?_
          rintro x U3 ⟨ra7, rc7, rfl, ho7, hb7⟩
          have HOU3 : Hid (ownsR U3 W1.heap.size 85 (.slice ra7 al rc7) av) := ho7.mono BU2.size
          clear ho7
          have BU3 : Below W1.heap.size W1 U3 := Below.on BU2 hb7
          clear hb7
          go_wp2
          refine hK.out _ _ ⟨⟨U3, BU3⟩, rfl⟩ ?_
          clear hK K
          refine pk_takes [5, 6, 7] 10 2 ⟨⟨U3, BU3⟩, rfl⟩ (by kernel_rfl) (fun _ _ _ _ _ h => (by cases h.1)) ?_
          repeat (refine wpTakes_l rfl (by first | (intro x h; cases h; done) | (intro x h; cases h; exact ⟨_, rfl⟩)) ?_; go_big_quiet_step (fail); refine wpQuiet_nil ?_)
          refine takes_nil ?_
          refine any_one (fuel := 1) (i := 8) (by kernel_rfl) rfl rfl ?_
          intro K hK
          go_wp2
          obtain ⟨U4, hU4⟩ : ∃ V, U3.alloc (.cells #[.string ⟨#[]⟩, .int .i64 0, .int .i64 0, .int .i64 0, .slice none 0 0] 31) = V := ⟨_, rfl⟩
          have hb8 : Below U3.heap.size U3 U4 := by rw [← hU4]; exact ba (Below.refl _ _) _
          have BU4 : Below W1.heap.size W1 U4 := Below.on BU3 hb8
          have HXU4 : Hid (R5 U4 U3.heap.size ⟨#[]⟩ 0 0 0 (.slice none 0 0)) := by show R5 _ _ _ _ _ _ _; rw [← hU4]; exact R5.new _ _ _ _ _ _
          have leU4 : W1.heap.size ≤ U3.heap.size := BU3.size
          have HOU4 : Hid (ownsR U4 W1.heap.size 85 (.slice ra7 al rc7) av) := HOU3.out.all hb8
          first | rw [hU4] | rw [show _ = U4 from hU4]
          clear hU4 hb8
          refine hK.out _ _ ⟨⟨U4, BU4⟩, rfl⟩ ?_
          clear hK K
          refine any_one (fuel := 0) (i := 9) (by kernel_rfl) rfl rfl ?_
          intro K hK
          have v0 := HXU4.out.c0
          have v1 := HXU4.out.c1
          have v2 := HXU4.out.c2
          have v3 := HXU4.out.c3
          have v4 := HXU4.out.c4
          have vf := HXU4.out.fz
          go_wp2
          have HNR := newRun_a (nm := an) (fr := af) (up := au) (ep := ae) BU4 HXU4.out leU4 HOU4.out
          refine hK.out _ _ ⟨⟨_, HNR.below⟩, rfl⟩ ?_
          clear hK K v0 v1 v2 v3 v4 vf
          refine any_done (by kernel_rfl) ?_
          simp only [List.drop_succ_cons, List.drop_zero]
          go_wp2
          first | refine ⟨rfl, ⟨U3.heap.size, g5, none, 0, ra7, rc7⟩, ?_, HNR⟩ | refine ⟨⟨U3.heap.size, g5, none, 0, ra7, rc7⟩, ?_, HNR⟩
          kernel_rfl
        · skip
          intro K hK
          go_wp2
          obtain ⟨U5, hU5⟩ : ∃ V, U2.alloc (.cells #[.string ⟨#[]⟩, .int .i64 0, .int .i64 0, .int .i64 0, .slice none 0 0] 31) = V := ⟨_, rfl⟩
          have hb8 : Below U2.heap.size U2 U5 := by rw [← hU5]; exact ba (Below.refl _ _) _
          have BU5 : Below W1.heap.size W1 U5 := Below.on BU2 hb8
          have HXU5 : Hid (R5 U5 U2.heap.size ⟨#[]⟩ 0 0 0 (.slice none 0 0)) := by show R5 _ _ _ _ _ _ _; rw [← hU5]; exact R5.new _ _ _ _ _ _
          have leU5 : W1.heap.size ≤ U2.heap.size := BU2.size
          have htU5 := htU2.below hb8
          first | rw [hU5] | rw [show _ = U5 from hU5]
          clear hU5 hb8
          refine hK.out _ _ ⟨⟨U5, BU5⟩, rfl⟩ ?_
          clear hK K
          refine any_one (fuel := 4) (i := 4) (by kernel_rfl) rfl rfl ?_
          intro K hK
          go_wp2_with fail
          refine (HS.out _ _ (Below.on B1 BU5) htU5).mono ?_
          rintro x U6 ⟨ra7, rc7, rfl, ho7, hb7⟩
          have HOU6 : Hid (ownsR U6 W1.heap.size 85 (.slice ra7 al rc7) av) := ho7.mono BU5.size
          clear ho7
          have HXU6 : Hid (R5 U6 U2.heap.size ⟨#[]⟩ 0 0 0 (.slice none 0 0)) := HXU5.out.on hb7
          have BU6 : Below W1.heap.size W1 U6 := Below.on BU5 hb7
          clear hb7
          go_wp2
          refine hK.out _ _ ⟨⟨U6, BU6⟩, rfl⟩ ?_
          clear hK K
          refine pk_takes [5, 6, 7] 10 1 ⟨⟨U6, BU6⟩, rfl⟩ (by kernel_rfl) (fun _ _ _ _ _ h => (by cases h.1)) ?_
          repeat (refine wpTakes_l rfl (by first | (intro x h; cases h; done) | (intro x h; cases h; exact ⟨_, rfl⟩)) ?_; go_big_quiet_step (fail); refine wpQuiet_nil ?_)
          refine takes_nil ?_
          refine any_one (fuel := 0) (i := 9) (by kernel_rfl) rfl rfl ?_
          intro K hK
          have v0 := HXU6.out.c0
          have v1 := HXU6.out.c1
          have v2 := HXU6.out.c2
          have v3 := HXU6.out.c3
          have v4 := HXU6.out.c4
          have vf := HXU6.out.fz
          go_wp2
          have HNR := newRun_a (nm := an) (fr := af) (up := au) (ep := ae) BU6 HXU6.out leU5 HOU6.out
          refine hK.out _ _ ⟨⟨_, HNR.below⟩, rfl⟩ ?_
          clear hK K v0 v1 v2 v3 v4 vf
          refine any_done (by kernel_rfl) ?_
          simp only [List.drop_succ_cons, List.drop_zero]
          go_wp2
          first | refine ⟨rfl, ⟨U2.heap.size, g5, none, 0, ra7, rc7⟩, ?_, HNR⟩ | refine ⟨⟨U2.heap.size, g5, none, 0, ra7, rc7⟩, ?_, HNR⟩
          kernel_rfl
      · skip
        intro K hK
        go_wp2
        obtain ⟨U7, hU7⟩ : ∃ V, U1.alloc (.cells #[.string ⟨#[]⟩, .int .i64 0, .int .i64 0, .int .i64 0, .slice none 0 0] 31) = V := ⟨_, rfl⟩
        have hb8 : Below U1.heap.size U1 U7 := by rw [← hU7]; exact ba (Below.refl _ _) _
        have BU7 : Below W1.heap.size W1 U7 := Below.on BU1 hb8
        have HXU7 : Hid (R5 U7 U1.heap.size ⟨#[]⟩ 0 0 0 (.slice none 0 0)) := by show R5 _ _ _ _ _ _ _; rw [← hU7]; exact R5.new _ _ _ _ _ _
        have leU7 : W1.heap.size ≤ U1.heap.size := BU1.size
        have htU7 := htU1.below hb8
        first | rw [hU7] | rw [show _ = U7 from hU7]
        clear hU7 hb8
        refine hK.out _ _ ⟨⟨U7, BU7⟩, rfl⟩ ?_
        clear hK K
        refine any_one (fuel := 5) (i := 3) (by kernel_rfl) rfl rfl ?_
        intro K hK
        go_wp2_with fail
        refine (toSpn_any sf su _).mono ?_
        rintro x U8 ⟨rfl, hb6⟩
        have htU8 := htU7.below hb6
        have HXU8 : Hid (R5 U8 U1.heap.size ⟨#[]⟩ 0 0 0 (.slice none 0 0)) := HXU7.out.on hb6
        have BU8 : Below W1.heap.size W1 U8 := Below.on BU7 hb6
        clear hb6
        go_wp2
        refine hK.out _ _ ⟨⟨U8, BU8⟩, rfl⟩ ?_
        clear hK K
        refine any_one (fuel := 4) (i := 4) (by kernel_rfl) rfl rfl ?_
        intro K hK
        go_wp2_with fail
        refine (HS.out _ _ (Below.on B1 BU8) htU8).mono ?_
        rintro x U9 ⟨ra7, rc7, rfl, ho7, hb7⟩
        have HOU9 : Hid (ownsR U9 W1.heap.size 85 (.slice ra7 al rc7) av) := ho7.mono BU8.size
        clear ho7
        have HXU9 : Hid (R5 U9 U1.heap.size ⟨#[]⟩ 0 0 0 (.slice none 0 0)) := HXU8.out.on hb7
        have BU9 : Below W1.heap.size W1 U9 := Below.on BU8 hb7
        clear hb7
        go_wp2
        refine hK.out _ _ ⟨⟨U9, BU9⟩, rfl⟩ ?_
        clear hK K
        refine pk_takes [5, 6, 7] 10 1 ⟨⟨U9, BU9⟩, rfl⟩ (by kernel_rfl) (fun _ _ _ _ _ h => (by cases h.1)) ?_
        repeat (refine wpTakes_l rfl (by first | (intro x h; cases h; done) | (intro x h; cases h; exact ⟨_, rfl⟩)) ?_; go_big_quiet_step (fail); refine wpQuiet_nil ?_)
        refine takes_nil ?_
        refine any_one (fuel := 0) (i := 9) (by kernel_rfl) rfl rfl ?_
        intro K hK
        have v0 := HXU9.out.c0
        have v1 := HXU9.out.c1
        have v2 := HXU9.out.c2
        have v3 := HXU9.out.c3
        have v4 := HXU9.out.c4
        have vf := HXU9.out.fz
        go_wp2
        have HNR := newRun_a (nm := an) (fr := af) (up := au) (ep := ae) BU9 HXU9.out leU7 HOU9.out
        refine hK.out _ _ ⟨⟨_, HNR.below⟩, rfl⟩ ?_
        clear hK K v0 v1 v2 v3 v4 vf
        refine any_done (by kernel_rfl) ?_
        simp only [List.drop_succ_cons, List.drop_zero]
        go_wp2
        first | refine ⟨rfl, ⟨U1.heap.size, g5, none, 0, ra7, rc7⟩, ?_, HNR⟩ | refine ⟨⟨U1.heap.size, g5, none, 0, ra7, rc7⟩, ?_, HNR⟩
        kernel_rfl
    · skip
      intro K hK
      go_wp2
      obtain ⟨U10, hU10⟩ : ∃ V, U0.alloc (.cells #[.string ⟨#[]⟩, .int .i64 0, .int .i64 0, .int .i64 0, .slice none 0 0] 31) = V := ⟨_, rfl⟩
      have hb8 : Below U0.heap.size U0 U10 := by rw [← hU10]; exact ba (Below.refl _ _) _
      have BU10 : Below W1.heap.size W1 U10 := Below.on BU0 hb8
      have HXU10 : Hid (R5 U10 U0.heap.size ⟨#[]⟩ 0 0 0 (.slice none 0 0)) := by show R5 _ _ _ _ _ _ _; rw [← hU10]; exact R5.new _ _ _ _ _ _
      have leU10 : W1.heap.size ≤ U0.heap.size := BU0.size
      first | rw [hU10] | rw [show _ = U10 from hU10]
      clear hU10 hb8
      refine hK.out _ _ ⟨⟨U10, BU10⟩, rfl⟩ ?_
      clear hK K
      refine any_one (fuel := 6) (i := 1) (by kernel_rfl) rfl rfl ?_
      intro K hK
      go_wp2_with fail
      refine (HTD.out _ (Below.on B1 BU10)).mono ?_
      rintro x U11 ⟨g5, rfl, hto5, hb5⟩
      have htU11 := hto5.tasks
      clear hto5
      have HXU11 : Hid (R5 U11 U0.heap.size ⟨#[]⟩ 0 0 0 (.slice none 0 0)) := HXU10.out.on hb5
      have BU11 : Below W1.heap.size W1 U11 := Below.on BU10 hb5
      clear hb5
      go_wp2
      refine hK.out _ _ ⟨⟨U11, BU11⟩, rfl⟩ ?_
      clear hK K
      refine any_one (fuel := 5) (i := 3) (by kernel_rfl) rfl rfl ?_
      intro K hK
      go_wp2_with fail
      refine (toSpn_any sf su _).mono ?_
      rintro x U12 ⟨rfl, hb6⟩
      have htU12 := htU11.below hb6
      have HXU12 : Hid (R5 U12 U0.heap.size ⟨#[]⟩ 0 0 0 (.slice none 0 0)) := HXU11.out.on hb6
      have BU12 : Below W1.heap.size W1 U12 := Below.on BU11 hb6
      clear hb6
      go_wp2
      refine hK.out _ _ ⟨⟨U12, BU12⟩, rfl⟩ ?_
      clear hK K
      refine any_one (fuel := 4) (i := 4) (by kernel_rfl) rfl rfl ?_
      intro K hK
      go_wp2_with fail
      refine (HS.out _ _ (Below.on B1 BU12) htU12).mono ?_
      rintro x U13 ⟨ra7, rc7, rfl, ho7, hb7⟩
      have HOU13 : Hid (ownsR U13 W1.heap.size 85 (.slice ra7 al rc7) av) := ho7.mono BU12.size
      clear ho7
      have HXU13 : Hid (R5 U13 U0.heap.size ⟨#[]⟩ 0 0 0 (.slice none 0 0)) := HXU12.out.on hb7
      have BU13 : Below W1.heap.size W1 U13 := Below.on BU12 hb7
      clear hb7
      go_wp2
      refine hK.out _ _ ⟨⟨U13, BU13⟩, rfl⟩ ?_
      clear hK K
      refine pk_takes [5, 6, 7] 10 1 ⟨⟨U13, BU13⟩, rfl⟩ (by kernel_rfl) (fun _ _ _ _ _ h => (by cases h.1)) ?_
      repeat (refine wpTakes_l rfl (by first | (intro x h; cases h; done) | (intro x h; cases h; exact ⟨_, rfl⟩)) ?_; go_big_quiet_step (fail); refine wpQuiet_nil ?_)
      refine takes_nil ?_
      refine any_one (fuel := 0) (i := 9) (by kernel_rfl) rfl rfl ?_
      intro K hK
      have v0 := HXU13.out.c0
      have v1 := HXU13.out.c1
      have v2 := HXU13.out.c2
      have v3 := HXU13.out.c3
      have v4 := HXU13.out.c4
      have vf := HXU13.out.fz
      go_wp2
      have HNR := newRun_a (nm := an) (fr := af) (up := au) (ep := ae) BU13 HXU13.out leU10 HOU13.out
      refine hK.out _ _ ⟨⟨_, HNR.below⟩, rfl⟩ ?_
      clear hK K v0 v1 v2 v3 v4 vf
      refine any_done (by kernel_rfl) ?_
      simp only [List.drop_succ_cons, List.drop_zero]
      go_wp2
      first | refine ⟨rfl, ⟨U0.heap.size, g5, none, 0, ra7, rc7⟩, ?_, HNR⟩ | refine ⟨⟨U0.heap.size, g5, none, 0, ra7, rc7⟩, ?_, HNR⟩
      kernel_rfl
  clear Zq0 Zq1 Zq2 Zq3 Zq4 Zq5 Sq0 Sq1
  rintro ⟨Pw, gw9, bw9, cw9, wa, wc⟩ W2 hN
  simp only [putAll]
  dsimp only at hN
  have hb := hN.below
  have HBw : Hid (∀ k, (Value.slice wa al wc).ownBlock = some k → W1.heap.size ≤ k ∧ k < W2.heap.size) := fun k hk => hN.own.lt k hk
  have Vw2 : Hid (ownsR W2 w.heap.size 85 (.slice wa al wc) av) := hN.own.mono B1.size
  have Xw2 : R5 W2 Pw an af au ae (.slice wa al wc) := hN.box
  have ow : W1.heap.size ≤ Pw := hN.old
  clear hN
  have Z2 := Z1.on hb
  have S2 := S1.on hb
  have B2 := Below.on B1 hb
  have s2 : W1.heap.size ≤ W2.heap.size := hb.size
  clear Z1 S1 B1 hb
  have lw : Pw < W2.heap.size := Xw2.lt
  have Zc0 := Z2.c0
  have Zc1 := Z2.c1
  have Zc2 := Z2.c2
  have Zc3 := Z2.c3
  have Zc4 := Z2.c4
  have Zc5 := Z2.c5
  go_wp2_with fail
  refine (HTD.out _ B2).mono ?_
  rintro x W3 ⟨gd, rfl, hto, hb⟩
  clear Zc0 Zc1 Zc2 Zc3 Zc4 Zc5
  have HDO : Hid (TasksO W2.heap.size W3 (.slice (some ⟨gd, 0, none⟩) n n) ts) := hto
  clear hto
  have Z3 := Z2.on hb
  have S3 := S2.on hb
  have Vw3 : Hid (ownsR W3 w.heap.size 85 (.slice wa al wc) av) := Vw2.out.all hb
  have Xw3 := Xw2.on hb
  have B3 := Below.on B2 hb
  have s3 : W2.heap.size ≤ W3.heap.size := hb.size
  clear Z2 S2 Vw2 Xw2 B2 hb
  have D3 : Below W3.heap.size W3 W3 := Below.refl _ _
  obtain ⟨W4, hal4⟩ : ∃ V, W3.alloc (.cells #[.string nm, .string cr, .int .i64 fr, .int .i64 up, .bool cu, .slice (some ⟨gd, 0, none⟩) n n] 36) = V := ⟨_, rfl⟩
  have hb : Below W3.heap.size W3 W4 := by rw [← hal4]; exact ba (Below.refl _ _) _
  have Xn : P6 W4 W3.heap.size nm cr fr up cu (.slice (some ⟨gd, 0, none⟩) n n) := by rw [← hal4]; exact P6.new _ _ _ _ _ _ _
  have Z4 := Z3.on hb
  have S4 := S3.on hb
  have Vw4 : Hid (ownsR W4 w.heap.size 85 (.slice wa al wc) av) := Vw3.out.all hb
  have Xw4 := Xw3.on hb
  have D4 := Below.on D3 hb
  have B4 := Below.on B3 hb
  have s4 : W3.heap.size ≤ W4.heap.size := hb.size
  clear Z3 S3 Vw3 Xw3 D3 B3 hb
  have Xd4 := Xn
  clear Xn
  go_wp2_with fail
  have Xdq0 := Wd.cell Xd4.c0
  have Xdq1 := Wd.cell Xd4.c1
  have Xdq2 := Wd.cell Xd4.c2
  have Xdq3 := Wd.cell Xd4.c3
  have Xdq4 := Wd.cell Xd4.c4
  have Xdq5 := Wd.cell Xd4.c5
  have Sq0 := Wd.cell S4.c0
  have Sq1 := Wd.cell S4.c1
  have HTX : Hid (Tasks W4 (.slice (some ⟨gd, 0, none⟩) n n) ts) := HDO.out.tasks.below D4
  refine wp_puts (α := RunX) (fun x => [(32, .agg #[.string nm, .string cr, .int .i64 fr, .int .i64 up, .bool cu, .slice (some ⟨gd, 0, none⟩) n n]), (33, .agg #[.int .i64 sf, .int .i64 su]), (34, .agg #[.int .i64 sf, .int .i64 su]), (35, .tuple #[.agg #[.string an, .int .i64 af, .int .i64 au, .int .i64 ae, .slice x.ra al x.rc], .bool q]), (31, .tuple #[.agg #[.string an, .int .i64 af, .int .i64 au, .int .i64 ae, .slice x.ra al x.rc], .bool q]), (36, .agg #[.string an, .int .i64 af, .int .i64 au, .int .i64 ae, .slice x.ra al x.rc]), (37, .bool q), (9, .pointer (some ⟨x.X, 0, none⟩)), (10, .bool q)]) (fun x w' => NewRun W4 w' x.X an af au ae (.slice x.ra al x.rc) av) ?_ ?_
  · skip
    have hdr : Below W4.heap.size W4 W4.drew := (Below.refl _ _).drew
    refine wp_region_pick (fun w' => ∃ x : Wd W4, w' = x.at') [0, 1] 9 7 (by kernel_rfl) (by decide) (by decide) (by kernel_rfl) (fun _ _ _ _ _ h => (by cases h.1)) ⟨⟨W4.drew, hdr⟩, rfl⟩ ?_
    repeat (refine wpTakes_l rfl (by first | (intro x h; cases h; done) | (intro x h; cases h; exact ⟨_, rfl⟩)) ?_; go_big_quiet_step (fail); refine wpQuiet_nil ?_)
    refine takes_nil ?_
    clear Xdq0 Xdq1 Xdq2 Xdq3 Xdq4 Xdq5 Sq0 Sq1
    obtain ⟨U0, hU0⟩ : ∃ V, W4.drew = V := ⟨_, rfl⟩
    rw [hU0] at hdr
    rw [hU0]
    clear hU0
    have BU0 := hdr
    clear hdr
    have htU0 := HTX.out.below BU0
    refine pk_two (fuel := 6) (i := 2) (j := 7) (by kernel_rfl) rfl rfl rfl rfl ?_ ?_
    · skip
      intro K hK
      go_wp2_with fail
      refine (toSpn_any sf su _).mono ?_
      rintro x U1 ⟨rfl, hb6⟩
      have htU1 := htU0.below hb6
      have BU1 : Below W4.heap.size W4 U1 := Below.on BU0 hb6
      clear hb6
      go_wp2
      refine hK.out _ _ ⟨⟨U1, BU1⟩, rfl⟩ ?_
      clear hK K
      refine pk_two (fuel := 5) (i := 3) (j := 7) (by kernel_rfl) rfl rfl rfl rfl ?_ ?_
      · skip
        intro K hK
        go_wp2_with fail
        refine (HA.out _ _ (Below.on B4 BU1) htU1).mono ?_
        rintro x U2 ⟨ra7, rc7, rfl, ho7, hb7⟩
        have HOU2 : Hid (ownsR U2 W4.heap.size 85 (.slice ra7 al rc7) av) := ho7.mono BU1.size
        clear ho7
        have BU2 : Below W4.heap.size W4 U2 := Below.on BU1 hb7
        clear hb7
        go_wp2
        refine hK.out _ _ ⟨⟨U2, BU2⟩, rfl⟩ ?_
        clear hK K
        refine pk_takes [4, 5, 6] 9 2 ⟨⟨U2, BU2⟩, rfl⟩ (by kernel_rfl) (fun _ _ _ _ _ h => (by cases h.1)) ?_
        repeat (refine wpTakes_l rfl (by first | (intro x h; cases h; done) | (intro x h; cases h; exact ⟨_, rfl⟩)) ?_; go_big_quiet_step (fail); refine wpQuiet_nil ?_)
        refine takes_nil ?_
        refine any_one (fuel := 1) (i := 7) (by kernel_rfl) rfl rfl ?_
        intro K hK
        go_wp2
        obtain ⟨U3, hU3⟩ : ∃ V, U2.alloc (.cells #[.string ⟨#[]⟩, .int .i64 0, .int .i64 0, .int .i64 0, .slice none 0 0] 31) = V := ⟨_, rfl⟩
        have hb8 : Below U2.heap.size U2 U3 := by rw [← hU3]; exact ba (Below.refl _ _) _
        have BU3 : Below W4.heap.size W4 U3 := Below.on BU2 hb8
        have HXU3 : Hid (R5 U3 U2.heap.size ⟨#[]⟩ 0 0 0 (.slice none 0 0)) := by show R5 _ _ _ _ _ _ _; rw [← hU3]; exact R5.new _ _ _ _ _ _
        have leU3 : W4.heap.size ≤ U2.heap.size := BU2.size
        have HOU3 : Hid (ownsR U3 W4.heap.size 85 (.slice ra7 al rc7) av) := HOU2.out.all hb8
        first | rw [hU3] | rw [show _ = U3 from hU3]
        clear hU3 hb8
        refine hK.out _ _ ⟨⟨U3, BU3⟩, rfl⟩ ?_
        clear hK K
        refine any_one (fuel := 0) (i := 8) (by kernel_rfl) rfl rfl ?_
        intro K hK
        have v0 := HXU3.out.c0
        have v1 := HXU3.out.c1
        have v2 := HXU3.out.c2
        have v3 := HXU3.out.c3
        have v4 := HXU3.out.c4
        have vf := HXU3.out.fz
        go_wp2
        have HNR := newRun_a (nm := an) (fr := af) (up := au) (ep := ae) BU3 HXU3.out leU3 HOU3.out
        refine hK.out _ _ ⟨⟨_, HNR.below⟩, rfl⟩ ?_
        clear hK K v0 v1 v2 v3 v4 vf
        refine any_done (by kernel_rfl) ?_
        simp only [List.drop_succ_cons, List.drop_zero]
        go_wp2
        first | refine ⟨rfl, ⟨U2.heap.size, 0, none, 0, ra7, rc7⟩, ?_, HNR⟩ | refine ⟨⟨U2.heap.size, 0, none, 0, ra7, rc7⟩, ?_, HNR⟩
        kernel_rfl
      · skip
        intro K hK
        go_wp2
        obtain ⟨U4, hU4⟩ : ∃ V, U1.alloc (.cells #[.string ⟨#[]⟩, .int .i64 0, .int .i64 0, .int .i64 0, .slice none 0 0] 31) = V := ⟨_, rfl⟩
        have hb8 : Below U1.heap.size U1 U4 := by rw [← hU4]; exact ba (Below.refl _ _) _
        have BU4 : Below W4.heap.size W4 U4 := Below.on BU1 hb8
        have HXU4 : Hid (R5 U4 U1.heap.size ⟨#[]⟩ 0 0 0 (.slice none 0 0)) := by show R5 _ _ _ _ _ _ _; rw [← hU4]; exact R5.new _ _ _ _ _ _
        have leU4 : W4.heap.size ≤ U1.heap.size := BU1.size
        have htU4 := htU1.below hb8
        first | rw [hU4] | rw [show _ = U4 from hU4]
        clear hU4 hb8
        refine hK.out _ _ ⟨⟨U4, BU4⟩, rfl⟩ ?_
        clear hK K
        refine any_one (fuel := 4) (i := 3) (by kernel_rfl) rfl rfl ?_
        intro K hK
        go_wp2_with fail
        refine (HA.out _ _ (Below.on B4 BU4) htU4).mono ?_
        rintro x U5 ⟨ra7, rc7, rfl, ho7, hb7⟩
        have HOU5 : Hid (ownsR U5 W4.heap.size 85 (.slice ra7 al rc7) av) := ho7.mono BU4.size
        clear ho7
        have HXU5 : Hid (R5 U5 U1.heap.size ⟨#[]⟩ 0 0 0 (.slice none 0 0)) := HXU4.out.on hb7
        have BU5 : Below W4.heap.size W4 U5 := Below.on BU4 hb7
        clear hb7
        go_wp2
        refine hK.out _ _ ⟨⟨U5, BU5⟩, rfl⟩ ?_
        clear hK K
        refine pk_takes [4, 5, 6] 9 1 ⟨⟨U5, BU5⟩, rfl⟩ (by kernel_rfl) (fun _ _ _ _ _ h => (by cases h.1)) ?_
        repeat (refine wpTakes_l rfl (by first | (intro x h; cases h; done) | (intro x h; cases h; exact ⟨_, rfl⟩)) ?_; go_big_quiet_step (fail); refine wpQuiet_nil ?_)
        refine takes_nil ?_
        refine any_one (fuel := 0) (i := 8) (by kernel_rfl) rfl rfl ?_
        intro K hK
        have v0 := HXU5.out.c0
        have v1 := HXU5.out.c1
        have v2 := HXU5.out.c2
        have v3 := HXU5.out.c3
        have v4 := HXU5.out.c4
        have vf := HXU5.out.fz
        go_wp2
        have HNR := newRun_a (nm := an) (fr := af) (up := au) (ep := ae) BU5 HXU5.out leU4 HOU5.out
        refine hK.out _ _ ⟨⟨_, HNR.below⟩, rfl⟩ ?_
        clear hK K v0 v1 v2 v3 v4 vf
        refine any_done (by kernel_rfl) ?_
        simp only [List.drop_succ_cons, List.drop_zero]
        go_wp2
        first | refine ⟨rfl, ⟨U1.heap.size, 0, none, 0, ra7, rc7⟩, ?_, HNR⟩ | refine ⟨⟨U1.heap.size, 0, none, 0, ra7, rc7⟩, ?_, HNR⟩
        kernel_rfl
    · skip
      intro K hK
      go_wp2
      obtain ⟨U6, hU6⟩ : ∃ V, U0.alloc (.cells #[.string ⟨#[]⟩, .int .i64 0, .int .i64 0, .int .i64 0, .slice none 0 0] 31) = V := ⟨_, rfl⟩
      have hb8 : Below U0.heap.size U0 U6 := by rw [← hU6]; exact ba (Below.refl _ _) _
      have BU6 : Below W4.heap.size W4 U6 := Below.on BU0 hb8
      have HXU6 : Hid (R5 U6 U0.heap.size ⟨#[]⟩ 0 0 0 (.slice none 0 0)) := by show R5 _ _ _ _ _ _ _; rw [← hU6]; exact R5.new _ _ _ _ _ _
      have leU6 : W4.heap.size ≤ U0.heap.size := BU0.size
      have htU6 := htU0.below hb8
      first | rw [hU6] | rw [show _ = U6 from hU6]
      clear hU6 hb8
      refine hK.out _ _ ⟨⟨U6, BU6⟩, rfl⟩ ?_
      clear hK K
      refine any_one (fuel := 5) (i := 2) (by kernel_rfl) rfl rfl ?_
      intro K hK
      go_wp2_with fail
      refine (toSpn_any sf su _).mono ?_
      rintro x U7 ⟨rfl, hb6⟩
      have htU7 := htU6.below hb6
      have HXU7 : Hid (R5 U7 U0.heap.size ⟨#[]⟩ 0 0 0 (.slice none 0 0)) := HXU6.out.on hb6
      have BU7 : Below W4.heap.size W4 U7 := Below.on BU6 hb6
      clear hb6
      go_wp2
      refine hK.out _ _ ⟨⟨U7, BU7⟩, rfl⟩ ?_
      clear hK K
      refine any_one (fuel := 4) (i := 3) (by kernel_rfl) rfl rfl ?_
      intro K hK
      go_wp2_with fail
      refine (HA.out _ _ (Below.on B4 BU7) htU7).mono ?_
      rintro x U8 ⟨ra7, rc7, rfl, ho7, hb7⟩
      have HOU8 : Hid (ownsR U8 W4.heap.size 85 (.slice ra7 al rc7) av) := ho7.mono BU7.size
      clear ho7
      have HXU8 : Hid (R5 U8 U0.heap.size ⟨#[]⟩ 0 0 0 (.slice none 0 0)) := HXU7.out.on hb7
      have BU8 : Below W4.heap.size W4 U8 := Below.on BU7 hb7
      clear hb7
      go_wp2
      refine hK.out _ _ ⟨⟨U8, BU8⟩, rfl⟩ ?_
      clear hK K
      refine pk_takes [4, 5, 6] 9 1 ⟨⟨U8, BU8⟩, rfl⟩ (by kernel_rfl) (fun _ _ _ _ _ h => (by cases h.1)) ?_
      repeat (refine wpTakes_l rfl (by first | (intro x h; cases h; done) | (intro x h; cases h; exact ⟨_, rfl⟩)) ?_; go_big_quiet_step (fail); refine wpQuiet_nil ?_)
      refine takes_nil ?_
      refine any_one (fuel := 0) (i := 8) (by kernel_rfl) rfl rfl ?_
      intro K hK
      have v0 := HXU8.out.c0
      have v1 := HXU8.out.c1
      have v2 := HXU8.out.c2
      have v3 := HXU8.out.c3
      have v4 := HXU8.out.c4
      have vf := HXU8.out.fz
      go_wp2
      have HNR := newRun_a (nm := an) (fr := af) (up := au) (ep := ae) BU8 HXU8.out leU6 HOU8.out
      refine hK.out _ _ ⟨⟨_, HNR.below⟩, rfl⟩ ?_
      clear hK K v0 v1 v2 v3 v4 vf
      refine any_done (by kernel_rfl) ?_
      simp only [List.drop_succ_cons, List.drop_zero]
      go_wp2
      first | refine ⟨rfl, ⟨U0.heap.size, 0, none, 0, ra7, rc7⟩, ?_, HNR⟩ | refine ⟨⟨U0.heap.size, 0, none, 0, ra7, rc7⟩, ?_, HNR⟩
      kernel_rfl
  clear Xdq0 Xdq1 Xdq2 Xdq3 Xdq4 Xdq5 Sq0 Sq1
  clear HTX
  rintro ⟨Pg, gg9, bg9, cg9, ga, gc⟩ W5 hN
  simp only [putAll]
  dsimp only at hN
  have hb := hN.below
  have HBg : Hid (∀ k, (Value.slice ga al gc).ownBlock = some k → W4.heap.size ≤ k ∧ k < W5.heap.size) := fun k hk => hN.own.lt k hk
  have Vg5 : Hid (ownsR W5 w.heap.size 85 (.slice ga al gc) av) := hN.own.mono B4.size
  have Xg5 : R5 W5 Pg an af au ae (.slice ga al gc) := hN.box
  have og : W4.heap.size ≤ Pg := hN.old
  clear hN
  clear hal4
  have Z5 := Z4.on hb
  have S5 := S4.on hb
  have Vw5 : Hid (ownsR W5 w.heap.size 85 (.slice wa al wc) av) := Vw4.out.all hb
  have Xw5 := Xw4.on hb
  have D5 := Below.on D4 hb
  have Xd5 := Xd4.on hb
  have B5 := Below.on B4 hb
  have s5 : W4.heap.size ≤ W5.heap.size := hb.size
  clear Z4 S4 Vw4 Xw4 D4 Xd4 B4 hb
  have lg : Pg < W5.heap.size := Xg5.lt
  have lgg : Pg < W5.heap.size := Xg5.lt
  have Xgc0 := Xg5.c0
  have Xgc1 := Xg5.c1
  have Xgc2 := Xg5.c2
  have Xgc3 := Xg5.c3
  have Xgc4 := Xg5.c4
  have Xwc0 := Xw5.c0
  have Xwc1 := Xw5.c1
  have Xwc2 := Xw5.c2
  have Xwc3 := Xw5.c3
  have Xwc4 := Xw5.c4
  go_wp2_with fail
  refine (eqRun_any ga wa al gc wc an af au ae av W5 Vg5.out.reads Vw5.out.reads hal).mono ?_
  rintro x W6 ⟨rfl, hb⟩
  clear Xgc0 Xgc1 Xgc2 Xgc3 Xgc4 Xwc0 Xwc1 Xwc2 Xwc3 Xwc4
  have Z6 := Z5.on hb
  have S6 := S5.on hb
  have Vw6 : Hid (ownsR W6 w.heap.size 85 (.slice wa al wc) av) := Vw5.out.all hb
  have Xw6 := Xw5.on hb
  have D6 := Below.on D5 hb
  have Xd6 := Xd5.on hb
  have Vg6 : Hid (ownsR W6 w.heap.size 85 (.slice ga al gc) av) := Vg5.out.all hb
  have Xg6 := Xg5.on hb
  have B6 := Below.on B5 hb
  have s6 : W5.heap.size ≤ W6.heap.size := hb.size
  clear Z5 S5 Vw5 Xw5 D5 Xd5 Vg5 Xg5 B5 hb
  have Zk0 := Below.cellOf (B := W6.heap.size) (W := W6) (p := ⟨w.heap.size, 0, none⟩) Z6.lt Z6.c0
  have Zk1 := Below.cellOf (B := W6.heap.size) (W := W6) (p := ⟨w.heap.size, 1, none⟩) Z6.lt Z6.c1
  have Zk2 := Below.cellOf (B := W6.heap.size) (W := W6) (p := ⟨w.heap.size, 2, none⟩) Z6.lt Z6.c2
  have Zk3 := Below.cellOf (B := W6.heap.size) (W := W6) (p := ⟨w.heap.size, 3, none⟩) Z6.lt Z6.c3
  have Zk4 := Below.cellOf (B := W6.heap.size) (W := W6) (p := ⟨w.heap.size, 4, none⟩) Z6.lt Z6.c4
  have Zk5 := Below.cellOf (B := W6.heap.size) (W := W6) (p := ⟨w.heap.size, 5, none⟩) Z6.lt Z6.c5
  have Xdk0 := Below.cellOf (B := W6.heap.size) (W := W6) (p := ⟨W3.heap.size, 0, none⟩) Xd6.lt Xd6.c0
  have Xdk1 := Below.cellOf (B := W6.heap.size) (W := W6) (p := ⟨W3.heap.size, 1, none⟩) Xd6.lt Xd6.c1
  have Xdk2 := Below.cellOf (B := W6.heap.size) (W := W6) (p := ⟨W3.heap.size, 2, none⟩) Xd6.lt Xd6.c2
  have Xdk3 := Below.cellOf (B := W6.heap.size) (W := W6) (p := ⟨W3.heap.size, 3, none⟩) Xd6.lt Xd6.c3
  have Xdk4 := Below.cellOf (B := W6.heap.size) (W := W6) (p := ⟨W3.heap.size, 4, none⟩) Xd6.lt Xd6.c4
  have Xdk5 := Below.cellOf (B := W6.heap.size) (W := W6) (p := ⟨W3.heap.size, 5, none⟩) Xd6.lt Xd6.c5
  have HT6 : Hid (Tasks W6 (.slice (some ⟨gd, 0, none⟩) n n) ts) := HDO.out.tasks.below D6
  go_wp2_with fail
  go_region_held3 (fun w' => Below W6.heap.size W6 w') ((first | exact (Below.refl _ _).drew | exact hS6 | exact hS7)) ((first | (go_at_call 11; refine (HTD.out _ (Below.on B6 (by assumption))).mono ?_; rintro x wq ⟨g6, rfl, ht6, hb6⟩; have hS6 := keep_on (B := W6.heap.size) (W := W6) hb6 (by assumption) (Nat.le_refl _)) | (go_at_call 15; refine (eqD_any _ _ _ _ _ _ _ _ _ _ ts _ (HT6.out.below hS6) ht6.tasks (Nat.le_succ_of_le hn) (fun t ht => Nat.le_succ_of_le (HK1.out t ht))).mono ?_; rintro x W7 ⟨rfl, hb7⟩; have hS7 := keep_on (B := W6.heap.size) (W := W6) hb7 hS6 (Nat.le_refl _))))
  have hb := hS7
  clear ht6 hb6 hb7 hS6 hS7 HT6 Zk0 Zk1 Zk2 Zk3 Zk4 Zk5 Xdk0 Xdk1 Xdk2 Xdk3 Xdk4 Xdk5
  have Z7 := Z6.on hb
  have S7 := S6.on hb
  have Vw7 : Hid (ownsR W7 w.heap.size 85 (.slice wa al wc) av) := Vw6.out.all hb
  have Xw7 := Xw6.on hb
  have D7 := Below.on D6 hb
  have Xd7 := Xd6.on hb
  have Vg7 : Hid (ownsR W7 w.heap.size 85 (.slice ga al gc) av) := Vg6.out.all hb
  have Xg7 := Xg6.on hb
  have B7 := Below.on B6 hb
  have s7 : W6.heap.size ≤ W7.heap.size := hb.size
  clear Z6 S6 Vw6 Xw6 D6 Xd6 Vg6 Xg6 B6 hb
  have HM : Hid (Calls Tryz.prog 16 #[.agg #[.string nm, .string cr, .int .i64 fr, .int .i64 up, .bool cu, .slice (some ⟨gd, 0, none⟩) n n], .int .i64 1] W7 fun e w' => ∃ y : Int, e = .returned (.int .i64 y) ∧ 1 ≤ y ∧ y ≤ 4000000000000000 ∧ Twx W2.heap.size W3.heap.size W7 w') := markD_any nm cr fr up cu HDO.out HN.out hn HK1.out rfl D7
  have Xdc0 := Xd7.c0
  have Xdc1 := Xd7.c1
  have Xdc2 := Xd7.c2
  have Xdc3 := Xd7.c3
  have Xdc4 := Xd7.c4
  have Xdc5 := Xd7.c5
  go_wp2_with fail
  refine HM.out.mono ?_
  rintro x W8 ⟨y, rfl, hy1, hy2, htw⟩
  clear Xdc0 Xdc1 Xdc2 Xdc3 Xdc4 Xdc5
  have Z8 := Z7.twx htw (by have h9 := Z7.lt; omega)
  have S8 := S7.twx htw (by have h9 := S7.lt; omega)
  have Vw8 : Hid (ownsR W8 w.heap.size 85 (.slice wa al wc) av) := own_keep Vw7.out fun k hk => htw.block k (Vw7.out.lt k hk).2 (by have h1 := HBw.out k hk; omega)
  have Xw8 := Xw7.twx htw (by have h9 := Xw7.lt; omega)
  have Vg8 : Hid (ownsR W8 w.heap.size 85 (.slice ga al gc) av) := own_keep Vg7.out fun k hk => htw.block k (Vg7.out.lt k hk).2 (by have h1 := HBg.out k hk; omega)
  have Xg8 := Xg7.twx htw (by have h9 := Xg7.lt; omega)
  have B8 : Below w.heap.size w W8 := B7.trans ((htw.below (by omega)).mono (by omega))
  have s8 : W7.heap.size ≤ W8.heap.size := htw.size
  clear Z7 S7 Vw7 Xw7 D7 Xd7 Vg7 Xg7 B7 htw HM
  have hk0 : decide (y < 0) = false := decide_eq_false (by omega)
  have Xgc0 := Xg8.c0
  have Xgc1 := Xg8.c1
  have Xgc2 := Xg8.c2
  have Xgc3 := Xg8.c3
  have Xgc4 := Xg8.c4
  have Xwc0 := Xw8.c0
  have Xwc1 := Xw8.c1
  have Xwc2 := Xw8.c2
  have Xwc3 := Xw8.c3
  have Xwc4 := Xw8.c4
  go_wp2_with fail
  refine (eqRun_any ga wa al gc wc an af au ae av W8 Vg8.out.reads Vw8.out.reads hal).mono ?_
  rintro x W9 ⟨rfl, hb⟩
  clear Xgc0 Xgc1 Xgc2 Xgc3 Xgc4 Xwc0 Xwc1 Xwc2 Xwc3 Xwc4
  have Z9 := Z8.on hb
  have S9 := S8.on hb
  have Vw9 : Hid (ownsR W9 w.heap.size 85 (.slice wa al wc) av) := Vw8.out.all hb
  have Xw9 := Xw8.on hb
  have Vg9 : Hid (ownsR W9 w.heap.size 85 (.slice ga al gc) av) := Vg8.out.all hb
  have Xg9 := Xg8.on hb
  have B9 := Below.on B8 hb
  have s9 : W8.heap.size ≤ W9.heap.size := hb.size
  clear Z8 S8 Vw8 Xw8 Vg8 Xg8 B8 hb
  have HM : Hid (Calls Tryz.prog 17 #[.agg #[.string an, .int .i64 af, .int .i64 au, .int .i64 ae, (.slice ga al gc)], .int .i64 1] W9 fun e w' => e = .returned (.int .i64 (1 + 4 * (al : Int))) ∧ ownsR w' w.heap.size 85 (.slice ga al gc) (marksSa 1 al) ∧ W9.grownBy w' (Value.slice ga al gc).ownBlock) := by
    have := markRun_any (x := 1) an af au ae Vg9.out (by rw [HLE.out]; exact hal) (by omega) (by omega)
    rw [HLE.out] at this
    exact this
  have Xgc0 := Xg9.c0
  have Xgc1 := Xg9.c1
  have Xgc2 := Xg9.c2
  have Xgc3 := Xg9.c3
  have Xgc4 := Xg9.c4
  go_wp2_with fail
  refine HM.out.mono ?_
  rintro x W10 ⟨rfl, ho, hgr⟩
  clear Xgc0 Xgc1 Xgc2 Xgc3 Xgc4
  have Z10 := Z9.grown hgr (fun e => by have h1 := HBg.out _ e.symm; omega)
  have S10 := S9.grown hgr (fun e => by have h1 := HBg.out _ e.symm; omega)
  have Vw10 : Hid (ownsR W10 w.heap.size 85 (.slice wa al wc) av) := own_keep Vw9.out fun k hk => hgr.block k (Vw9.out.lt k hk).2 fun e => by
    have h1 := HBw.out k hk
    have h2 := HBg.out k e.symm
    omega
  have Xw10 := Xw9.grown hgr (fun e => not_rowR5 Xw9 Vg9.out e.symm)
  have Vg10 : Hid (ownsR W10 w.heap.size 85 (.slice ga al gc) (marksSa 1 al)) := ho
  have Xg10 := Xg9.grown hgr (fun e => not_rowR5 Xg9 Vg9.out e.symm)
  have B10 : Below w.heap.size w W10 := B9.grown hgr B9.size fun k hk => (Vg9.out.lt k hk).1
  have s10 : W9.heap.size ≤ W10.heap.size := hgr.size
  clear Z9 S9 Vw9 Xw9 Vg9 Xg9 B9 ho hgr HM
  have hk1 : decide ((1 : Int) + 4 * (al : Int) < 0) = false := decide_eq_false (by omega)
  have HH := heldRun_any ga al gc an af au ae 1 W10 Vg10.out.reads hal (by decide) (by decide)
  have Xgc0 := Xg10.c0
  have Xgc1 := Xg10.c1
  have Xgc2 := Xg10.c2
  have Xgc3 := Xg10.c3
  have Xgc4 := Xg10.c4
  go_wp2_with fail
  refine (HH).mono ?_
  rintro x W11 ⟨rfl, hb⟩
  clear Xgc0 Xgc1 Xgc2 Xgc3 Xgc4
  have Z11 := Z10.on hb
  have S11 := S10.on hb
  have Vw11 : Hid (ownsR W11 w.heap.size 85 (.slice wa al wc) av) := Vw10.out.all hb
  have Xw11 := Xw10.on hb
  have Vg11 : Hid (ownsR W11 w.heap.size 85 (.slice ga al gc) (marksSa 1 al)) := Vg10.out.all hb
  have Xg11 := Xg10.on hb
  have B11 := Below.on B10 hb
  have s11 : W10.heap.size ≤ W11.heap.size := hb.size
  clear Z10 S10 Vw10 Xw10 Vg10 Xg10 B10 hb
  clear HH
  go_wp2_with fail
  have Zq0 := Wd.cell Z11.c0
  have Zq1 := Wd.cell Z11.c1
  have Zq2 := Wd.cell Z11.c2
  have Zq3 := Wd.cell Z11.c3
  have Zq4 := Wd.cell Z11.c4
  have Zq5 := Wd.cell Z11.c5
  have Sq0 := Wd.cell S11.c0
  have Sq1 := Wd.cell S11.c1
  refine wp_puts (α := RunX) (fun x => [(80, .agg #[.string nm, .string cr, .int .i64 fr, .int .i64 up, .bool cu, .slice ao n cap]), (81, .agg #[.string nm, .string cr, .int .i64 fr, .int .i64 up, .bool cu, .slice (some ⟨x.g, 0, none⟩) n n]), (82, .agg #[.int .i64 sf, .int .i64 su]), (83, .agg #[.int .i64 sf, .int .i64 su]), (84, .tuple #[.agg #[.string an, .int .i64 af, .int .i64 au, .int .i64 ae, .slice x.ra al x.rc], .bool q]), (79, .tuple #[.agg #[.string an, .int .i64 af, .int .i64 au, .int .i64 ae, .slice x.ra al x.rc], .bool q]), (85, .agg #[.string an, .int .i64 af, .int .i64 au, .int .i64 ae, .slice x.ra al x.rc]), (86, .bool q), (14, .pointer (some ⟨x.X, 0, none⟩)), (15, .bool q)]) (fun x w' => NewRun W11 w' x.X an af au ae (.slice x.ra al x.rc) av) ?_ ?_
  · skip
    have hdr : Below W11.heap.size W11 W11.drew := (Below.refl _ _).drew
    refine wp_region_pick (fun w' => ∃ x : Wd W11, w' = x.at') [0, 2] 10 8 (by kernel_rfl) (by decide) (by decide) (by kernel_rfl) (fun _ _ _ _ _ h => (by cases h.1)) ⟨⟨W11.drew, hdr⟩, rfl⟩ ?_
    repeat (refine wpTakes_l rfl (by first | (intro x h; cases h; done) | (intro x h; cases h; exact ⟨_, rfl⟩)) ?_; go_big_quiet_step (fail); refine wpQuiet_nil ?_)
    refine takes_nil ?_
    clear Zq0 Zq1 Zq2 Zq3 Zq4 Zq5 Sq0 Sq1
    obtain ⟨U0, hU0⟩ : ∃ V, W11.drew = V := ⟨_, rfl⟩
    rw [hU0] at hdr
    rw [hU0]
    clear hU0
    have BU0 := hdr
    clear hdr
    refine pk_two (fuel := 7) (i := 1) (j := 8) (by kernel_rfl) rfl rfl rfl rfl ?_ ?_
    · skip
      intro K hK
      go_wp2_with fail
      refine (HTD.out _ (Below.on B11 BU0)).mono ?_
      rintro x U1 ⟨g5, rfl, hto5, hb5⟩
      have htU1 := hto5.tasks
      clear hto5
      have BU1 : Below W11.heap.size W11 U1 := Below.on BU0 hb5
      clear hb5
      go_wp2
      refine hK.out _ _ ⟨⟨U1, BU1⟩, rfl⟩ ?_
      clear hK K
      refine pk_two (fuel := 6) (i := 3) (j := 8) (by kernel_rfl) rfl rfl rfl rfl ?_ ?_
      · skip
        intro K hK
        go_wp2_with fail
        refine (toSpn_any sf su _).mono ?_
        rintro x U2 ⟨rfl, hb6⟩
        have htU2 := htU1.below hb6
        have BU2 : Below W11.heap.size W11 U2 := Below.on BU1 hb6
        clear hb6
        go_wp2
        refine hK.out _ _ ⟨⟨U2, BU2⟩, rfl⟩ ?_
        clear hK K
        refine pk_two (fuel := 5) (i := 4) (j := 8) (by kernel_rfl) rfl rfl rfl rfl ?_ ?_
        · skip
          intro K hK
          go_wp2_with fail
          refine (HA.out _ _ (Below.on B11 BU2) htU2).mono ?_
          rintro x U3 ⟨ra7, rc7, rfl, ho7, hb7⟩
          have HOU3 : Hid (ownsR U3 W11.heap.size 85 (.slice ra7 al rc7) av) := ho7.mono BU2.size
          clear ho7
          have BU3 : Below W11.heap.size W11 U3 := Below.on BU2 hb7
          clear hb7
          go_wp2
          refine hK.out _ _ ⟨⟨U3, BU3⟩, rfl⟩ ?_
          clear hK K
          refine pk_takes [5, 6, 7] 10 2 ⟨⟨U3, BU3⟩, rfl⟩ (by kernel_rfl) (fun _ _ _ _ _ h => (by cases h.1)) ?_
          repeat (refine wpTakes_l rfl (by first | (intro x h; cases h; done) | (intro x h; cases h; exact ⟨_, rfl⟩)) ?_; go_big_quiet_step (fail); refine wpQuiet_nil ?_)
          refine takes_nil ?_
          refine any_one (fuel := 1) (i := 8) (by kernel_rfl) rfl rfl ?_
          intro K hK
          go_wp2
          obtain ⟨U4, hU4⟩ : ∃ V, U3.alloc (.cells #[.string ⟨#[]⟩, .int .i64 0, .int .i64 0, .int .i64 0, .slice none 0 0] 31) = V := ⟨_, rfl⟩
          have hb8 : Below U3.heap.size U3 U4 := by rw [← hU4]; exact ba (Below.refl _ _) _
          have BU4 : Below W11.heap.size W11 U4 := Below.on BU3 hb8
          have HXU4 : Hid (R5 U4 U3.heap.size ⟨#[]⟩ 0 0 0 (.slice none 0 0)) := by show R5 _ _ _ _ _ _ _; rw [← hU4]; exact R5.new _ _ _ _ _ _
          have leU4 : W11.heap.size ≤ U3.heap.size := BU3.size
          have HOU4 : Hid (ownsR U4 W11.heap.size 85 (.slice ra7 al rc7) av) := HOU3.out.all hb8
          first | rw [hU4] | rw [show _ = U4 from hU4]
          clear hU4 hb8
          refine hK.out _ _ ⟨⟨U4, BU4⟩, rfl⟩ ?_
          clear hK K
          refine any_one (fuel := 0) (i := 9) (by kernel_rfl) rfl rfl ?_
          intro K hK
          have v0 := HXU4.out.c0
          have v1 := HXU4.out.c1
          have v2 := HXU4.out.c2
          have v3 := HXU4.out.c3
          have v4 := HXU4.out.c4
          have vf := HXU4.out.fz
          go_wp2
          have HNR := newRun_a (nm := an) (fr := af) (up := au) (ep := ae) BU4 HXU4.out leU4 HOU4.out
          refine hK.out _ _ ⟨⟨_, HNR.below⟩, rfl⟩ ?_
          clear hK K v0 v1 v2 v3 v4 vf
          refine any_done (by kernel_rfl) ?_
          simp only [List.drop_succ_cons, List.drop_zero]
          go_wp2
          first | refine ⟨rfl, ⟨U3.heap.size, g5, none, 0, ra7, rc7⟩, ?_, HNR⟩ | refine ⟨⟨U3.heap.size, g5, none, 0, ra7, rc7⟩, ?_, HNR⟩
          kernel_rfl
        · skip
          intro K hK
          go_wp2
          obtain ⟨U5, hU5⟩ : ∃ V, U2.alloc (.cells #[.string ⟨#[]⟩, .int .i64 0, .int .i64 0, .int .i64 0, .slice none 0 0] 31) = V := ⟨_, rfl⟩
          have hb8 : Below U2.heap.size U2 U5 := by rw [← hU5]; exact ba (Below.refl _ _) _
          have BU5 : Below W11.heap.size W11 U5 := Below.on BU2 hb8
          have HXU5 : Hid (R5 U5 U2.heap.size ⟨#[]⟩ 0 0 0 (.slice none 0 0)) := by show R5 _ _ _ _ _ _ _; rw [← hU5]; exact R5.new _ _ _ _ _ _
          have leU5 : W11.heap.size ≤ U2.heap.size := BU2.size
          have htU5 := htU2.below hb8
          first | rw [hU5] | rw [show _ = U5 from hU5]
          clear hU5 hb8
          refine hK.out _ _ ⟨⟨U5, BU5⟩, rfl⟩ ?_
          clear hK K
          refine any_one (fuel := 4) (i := 4) (by kernel_rfl) rfl rfl ?_
          intro K hK
          go_wp2_with fail
          refine (HA.out _ _ (Below.on B11 BU5) htU5).mono ?_
          rintro x U6 ⟨ra7, rc7, rfl, ho7, hb7⟩
          have HOU6 : Hid (ownsR U6 W11.heap.size 85 (.slice ra7 al rc7) av) := ho7.mono BU5.size
          clear ho7
          have HXU6 : Hid (R5 U6 U2.heap.size ⟨#[]⟩ 0 0 0 (.slice none 0 0)) := HXU5.out.on hb7
          have BU6 : Below W11.heap.size W11 U6 := Below.on BU5 hb7
          clear hb7
          go_wp2
          refine hK.out _ _ ⟨⟨U6, BU6⟩, rfl⟩ ?_
          clear hK K
          refine pk_takes [5, 6, 7] 10 1 ⟨⟨U6, BU6⟩, rfl⟩ (by kernel_rfl) (fun _ _ _ _ _ h => (by cases h.1)) ?_
          repeat (refine wpTakes_l rfl (by first | (intro x h; cases h; done) | (intro x h; cases h; exact ⟨_, rfl⟩)) ?_; go_big_quiet_step (fail); refine wpQuiet_nil ?_)
          refine takes_nil ?_
          refine any_one (fuel := 0) (i := 9) (by kernel_rfl) rfl rfl ?_
          intro K hK
          have v0 := HXU6.out.c0
          have v1 := HXU6.out.c1
          have v2 := HXU6.out.c2
          have v3 := HXU6.out.c3
          have v4 := HXU6.out.c4
          have vf := HXU6.out.fz
          go_wp2
          have HNR := newRun_a (nm := an) (fr := af) (up := au) (ep := ae) BU6 HXU6.out leU5 HOU6.out
          refine hK.out _ _ ⟨⟨_, HNR.below⟩, rfl⟩ ?_
          clear hK K v0 v1 v2 v3 v4 vf
          refine any_done (by kernel_rfl) ?_
          simp only [List.drop_succ_cons, List.drop_zero]
          go_wp2
          first | refine ⟨rfl, ⟨U2.heap.size, g5, none, 0, ra7, rc7⟩, ?_, HNR⟩ | refine ⟨⟨U2.heap.size, g5, none, 0, ra7, rc7⟩, ?_, HNR⟩
          kernel_rfl
      · skip
        intro K hK
        go_wp2
        obtain ⟨U7, hU7⟩ : ∃ V, U1.alloc (.cells #[.string ⟨#[]⟩, .int .i64 0, .int .i64 0, .int .i64 0, .slice none 0 0] 31) = V := ⟨_, rfl⟩
        have hb8 : Below U1.heap.size U1 U7 := by rw [← hU7]; exact ba (Below.refl _ _) _
        have BU7 : Below W11.heap.size W11 U7 := Below.on BU1 hb8
        have HXU7 : Hid (R5 U7 U1.heap.size ⟨#[]⟩ 0 0 0 (.slice none 0 0)) := by show R5 _ _ _ _ _ _ _; rw [← hU7]; exact R5.new _ _ _ _ _ _
        have leU7 : W11.heap.size ≤ U1.heap.size := BU1.size
        have htU7 := htU1.below hb8
        first | rw [hU7] | rw [show _ = U7 from hU7]
        clear hU7 hb8
        refine hK.out _ _ ⟨⟨U7, BU7⟩, rfl⟩ ?_
        clear hK K
        refine any_one (fuel := 5) (i := 3) (by kernel_rfl) rfl rfl ?_
        intro K hK
        go_wp2_with fail
        refine (toSpn_any sf su _).mono ?_
        rintro x U8 ⟨rfl, hb6⟩
        have htU8 := htU7.below hb6
        have HXU8 : Hid (R5 U8 U1.heap.size ⟨#[]⟩ 0 0 0 (.slice none 0 0)) := HXU7.out.on hb6
        have BU8 : Below W11.heap.size W11 U8 := Below.on BU7 hb6
        clear hb6
        go_wp2
        refine hK.out _ _ ⟨⟨U8, BU8⟩, rfl⟩ ?_
        clear hK K
        refine any_one (fuel := 4) (i := 4) (by kernel_rfl) rfl rfl ?_
        intro K hK
        go_wp2_with fail
        refine (HA.out _ _ (Below.on B11 BU8) htU8).mono ?_
        rintro x U9 ⟨ra7, rc7, rfl, ho7, hb7⟩
        have HOU9 : Hid (ownsR U9 W11.heap.size 85 (.slice ra7 al rc7) av) := ho7.mono BU8.size
        clear ho7
        have HXU9 : Hid (R5 U9 U1.heap.size ⟨#[]⟩ 0 0 0 (.slice none 0 0)) := HXU8.out.on hb7
        have BU9 : Below W11.heap.size W11 U9 := Below.on BU8 hb7
        clear hb7
        go_wp2
        refine hK.out _ _ ⟨⟨U9, BU9⟩, rfl⟩ ?_
        clear hK K
        refine pk_takes [5, 6, 7] 10 1 ⟨⟨U9, BU9⟩, rfl⟩ (by kernel_rfl) (fun _ _ _ _ _ h => (by cases h.1)) ?_
        repeat (refine wpTakes_l rfl (by first | (intro x h; cases h; done) | (intro x h; cases h; exact ⟨_, rfl⟩)) ?_; go_big_quiet_step (fail); refine wpQuiet_nil ?_)
        refine takes_nil ?_
        refine any_one (fuel := 0) (i := 9) (by kernel_rfl) rfl rfl ?_
        intro K hK
        have v0 := HXU9.out.c0
        have v1 := HXU9.out.c1
        have v2 := HXU9.out.c2
        have v3 := HXU9.out.c3
        have v4 := HXU9.out.c4
        have vf := HXU9.out.fz
        go_wp2
        have HNR := newRun_a (nm := an) (fr := af) (up := au) (ep := ae) BU9 HXU9.out leU7 HOU9.out
        refine hK.out _ _ ⟨⟨_, HNR.below⟩, rfl⟩ ?_
        clear hK K v0 v1 v2 v3 v4 vf
        refine any_done (by kernel_rfl) ?_
        simp only [List.drop_succ_cons, List.drop_zero]
        go_wp2
        first | refine ⟨rfl, ⟨U1.heap.size, g5, none, 0, ra7, rc7⟩, ?_, HNR⟩ | refine ⟨⟨U1.heap.size, g5, none, 0, ra7, rc7⟩, ?_, HNR⟩
        kernel_rfl
    · skip
      intro K hK
      go_wp2
      obtain ⟨U10, hU10⟩ : ∃ V, U0.alloc (.cells #[.string ⟨#[]⟩, .int .i64 0, .int .i64 0, .int .i64 0, .slice none 0 0] 31) = V := ⟨_, rfl⟩
      have hb8 : Below U0.heap.size U0 U10 := by rw [← hU10]; exact ba (Below.refl _ _) _
      have BU10 : Below W11.heap.size W11 U10 := Below.on BU0 hb8
      have HXU10 : Hid (R5 U10 U0.heap.size ⟨#[]⟩ 0 0 0 (.slice none 0 0)) := by show R5 _ _ _ _ _ _ _; rw [← hU10]; exact R5.new _ _ _ _ _ _
      have leU10 : W11.heap.size ≤ U0.heap.size := BU0.size
      first | rw [hU10] | rw [show _ = U10 from hU10]
      clear hU10 hb8
      refine hK.out _ _ ⟨⟨U10, BU10⟩, rfl⟩ ?_
      clear hK K
      refine any_one (fuel := 6) (i := 1) (by kernel_rfl) rfl rfl ?_
      intro K hK
      go_wp2_with fail
      refine (HTD.out _ (Below.on B11 BU10)).mono ?_
      rintro x U11 ⟨g5, rfl, hto5, hb5⟩
      have htU11 := hto5.tasks
      clear hto5
      have HXU11 : Hid (R5 U11 U0.heap.size ⟨#[]⟩ 0 0 0 (.slice none 0 0)) := HXU10.out.on hb5
      have BU11 : Below W11.heap.size W11 U11 := Below.on BU10 hb5
      clear hb5
      go_wp2
      refine hK.out _ _ ⟨⟨U11, BU11⟩, rfl⟩ ?_
      clear hK K
      refine any_one (fuel := 5) (i := 3) (by kernel_rfl) rfl rfl ?_
      intro K hK
      go_wp2_with fail
      refine (toSpn_any sf su _).mono ?_
      rintro x U12 ⟨rfl, hb6⟩
      have htU12 := htU11.below hb6
      have HXU12 : Hid (R5 U12 U0.heap.size ⟨#[]⟩ 0 0 0 (.slice none 0 0)) := HXU11.out.on hb6
      have BU12 : Below W11.heap.size W11 U12 := Below.on BU11 hb6
      clear hb6
      go_wp2
      refine hK.out _ _ ⟨⟨U12, BU12⟩, rfl⟩ ?_
      clear hK K
      refine any_one (fuel := 4) (i := 4) (by kernel_rfl) rfl rfl ?_
      intro K hK
      go_wp2_with fail
      refine (HA.out _ _ (Below.on B11 BU12) htU12).mono ?_
      rintro x U13 ⟨ra7, rc7, rfl, ho7, hb7⟩
      have HOU13 : Hid (ownsR U13 W11.heap.size 85 (.slice ra7 al rc7) av) := ho7.mono BU12.size
      clear ho7
      have HXU13 : Hid (R5 U13 U0.heap.size ⟨#[]⟩ 0 0 0 (.slice none 0 0)) := HXU12.out.on hb7
      have BU13 : Below W11.heap.size W11 U13 := Below.on BU12 hb7
      clear hb7
      go_wp2
      refine hK.out _ _ ⟨⟨U13, BU13⟩, rfl⟩ ?_
      clear hK K
      refine pk_takes [5, 6, 7] 10 1 ⟨⟨U13, BU13⟩, rfl⟩ (by kernel_rfl) (fun _ _ _ _ _ h => (by cases h.1)) ?_
      repeat (refine wpTakes_l rfl (by first | (intro x h; cases h; done) | (intro x h; cases h; exact ⟨_, rfl⟩)) ?_; go_big_quiet_step (fail); refine wpQuiet_nil ?_)
      refine takes_nil ?_
      refine any_one (fuel := 0) (i := 9) (by kernel_rfl) rfl rfl ?_
      intro K hK
      have v0 := HXU13.out.c0
      have v1 := HXU13.out.c1
      have v2 := HXU13.out.c2
      have v3 := HXU13.out.c3
      have v4 := HXU13.out.c4
      have vf := HXU13.out.fz
      go_wp2
      have HNR := newRun_a (nm := an) (fr := af) (up := au) (ep := ae) BU13 HXU13.out leU10 HOU13.out
      refine hK.out _ _ ⟨⟨_, HNR.below⟩, rfl⟩ ?_
      clear hK K v0 v1 v2 v3 v4 vf
      refine any_done (by kernel_rfl) ?_
      simp only [List.drop_succ_cons, List.drop_zero]
      go_wp2
      first | refine ⟨rfl, ⟨U0.heap.size, g5, none, 0, ra7, rc7⟩, ?_, HNR⟩ | refine ⟨⟨U0.heap.size, g5, none, 0, ra7, rc7⟩, ?_, HNR⟩
      kernel_rfl
  clear Zq0 Zq1 Zq2 Zq3 Zq4 Zq5 Sq0 Sq1
  rintro ⟨Ph, gh9, bh9, ch9, ha, hc⟩ W12 hN
  simp only [putAll]
  dsimp only at hN
  have hb := hN.below
  have HBh : Hid (∀ k, (Value.slice ha al hc).ownBlock = some k → W11.heap.size ≤ k ∧ k < W12.heap.size) := fun k hk => hN.own.lt k hk
  have Vh12 : Hid (ownsR W12 w.heap.size 85 (.slice ha al hc) av) := hN.own.mono B11.size
  have Xh12 : R5 W12 Ph an af au ae (.slice ha al hc) := hN.box
  have oh : W11.heap.size ≤ Ph := hN.old
  clear hN
  have Z12 := Z11.on hb
  have S12 := S11.on hb
  have Vw12 : Hid (ownsR W12 w.heap.size 85 (.slice wa al wc) av) := Vw11.out.all hb
  have Xw12 := Xw11.on hb
  have Vg12 : Hid (ownsR W12 w.heap.size 85 (.slice ga al gc) (marksSa 1 al)) := Vg11.out.all hb
  have Xg12 := Xg11.on hb
  have B12 := Below.on B11 hb
  have s12 : W11.heap.size ≤ W12.heap.size := hb.size
  clear Z11 S11 Vw11 Xw11 Vg11 Xg11 B11 hb
  have lh : Ph < W12.heap.size := Xh12.lt
  have Xhc0 := Xh12.c0
  have Xhc1 := Xh12.c1
  have Xhc2 := Xh12.c2
  have Xhc3 := Xh12.c3
  have Xhc4 := Xh12.c4
  have Xwc0 := Xw12.c0
  have Xwc1 := Xw12.c1
  have Xwc2 := Xw12.c2
  have Xwc3 := Xw12.c3
  have Xwc4 := Xw12.c4
  go_wp2_with fail
  refine (eqRun_any ha wa al hc wc an af au ae av W12 Vh12.out.reads Vw12.out.reads hal).mono ?_
  rintro x W13 ⟨rfl, hb⟩
  clear Xhc0 Xhc1 Xhc2 Xhc3 Xhc4 Xwc0 Xwc1 Xwc2 Xwc3 Xwc4
  have Z13 := Z12.on hb
  have S13 := S12.on hb
  have Vw13 : Hid (ownsR W13 w.heap.size 85 (.slice wa al wc) av) := Vw12.out.all hb
  have Xw13 := Xw12.on hb
  have Vg13 : Hid (ownsR W13 w.heap.size 85 (.slice ga al gc) (marksSa 1 al)) := Vg12.out.all hb
  have Xg13 := Xg12.on hb
  have Vh13 : Hid (ownsR W13 w.heap.size 85 (.slice ha al hc) av) := Vh12.out.all hb
  have Xh13 := Xh12.on hb
  have B13 := Below.on B12 hb
  have s13 : W12.heap.size ≤ W13.heap.size := hb.size
  clear Z12 S12 Vw12 Xw12 Vg12 Xg12 Vh12 Xh12 B12 hb
  have HH := heldRun_any ga al gc an af au ae 1 W13 Vg13.out.reads hal (by decide) (by decide)
  have Xgc0 := Xg13.c0
  have Xgc1 := Xg13.c1
  have Xgc2 := Xg13.c2
  have Xgc3 := Xg13.c3
  have Xgc4 := Xg13.c4
  go_wp2_with fail
  refine (HH).mono ?_
  rintro x W14 ⟨rfl, hb⟩
  clear Xgc0 Xgc1 Xgc2 Xgc3 Xgc4
  have Z14 := Z13.on hb
  have S14 := S13.on hb
  have Vw14 : Hid (ownsR W14 w.heap.size 85 (.slice wa al wc) av) := Vw13.out.all hb
  have Xw14 := Xw13.on hb
  have Vg14 : Hid (ownsR W14 w.heap.size 85 (.slice ga al gc) (marksSa 1 al)) := Vg13.out.all hb
  have Xg14 := Xg13.on hb
  have Vh14 : Hid (ownsR W14 w.heap.size 85 (.slice ha al hc) av) := Vh13.out.all hb
  have Xh14 := Xh13.on hb
  have B14 := Below.on B13 hb
  have s14 : W13.heap.size ≤ W14.heap.size := hb.size
  clear Z13 S13 Vw13 Xw13 Vg13 Xg13 Vh13 Xh13 B13 hb
  clear HH
  go_wp2
  go_ret
  exact ⟨rfl, B14⟩
end Go.Proofs.YtjmclcjhimcehaaGreatDoor
