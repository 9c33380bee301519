/- L8a,Lme -/
import Derived.Test.YtpjpheicldegkaaGreatDoorL8r
import Derived.Test.YtpjpheicldegkaaGreatDoorGM22
import Derived.Test.YtpjpheicldegkaaGreatDoorSme
import Derived.Test.YtpjpheicldegkaaGreatDoorGM19
import Derived.Test.YtpjpheicldegkaaGreatDoorSdc
import Derived.Test.YtpjpheicldegkaaGreatDoorGM21
import Derived.Test.YtpjpheicldegkaaGreatDoorGM17
import Derived.Test.YtpjpheicldegkaaGreatDoorDh
namespace Go.Proofs.YtpjpheicldegkaaGreatDoor
open Go Go.RowKit
set_option linter.unusedVariables false

set_option maxRecDepth 10000 in
set_option maxHeartbeats 8000000 in
theorem l18Any_any (g : Nat) (w : World) (hd : Drw w g) : Calls Tryz.prog 13 #[.pointer (some ⟨g, 0, none⟩)] w (LmD 6 g w) := by
  have hgl : g < w.heap.size := hd.lt
  obtain ⟨W0, HW0⟩ : ∃ W0, Hid (w.alloc (.cells #[.int .i64 0, .int .i64 0, .int .i64 0, .int .i64 0, .int .i64 0, .int .i64 0, .int .i64 0, .bool false, .slice none 0 0, .slice none 0 0, .string ⟨#[]⟩, .bool false] 27) = W0) := ⟨_, rfl⟩
  have Z0 : Hid (Kc12 27 W0 w.heap.size (.int .i64 0) (.int .i64 0) (.int .i64 0) (.int .i64 0) (.int .i64 0) (.int .i64 0) (.int .i64 0) (.bool false) (.slice none 0 0) (.slice none 0 0) (.string ⟨#[]⟩) (.bool false)) := by rw [← HW0.out]; exact Kc12.new _ _ _ _ _ _ _ _ _ _ _ _ _ _
  have B0 : Hid (Below w.heap.size w W0) := by rw [← HW0.out]; exact ba (Below.refl _ _) _
  have D0 : Hid (Drw W0 g) := hd.keep (B0.out.mono hgl)
  clear hd
  go_enter Tryz.func13, Tryz.ntmps13
  go_wp2_with fail
  rw [HW0.out]
  refine (l18Right_any g _ D0.out).mono ?_
  rintro e W1 ⟨kd, fr, up, tm, ix, lt, cm, ok, da, la, o0, o1, o2, c0, c1, c2, l, cs, rfl, hup0, hll0, hsz0, hcl0, hdl0, ho, hc, hd1, hs1⟩
  have hup : Hid (0 ≤ up ∧ up ≤ 100) := hup0
  have hll : Hid (l.length ≤ 5) := hll0
  have HSZ : Hid (∀ x ∈ l, x.data.size ≤ 1000) := hsz0
  have hcl : Hid (cs.length ≤ 6) := hcl0
  have hdl : Hid (da.size ≤ 1000) := hdl0
  obtain ⟨W2, HW2⟩ : ∃ V, Hid (W1.alloc (.cells #[.int .i64 kd, .int .i64 fr, .int .i64 up, .int .i64 tm, .int .i64 ix, .int .i64 lt, .int .i64 cm, .bool ok, .slice o0 o1 o2, .slice c0 c1 c2, .string da, .bool la] 27) = V) := ⟨_, rfl⟩
  obtain ⟨m, hm⟩ : ∃ m, W1.heap.size = m := ⟨_, rfl⟩
  have HM2 : Hid (M8S g w m (.int .i64 kd) (.int .i64 fr) (.int .i64 up) (.int .i64 tm) (.int .i64 ix) (.int .i64 lt) (.int .i64 cm) (.bool ok) (.slice o0 o1 o2) (.slice c0 c1 c2) (.string da) (.bool la) l cs W2) := by
    have h2 := Z0.out.lt
    have h1 := hs1.size
    have hz : Kc12 27 W1 w.heap.size (.int .i64 0) (.int .i64 0) (.int .i64 0) (.int .i64 0) (.int .i64 0) (.int .i64 0) (.int .i64 0) (.bool false) (.slice none 0 0) (.slice none 0 0) (.string ⟨#[]⟩) (.bool false) := Z0.out.save hs1 (by omega)
    rw [← HW2.out, ← hm]
    exact ⟨hz.alloc _, Kc12.new _ _ _ _ _ _ _ _ _ _ _ _ _ _, (ho.mono h2).alloc _, (hc.mono h2).alloc _, hd1.keep ((ba (Below.refl _ _) _).mono hd1.lt), ((Save.of_below B0.out).trans hs1).alloc _, hgl, by omega⟩
  clear hup0 hll0 hsz0 hcl0 hdl0 ho hc hd1 hs1 Z0 B0 D0 HW0
  go_wp2_with (first | rw [HW2.out] | rw [hm])
  clear hm HW2
  refine (qga g 40 _ HM2.out.drw (by decide) (by decide)).mono ?_
  rintro e W3 ⟨q, rfl, q0, q1, hd3, hs3⟩
  have HM : Hid (M8S g w m (.int .i64 kd) (.int .i64 fr) (.int .i64 up) (.int .i64 tm) (.int .i64 ix) (.int .i64 lt) (.int .i64 cm) (.bool ok) (.slice o0 o1 o2) (.slice c0 c1 c2) (.string da) (.bool la) l cs W3) := HM2.out.save hs3 hd3
  clear HM2 hd3 hs3 q0 q1
  by_cases h0 : q = 0
  · subst h0
    skip
    go_wp2_with fail
    refine (qnb g [0, 7, 1, 5] W3 W3 HM.out.drw (Save.refl _ _) (by simp) (by simp) (by decide) #[.int .i64 0, .int .i64 7, .int .i64 1, .int .i64 5] rfl 4 rfl).mono ?_
    rintro e W4 ⟨z, rfl, -, -, hd4, hs4⟩
    have HM4 : Hid (M8S g w m (.int .i64 kd) (.int .i64 fr) (.int .i64 up) (.int .i64 tm) (.int .i64 ix) (.int .i64 lt) (.int .i64 cm) (.bool ok) (.slice o0 o1 o2) (.slice c0 c1 c2) (.string da) (.bool la) l cs W4) := HM.out.save hs4 hd4
    obtain ⟨W5, HW5⟩ : ∃ V, Hid (W4.setCell ⟨m, 0, none⟩ (.int .i64 z) = V) := ⟨_, rfl⟩
    have HE : Hid (M8S g w m (.int .i64 z) (.int .i64 fr) (.int .i64 up) (.int .i64 tm) (.int .i64 ix) (.int .i64 lt) (.int .i64 cm) (.bool ok) (.slice o0 o1 o2) (.slice c0 c1 c2) (.string da) (.bool la) l cs W5) := by rw [← HW5.out]; exact HM4.out.s0 _
    have i2 := HM4.out.msg.c0
    have j2 := HM4.out.msg.fz 0
    clear hd4 hs4 HM HM4
    have HEND : Hid (LmD 6 g w (.returned (.agg #[.int .i64 z, .int .i64 fr, .int .i64 up, .int .i64 tm, .int .i64 ix, .int .i64 lt, .int .i64 cm, .bool ok, .slice o0 o1 o2, .slice c0 c1 c2, .string da, .bool la])) (set12 W5 w.heap.size (.int .i64 z) (.int .i64 fr) (.int .i64 up) (.int .i64 tm) (.int .i64 ix) (.int .i64 lt) (.int .i64 cm) (.bool ok) (.slice o0 o1 o2) (.slice c0 c1 c2) (.string da) (.bool la))) :=
      ⟨z, fr, up, tm, ix, lt, cm, ok, da, la, o0, o1, o2, c0, c1, c2, l, cs, rfl, hup.out, (by have := hll.out; omega), HSZ.out, (by have := hcl.out; omega), hdl.out, HE.out.fin.2.1, HE.out.fin.2.2.1, HE.out.fin.2.2.2.1, HE.out.fin.2.2.2.2⟩
    go_wp2_with (first | rw [HW5.out] | refine qna rfl (.tmp 3) rfl m rfl HE.out.msg ?_ | refine qja rfl (.tmp 2) (.tmp 58) rfl _ rfl HE.out.res z fr up tm ix lt cm ok la (o0) (c0) o1 o2 c1 c2 da rfl ?_ | exact bodyPost_ret (qgd rfl rfl HE.out.fin.1) rfl HEND.out)
  · have x0 : (q == 0) = false := beq_eq_false_iff_ne.2 h0
    by_cases h1 : q = 1
    · subst h1
      have y2 := HM.out.msg.c2
      go_wp2_with fail
      refine (qnb g [0, 5, up] W3 W3 HM.out.drw (Save.refl _ _) (by simp) (by simp) (fun z hz => by have := hup.out; simp only [List.mem_cons, List.not_mem_nil, or_false] at hz; rcases hz with rfl | rfl | rfl <;> omega) #[.int .i64 0, .int .i64 5, .int .i64 up] rfl 3 rfl).mono ?_
      rintro e W4 ⟨z, rfl, -, -, hd4, hs4⟩
      have HM4 : Hid (M8S g w m (.int .i64 kd) (.int .i64 fr) (.int .i64 up) (.int .i64 tm) (.int .i64 ix) (.int .i64 lt) (.int .i64 cm) (.bool ok) (.slice o0 o1 o2) (.slice c0 c1 c2) (.string da) (.bool la) l cs W4) := HM.out.save hs4 hd4
      obtain ⟨W5, HW5⟩ : ∃ V, Hid (W4.setCell ⟨m, 1, none⟩ (.int .i64 z) = V) := ⟨_, rfl⟩
      have HE : Hid (M8S g w m (.int .i64 kd) (.int .i64 z) (.int .i64 up) (.int .i64 tm) (.int .i64 ix) (.int .i64 lt) (.int .i64 cm) (.bool ok) (.slice o0 o1 o2) (.slice c0 c1 c2) (.string da) (.bool la) l cs W5) := by rw [← HW5.out]; exact HM4.out.s1 _
      have i2 := HM4.out.msg.c1
      have j2 := HM4.out.msg.fz 1
      clear hd4 hs4 HM HM4
      have HEND : Hid (LmD 6 g w (.returned (.agg #[.int .i64 kd, .int .i64 z, .int .i64 up, .int .i64 tm, .int .i64 ix, .int .i64 lt, .int .i64 cm, .bool ok, .slice o0 o1 o2, .slice c0 c1 c2, .string da, .bool la])) (set12 W5 w.heap.size (.int .i64 kd) (.int .i64 z) (.int .i64 up) (.int .i64 tm) (.int .i64 ix) (.int .i64 lt) (.int .i64 cm) (.bool ok) (.slice o0 o1 o2) (.slice c0 c1 c2) (.string da) (.bool la))) :=
        ⟨kd, z, up, tm, ix, lt, cm, ok, da, la, o0, o1, o2, c0, c1, c2, l, cs, rfl, hup.out, (by have := hll.out; omega), HSZ.out, (by have := hcl.out; omega), hdl.out, HE.out.fin.2.1, HE.out.fin.2.2.1, HE.out.fin.2.2.2.1, HE.out.fin.2.2.2.2⟩
      go_wp2_with (first | rw [HW5.out] | refine qna rfl (.tmp 3) rfl m rfl HE.out.msg ?_ | refine qja rfl (.tmp 2) (.tmp 58) rfl _ rfl HE.out.res kd z up tm ix lt cm ok la (o0) (c0) o1 o2 c1 c2 da rfl ?_ | exact bodyPost_ret (qgd rfl rfl HE.out.fin.1) rfl HEND.out)
    · have x1 : (q == 1) = false := beq_eq_false_iff_ne.2 h1
      by_cases h2 : q = 2
      · subst h2
        skip
        go_wp2_with fail
        refine (qnb g [-1, 100000, 100001] W3 W3 HM.out.drw (Save.refl _ _) (by simp) (by simp) (by decide) #[.int .i64 (-1), .int .i64 100000, .int .i64 100001] rfl 3 rfl).mono ?_
        rintro e W4 ⟨z, rfl, -, -, hd4, hs4⟩
        have HM4 : Hid (M8S g w m (.int .i64 kd) (.int .i64 fr) (.int .i64 up) (.int .i64 tm) (.int .i64 ix) (.int .i64 lt) (.int .i64 cm) (.bool ok) (.slice o0 o1 o2) (.slice c0 c1 c2) (.string da) (.bool la) l cs W4) := HM.out.save hs4 hd4
        obtain ⟨W5, HW5⟩ : ∃ V, Hid (W4.setCell ⟨m, 3, none⟩ (.int .i64 z) = V) := ⟨_, rfl⟩
        have HE : Hid (M8S g w m (.int .i64 kd) (.int .i64 fr) (.int .i64 up) (.int .i64 z) (.int .i64 ix) (.int .i64 lt) (.int .i64 cm) (.bool ok) (.slice o0 o1 o2) (.slice c0 c1 c2) (.string da) (.bool la) l cs W5) := by rw [← HW5.out]; exact HM4.out.s3 _
        have i2 := HM4.out.msg.c3
        have j2 := HM4.out.msg.fz 3
        clear hd4 hs4 HM HM4
        have HEND : Hid (LmD 6 g w (.returned (.agg #[.int .i64 kd, .int .i64 fr, .int .i64 up, .int .i64 z, .int .i64 ix, .int .i64 lt, .int .i64 cm, .bool ok, .slice o0 o1 o2, .slice c0 c1 c2, .string da, .bool la])) (set12 W5 w.heap.size (.int .i64 kd) (.int .i64 fr) (.int .i64 up) (.int .i64 z) (.int .i64 ix) (.int .i64 lt) (.int .i64 cm) (.bool ok) (.slice o0 o1 o2) (.slice c0 c1 c2) (.string da) (.bool la))) :=
          ⟨kd, fr, up, z, ix, lt, cm, ok, da, la, o0, o1, o2, c0, c1, c2, l, cs, rfl, hup.out, (by have := hll.out; omega), HSZ.out, (by have := hcl.out; omega), hdl.out, HE.out.fin.2.1, HE.out.fin.2.2.1, HE.out.fin.2.2.2.1, HE.out.fin.2.2.2.2⟩
        go_wp2_with (first | rw [HW5.out] | refine qna rfl (.tmp 3) rfl m rfl HE.out.msg ?_ | refine qja rfl (.tmp 2) (.tmp 58) rfl _ rfl HE.out.res kd fr up z ix lt cm ok la (o0) (c0) o1 o2 c1 c2 da rfl ?_ | exact bodyPost_ret (qgd rfl rfl HE.out.fin.1) rfl HEND.out)
      · have x2 : (q == 2) = false := beq_eq_false_iff_ne.2 h2
        by_cases h3 : q = 3
        · subst h3
          skip
          go_wp2_with fail
          refine (qnb g [-1, 1000000, 1000001] W3 W3 HM.out.drw (Save.refl _ _) (by simp) (by simp) (by decide) #[.int .i64 (-1), .int .i64 1000000, .int .i64 1000001] rfl 3 rfl).mono ?_
          rintro e W4 ⟨z, rfl, -, -, hd4, hs4⟩
          have HM4 : Hid (M8S g w m (.int .i64 kd) (.int .i64 fr) (.int .i64 up) (.int .i64 tm) (.int .i64 ix) (.int .i64 lt) (.int .i64 cm) (.bool ok) (.slice o0 o1 o2) (.slice c0 c1 c2) (.string da) (.bool la) l cs W4) := HM.out.save hs4 hd4
          obtain ⟨W5, HW5⟩ : ∃ V, Hid (W4.setCell ⟨m, 4, none⟩ (.int .i64 z) = V) := ⟨_, rfl⟩
          have HE : Hid (M8S g w m (.int .i64 kd) (.int .i64 fr) (.int .i64 up) (.int .i64 tm) (.int .i64 z) (.int .i64 lt) (.int .i64 cm) (.bool ok) (.slice o0 o1 o2) (.slice c0 c1 c2) (.string da) (.bool la) l cs W5) := by rw [← HW5.out]; exact HM4.out.s4 _
          have i2 := HM4.out.msg.c4
          have j2 := HM4.out.msg.fz 4
          clear hd4 hs4 HM HM4
          have HEND : Hid (LmD 6 g w (.returned (.agg #[.int .i64 kd, .int .i64 fr, .int .i64 up, .int .i64 tm, .int .i64 z, .int .i64 lt, .int .i64 cm, .bool ok, .slice o0 o1 o2, .slice c0 c1 c2, .string da, .bool la])) (set12 W5 w.heap.size (.int .i64 kd) (.int .i64 fr) (.int .i64 up) (.int .i64 tm) (.int .i64 z) (.int .i64 lt) (.int .i64 cm) (.bool ok) (.slice o0 o1 o2) (.slice c0 c1 c2) (.string da) (.bool la))) :=
            ⟨kd, fr, up, tm, z, lt, cm, ok, da, la, o0, o1, o2, c0, c1, c2, l, cs, rfl, hup.out, (by have := hll.out; omega), HSZ.out, (by have := hcl.out; omega), hdl.out, HE.out.fin.2.1, HE.out.fin.2.2.1, HE.out.fin.2.2.2.1, HE.out.fin.2.2.2.2⟩
          go_wp2_with (first | rw [HW5.out] | refine qna rfl (.tmp 3) rfl m rfl HE.out.msg ?_ | refine qja rfl (.tmp 2) (.tmp 58) rfl _ rfl HE.out.res kd fr up tm z lt cm ok la (o0) (c0) o1 o2 c1 c2 da rfl ?_ | exact bodyPost_ret (qgd rfl rfl HE.out.fin.1) rfl HEND.out)
        · have x3 : (q == 3) = false := beq_eq_false_iff_ne.2 h3
          by_cases h4 : q = 4
          · subst h4
            have k2 : ∀ x : LmY m (.slice o0 o1 o2), x.at'.cell? ⟨m, 8, none⟩ = some (.slice o0 o1 o2) := fun x => x.okl
            haveI : Nonempty (LmY m (.slice o0 o1 o2)) := ⟨⟨W3, HM.out.msg.c8⟩⟩
            go_wp2
            refine qha (fun w' => ∃ x : LmY m (.slice o0 o1 o2), w' = x.at') [0, 1, 2] 6 3 (by kernel_rfl) (by decide) (by decide) (by kernel_rfl) (fun _ _ d _ _ h => by cases d <;> exact h) ⟨⟨W3.drew, HM.out.drew.msg.c8⟩, rfl⟩ ?_
            repeat (refine qea rfl (by first | (intro x h; cases h; done) | (intro x h; cases h; exact ⟨_, rfl⟩)) ?_; go_big_quiet_step (fail); refine wpQuiet_nil ?_)
            refine qda ?_
            clear k2
            refine qfa (fuel := 2) (i := 3) (by kernel_rfl) rfl rfl ?_
            intro K hK
            obtain ⟨U0, HU0⟩ : ∃ V, Hid (W3.drew = V) := ⟨_, rfl⟩
            have HL0 : Hid (M8S g w m (.int .i64 kd) (.int .i64 fr) (.int .i64 up) (.int .i64 tm) (.int .i64 ix) (.int .i64 lt) (.int .i64 cm) (.bool ok) (.slice o0 o1 o2) (.slice c0 c1 c2) (.string da) (.bool la) l cs U0) := by rw [← HU0.out]; exact HM.out.drew
            rw [HU0.out]
            clear HU0 HM
            go_wp2_with fail
            refine (l05Any_any g _ HL0.out.drw).mono ?_
            rintro e U1 ⟨ft, fk, fd, rfl, hfd, hdr, hsv⟩
            obtain ⟨f, HF⟩ : ∃ f : En, Hid ((⟨ft, fk, fd⟩ : En) = f) := ⟨_, rfl⟩
            have HU1 : Hid (M8S g w m (.int .i64 kd) (.int .i64 fr) (.int .i64 up) (.int .i64 tm) (.int .i64 ix) (.int .i64 lt) (.int .i64 cm) (.bool ok) (.slice o0 o1 o2) (.slice c0 c1 c2) (.string da) (.bool la) l cs U1) := HL0.out.save hsv hdr
            clear hdr hsv HL0
            go_wp2
            refine hK.out _ _ ⟨⟨U1, HU1.out.msg.c8⟩, rfl⟩ ?_
            clear hK K
            refine qfa (fuel := 1) (i := 4) (by kernel_rfl) rfl rfl ?_
            intro K hK
            obtain ⟨U2, HU2⟩ : ∃ V, Hid (U1.alloc (.cells #[.int .i64 ft, .int .i64 fk, .string fd] 59) = V) := ⟨_, rfl⟩
            have HL2 : Hid (M8S g w m (.int .i64 kd) (.int .i64 fr) (.int .i64 up) (.int .i64 tm) (.int .i64 ix) (.int .i64 lt) (.int .i64 cm) (.bool ok) (.slice o0 o1 o2) (.slice c0 c1 c2) (.string da) (.bool la) l cs U2) := by rw [← HU2.out]; exact HU1.out.alloc _
            have HB2 : Hid (Reads U2 (.slice (some ⟨U1.heap.size, 0, none⟩) 1 1) [f]) := by rw [← HU2.out, ← HF.out]; exact en_builtD U1 ⟨ft, fk, fd⟩
            go_wp2
            rw [HU2.out]
            refine hK.out _ _ ⟨⟨U2, HL2.out.msg.c8⟩, rfl⟩ ?_
            clear hK K HU1 HU2
            refine qfa (fuel := 0) (i := 5) (by kernel_rfl) rfl rfl ?_
            intro K hK
            have HLN : Hid (l.length + [f].length ≤ 1048577) := by show _ ≤ _; have := hll.out; simp; omega
            go_wp2_with (at_builtin; refine qca rfl (.tmp 37) (.tmp 40) 24 rfl (w.heap.size + 1) 59 _ 32 underEn infoEn rfl _ _ l [f] rfl rfl HL2.out.own HB2.out (en_oneD f) HLN.out (by decide) HL2.out.bsz ?_; intro v' U3 hov hgv)
            obtain ⟨r0, r1, r2, rfl⟩ := hov.slice3
            have hk3 := HL2.out.msgG hgv
            obtain ⟨W5, HW5⟩ : ∃ V, Hid (U3.setCell ⟨m, 8, none⟩ (.slice r0 r1 r2) = V) := ⟨_, rfl⟩
            have HE : Hid (M8S g w m (.int .i64 kd) (.int .i64 fr) (.int .i64 up) (.int .i64 tm) (.int .i64 ix) (.int .i64 lt) (.int .i64 cm) (.bool ok) (.slice r0 r1 r2) (.slice c0 c1 c2) (.string da) (.bool la) (l ++ [f]) cs W5) := by rw [← HW5.out]; exact HL2.out.more hgv hov
            have i8 := hk3.c8
            have j8 := hk3.fz 8
            refine hK.out _ _ ⟨⟨U3, i8⟩, rfl⟩ ?_
            clear hK K HL2 HB2 HLN hov hgv hk3
            refine qoa (by kernel_rfl) ?_
            simp only [List.drop_succ_cons, List.drop_zero]
            have HSZ2 : Hid (∀ x ∈ l ++ [f], x.data.size ≤ 1000) := fun x hx => by
              rcases List.mem_append.1 hx with hx | hx
              · exact HSZ.out x hx
              · rw [List.mem_singleton.1 hx, ← HF.out]; exact hfd
            have hll2 : Hid ((l ++ [f]).length ≤ 6) := by show _ ≤ _; have := hll.out; simp; omega
            clear HSZ hll
            have HEND : Hid (LmD 6 g w (.returned (.agg #[.int .i64 kd, .int .i64 fr, .int .i64 up, .int .i64 tm, .int .i64 ix, .int .i64 lt, .int .i64 cm, .bool ok, .slice r0 r1 r2, .slice c0 c1 c2, .string da, .bool la])) (set12 W5 w.heap.size (.int .i64 kd) (.int .i64 fr) (.int .i64 up) (.int .i64 tm) (.int .i64 ix) (.int .i64 lt) (.int .i64 cm) (.bool ok) (.slice r0 r1 r2) (.slice c0 c1 c2) (.string da) (.bool la))) :=
              ⟨kd, fr, up, tm, ix, lt, cm, ok, da, la, r0, r1, r2, c0, c1, c2, (l ++ [f]), cs, rfl, hup.out, hll2.out, HSZ2.out, (by have := hcl.out; omega), hdl.out, HE.out.fin.2.1, HE.out.fin.2.2.1, HE.out.fin.2.2.2.1, HE.out.fin.2.2.2.2⟩
            go_wp2_with (first | rw [HW5.out] | refine qna rfl (.tmp 3) rfl m rfl HE.out.msg ?_ | refine qja rfl (.tmp 2) (.tmp 58) rfl _ rfl HE.out.res kd fr up tm ix lt cm ok la (r0) (c0) r1 r2 c1 c2 da rfl ?_ | exact bodyPost_ret (qgd rfl rfl HE.out.fin.1) rfl HEND.out)
          · have x4 : (q == 4) = false := beq_eq_false_iff_ne.2 h4
            by_cases h5 : q = 5
            · subst h5
              go_wp2_with fail
              refine (qga g 2 _ HM.out.drw (by decide) (by decide)).mono ?_
              rintro e W4 ⟨u, rfl, u0, u1, hd4, hs4⟩
              have HM4 : Hid (M8S g w m (.int .i64 kd) (.int .i64 fr) (.int .i64 up) (.int .i64 tm) (.int .i64 ix) (.int .i64 lt) (.int .i64 cm) (.bool ok) (.slice o0 o1 o2) (.slice c0 c1 c2) (.string da) (.bool la) l cs W4) := HM.out.save hs4 hd4
              obtain ⟨U, rfl⟩ : ∃ U : Nat, u = (U : Int) := ⟨u.toNat, by omega⟩
              clear hd4 hs4 HM u0
              go_wp2_with fail
              refine (show Calls Tryz.prog 44 #[.int .i64 (60 + (U : Int)), .int .u8 65] W4 _ from long_any (60 + U) 65 W4 (by omega) (by omega)).mono ?_
              rintro e W5 ⟨td, rfl, htd, hb5⟩
              have HM5 : Hid (M8S g w m (.int .i64 kd) (.int .i64 fr) (.int .i64 up) (.int .i64 tm) (.int .i64 ix) (.int .i64 lt) (.int .i64 cm) (.bool ok) (.slice o0 o1 o2) (.slice c0 c1 c2) (.string da) (.bool la) l cs W5) := HM4.out.up hb5
              have hdl2 : Hid (td.size ≤ 1000) := by show _ ≤ _; omega
              obtain ⟨W6, HW6⟩ : ∃ V, Hid (W5.setCell ⟨m, 10, none⟩ (.string td) = V) := ⟨_, rfl⟩
              have HE : Hid (M8S g w m (.int .i64 kd) (.int .i64 fr) (.int .i64 up) (.int .i64 tm) (.int .i64 ix) (.int .i64 lt) (.int .i64 cm) (.bool ok) (.slice o0 o1 o2) (.slice c0 c1 c2) (.string td) (.bool la) l cs W6) := by rw [← HW6.out]; exact HM5.out.s10 _
              have i2 := HM5.out.msg.c10
              have j2 := HM5.out.msg.fz 10
              clear htd hb5 HM4 HM5 u1
              have HEND : Hid (LmD 6 g w (.returned (.agg #[.int .i64 kd, .int .i64 fr, .int .i64 up, .int .i64 tm, .int .i64 ix, .int .i64 lt, .int .i64 cm, .bool ok, .slice o0 o1 o2, .slice c0 c1 c2, .string td, .bool la])) (set12 W6 w.heap.size (.int .i64 kd) (.int .i64 fr) (.int .i64 up) (.int .i64 tm) (.int .i64 ix) (.int .i64 lt) (.int .i64 cm) (.bool ok) (.slice o0 o1 o2) (.slice c0 c1 c2) (.string td) (.bool la))) :=
                ⟨kd, fr, up, tm, ix, lt, cm, ok, td, la, o0, o1, o2, c0, c1, c2, l, cs, rfl, hup.out, (by have := hll.out; omega), HSZ.out, (by have := hcl.out; omega), hdl2.out, HE.out.fin.2.1, HE.out.fin.2.2.1, HE.out.fin.2.2.2.1, HE.out.fin.2.2.2.2⟩
              go_wp2_with (first | rw [HW6.out] | refine qna rfl (.tmp 3) rfl m rfl HE.out.msg ?_ | refine qja rfl (.tmp 2) (.tmp 58) rfl _ rfl HE.out.res kd fr up tm ix lt cm ok la (o0) (c0) o1 o2 c1 c2 td rfl ?_ | exact bodyPost_ret (qgd rfl rfl HE.out.fin.1) rfl HEND.out)
            · have x5 : (q == 5) = false := beq_eq_false_iff_ne.2 h5
              by_cases h6 : q = 6
              · subst h6
                go_wp2_with fail
                refine (l05AnyConf_any g W3 HM.out.drw).mono ?_
                rintro e W4 ⟨cv, cl, rfl, hcn, -, hcs⟩
                obtain ⟨z0, z1, z2, rfl⟩ := hcs.own.slice3
                have HM4 : Hid (M8S g w m (.int .i64 kd) (.int .i64 fr) (.int .i64 up) (.int .i64 tm) (.int .i64 ix) (.int .i64 lt) (.int .i64 cm) (.bool ok) (.slice o0 o1 o2) (.slice c0 c1 c2) (.string da) (.bool la) l cs W4) := HM.out.save hcs.sv hcs.drw
                have HC4 : Hid (ownsR W4 (w.heap.size + 1) 3 (.slice z0 z1 z2) cl) := hcs.own.mono HM.out.bsz
                have hcl2 : Hid (cl.length ≤ 5) := hcn
                obtain ⟨W5, HW5⟩ : ∃ V, Hid (W4.setCell ⟨m, 9, none⟩ (.slice z0 z1 z2) = V) := ⟨_, rfl⟩
                have HE : Hid (M8S g w m (.int .i64 kd) (.int .i64 fr) (.int .i64 up) (.int .i64 tm) (.int .i64 ix) (.int .i64 lt) (.int .i64 cm) (.bool ok) (.slice o0 o1 o2) (.slice z0 z1 z2) (.string da) (.bool la) l cl W5) := by rw [← HW5.out]; exact HM4.out.s9 HC4.out
                have i2 := HM4.out.msg.c9
                have j2 := HM4.out.msg.fz 9
                clear hcn hcs HM HM4 HC4
                have HEND : Hid (LmD 6 g w (.returned (.agg #[.int .i64 kd, .int .i64 fr, .int .i64 up, .int .i64 tm, .int .i64 ix, .int .i64 lt, .int .i64 cm, .bool ok, .slice o0 o1 o2, .slice z0 z1 z2, .string da, .bool la])) (set12 W5 w.heap.size (.int .i64 kd) (.int .i64 fr) (.int .i64 up) (.int .i64 tm) (.int .i64 ix) (.int .i64 lt) (.int .i64 cm) (.bool ok) (.slice o0 o1 o2) (.slice z0 z1 z2) (.string da) (.bool la))) :=
                  ⟨kd, fr, up, tm, ix, lt, cm, ok, da, la, o0, o1, o2, z0, z1, z2, l, cl, rfl, hup.out, (by have := hll.out; omega), HSZ.out, (by have := hcl2.out; omega), hdl.out, HE.out.fin.2.1, HE.out.fin.2.2.1, HE.out.fin.2.2.2.1, HE.out.fin.2.2.2.2⟩
                go_wp2_with (first | rw [HW5.out] | refine qna rfl (.tmp 3) rfl m rfl HE.out.msg ?_ | refine qja rfl (.tmp 2) (.tmp 58) rfl _ rfl HE.out.res kd fr up tm ix lt cm ok la (o0) (z0) o1 o2 z1 z2 da rfl ?_ | exact bodyPost_ret (qgd rfl rfl HE.out.fin.1) rfl HEND.out)
              · have x6 : (q == 6) = false := beq_eq_false_iff_ne.2 h6
                by_cases h7 : q = 7
                · subst h7
                  obtain ⟨W5, HW5⟩ : ∃ V, Hid (W3.setCell ⟨m, 11, none⟩ (.bool true) = V) := ⟨_, rfl⟩
                  have HE : Hid (M8S g w m (.int .i64 kd) (.int .i64 fr) (.int .i64 up) (.int .i64 tm) (.int .i64 ix) (.int .i64 lt) (.int .i64 cm) (.bool ok) (.slice o0 o1 o2) (.slice c0 c1 c2) (.string da) (.bool true) l cs W5) := by rw [← HW5.out]; exact HM.out.s11 _
                  have i2 := HM.out.msg.c11
                  have j2 := HM.out.msg.fz 11
                  have HEND : Hid (LmD 6 g w (.returned (.agg #[.int .i64 kd, .int .i64 fr, .int .i64 up, .int .i64 tm, .int .i64 ix, .int .i64 lt, .int .i64 cm, .bool ok, .slice o0 o1 o2, .slice c0 c1 c2, .string da, .bool true])) (set12 W5 w.heap.size (.int .i64 kd) (.int .i64 fr) (.int .i64 up) (.int .i64 tm) (.int .i64 ix) (.int .i64 lt) (.int .i64 cm) (.bool ok) (.slice o0 o1 o2) (.slice c0 c1 c2) (.string da) (.bool true))) :=
                    ⟨kd, fr, up, tm, ix, lt, cm, ok, da, true, o0, o1, o2, c0, c1, c2, l, cs, rfl, hup.out, (by have := hll.out; omega), HSZ.out, (by have := hcl.out; omega), hdl.out, HE.out.fin.2.1, HE.out.fin.2.2.1, HE.out.fin.2.2.2.1, HE.out.fin.2.2.2.2⟩
                  go_wp2_with (first | rw [HW5.out] | refine qna rfl (.tmp 3) rfl m rfl HE.out.msg ?_ | refine qja rfl (.tmp 2) (.tmp 58) rfl _ rfl HE.out.res kd fr up tm ix lt cm ok true (o0) (c0) o1 o2 c1 c2 da rfl ?_ | exact bodyPost_ret (qgd rfl rfl HE.out.fin.1) rfl HEND.out)
                · have x7 : (q == 7) = false := beq_eq_false_iff_ne.2 h7
                  have HEND : Hid (LmD 6 g w (.returned (.agg #[.int .i64 kd, .int .i64 fr, .int .i64 up, .int .i64 tm, .int .i64 ix, .int .i64 lt, .int .i64 cm, .bool ok, .slice o0 o1 o2, .slice c0 c1 c2, .string da, .bool la])) (set12 W3 w.heap.size (.int .i64 kd) (.int .i64 fr) (.int .i64 up) (.int .i64 tm) (.int .i64 ix) (.int .i64 lt) (.int .i64 cm) (.bool ok) (.slice o0 o1 o2) (.slice c0 c1 c2) (.string da) (.bool la))) :=
                    ⟨kd, fr, up, tm, ix, lt, cm, ok, da, la, o0, o1, o2, c0, c1, c2, l, cs, rfl, hup.out, (by have := hll.out; omega), HSZ.out, (by have := hcl.out; omega), hdl.out, HM.out.fin.2.1, HM.out.fin.2.2.1, HM.out.fin.2.2.2.1, HM.out.fin.2.2.2.2⟩
                  go_wp2_with (first | refine qna rfl (.tmp 3) rfl m rfl HM.out.msg ?_ | refine qja rfl (.tmp 2) (.tmp 58) rfl _ rfl HM.out.res kd fr up tm ix lt cm ok la (o0) (c0) o1 o2 c1 c2 da rfl ?_ | exact bodyPost_ret (qgd rfl rfl HM.out.fin.1) rfl HEND.out)
end Go.Proofs.YtpjpheicldegkaaGreatDoor

namespace Go.Proofs.YtpjpheicldegkaaGreatDoor
open Go Go.RowKit
set_option linter.unusedVariables false

def DmD (w : World) (e : Ending) (w' : World) : Prop :=
  ∃ (kd fr up tm ix lt cm : Int) (ok : Bool) (da : ByteArray) (la : Bool) (o0 : Option Addr) (o1 o2 : Nat) (c0 : Option Addr) (c1 c2 : Nat) (l : List En) (cs : List Int), e = .returned (.agg #[.int .i64 kd, .int .i64 fr, .int .i64 up, .int .i64 tm, .int .i64 ix, .int .i64 lt, .int .i64 cm, .bool ok, .slice o0 o1 o2, .slice c0 c1 c2, .string da, .bool la]) ∧ l.length ≤ 6 ∧ (∀ f ∈ l, f.data.size ≤ 1000) ∧ cs.length ≤ 6 ∧ Reads w' (.slice o0 o1 o2) l ∧ Reads w' (.slice c0 c1 c2) cs ∧ Below w.heap.size w w'
set_option maxHeartbeats 1000000 in
theorem drawEncode_any (v : Value) (n : Nat) (w : World) (hn : n ≤ 1048576) (hc : quc w w.heap.size v n) : Calls Tryz.prog 5 #[v] w (DmD w) := by
  obtain ⟨W0, HW0⟩ : ∃ W0, Hid (w.alloc (.cells #[.int .i64 0, .int .i64 0, .int .i64 0, .int .i64 0, .int .i64 0, .int .i64 0, .int .i64 0, .bool false, .slice none 0 0, .slice none 0 0, .string ⟨#[]⟩, .bool false] 27) = W0) := ⟨_, rfl⟩
  have Z0 : Hid (Kc12 27 W0 w.heap.size (.int .i64 0) (.int .i64 0) (.int .i64 0) (.int .i64 0) (.int .i64 0) (.int .i64 0) (.int .i64 0) (.bool false) (.slice none 0 0) (.slice none 0 0) (.string ⟨#[]⟩) (.bool false)) := by rw [← HW0.out]; exact Kc12.new _ _ _ _ _ _ _ _ _ _ _ _ _ _
  have B0 : Hid (Below w.heap.size w W0) := by rw [← HW0.out]; exact ba (Below.refl _ _) _
  have HCO : Hid (quc W0 W0.heap.size v n) := hc.on B0.out
  clear hc
  go_enter Tryz.func5, Tryz.ntmps5
  go_wp2_with fail
  rw [HW0.out]
  refine (new_any v n _ hn HCO.out).mono ?_
  rintro x W1 ⟨g, rfl, hg, hd1, hb1⟩
  have HB1 : Hid (Below W0.heap.size W0 W1) := hb1
  have HD1 : Hid (Drw W1 g) := hd1
  clear hb1 hd1 HCO HW0
  go_wp2_with fail
  refine (l18Any_any g W1 HD1.out).mono ?_
  rintro x W2 ⟨kd, fr, up, tm, ix, lt, cm, ok, da, la, o0, o1, o2, c0, c1, c2, l, cs, rfl, hup, hl, hsz, hcl, hdz, ho, hq, hd2, hs2⟩
  have HBB : Below W0.heap.size W0 W2 := HB1.out.trans (hs2.below hg HB1.out.size)
  have Z2 := Z0.out.up HBB
  have hbw : Below w.heap.size w W2 := B0.out.trans (HBB.mono B0.out.size)
  have hlt : w.heap.size < W1.heap.size := Nat.lt_of_lt_of_le Z0.out.lt HB1.out.size
  have KE := Z2.set (.int .i64 kd) (.int .i64 fr) (.int .i64 up) (.int .i64 tm) (.int .i64 ix) (.int .i64 lt) (.int .i64 cm) (.bool ok) (.slice o0 o1 o2) (.slice c0 c1 c2) (.string da) (.bool la)
  have HE : Hid (DmD w (.returned (.agg #[.int .i64 kd, .int .i64 fr, .int .i64 up, .int .i64 tm, .int .i64 ix, .int .i64 lt, .int .i64 cm, .bool ok, .slice o0 o1 o2, .slice c0 c1 c2, .string da, .bool la])) (set12 W2 w.heap.size (.int .i64 kd) (.int .i64 fr) (.int .i64 up) (.int .i64 tm) (.int .i64 ix) (.int .i64 lt) (.int .i64 cm) (.bool ok) (.slice o0 o1 o2) (.slice c0 c1 c2) (.string da) (.bool la))) := ⟨kd, fr, up, tm, ix, lt, cm, ok, da, la, o0, o1, o2, c0, c1, c2, l, cs, rfl, hl, hsz, hcl, (qva ho hlt _ _ _ _ _ _ _ _ _ _ _ _).reads, (qva hq hlt _ _ _ _ _ _ _ _ _ _ _ _).reads, qya hbw (Nat.le_refl _) _ _ _ _ _ _ _ _ _ _ _ _⟩
  clear hup hl hsz hcl hdz ho hq hd2 hs2 HB1 HD1 hg hn HBB hbw B0 Z0 hlt
  go_wp2_with (first | refine qja rfl (.tmp 2) (.tmp 5) rfl _ rfl Z2 kd fr up tm ix lt cm ok la o0 c0 o1 o2 c1 c2 da rfl ?_ | exact bodyPost_ret (qgd rfl rfl KE) rfl HE.out)
set_option maxHeartbeats 1000000 in
theorem drawDecode_any (v : Value) (n : Nat) (w : World) (hn : n ≤ 1048576) (hc : quc w w.heap.size v n) : Calls Tryz.prog 11 #[v] w fun e w' => ∃ t : ByteArray, e = .returned (.string t) ∧ t.size ≤ 10001 ∧ Below w.heap.size w w' := by
  go_enter Tryz.func11, Tryz.ntmps11
  go_wp2_with fail
  refine (new_any v n _ hn hc).mono ?_
  rintro x W1 ⟨g, rfl, hg, hd1, hb1⟩
  have HB1 : Hid (Below w.heap.size w W1) := hb1
  have HD1 : Hid (Drw W1 g) := hd1
  clear hb1 hd1 hc
  go_wp2_with fail
  refine (l18Any_any g W1 HD1.out).mono ?_
  rintro x W2 ⟨kd, fr, up, tm, ix, lt, cm, ok, da, la, o0, o1, o2, c0, c1, c2, l, cs, rfl, hup, hl, hsz, hcl, hdz, ho, hq, hd2, hs2⟩
  have HB2 : Hid (Below w.heap.size w W2) := HB1.out.trans (hs2.below hg HB1.out.size)
  have HD2 : Hid (Drw W2 g) := hd2
  have HEN : Hid (Calls Tryz.prog 33 #[.agg #[.int .i64 kd, .int .i64 fr, .int .i64 up, .int .i64 tm, .int .i64 ix, .int .i64 lt, .int .i64 cm, .bool ok, .slice o0 o1 o2, .slice c0 c1 c2, .string da, .bool la]] W2 fun e' w' => e' = .returned (encV kd fr up tm ix lt cm ok da la l cs) ∧ Below W2.heap.size W2 w') := qsd kd fr up tm ix lt cm ok da la _ _ l cs W2 ho.reads hq.reads (by omega) (by omega) (fun f hf => by have := hsz f hf; omega)
  obtain ⟨T, q, hv, hq1, hq2, hq3⟩ := encV_forms kd fr up tm ix lt cm ok da la l cs
  have HT : Hid (T.size ≤ 10000) := by
    show _ ≤ _
    cases q with
    | true => rw [hq2 rfl]; exact encS_size' ok hq1.symm
    | false => rw [hq3 rfl]; exact Nat.zero_le _
  rw [hv] at HEN
  clear hs2 hd2 HB1 HD1 hup hl hsz hcl hdz ho hq hv hq1 hq2 hq3 hn
  go_wp2_with fail
  refine HEN.out.mono ?_
  rintro x W3 ⟨rfl, hb3⟩
  have HB3 : Hid (Below w.heap.size w W3) := Below.on HB2.out hb3
  have HD3 : Hid (Drw W3 g) := HD2.out.keep (hb3.mono HD2.out.lt)
  clear hb3 HB2 HD2 HEN
  go_wp2_with fail
  refine (spoilt_any g T _ HD3.out HT.out).mono ?_
  rintro x W4 ⟨t, rfl, ht, hd4, hs4⟩
  have HB4 : Hid (Below w.heap.size w W4) := HB3.out.trans (hs4.below hg HB3.out.size)
  clear HB3 HD3 hd4 hs4
  go_wp2
  go_ret
  exact ⟨t, rfl, ht, HB4.out⟩
set_option maxRecDepth 10000 in
set_option maxHeartbeats 8000000 in
theorem law_Messages (v : Value) (n : Nat) (w : World) (hn : n ≤ 9223372036854775807) (hc : quc w w.heap.size v n) :
    Calls Tryz.prog 3 #[v] w fun e w' => e = .returned (.bool true) ∧ Below w.heap.size w w' := by
  have HCO : Hid (quc w w.heap.size v n) := hc
  obtain ⟨a, cap, rfl, -⟩ := hc
  by_cases hbig : 1048576 < n
  · have HB : Hid (∀ w, Calls Tryz.prog 4 #[.slice a n cap] w fun e w' => e = .returned (.bool true) ∧ w' = w) := by
      intro w; have := big_any a n cap w hn; rwa [decide_eq_true hbig] at this
    go_enter Tryz.func3, Tryz.ntmps3
    go_wp2_with (go_at_call 4; refine (HB.out _).mono ?_; rintro e w1 ⟨rfl, hw⟩; have hw2 := hw.symm; subst hw2)
    go_ret
    exact ⟨rfl, Below.refl _ _⟩
  · have HB : Hid (∀ w, Calls Tryz.prog 4 #[.slice a n cap] w fun e w' => e = .returned (.bool false) ∧ w' = w) := by
      intro w; have := big_any a n cap w hn; rwa [decide_eq_false hbig] at this
    have HNN : Hid (n ≤ 1048576) := by show n ≤ 1048576; omega
    go_enter Tryz.func3, Tryz.ntmps3
    go_wp2_with fail
    refine (HB.out _).mono ?_
    rintro e w1 ⟨rfl, hw⟩
    have hw2 := hw.symm
    subst hw2
    clear HB hbig hn
    go_wp2_with fail
    refine (drawEncode_any _ n _ HNN.out HCO.out).mono ?_
    rintro e w2 ⟨kd, fr, up, tm, ix, lt, cm, ok, da, la, o0, o1, o2, c0, c1, c2, l, cs, rfl, hl, hsz, hcl, hr, hq, hb2⟩
    have HZ : Hid (qsc l) := fun f hf => by have := hsz f hf; omega
    have HLL : Hid (l.length ≤ 1048577 ∧ cs.length ≤ 1048577) := ⟨by omega, by omega⟩
    obtain ⟨T, q, hv, hq1, hq2, hq3⟩ := encV_forms kd fr up tm ix lt cm ok da la l cs
    have HTS : Hid (T.size ≤ 1048576) := by
      show _ ≤ _
      cases q with
      | true => rw [hq2 rfl]; exact Nat.le_trans (encS_size' ok hq1.symm) (by decide)
      | false => rw [hq3 rfl]; exact Nat.zero_le _
    have HE : Hid (∀ W, Reads W (.slice o0 o1 o2) l → Reads W (.slice c0 c1 c2) cs → Calls Tryz.prog 6 #[.agg #[.int .i64 kd, .int .i64 fr, .int .i64 up, .int .i64 tm, .int .i64 ix, .int .i64 lt, .int .i64 cm, .bool ok, .slice o0 o1 o2, .slice c0 c1 c2, .string da, .bool la]] W fun e' w' => e' = .returned (.tuple #[.string T, .bool q]) ∧ Below W.heap.size W w') := fun W h1 h2 => by
      rw [← hv]
      exact qud kd fr up tm ix lt cm ok da la o0 c0 o1 o2 c1 c2 l cs W h1 h2 HLL.out.1 HLL.out.2 HZ.out
    have HMS : Hid (∀ W, Reads W (.slice o0 o1 o2) l → Reads W (.slice c0 c1 c2) cs → Calls Tryz.prog 8 #[.agg #[.int .i64 kd, .int .i64 fr, .int .i64 up, .int .i64 tm, .int .i64 ix, .int .i64 lt, .int .i64 cm, .bool ok, .slice o0 o1 o2, .slice c0 c1 c2, .string da, .bool la]] W fun e' w' => e' = .returned (.bool q) ∧ Below W.heap.size W w') := fun W h1 h2 => by
      rw [hq1]
      exact qnd kd fr up tm ix lt cm ok da la _ _ l cs W h1 h2 HLL.out.1 HLL.out.2 HZ.out
    have HMI : Hid (∀ W, Reads W (.slice o0 o1 o2) l → Reads W (.slice c0 c1 c2) cs → Calls Tryz.prog 9 #[.agg #[.int .i64 kd, .int .i64 fr, .int .i64 up, .int .i64 tm, .int .i64 ix, .int .i64 lt, .int .i64 cm, .bool ok, .slice o0 o1 o2, .slice c0 c1 c2, .string da, .bool la]] W fun e' w' => e' = .returned (.bool q) ∧ Below W.heap.size W w') := fun W h1 h2 => by
      rw [hq1]
      exact implMessageOk_any kd fr up tm ix lt cm ok da la _ _ l cs W h1 h2 HLL.out.1 HLL.out.2 HZ.out
    obtain ⟨kd', fr', up', tm', ix', lt', cm', ok', da', la', l', cs', z, HDE, hback⟩ : ∃ (kd' fr' up' tm' ix' lt' cm' : Int) (ok' : Bool) (da' : ByteArray) (la' : Bool) (l' : List En) (cs' : List Int) (z : Bool), Hid (∀ W, Calls Tryz.prog 7 #[.string T] W fun e w' => ∃ ea en ec oa on oc, e = .returned (.tuple #[.agg #[.int .i64 kd', .int .i64 fr', .int .i64 up', .int .i64 tm', .int .i64 ix', .int .i64 lt', .int .i64 cm', .bool ok', .slice ea en ec, .slice oa on oc, .string da', .bool la'], .bool z]) ∧ ownsR w' W.heap.size 59 (.slice ea en ec) l' ∧ ownsR w' W.heap.size 3 (.slice oa on oc) cs' ∧ Below W.heap.size W w') ∧ (q = true → kd' = kd ∧ fr' = fr ∧ up' = up ∧ tm' = tm ∧ ix' = ix ∧ lt' = lt ∧ cm' = cm ∧ ok' = ok ∧ da' = da ∧ la' = la ∧ l' = l ∧ cs' = cs ∧ z = true) := by
      refine ⟨(((rcM T).getD zeroM).kd : Int), (((rcM T).getD zeroM).fr : Int), (((rcM T).getD zeroM).up : Int), (((rcM T).getD zeroM).tm : Int), (((rcM T).getD zeroM).ix : Int), (((rcM T).getD zeroM).lt : Int), (((rcM T).getD zeroM).cm : Int), ((rcM T).getD zeroM).ok, ((rcM T).getD zeroM).da, ((rcM T).getD zeroM).la, ((rcM T).getD zeroM).es, confT ((rcM T).getD zeroM).c, (rcM T).isSome, fun W => implDecode_any T W HTS.out, fun hqt => ?_⟩
      obtain ⟨y, hy, y0, y1, y2, y3, y4, y5, y6, y7, y8, y9, y10, y11⟩ := back_all ok (hq1.symm.trans hqt)
      rw [← hq2 hqt] at hy
      rw [hy]
      exact ⟨y0, y1, y2, y3, y4, y5, y6, y7, y11, y8, y9, y10, rfl⟩
    obtain ⟨W2, HW2⟩ : ∃ V, Hid (w2.alloc (.cells #[.int .i64 kd, .int .i64 fr, .int .i64 up, .int .i64 tm, .int .i64 ix, .int .i64 lt, .int .i64 cm, .bool ok, .slice o0 o1 o2, .slice c0 c1 c2, .string da, .bool la] 27) = V) := ⟨_, rfl⟩
    obtain ⟨mb, hmb⟩ : ∃ b, w2.heap.size = b := ⟨_, rfl⟩
    have KM2 : Kc12 27 W2 mb (.int .i64 kd) (.int .i64 fr) (.int .i64 up) (.int .i64 tm) (.int .i64 ix) (.int .i64 lt) (.int .i64 cm) (.bool ok) (.slice o0 o1 o2) (.slice c0 c1 c2) (.string da) (.bool la) := by rw [← HW2.out, ← hmb]; exact Kc12.new _ _ _ _ _ _ _ _ _ _ _ _ _ _
    have B2 : Hid (Below w.heap.size w W2) := by rw [← HW2.out]; exact ba hb2 _
    have R2 : Hid (Reads W2 (.slice o0 o1 o2) l) := by rw [← HW2.out]; exact hr.alloc _
    have Q2 : Hid (Reads W2 (.slice c0 c1 c2) cs) := by rw [← HW2.out]; exact hq.alloc _
    clear hl hsz hcl hr hq hb2 hv hq1 hq2 hq3 HZ HTS
    go_wp2_with (first | rw [HW2.out] | rw [hmb] | refine qna rfl (.tmp 3) rfl mb rfl KM2 ?_)
    clear hmb HW2
    refine (HE.out _ R2.out Q2.out).mono ?_
    rintro e w3 ⟨rfl, hb3⟩
    have KM3 := KM2.up hb3
    have B3 : Hid (Below w.heap.size w w3) := Below.on B2.out hb3
    have R3 : Hid (Reads w3 (.slice o0 o1 o2) l) := R2.out.below hb3
    have Q3 : Hid (Reads w3 (.slice c0 c1 c2) cs) := Q2.out.below hb3
    clear hb3 KM2 B2 R2 Q2 HE
    go_wp2_with fail
    refine (HDE.out _).mono ?_
    rintro e w4 ⟨ea, en, ec, oa, on, oc, rfl, he4, ho4, hb4⟩
    obtain ⟨W4, HW4⟩ : ∃ V, Hid (w4.alloc (.cells #[.int .i64 kd', .int .i64 fr', .int .i64 up', .int .i64 tm', .int .i64 ix', .int .i64 lt', .int .i64 cm', .bool ok', .slice ea en ec, .slice oa on oc, .string da', .bool la'] 27) = V) := ⟨_, rfl⟩
    obtain ⟨bb, hbb⟩ : ∃ b, w4.heap.size = b := ⟨_, rfl⟩
    have KM4 : Kc12 27 W4 mb (.int .i64 kd) (.int .i64 fr) (.int .i64 up) (.int .i64 tm) (.int .i64 ix) (.int .i64 lt) (.int .i64 cm) (.bool ok) (.slice o0 o1 o2) (.slice c0 c1 c2) (.string da) (.bool la) := by rw [← HW4.out]; exact (KM3.up hb4).alloc _
    have KB4 : Kc12 27 W4 bb (.int .i64 kd') (.int .i64 fr') (.int .i64 up') (.int .i64 tm') (.int .i64 ix') (.int .i64 lt') (.int .i64 cm') (.bool ok') (.slice ea en ec) (.slice oa on oc) (.string da') (.bool la') := by rw [← HW4.out, ← hbb]; exact Kc12.new _ _ _ _ _ _ _ _ _ _ _ _ _ _
    have B4 : Hid (Below w.heap.size w W4) := by rw [← HW4.out]; exact ba (Below.on B3.out hb4) _
    have R4 : Hid (Reads W4 (.slice o0 o1 o2) l) := by rw [← HW4.out]; exact (R3.out.below hb4).alloc _
    have Q4 : Hid (Reads W4 (.slice c0 c1 c2) cs) := by rw [← HW4.out]; exact (Q3.out.below hb4).alloc _
    have E4 : Hid (Reads W4 (.slice ea en ec) l') := by rw [← HW4.out]; exact he4.reads.alloc _
    have O4 : Hid (Reads W4 (.slice oa on oc) cs') := by rw [← HW4.out]; exact ho4.reads.alloc _
    clear he4 ho4 hb4 KM3 B3 R3 Q3 HDE
    go_wp2_with (first | rw [HW4.out] | rw [hbb] | refine qna rfl (.tmp 3) rfl mb rfl KM4 ?_)
    clear hbb HW4
    refine (HMS.out _ R4.out Q4.out).mono ?_
    rintro e w5 ⟨rfl, hb5⟩
    have KM5 := KM4.up hb5
    have KB5 := KB4.up hb5
    have B5 : Hid (Below w.heap.size w w5) := Below.on B4.out hb5
    have R5 : Hid (Reads w5 (.slice o0 o1 o2) l) := R4.out.below hb5
    have Q5 : Hid (Reads w5 (.slice c0 c1 c2) cs) := Q4.out.below hb5
    have E5 : Hid (Reads w5 (.slice ea en ec) l') := E4.out.below hb5
    have O5 : Hid (Reads w5 (.slice oa on oc) cs') := O4.out.below hb5
    clear hb5 KM4 KB4 B4 R4 Q4 E4 O4 HMS
    have m0 := KM5.c0
    have m1 := KM5.c1
    have m2 := KM5.c2
    have m3 := KM5.c3
    have m4 := KM5.c4
    have m5 := KM5.c5
    have m6 := KM5.c6
    have m7 := KM5.c7
    have m8 := KM5.c8
    have m9 := KM5.c9
    have m10 := KM5.c10
    have m11 := KM5.c11
    go_wp2_with fail
    clear m0 m1 m2 m3 m4 m5 m6 m7 m8 m9 m10 m11
    refine (HMI.out _ R5.out Q5.out).mono ?_
    rintro e w6 ⟨rfl, hb6⟩
    have KM6 := KM5.up hb6
    have KB6 := KB5.up hb6
    have B6 : Hid (Below w.heap.size w w6) := Below.on B5.out hb6
    have R6 : Hid (Reads w6 (.slice o0 o1 o2) l) := R5.out.below hb6
    have Q6 : Hid (Reads w6 (.slice c0 c1 c2) cs) := Q5.out.below hb6
    have E6 : Hid (Reads w6 (.slice ea en ec) l') := E5.out.below hb6
    have O6 : Hid (Reads w6 (.slice oa on oc) cs') := O5.out.below hb6
    clear hb6 KM5 KB5 B5 R5 Q5 E5 O5 HMI
    cases q with
    | false =>
      clear hback KM6 KB6 R6 Q6 E6 O6 HLL
      have BL := B6
      go_wp2_with fail
      clear B6
      refine (drawDecode_any _ n _ HNN.out (HCO.out.on BL.out)).mono ?_
      rintro e w8 ⟨t, rfl, ht, hb8⟩
      have B8 : Hid (Below w.heap.size w w8) := Below.on BL.out hb8
      obtain ⟨x, HX⟩ : ∃ x, Hid ((rcM t).getD zeroM = x) := ⟨_, rfl⟩
      obtain ⟨zz, HZZ⟩ : ∃ z, Hid ((rcM t).isSome = z) := ⟨_, rfl⟩
      have HFX : Hid (x.es.length ≤ 1048577 ∧ ∀ f ∈ x.es, f.data.size ≤ 1048576) := by
        show _ ∧ _
        rw [← HX.out]
        cases hr : rcM t with
        | none => exact ⟨Nat.zero_le _, fun f hf => (by cases hf)⟩
        | some y =>
          have h1 := rcM_chS t
          rw [hr] at h1
          split at h1
          · injection h1 with h1
            show y.es.length ≤ _ ∧ _
            rw [h1]
            have h2 := chS_fine t
            exact ⟨by have := h2.1; omega, fun f hf => by have := h2.2 f hf; omega⟩
          · cases h1
      obtain ⟨T2, q2, hv2, hq21, hq22⟩ := encX_forms x
      have HTT : Hid (zz = true → T2 = t) := fun hz => by
        have hs : ∃ y, rcM t = some y := by
          cases hr : rcM t with
          | none => rw [← HZZ.out, hr] at hz; cases hz
          | some y => exact ⟨y, rfl⟩
        obtain ⟨y, hy⟩ := hs
        obtain rfl : y = x := by rw [← HX.out, hy]; rfl
        obtain ⟨o1, o2⟩ := rcM_out hy
        rw [hq22 (by rw [hq21]; exact o1), o2]
      have HDI : Hid (∀ W, Calls Tryz.prog 7 #[.string t] W (RwM x zz W)) := fun W => by
        have := implDecode_any t W (by omega)
        rwa [HX.out, HZZ.out] at this
      have HDS : Hid (∀ W, Calls Tryz.prog 12 #[.string t] W (RwM x zz W)) := fun W => by
        have := specDecode_any t W (by omega)
        rwa [HX.out, HZZ.out] at this
      have HEX : Hid (∀ (W : World) (xa ya : Option Addr) (xn xc yn yc : Nat), Reads W (.slice xa xn xc) x.es → Reads W (.slice ya yn yc) (confT x.c) → Calls Tryz.prog 6 #[.agg #[.int .i64 (x.kd : Int), .int .i64 (x.fr : Int), .int .i64 (x.up : Int), .int .i64 (x.tm : Int), .int .i64 (x.ix : Int), .int .i64 (x.lt : Int), .int .i64 (x.cm : Int), .bool x.ok, .slice xa xn xc, .slice ya yn yc, .string x.da, .bool x.la]] W fun e' w' => e' = .returned (.tuple #[.string T2, .bool q2]) ∧ Below W.heap.size W w') := fun W xa ya xn xc yn yc h1 h2 => by
        rw [← hv2]
        exact qud (x.kd : Int) (x.fr : Int) (x.up : Int) (x.tm : Int) (x.ix : Int) (x.lt : Int) (x.cm : Int) x.ok x.da x.la xa ya xn xc yn yc x.es (confT x.c) W h1 h2 HFX.out.1 (by have := confT_len x.c; omega) HFX.out.2
      clear hv2 hq21 hq22 HX HZZ hb8 BL ht HNN HCO
      go_wp2_with fail
      refine (HDI.out _).mono ?_
      rintro e w9 ⟨xa, xn, xc, ya, yn, yc, rfl, hx9, hy9, hb9⟩
      obtain ⟨W9, HW9⟩ : ∃ V, Hid (w9.alloc (.cells #[.int .i64 (x.kd : Int), .int .i64 (x.fr : Int), .int .i64 (x.up : Int), .int .i64 (x.tm : Int), .int .i64 (x.ix : Int), .int .i64 (x.lt : Int), .int .i64 (x.cm : Int), .bool x.ok, .slice xa xn xc, .slice ya yn yc, .string x.da, .bool x.la] 27) = V) := ⟨_, rfl⟩
      obtain ⟨nb, hnb⟩ : ∃ b, w9.heap.size = b := ⟨_, rfl⟩
      have KN9 : Kc12 27 W9 nb (.int .i64 (x.kd : Int)) (.int .i64 (x.fr : Int)) (.int .i64 (x.up : Int)) (.int .i64 (x.tm : Int)) (.int .i64 (x.ix : Int)) (.int .i64 (x.lt : Int)) (.int .i64 (x.cm : Int)) (.bool x.ok) (.slice xa xn xc) (.slice ya yn yc) (.string x.da) (.bool x.la) := by rw [← HW9.out, ← hnb]; exact Kc12.new _ _ _ _ _ _ _ _ _ _ _ _ _ _
      have B9 : Hid (Below w.heap.size w W9) := by rw [← HW9.out]; exact ba (Below.on B8.out hb9) _
      have X9 : Hid (Reads W9 (.slice xa xn xc) x.es) := by rw [← HW9.out]; exact hx9.reads.alloc _
      have Y9 : Hid (Reads W9 (.slice ya yn yc) (confT x.c)) := by rw [← HW9.out]; exact hy9.reads.alloc _
      clear hx9 hy9 hb9 B8 HDI
      go_wp2_with (first | rw [HW9.out] | rw [hnb])
      clear hnb HW9
      refine (HDS.out _).mono ?_
      rintro e w10 ⟨va, vn, vc, ua, un, uc, rfl, -, -, hb10⟩
      obtain ⟨W10, HW10⟩ : ∃ V, Hid (w10.alloc (.cells #[.int .i64 (x.kd : Int), .int .i64 (x.fr : Int), .int .i64 (x.up : Int), .int .i64 (x.tm : Int), .int .i64 (x.ix : Int), .int .i64 (x.lt : Int), .int .i64 (x.cm : Int), .bool x.ok, .slice va vn vc, .slice ua un uc, .string x.da, .bool x.la] 27) = V) := ⟨_, rfl⟩
      have KN10 : Kc12 27 W10 nb (.int .i64 (x.kd : Int)) (.int .i64 (x.fr : Int)) (.int .i64 (x.up : Int)) (.int .i64 (x.tm : Int)) (.int .i64 (x.ix : Int)) (.int .i64 (x.lt : Int)) (.int .i64 (x.cm : Int)) (.bool x.ok) (.slice xa xn xc) (.slice ya yn yc) (.string x.da) (.bool x.la) := by rw [← HW10.out]; exact (KN9.up hb10).alloc _
      have B10 : Hid (Below w.heap.size w W10) := by rw [← HW10.out]; exact ba (Below.on B9.out hb10) _
      have X10 : Hid (Reads W10 (.slice xa xn xc) x.es) := by rw [← HW10.out]; exact (X9.out.below hb10).alloc _
      have Y10 : Hid (Reads W10 (.slice ya yn yc) (confT x.c)) := by rw [← HW10.out]; exact (Y9.out.below hb10).alloc _
      clear hb10 KN9 B9 X9 Y9 HDS
      go_wp2_with (first | rw [HW10.out] | refine qna rfl (.tmp 9) rfl nb rfl KN10 ?_)
      clear KN10 HW10
      refine (HEX.out _ _ _ _ _ _ _ X10.out Y10.out).mono ?_
      rintro e w11 ⟨rfl, hb11⟩
      have B11 : Hid (Below w.heap.size w w11) := Below.on B10.out hb11
      clear hb11 B10 X10 Y10 HEX
      cases zz with
      | false =>
        go_wp2
        go_ret
        exact ⟨rfl, B11.out⟩
      | true =>
        obtain rfl := HTT.out rfl
        go_wp2
        go_ret
        exact ⟨rfl, B11.out⟩
    | true =>
      obtain ⟨rfl, rfl, rfl, rfl, rfl, rfl, rfl, rfl, rfl, rfl, rfl, rfl, rfl⟩ := hback rfl
      have m0 := KM6.c0
      have m1 := KM6.c1
      have m2 := KM6.c2
      have m3 := KM6.c3
      have m4 := KM6.c4
      have m5 := KM6.c5
      have m6 := KM6.c6
      have m7 := KM6.c7
      have m8 := KM6.c8
      have m9 := KM6.c9
      have m10 := KM6.c10
      have m11 := KM6.c11
      have n0 := KB6.c0
      have n1 := KB6.c1
      have n2 := KB6.c2
      have n3 := KB6.c3
      have n4 := KB6.c4
      have n5 := KB6.c5
      have n6 := KB6.c6
      have n7 := KB6.c7
      have n8 := KB6.c8
      have n9 := KB6.c9
      have n10 := KB6.c10
      have n11 := KB6.c11
      go_wp2_with fail
      clear m0 m1 m2 m3 m4 m5 m6 m7 m8 m9 m10 m11 n0 n1 n2 n3 n4 n5 n6 n7 n8 n9 n10 n11 KM6 KB6
      refine (sameMessage_any kd' fr' up' tm' ix' lt' cm' ok' da' la' E6.out R6.out O6.out Q6.out HLL.out.1 HLL.out.2).mono ?_
      rintro e w7 ⟨rfl, hb7⟩
      have BL : Hid (Below w.heap.size w w7) := Below.on B6.out hb7
      clear hb7 B6 R6 Q6 E6 O6 HLL
      go_wp2_with fail
      refine (drawDecode_any _ n _ HNN.out (HCO.out.on BL.out)).mono ?_
      rintro e w8 ⟨t, rfl, ht, hb8⟩
      have B8 : Hid (Below w.heap.size w w8) := Below.on BL.out hb8
      obtain ⟨x, HX⟩ : ∃ x, Hid ((rcM t).getD zeroM = x) := ⟨_, rfl⟩
      obtain ⟨zz, HZZ⟩ : ∃ z, Hid ((rcM t).isSome = z) := ⟨_, rfl⟩
      have HFX : Hid (x.es.length ≤ 1048577 ∧ ∀ f ∈ x.es, f.data.size ≤ 1048576) := by
        show _ ∧ _
        rw [← HX.out]
        cases hr : rcM t with
        | none => exact ⟨Nat.zero_le _, fun f hf => (by cases hf)⟩
        | some y =>
          have h1 := rcM_chS t
          rw [hr] at h1
          split at h1
          · injection h1 with h1
            show y.es.length ≤ _ ∧ _
            rw [h1]
            have h2 := chS_fine t
            exact ⟨by have := h2.1; omega, fun f hf => by have := h2.2 f hf; omega⟩
          · cases h1
      obtain ⟨T2, q2, hv2, hq21, hq22⟩ := encX_forms x
      have HTT : Hid (zz = true → T2 = t) := fun hz => by
        have hs : ∃ y, rcM t = some y := by
          cases hr : rcM t with
          | none => rw [← HZZ.out, hr] at hz; cases hz
          | some y => exact ⟨y, rfl⟩
        obtain ⟨y, hy⟩ := hs
        obtain rfl : y = x := by rw [← HX.out, hy]; rfl
        obtain ⟨o1, o2⟩ := rcM_out hy
        rw [hq22 (by rw [hq21]; exact o1), o2]
      have HDI : Hid (∀ W, Calls Tryz.prog 7 #[.string t] W (RwM x zz W)) := fun W => by
        have := implDecode_any t W (by omega)
        rwa [HX.out, HZZ.out] at this
      have HDS : Hid (∀ W, Calls Tryz.prog 12 #[.string t] W (RwM x zz W)) := fun W => by
        have := specDecode_any t W (by omega)
        rwa [HX.out, HZZ.out] at this
      have HEX : Hid (∀ (W : World) (xa ya : Option Addr) (xn xc yn yc : Nat), Reads W (.slice xa xn xc) x.es → Reads W (.slice ya yn yc) (confT x.c) → Calls Tryz.prog 6 #[.agg #[.int .i64 (x.kd : Int), .int .i64 (x.fr : Int), .int .i64 (x.up : Int), .int .i64 (x.tm : Int), .int .i64 (x.ix : Int), .int .i64 (x.lt : Int), .int .i64 (x.cm : Int), .bool x.ok, .slice xa xn xc, .slice ya yn yc, .string x.da, .bool x.la]] W fun e' w' => e' = .returned (.tuple #[.string T2, .bool q2]) ∧ Below W.heap.size W w') := fun W xa ya xn xc yn yc h1 h2 => by
        rw [← hv2]
        exact qud (x.kd : Int) (x.fr : Int) (x.up : Int) (x.tm : Int) (x.ix : Int) (x.lt : Int) (x.cm : Int) x.ok x.da x.la xa ya xn xc yn yc x.es (confT x.c) W h1 h2 HFX.out.1 (by have := confT_len x.c; omega) HFX.out.2
      clear hv2 hq21 hq22 HX HZZ hb8 BL ht HNN HCO
      go_wp2_with fail
      refine (HDI.out _).mono ?_
      rintro e w9 ⟨xa, xn, xc, ya, yn, yc, rfl, hx9, hy9, hb9⟩
      obtain ⟨W9, HW9⟩ : ∃ V, Hid (w9.alloc (.cells #[.int .i64 (x.kd : Int), .int .i64 (x.fr : Int), .int .i64 (x.up : Int), .int .i64 (x.tm : Int), .int .i64 (x.ix : Int), .int .i64 (x.lt : Int), .int .i64 (x.cm : Int), .bool x.ok, .slice xa xn xc, .slice ya yn yc, .string x.da, .bool x.la] 27) = V) := ⟨_, rfl⟩
      obtain ⟨nb, hnb⟩ : ∃ b, w9.heap.size = b := ⟨_, rfl⟩
      have KN9 : Kc12 27 W9 nb (.int .i64 (x.kd : Int)) (.int .i64 (x.fr : Int)) (.int .i64 (x.up : Int)) (.int .i64 (x.tm : Int)) (.int .i64 (x.ix : Int)) (.int .i64 (x.lt : Int)) (.int .i64 (x.cm : Int)) (.bool x.ok) (.slice xa xn xc) (.slice ya yn yc) (.string x.da) (.bool x.la) := by rw [← HW9.out, ← hnb]; exact Kc12.new _ _ _ _ _ _ _ _ _ _ _ _ _ _
      have B9 : Hid (Below w.heap.size w W9) := by rw [← HW9.out]; exact ba (Below.on B8.out hb9) _
      have X9 : Hid (Reads W9 (.slice xa xn xc) x.es) := by rw [← HW9.out]; exact hx9.reads.alloc _
      have Y9 : Hid (Reads W9 (.slice ya yn yc) (confT x.c)) := by rw [← HW9.out]; exact hy9.reads.alloc _
      clear hx9 hy9 hb9 B8 HDI
      go_wp2_with (first | rw [HW9.out] | rw [hnb])
      clear hnb HW9
      refine (HDS.out _).mono ?_
      rintro e w10 ⟨va, vn, vc, ua, un, uc, rfl, -, -, hb10⟩
      obtain ⟨W10, HW10⟩ : ∃ V, Hid (w10.alloc (.cells #[.int .i64 (x.kd : Int), .int .i64 (x.fr : Int), .int .i64 (x.up : Int), .int .i64 (x.tm : Int), .int .i64 (x.ix : Int), .int .i64 (x.lt : Int), .int .i64 (x.cm : Int), .bool x.ok, .slice va vn vc, .slice ua un uc, .string x.da, .bool x.la] 27) = V) := ⟨_, rfl⟩
      have KN10 : Kc12 27 W10 nb (.int .i64 (x.kd : Int)) (.int .i64 (x.fr : Int)) (.int .i64 (x.up : Int)) (.int .i64 (x.tm : Int)) (.int .i64 (x.ix : Int)) (.int .i64 (x.lt : Int)) (.int .i64 (x.cm : Int)) (.bool x.ok) (.slice xa xn xc) (.slice ya yn yc) (.string x.da) (.bool x.la) := by rw [← HW10.out]; exact (KN9.up hb10).alloc _
      have B10 : Hid (Below w.heap.size w W10) := by rw [← HW10.out]; exact ba (Below.on B9.out hb10) _
      have X10 : Hid (Reads W10 (.slice xa xn xc) x.es) := by rw [← HW10.out]; exact (X9.out.below hb10).alloc _
      have Y10 : Hid (Reads W10 (.slice ya yn yc) (confT x.c)) := by rw [← HW10.out]; exact (Y9.out.below hb10).alloc _
      clear hb10 KN9 B9 X9 Y9 HDS
      go_wp2_with (first | rw [HW10.out] | refine qna rfl (.tmp 9) rfl nb rfl KN10 ?_)
      clear KN10 HW10
      refine (HEX.out _ _ _ _ _ _ _ X10.out Y10.out).mono ?_
      rintro e w11 ⟨rfl, hb11⟩
      have B11 : Hid (Below w.heap.size w w11) := Below.on B10.out hb11
      clear hb11 B10 X10 Y10 HEX
      cases zz with
      | false =>
        go_wp2
        go_ret
        exact ⟨rfl, B11.out⟩
      | true =>
        obtain rfl := HTT.out rfl
        go_wp2
        go_ret
        exact ⟨rfl, B11.out⟩
end Go.Proofs.YtpjpheicldegkaaGreatDoor
