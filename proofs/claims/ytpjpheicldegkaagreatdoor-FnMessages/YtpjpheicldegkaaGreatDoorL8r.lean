/- L8r -/
import Derived.Test.YtpjpheicldegkaaGreatDoorGM19
import Derived.Test.YtpjpheicldegkaaGreatDoorGM22
import Derived.Test.YtpjpheicldegkaaGreatDoorGM15
import Derived.Test.YtpjpheicldegkaaGreatDoorGM14
namespace Go.Proofs.YtpjpheicldegkaaGreatDoor
open Go Go.RowKit
set_option linter.unusedVariables false

set_option maxRecDepth 10000 in
set_option maxHeartbeats 4000000 in
theorem l18Right_any (g : Nat) (w : World) (hd : Drw w g) : Calls Tryz.prog 40 #[.pointer (some ⟨g, 0, none⟩)] w (LmD 5 g w) := by
  have hgl : g < w.heap.size := hd.lt
  obtain ⟨W0, HW0⟩ : ∃ W0, Hid (w.alloc (.cells #[.int .i64 0, .int .i64 0, .int .i64 0, .int .i64 0, .int .i64 0, .int .i64 0, .int .i64 0, .bool false, .slice none 0 0, .slice none 0 0, .string ⟨#[]⟩, .bool false] 27) = W0) := ⟨_, rfl⟩
  have Z0 : Hid (Kc12 27 W0 w.heap.size (.int .i64 0) (.int .i64 0) (.int .i64 0) (.int .i64 0) (.int .i64 0) (.int .i64 0) (.int .i64 0) (.bool false) (.slice none 0 0) (.slice none 0 0) (.string ⟨#[]⟩) (.bool false)) := by rw [← HW0.out]; exact Kc12.new _ _ _ _ _ _ _ _ _ _ _ _ _ _
  have B0 : Hid (Below w.heap.size w W0) := by rw [← HW0.out]; exact ba (Below.refl _ _) _
  have D0 : Hid (Drw W0 g) := hd.keep (B0.out.mono hgl)
  have S0 : Hid (Save g W0 W0) := Save.refl _ _
  clear hd
  go_enter Tryz.func40, Tryz.ntmps40
  go_wp2_with fail
  rw [HW0.out]
  refine (qhe g 6 W0 _ D0.out S0.out (by decide) (by decide)).mono ?_
  rintro e W1 ⟨a0, rfl, p0, q0, hd, hs⟩
  have D1 : Hid (Drw W1 g) := hd
  have S1 : Hid (Save g W0 W1) := hs
  clear hd hs D0 S0
  go_wp2_with fail
  refine (qhe g 4 W0 _ D1.out S1.out (by decide) (by decide)).mono ?_
  rintro e W2 ⟨a1, rfl, p1, q1, hd, hs⟩
  have D2 : Hid (Drw W2 g) := hd
  have S2 : Hid (Save g W0 W2) := hs
  clear hd hs D1 S1
  go_wp2_with fail
  refine (qhe g 8 W0 _ D2.out S2.out (by decide) (by decide)).mono ?_
  rintro e W3 ⟨a2, rfl, p2, q2, hd, hs⟩
  have D3 : Hid (Drw W3 g) := hd
  have S3 : Hid (Save g W0 W3) := hs
  clear hd hs D2 S2
  go_wp2_with fail
  refine (qhe g 12 W0 _ D3.out S3.out (by decide) (by decide)).mono ?_
  rintro e W4 ⟨a3, rfl, p3, q3, hd, hs⟩
  have D4 : Hid (Drw W4 g) := hd
  have S4 : Hid (Save g W0 W4) := hs
  clear hd hs D3 S3
  go_wp2_with fail
  refine (qhe g 5 W0 _ D4.out S4.out (by decide) (by decide)).mono ?_
  rintro e W5 ⟨a4, rfl, p4, q4, hd, hs⟩
  have D5 : Hid (Drw W5 g) := hd
  have S5 : Hid (Save g W0 W5) := hs
  clear hd hs D4 S4
  go_wp2_with fail
  refine (qhe g 9 W0 _ D5.out S5.out (by decide) (by decide)).mono ?_
  rintro e W6 ⟨a5, rfl, p5, q5, hd, hs⟩
  have D6 : Hid (Drw W6 g) := hd
  have S6 : Hid (Save g W0 W6) := hs
  clear hd hs D5 S5
  go_wp2_with fail
  refine (qxa g 2 _ D6.out (by decide) (by decide)).mono ?_
  rintro e W7 ⟨ok, rfl, hd, hs⟩
  have D7 : Hid (Drw W7 g) := hd
  have S7 : Hid (Save g W0 W7) := S6.out.trans hs
  clear hd hs D6 S6 HW0
  obtain ⟨kd, hkd⟩ : ∃ x, 1 + a0 = x := ⟨_, rfl⟩
  obtain ⟨fr, hfr⟩ : ∃ x, 1 + a1 = x := ⟨_, rfl⟩
  obtain ⟨up, hupe⟩ : ∃ x, fr % 4 + 1 = x := ⟨_, rfl⟩
  have hup : 0 ≤ up ∧ up ≤ 100 := by omega
  obtain ⟨W8, HW8⟩ : ∃ V, Hid (W7.alloc (.cells #[.int .i64 kd, .int .i64 fr, .int .i64 up, .int .i64 a2, .int .i64 a3, .int .i64 a4, .int .i64 a5, .bool ok, .slice none 0 0, .slice none 0 0, .string ⟨#[]⟩, .bool false] 27) = V) := ⟨_, rfl⟩
  obtain ⟨m, hm⟩ : ∃ m, W7.heap.size = m := ⟨_, rfl⟩
  have HM : Hid (M8S g w m (.int .i64 kd) (.int .i64 fr) (.int .i64 up) (.int .i64 a2) (.int .i64 a3) (.int .i64 a4) (.int .i64 a5) (.bool ok) (.slice none 0 0) (.slice none 0 0) (.string ⟨#[]⟩) (.bool false) [] [] W8) := by
    have h2 := Z0.out.lt
    have h1 := S7.out.size
    have hz : Kc12 27 W7 w.heap.size (.int .i64 0) (.int .i64 0) (.int .i64 0) (.int .i64 0) (.int .i64 0) (.int .i64 0) (.int .i64 0) (.bool false) (.slice none 0 0) (.slice none 0 0) (.string ⟨#[]⟩) (.bool false) := Z0.out.save S7.out (by omega)
    rw [← HW8.out, ← hm]
    exact ⟨hz.alloc _, Kc12.new _ _ _ _ _ _ _ _ _ _ _ _ _ _, (qmb _ _ _).alloc _, (qmb _ _ _).alloc _, D7.out.keep ((ba (Below.refl _ _) _).mono D7.out.lt), ((Save.of_below B0.out).trans S7.out).alloc _, hgl, by omega⟩
  have hf0 : 1 ≤ fr := by omega
  have hf1 : fr ≤ 4 := by omega
  clear D7 S7 Z0 B0 p0 q0 p1 q1 p3 q3 p4 q4 p5 q5
  by_cases h3 : kd = 3
  · subst h3
    have c0 := HM.out.msg.c0
    have c3 := HM.out.msg.c3
    go_wp2_with (first | rw [HW8.out] | rw [hm])
    refine (qga g (a2 + 1) _ HM.out.drw (by omega) (by omega)).mono ?_
    rintro e W9 ⟨lt, rfl, lt0, lt1, hd9, hs9⟩
    have HM9 : Hid (M8S g w m (.int .i64 3) (.int .i64 fr) (.int .i64 up) (.int .i64 a2) (.int .i64 a3) (.int .i64 a4) (.int .i64 a5) (.bool ok) (.slice none 0 0) (.slice none 0 0) (.string ⟨#[]⟩) (.bool false) [] [] W9) := HM.out.save hs9 hd9
    obtain ⟨W10, HW10⟩ : ∃ V, Hid (W9.setCell ⟨m, 5, none⟩ (.int .i64 lt) = V) := ⟨_, rfl⟩
    have HM10 : Hid (M8S g w m (.int .i64 3) (.int .i64 fr) (.int .i64 up) (.int .i64 a2) (.int .i64 a3) (.int .i64 lt) (.int .i64 a5) (.bool ok) (.slice none 0 0) (.slice none 0 0) (.string ⟨#[]⟩) (.bool false) [] [] W10) := by rw [← HW10.out]; exact HM9.out.s5 _
    have c5 := HM9.out.msg.c5
    have f5 := HM9.out.msg.fz 5
    have d5 := HM10.out.msg.c5
    clear hd9 hs9 HM HM9 HW8 hm c0 c3
    go_wp2_with (rw [HW10.out])
    clear c5 f5 d5 HW10
    go_loopw [4, 5] (fun tv iv wr => ∃ (k : Nat) (t : Int) (o0 : Option Addr) (o1 o2 : Nat) (l : List En), tv = .int .i64 t ∧ iv = .int .i64 k ∧ k ≤ 5 ∧ 0 ≤ t ∧ t ≤ a2 ∧ l.length = k ∧ Hid (∀ x ∈ l, x.data.size ≤ 1000) ∧ Hid (M8S g w m (.int .i64 3) (.int .i64 fr) (.int .i64 up) (.int .i64 a2) (.int .i64 a3) (.int .i64 lt) (.int .i64 a5) (.bool ok) (.slice o0 o1 o2) (.slice none 0 0) (.string ⟨#[]⟩) (.bool false) l [] wr)) (fun _ iv _ => 5 - (intOf iv).toNat)
    case atStart => exact ⟨0, lt, none, 0, 0, [], rfl, rfl, by decide, lt0, by omega, rfl, fun x h => (by cases h), HM10⟩
    case round =>
      clear HM10 lt0 lt1
      obtain ⟨k, t, o0, o1, o2, l, rfl, rfl, hk5, ht0, ht1, hl, HSZ, HL⟩ := hrel
      go_wp2_with fail
      refine (qga g 5 _ HL.out.drw (by decide) (by decide)).mono ?_
      rintro e V1 ⟨q, rfl, q0, q1, hd1, hs1⟩
      have HL1 : Hid (M8S g w m (.int .i64 3) (.int .i64 fr) (.int .i64 up) (.int .i64 a2) (.int .i64 a3) (.int .i64 lt) (.int .i64 a5) (.bool ok) (.slice o0 o1 o2) (.slice none 0 0) (.string ⟨#[]⟩) (.bool false) l [] V1) := HL.out.save hs1 hd1
      clear HL hd1 hs1
      by_cases hlt : (k : Int) < q
      · have c3 := HL1.out.msg.c3
        go_wp2_with fail
        refine (qga g (a2 - t + 1) _ HL1.out.drw (by omega) (by omega)).mono ?_
        rintro e V2 ⟨z, rfl, z0, z1, hd2, hs2⟩
        have HL2 : Hid (M8S g w m (.int .i64 3) (.int .i64 fr) (.int .i64 up) (.int .i64 a2) (.int .i64 a3) (.int .i64 lt) (.int .i64 a5) (.bool ok) (.slice o0 o1 o2) (.slice none 0 0) (.string ⟨#[]⟩) (.bool false) l [] V2) := HL1.out.save hs2 hd2
        obtain ⟨t2, ht2⟩ : ∃ u, t + z = u := ⟨_, rfl⟩
        have hu0 : 0 ≤ t2 := by omega
        have hu1 : t2 ≤ a2 := by omega
        have hk6 : k + 1 ≤ 5 := by omega
        clear HL1 hd2 hs2 c3
        have k2 : ∀ x : LmY m (.slice o0 o1 o2), x.at'.cell? ⟨m, 8, none⟩ = some (.slice o0 o1 o2) := fun x => x.okl
        haveI : Nonempty (LmY m (.slice o0 o1 o2)) := ⟨⟨V2, HL2.out.msg.c8⟩⟩
        go_wp2
        refine qha (fun w' => ∃ x : LmY m (.slice o0 o1 o2), w' = x.at') [0, 1, 2, 3] 7 3 (by kernel_rfl) (by decide) (by decide) (by kernel_rfl) (fun _ _ d _ _ h => by cases d <;> exact h) ⟨⟨V2.drew, HL2.out.drew.msg.c8⟩, rfl⟩ ?_
        repeat (refine qea rfl (by first | (intro x h; cases h; done) | (intro x h; cases h; exact ⟨_, rfl⟩)) ?_; go_big_quiet_step (fail); refine wpQuiet_nil ?_)
        refine qda ?_
        clear k2 ht2 z0 z1
        refine qfa (fuel := 2) (i := 4) (by kernel_rfl) rfl rfl ?_
        intro K hK
        obtain ⟨U0, HU0⟩ : ∃ V, Hid (V2.drew = V) := ⟨_, rfl⟩
        have HL0 : Hid (M8S g w m (.int .i64 3) (.int .i64 fr) (.int .i64 up) (.int .i64 a2) (.int .i64 a3) (.int .i64 lt) (.int .i64 a5) (.bool ok) (.slice o0 o1 o2) (.slice none 0 0) (.string ⟨#[]⟩) (.bool false) l [] U0) := by rw [← HU0.out]; exact HL2.out.drew
        rw [HU0.out]
        clear HU0 HL2
        go_wp2_with fail
        refine (l05Right_any g t2 _ HL0.out.drw).mono ?_
        rintro e U1 ⟨ft, fk, fd, rfl, hfd, hdr, hsv⟩
        obtain ⟨f, HF⟩ : ∃ f : En, Hid ((⟨ft, fk, fd⟩ : En) = f) := ⟨_, rfl⟩
        have HU1 : Hid (M8S g w m (.int .i64 3) (.int .i64 fr) (.int .i64 up) (.int .i64 a2) (.int .i64 a3) (.int .i64 lt) (.int .i64 a5) (.bool ok) (.slice o0 o1 o2) (.slice none 0 0) (.string ⟨#[]⟩) (.bool false) l [] U1) := HL0.out.save hsv hdr
        clear hdr hsv HL0
        go_wp2
        refine hK.out _ _ ⟨⟨U1, HU1.out.msg.c8⟩, rfl⟩ ?_
        clear hK K
        refine qfa (fuel := 1) (i := 5) (by kernel_rfl) rfl rfl ?_
        intro K hK
        obtain ⟨U2, HU2⟩ : ∃ V, Hid (U1.alloc (.cells #[.int .i64 ft, .int .i64 fk, .string fd] 59) = V) := ⟨_, rfl⟩
        have HL2 : Hid (M8S g w m (.int .i64 3) (.int .i64 fr) (.int .i64 up) (.int .i64 a2) (.int .i64 a3) (.int .i64 lt) (.int .i64 a5) (.bool ok) (.slice o0 o1 o2) (.slice none 0 0) (.string ⟨#[]⟩) (.bool false) l [] U2) := by rw [← HU2.out]; exact HU1.out.alloc _
        have HB2 : Hid (Reads U2 (.slice (some ⟨U1.heap.size, 0, none⟩) 1 1) [f]) := by rw [← HU2.out, ← HF.out]; exact en_builtD U1 ⟨ft, fk, fd⟩
        go_wp2
        rw [HU2.out]
        refine hK.out _ _ ⟨⟨U2, HL2.out.msg.c8⟩, rfl⟩ ?_
        clear hK K HU1 HU2
        refine qfa (fuel := 0) (i := 6) (by kernel_rfl) rfl rfl ?_
        intro K hK
        have HLN : Hid (l.length + [f].length ≤ 1048577) := by show _ ≤ _; simp; omega
        go_wp2_with (at_builtin; refine qca rfl (.tmp 56) (.tmp 60) 24 rfl (w.heap.size + 1) 59 _ 32 underEn infoEn rfl _ _ l [f] rfl rfl HL2.out.own HB2.out (en_oneD f) HLN.out (by decide) HL2.out.bsz ?_; intro v' U3 hov hgv)
        obtain ⟨r0, r1, r2, rfl⟩ := hov.slice3
        have hk3 := HL2.out.msgG hgv
        have HU4 : Hid (M8S g w m (.int .i64 3) (.int .i64 fr) (.int .i64 up) (.int .i64 a2) (.int .i64 a3) (.int .i64 lt) (.int .i64 a5) (.bool ok) (.slice r0 r1 r2) (.slice none 0 0) (.string ⟨#[]⟩) (.bool false) (l ++ [f]) [] (U3.setCell ⟨m, 8, none⟩ (.slice r0 r1 r2))) := HL2.out.more hgv hov
        have c8 := hk3.c8
        have f8 := hk3.fz 8
        refine hK.out _ _ ⟨⟨U3, c8⟩, rfl⟩ ?_
        clear hK K HL2 HB2 HLN hov hgv hk3
        refine qoa (by kernel_rfl) ?_
        simp only [List.drop_succ_cons, List.drop_zero]
        have HSZ2 : Hid (∀ x ∈ l ++ [f], x.data.size ≤ 1000) := fun x hx => by
          rcases List.mem_append.1 hx with hx | hx
          · exact HSZ.out x hx
          · rw [List.mem_singleton.1 hx, ← HF.out]; exact hfd
        clear HSZ
        go_wp2
        go_roundw
        case rel => exact ⟨k + 1, t2, r0, r1, r2, l ++ [f], rfl, by go_num, by omega, by omega, by omega, by simp; omega, HSZ2, HU4⟩
        case measure => simp [intOf]; omega
      · skip
        have HEND : Hid (LmD 5 g w (.returned (.agg #[.int .i64 3, .int .i64 fr, .int .i64 up, .int .i64 a2, .int .i64 a3, .int .i64 lt, .int .i64 a5, .bool ok, .slice o0 o1 o2, .slice none 0 0, .string ⟨#[]⟩, .bool false])) (set12 V1 w.heap.size (.int .i64 3) (.int .i64 fr) (.int .i64 up) (.int .i64 a2) (.int .i64 a3) (.int .i64 lt) (.int .i64 a5) (.bool ok) (.slice o0 o1 o2) (.slice none 0 0) (.string ⟨#[]⟩) (.bool false))) :=
          ⟨3, fr, up, a2, a3, lt, a5, ok, ⟨#[]⟩, false, o0, o1, o2, none, 0, 0, l, [], rfl, hup, (by omega), HSZ.out, (by simp), (Nat.zero_le _), HL1.out.fin.2.1, HL1.out.fin.2.2.1, HL1.out.fin.2.2.2.1, HL1.out.fin.2.2.2.2⟩
        go_wp2_with (first | refine qna rfl (.tmp 3) rfl m rfl HL1.out.msg ?_ | refine qja rfl (.tmp 2) (.tmp 76) rfl _ rfl HL1.out.res 3 fr up a2 a3 lt a5 ok false (o0) (none) o1 o2 0 0 ⟨#[]⟩ rfl ?_ | exact bodyPost_ret (qgd rfl rfl HL1.out.fin.1) rfl HEND.out)
  · have e3 : (kd == 3) = false := beq_eq_false_iff_ne.2 h3
    by_cases h5 : kd = 5
    · subst h5
      have c0 := HM.out.msg.c0
      go_wp2_with (first | rw [HW8.out] | rw [hm])
      refine (l05Conf_any g W8 HM.out.drw).mono ?_
      rintro e W9 ⟨v, cl, rfl, hcp, hcr, hcs⟩
      obtain ⟨z0, z1, z2, rfl⟩ := hcs.own.slice3
      have HM9 : Hid (M8S g w m (.int .i64 5) (.int .i64 fr) (.int .i64 up) (.int .i64 a2) (.int .i64 a3) (.int .i64 a4) (.int .i64 a5) (.bool ok) (.slice none 0 0) (.slice none 0 0) (.string ⟨#[]⟩) (.bool false) [] [] W9) := HM.out.save hcs.sv hcs.drw
      have HC9 : Hid (ownsR W9 (w.heap.size + 1) 3 (.slice z0 z1 z2) cl) := hcs.own.mono HM.out.bsz
      have hcl : Hid (cl.length ≤ 4) := hcr.len
      obtain ⟨W10, HW10⟩ : ∃ V, Hid (W9.setCell ⟨m, 9, none⟩ (.slice z0 z1 z2) = V) := ⟨_, rfl⟩
      have HM10 : Hid (M8S g w m (.int .i64 5) (.int .i64 fr) (.int .i64 up) (.int .i64 a2) (.int .i64 a3) (.int .i64 a4) (.int .i64 a5) (.bool ok) (.slice none 0 0) (.slice z0 z1 z2) (.string ⟨#[]⟩) (.bool false) [] cl W10) := by rw [← HW10.out]; exact HM9.out.s9 HC9.out
      have c9 := HM9.out.msg.c9
      have f9 := HM9.out.msg.fz 9
      clear hcp hcr hcs HM HM9 HC9 HW8 hm c0
      go_wp2_with (rw [HW10.out])
      clear c9 f9 HW10
      refine (qga g 9 _ HM10.out.drw (by decide) (by decide)).mono ?_
      rintro e W11 ⟨nn, rfl, n0, n1, hd11, hs11⟩
      have HM11 : Hid (M8S g w m (.int .i64 5) (.int .i64 fr) (.int .i64 up) (.int .i64 a2) (.int .i64 a3) (.int .i64 a4) (.int .i64 a5) (.bool ok) (.slice none 0 0) (.slice z0 z1 z2) (.string ⟨#[]⟩) (.bool false) [] cl W11) := HM10.out.save hs11 hd11
      obtain ⟨tn, rfl⟩ : ∃ tn : Nat, nn = (tn : Int) := ⟨nn.toNat, by omega⟩
      clear hd11 hs11 HM10
      go_wp2_with fail
      refine (dtext_any g tn W11 HM11.out.drw (by omega)).mono ?_
      rintro e W12 ⟨td, rfl, htd, hd12, hs12⟩
      have HM12 : Hid (M8S g w m (.int .i64 5) (.int .i64 fr) (.int .i64 up) (.int .i64 a2) (.int .i64 a3) (.int .i64 a4) (.int .i64 a5) (.bool ok) (.slice none 0 0) (.slice z0 z1 z2) (.string ⟨#[]⟩) (.bool false) [] cl W12) := HM11.out.save hs12 hd12
      have hdz : Hid (td.size ≤ 1000) := by show _ ≤ _; omega
      obtain ⟨W13, HW13⟩ : ∃ V, Hid (W12.setCell ⟨m, 10, none⟩ (.string td) = V) := ⟨_, rfl⟩
      have HM13 : Hid (M8S g w m (.int .i64 5) (.int .i64 fr) (.int .i64 up) (.int .i64 a2) (.int .i64 a3) (.int .i64 a4) (.int .i64 a5) (.bool ok) (.slice none 0 0) (.slice z0 z1 z2) (.string td) (.bool false) [] cl W13) := by rw [← HW13.out]; exact HM12.out.s10 _
      have c10 := HM12.out.msg.c10
      have f10 := HM12.out.msg.fz 10
      clear htd hd12 hs12 HM11 HM12 n0 n1
      go_wp2_with (rw [HW13.out])
      clear c10 f10 HW13
      refine (qxa g 2 _ HM13.out.drw (by decide) (by decide)).mono ?_
      rintro e W14 ⟨lb, rfl, hd14, hs14⟩
      have HM14 : Hid (M8S g w m (.int .i64 5) (.int .i64 fr) (.int .i64 up) (.int .i64 a2) (.int .i64 a3) (.int .i64 a4) (.int .i64 a5) (.bool ok) (.slice none 0 0) (.slice z0 z1 z2) (.string td) (.bool false) [] cl W14) := HM13.out.save hs14 hd14
      obtain ⟨W15, HW15⟩ : ∃ V, Hid (W14.setCell ⟨m, 11, none⟩ (.bool lb) = V) := ⟨_, rfl⟩
      have HM15 : Hid (M8S g w m (.int .i64 5) (.int .i64 fr) (.int .i64 up) (.int .i64 a2) (.int .i64 a3) (.int .i64 a4) (.int .i64 a5) (.bool ok) (.slice none 0 0) (.slice z0 z1 z2) (.string td) (.bool lb) [] cl W15) := by rw [← HW15.out]; exact HM14.out.s11 _
      have c11 := HM14.out.msg.c11
      have f11 := HM14.out.msg.fz 11
      clear hd14 hs14 HM13 HM14
      have HEND : Hid (LmD 5 g w (.returned (.agg #[.int .i64 5, .int .i64 fr, .int .i64 up, .int .i64 a2, .int .i64 a3, .int .i64 a4, .int .i64 a5, .bool ok, .slice none 0 0, .slice z0 z1 z2, .string td, .bool lb])) (set12 W15 w.heap.size (.int .i64 5) (.int .i64 fr) (.int .i64 up) (.int .i64 a2) (.int .i64 a3) (.int .i64 a4) (.int .i64 a5) (.bool ok) (.slice none 0 0) (.slice z0 z1 z2) (.string td) (.bool lb))) :=
        ⟨5, fr, up, a2, a3, a4, a5, ok, td, lb, none, 0, 0, z0, z1, z2, [], cl, rfl, hup, (by simp), (fun x h => by cases h), (by have := hcl.out; omega), hdz.out, HM15.out.fin.2.1, HM15.out.fin.2.2.1, HM15.out.fin.2.2.2.1, HM15.out.fin.2.2.2.2⟩
      go_wp2_with (first | rw [HW15.out] | refine qna rfl (.tmp 3) rfl m rfl HM15.out.msg ?_ | refine qja rfl (.tmp 2) (.tmp 76) rfl _ rfl HM15.out.res 5 fr up a2 a3 a4 a5 ok lb (none) (z0) 0 0 z1 z2 td rfl ?_ | exact bodyPost_ret (qgd rfl rfl HM15.out.fin.1) rfl HEND.out)
    · have e5 : (kd == 5) = false := beq_eq_false_iff_ne.2 h5
      have c0 := HM.out.msg.c0
      have HEND : Hid (LmD 5 g w (.returned (.agg #[.int .i64 kd, .int .i64 fr, .int .i64 up, .int .i64 a2, .int .i64 a3, .int .i64 a4, .int .i64 a5, .bool ok, .slice none 0 0, .slice none 0 0, .string ⟨#[]⟩, .bool false])) (set12 W8 w.heap.size (.int .i64 kd) (.int .i64 fr) (.int .i64 up) (.int .i64 a2) (.int .i64 a3) (.int .i64 a4) (.int .i64 a5) (.bool ok) (.slice none 0 0) (.slice none 0 0) (.string ⟨#[]⟩) (.bool false))) :=
        ⟨kd, fr, up, a2, a3, a4, a5, ok, ⟨#[]⟩, false, none, 0, 0, none, 0, 0, [], [], rfl, hup, (by simp), (fun x h => by cases h), (by simp), (Nat.zero_le _), HM.out.fin.2.1, HM.out.fin.2.2.1, HM.out.fin.2.2.2.1, HM.out.fin.2.2.2.2⟩
      go_wp2_with (first | rw [HW8.out] | rw [hm] | refine qna rfl (.tmp 3) rfl m rfl HM.out.msg ?_ | refine qja rfl (.tmp 2) (.tmp 76) rfl _ rfl HM.out.res kd fr up a2 a3 a4 a5 ok false (none) (none) 0 0 0 0 ⟨#[]⟩ rfl ?_ | exact bodyPost_ret (qgd rfl rfl HM.out.fin.1) rfl HEND.out)
end Go.Proofs.YtpjpheicldegkaaGreatDoor
