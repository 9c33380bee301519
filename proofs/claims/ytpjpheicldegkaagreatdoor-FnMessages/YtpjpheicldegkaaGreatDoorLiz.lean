/- Liz -/
import Derived.Test.YtpjpheicldegkaaGreatDoorLiy
namespace Go.Proofs.YtpjpheicldegkaaGreatDoor
open Go Go.RowKit

set_option maxRecDepth 10000 in
set_option maxHeartbeats 8000000 in
theorem line_yes6 (g : Nat) (pv tv : Value) (nm cr : ByteArray) (fr up : Int) (cu : Bool) (ts : List Ta) (p0 p1 p2 p3 p4 p5 : ByteArray) (w : World) (hp : Reads w pv [p0, p1, p2, p3, p4, p5]) (hd : D6 w g nm cr fr up cu tv) (ht : Tasks w tv ts) (hn : ts.length ≤ 100000) (hs : ∀ s ∈ [p0, p1, p2, p3, p4, p5], s.size ≤ 100000) (hyes : lineT ts p0 p1 p2 p3 p4 = true) (nl : List ByteArray) (hnl : qre p5 = some nl) :
    Calls Tryz.prog 113 #[.pointer (some ⟨g, 0, none⟩), pv] w fun e w' => e = .returned (.bool true) ∧ ∃ tv', D6 w' g nm cr fr up cu tv' ∧ Tasks w' tv' (ts ++ [⟨p1, p2, (rd p3).1, decide (p4 = ⟨#[112, 97, 115, 116]⟩), nl⟩]) ∧ Save g w w' := by
  obtain ⟨po, pc, rfl, -⟩ := id hp
  obtain ⟨ao, cap, rfl⟩ := ht.slice
  obtain ⟨pb0, pp0, hq0, hlt0, c0⟩ := qka hp (k := 0) rfl
  subst hq0
  rw [Nat.add_zero] at c0
  obtain ⟨pb1, pp1, hq1, hlt1, c1⟩ := qka hp (k := 1) rfl
  simp only [Option.some.injEq, Addr.mk.injEq, and_true] at hq1
  obtain ⟨e1, e2⟩ := hq1
  subst e1 e2
  obtain ⟨pb2, pp2, hq2, hlt2, c2⟩ := qka hp (k := 2) rfl
  simp only [Option.some.injEq, Addr.mk.injEq, and_true] at hq2
  obtain ⟨e1, e2⟩ := hq2
  subst e1 e2
  obtain ⟨pb3, pp3, hq3, hlt3, c3⟩ := qka hp (k := 3) rfl
  simp only [Option.some.injEq, Addr.mk.injEq, and_true] at hq3
  obtain ⟨e1, e2⟩ := hq3
  subst e1 e2
  obtain ⟨pb4, pp4, hq4, hlt4, c4⟩ := qka hp (k := 4) rfl
  simp only [Option.some.injEq, Addr.mk.injEq, and_true] at hq4
  obtain ⟨e1, e2⟩ := hq4
  subst e1 e2
  obtain ⟨pb5, pp5, hq5, hlt5, c5⟩ := qka hp (k := 5) rfl
  simp only [Option.some.injEq, Addr.mk.injEq, and_true] at hq5
  obtain ⟨e1, e2⟩ := hq5
  subst e1 e2
  have c5g := hd.c5
  have hgl := hd.lt
  have HD : Hid (D6 w g nm cr fr up cu (.slice ao ts.length cap)) := hd
  have HTS : Hid (Tasks w (.slice ao ts.length cap) ts) := ht
  unfold lineT at hyes
  simp only [Bool.and_eq_true, Bool.or_eq_true, decide_eq_true_eq, Bool.not_eq_true', decide_eq_false_iff_not] at hyes
  obtain ⟨h0, h1, h2, h3, h4, h5, h6, h7⟩ := hyes
  have HNA : Hid (∀ W, Calls Tryz.prog 102 #[.string p1] W fun e w' => e = .returned (.bool true) ∧ w' = W) := by intro W; rw [← h3]; exact qib p1 W (by have := hs p1 (by simp); omega)
  have HNM : Hid (∀ W, Calls Tryz.prog 125 #[.string p5] W fun e w' => ∃ la lc, e = .returned (.tuple #[.slice la nl.length lc, .bool true]) ∧ Reads w' (.slice la nl.length lc) nl ∧ Below W.heap.size W w') := by
    intro W
    refine (l12Names_any p5 W (by have := hs p5 (by simp); omega)).mono ?_
    rintro e w' ⟨v, rfl, ho, hb⟩
    have hr := qpd ho
    rw [hnl] at hr ⊢
    obtain ⟨la, lc, rfl, -⟩ := id hr
    exact ⟨la, lc, rfl, hr, hb⟩
  clear hnl
  obtain ⟨A, HA⟩ : ∃ A, Hid (atN ts p1 = A) := ⟨_, rfl⟩
  obtain ⟨PN, HPN⟩ : ∃ A, Hid (poolN p2 = A) := ⟨_, rfl⟩
  obtain ⟨rn, HRN⟩ : ∃ A, Hid ((rd p3).1 = A) := ⟨_, rfl⟩
  have HAT : Hid (∀ x : Wd w, Calls Tryz.prog 123 #[.slice ao ts.length cap, .string p1] x.at' fun e w' => e = .returned (.int .i64 A) ∧ w' = x.at') := by intro x; rw [← HA.out]; exact qzd p1 (ht.below x.ok) (by omega)
  have HPO : Hid (∀ W, Calls Tryz.prog 124 #[.string p2] W fun e w' => e = .returned (.int .i64 PN) ∧ w' = W) := by intro W; rw [← HPN.out]; exact qcd p2 W
  have HRD : Hid (∀ W, Calls Tryz.prog 122 #[.string p3] W fun e w' => e = .returned (.tuple #[.int .i64 rn, .bool true]) ∧ Below W.heap.size W w') := by intro W; have := qla p3 W (by have := hs p3 (by simp); omega); rw [h6, HRN.out] at this; exact this
  rw [HA.out] at h4
  rw [HPN.out] at h5
  rw [HRN.out] at h7
  rw [HRN.out]
  have hr0 : 0 ≤ rn := by rw [← HRN.out]; exact (rd_bd p3).1
  have e0 : (p0.toList == [116, 97, 115, 107]) = true := by rw [← qie]; exact eq_list h0
  have g4 : decide (0 ≤ A) = false := decide_eq_false (by omega)
  have e5 : (PN == 0) = false := beq_eq_false_iff_ne.2 h5
  have hfp : ((p4.toList == [102, 114, 101, 101]) = true ∧ (p4.toList == [112, 97, 115, 116]) = false ∧ decide (p4 = ⟨#[112, 97, 115, 116]⟩) = false) ∨ ((p4.toList == [102, 114, 101, 101]) = false ∧ (p4.toList == [112, 97, 115, 116]) = true ∧ decide (p4 = ⟨#[112, 97, 115, 116]⟩) = true) := by
    rcases h2 with e | e
    · left; subst e; exact ⟨by rw [qtc]; rfl, by rw [qtc]; rfl, by decide⟩
    · right; subst e; exact ⟨by rw [qyb]; rfl, by rw [qyb]; rfl, by decide⟩
  obtain ⟨nt, HNT⟩ : ∃ nt, Hid (ts.length = nt) := ⟨_, rfl⟩
  have e1 : ((nt : Int) == 4) = false := by rw [← HNT.out]; exact beq_eq_false_iff_ne.2 (by omega)
  rw [HNT.out] at HAT hn c5g HD HTS
  obtain ⟨pa, HPA⟩ : ∃ pa, Hid (decide (p4 = ⟨#[112, 97, 115, 116]⟩) = pa) := ⟨_, rfl⟩
  rw [HPA.out] at hfp ⊢
  clear HA HPN HRN HPA h0 h1 h2 h3 h5 h6 hs hp ht hd
  have q5 := Wd.cell c5g
  have k0 := Wd.cell c0
  have k1 := Wd.cell c1
  have k2 := Wd.cell c2
  have k3 := Wd.cell c3
  have k4 := Wd.cell c4
  have k5 := Wd.cell c5
  rcases hfp with ⟨e2, e3, e9⟩ | ⟨e2, e3, e9⟩
  · subst e9
    go_enter Tryz.func113, Tryz.ntmps113
    go_wp2
    refine qba (by kernel_rfl) (by kernel_rfl) ?_
    repeat (go_big_quiet_step (first | (go_at_call 102; refine qaa (v := .bool true) ?_; with_reducible exact HNA.out _) | (go_at_call 123; refine qaa (v := .int .i64 A) ?_; with_reducible exact HAT.out _) | (go_at_call 124; refine qaa (v := .int .i64 PN) ?_; with_reducible exact HPO.out _)))
    refine wpQuiet_nil ?_
    rintro _ ⟨x, rfl⟩
    have m3 := Wd.cell c3 x
    go_wp2_with fail
    refine (HRD.out _).mono ?_
    rintro e w2 ⟨rfl, hb2⟩
    have B2 := Below.on x.ok hb2
    have d1 := (B2.cell hlt0).trans c1
    have d2 := (B2.cell hlt0).trans c2
    have d4 := (B2.cell hlt0).trans c4
    have d5 := (B2.cell hlt0).trans c5
    have hlt02 : pb0 < w2.heap.size := Nat.lt_of_lt_of_le hlt0 B2.size
    clear q5 k0 k1 k2 k3 k4 k5 m3 hb2 HNA HAT HPO HRD
    clear x
    go_wp2
    have j1 := Wd.cell d1
    have j2 := Wd.cell d2
    have j4 := Wd.cell d4
    refine qha (fun w' => ∃ x : Wd w2, w' = x.at') [0, 1, 2, 3, 4, 5, 6, 7, 8, 9, 10, 11] 13 1 (by kernel_rfl) (by decide) (by decide) (by kernel_rfl) (fun _ _ d _ _ h => by cases d <;> exact h) ⟨⟨w2.drew, (Below.refl _ _).drew⟩, rfl⟩ ?_
    repeat (refine qea rfl (by first | (intro x h; cases h; done) | (intro x h; cases h; exact ⟨_, rfl⟩)) ?_; go_big_quiet_step (fail); refine wpQuiet_nil ?_)
    refine qda ?_
    refine qfa (fuel := 0) (i := 12) (by kernel_rfl) rfl rfl ?_
    intro K hK
    go_wp2
    refine hK.out _ _ ⟨⟨_, ba ((Below.refl _ w2).drew) _⟩, rfl⟩ ⟨by kernel_rfl, ?_⟩
    simp only [List.drop_succ_cons, List.drop_zero]
    go_wp2_with fail
    refine (HNM.out _).mono ?_
    obtain ⟨U, hU⟩ : ∃ U, (w2.alloc (.cells #[.string p1, .string p2, .int .i64 rn, .bool false, .slice none 0 0] 192)).drew = U := ⟨_, rfl⟩
    rw [hU]
    rintro e w4 ⟨la, lc, rfl, hrl, hb4⟩
    have BU : Below w.heap.size w U := by rw [← hU]; exact (ba B2 _).drew
    have hul : w2.heap.size < U.heap.size := by rw [← hU]; show _ < (w2.alloc _).heap.size; simp
    have u0 : U.cell? ⟨w2.heap.size, 0, none⟩ = some (.string p1) := by rw [← hU]; simp [go_sem]
    have u1 : U.cell? ⟨w2.heap.size, 1, none⟩ = some (.string p2) := by rw [← hU]; simp [go_sem]
    have u2 : U.cell? ⟨w2.heap.size, 2, none⟩ = some (.int .i64 rn) := by rw [← hU]; simp [go_sem]
    have u3 : U.cell? ⟨w2.heap.size, 3, none⟩ = some (.bool false) := by rw [← hU]; simp [go_sem]
    have u4 : U.cell? ⟨w2.heap.size, 4, none⟩ = some (.slice none 0 0) := by rw [← hU]; simp [go_sem]
    have uf : U.frozen? ⟨w2.heap.size, 4, none⟩ = false := by rw [← hU]; simp [go_sem]
    have v0 := (hb4.cell (p := ⟨w2.heap.size, 0, none⟩) hul).trans u0
    have v1 := (hb4.cell (p := ⟨w2.heap.size, 1, none⟩) hul).trans u1
    have v2 := (hb4.cell (p := ⟨w2.heap.size, 2, none⟩) hul).trans u2
    have v3 := (hb4.cell (p := ⟨w2.heap.size, 3, none⟩) hul).trans u3
    have v4 := (hb4.cell (p := ⟨w2.heap.size, 4, none⟩) hul).trans u4
    have vf : w4.frozen? ⟨w2.heap.size, 4, none⟩ = false := (hb4.frozen hul).trans uf
    clear hU u0 u1 u2 u3 u4 uf d1 d2 d4 d5 j1 j2 j4 K hK
    go_wp2
    obtain ⟨W3, hW3⟩ : ∃ W3, w4.setCell ⟨w2.heap.size, 4, none⟩ (.slice la nl.length lc) = W3 := ⟨_, rfl⟩
    have B3 : Below w.heap.size w W3 := by rw [← hW3]; exact (Below.on BU hb4).setCell B2.size _
    have x0 : W3.cell? ⟨w2.heap.size, 0, none⟩ = some (.string p1) := by rw [← hW3]; exact (World.cell?_setCell_other _ _ _ _ (by simp)).trans v0
    have x1 : W3.cell? ⟨w2.heap.size, 1, none⟩ = some (.string p2) := by rw [← hW3]; exact (World.cell?_setCell_other _ _ _ _ (by simp)).trans v1
    have x2 : W3.cell? ⟨w2.heap.size, 2, none⟩ = some (.int .i64 rn) := by rw [← hW3]; exact (World.cell?_setCell_other _ _ _ _ (by simp)).trans v2
    have x3 : W3.cell? ⟨w2.heap.size, 3, none⟩ = some (.bool false) := by rw [← hW3]; exact (World.cell?_setCell_other _ _ _ _ (by simp)).trans v3
    have x4 : W3.cell? ⟨w2.heap.size, 4, none⟩ = some (.slice la nl.length lc) := by rw [← hW3]; exact World.cell?_setCell_same' _ _ _ (by rw [v4]; rfl)
    have HAF : Hid (∀ w6, Below W3.heap.size W3 w6 → Reads w6 (.slice la nl.length lc) nl) := fun w6 hb => by
      have h := reads_store hrl v4 (.slice la nl.length lc)
      rw [hW3] at h
      exact h.below hb
    clear v0 v1 v2 v3 v4 vf BU hb4 hrl HNM
    have y5 := (B3.cell (p := ⟨g, 5, none⟩) hgl).trans c5g
    rw [hW3]
    clear hW3 hul B2
    obtain ⟨ks, hks, hkl, hko⟩ := HTS.out
    have HKS : Hid (∀ W, Below W3.heap.size W3 W → Reads W (.slice ao nt cap) ks) := fun W hb => hks.below (Below.on B3 hb)
    have HK1 : Hid (∀ x ∈ ks, ∀ u ∈ Rec.cells x, u.oneCell' = true) := tasks_one hkl hko
    have HKL : Hid (([] : List Tk).length + ks.length ≤ 1048577) := by show _ ≤ _; rw [hkl, HNT.out]; simp; omega
    have HKL2 : Hid (ks.length + [Tk.mk p1 p2 rn false (.slice la nl.length lc)].length ≤ 1048577) := by show _ ≤ _; rw [hkl, HNT.out]; simp; omega
    have HX1 : Hid (∀ x ∈ [Tk.mk p1 p2 rn false (.slice la nl.length lc)], ∀ u ∈ Rec.cells x, u.oneCell' = true) := by
      intro x hx u hu
      simp only [List.mem_singleton] at hx
      subst hx
      simp only [Rec.cells, List.mem_cons, List.not_mem_nil, or_false] at hu
      rcases hu with rfl | rfl | rfl | rfl | rfl <;> rfl
    have HEND : Hid (∀ w6 v6, ownsR w6 W3.heap.size 192 v6 (ks ++ [Tk.mk p1 p2 rn false (.slice la nl.length lc)]) → Below W3.heap.size W3 w6 → D6 (w6.setCell ⟨g, 5, none⟩ v6) g nm cr fr up cu v6 ∧ Tasks (w6.setCell ⟨g, 5, none⟩ v6) v6 (ts ++ [⟨p1, p2, rn, false, nl⟩]) ∧ Save g w (w6.setCell ⟨g, 5, none⟩ v6)) := fun w6 v6 ho hb => task_more HD.out hkl hko B3 hb ho ⟨rfl, rfl, rfl, rfl, HAF.out _ hb⟩
    have HC5 : Hid (∀ w6, Below W3.heap.size W3 w6 → w6.cell? ⟨g, 5, none⟩ = some (.slice ao nt cap) ∧ w6.frozen? ⟨g, 5, none⟩ = false) := fun w6 hb => by
      have h := HD.out.on (Below.on B3 hb) hgl
      exact ⟨h.c5, h.fz 5⟩
    have hg3 : g < W3.heap.size := Nat.lt_of_lt_of_le hgl B3.size
    clear hks hkl hko HTS HD
    have z0 := Wd.cell x0
    have z1 := Wd.cell x1
    have z2 := Wd.cell x2
    have z3 := Wd.cell x3
    have z4 := Wd.cell x4
    have z5 := Wd.cell y5
    refine qha (fun w' => ∃ x : Wd W3, w' = x.at') [0, 2, 3, 4, 5, 7] 10 4 (by kernel_rfl) (by decide) (by decide) (by kernel_rfl) (fun _ _ d _ _ h => by cases d <;> exact h) ⟨⟨W3.drew, (Below.refl _ _).drew⟩, rfl⟩ ?_
    repeat (refine qea rfl (by first | (intro x h; cases h; done) | (intro x h; cases h; exact ⟨_, rfl⟩)) ?_; go_big_quiet_step (fail); refine wpQuiet_nil ?_)
    refine qda ?_
    clear z0 z1 z2 z3 z4 z5
    have BD : Below W3.heap.size W3 W3.drew := (Below.refl _ _).drew
    refine qod (fuel := 3) (i := 1) (j := 8) (by kernel_rfl) rfl rfl rfl rfl ?_ ?_
    · intro K hK
      go_wp2
      obtain ⟨V1, hV1⟩ : ∃ V, (W3.alloc (.cells #[] 192)).drew = V := ⟨_, rfl⟩
      have BV1 : Below W3.heap.size W3 V1 := by rw [← hV1]; exact (ba (Below.refl _ _) _).drew
      have hsV1 : Hid (V1.heap.size = W3.heap.size + 1) := by show _ = _; rw [← hV1]; show (W3.alloc _).heap.size = _; simp
      have own : ownsR V1 W3.heap.size 192 (.slice (some ⟨W3.heap.size, 0, none⟩) 0 0) ([] : List Tk) := by rw [← hV1]; exact (tk_made W3 _ (Nat.le_refl _)).drew
      rw [hV1]
      clear hV1
      refine hK.out _ _ ⟨⟨V1, BV1⟩, rfl⟩ ?_
      clear hK K
      refine qod (fuel := 2) (i := 6) (j := 8) (by kernel_rfl) rfl rfl rfl rfl ?_ ?_
      · intro K hK
        go_wp2_with (at_builtin; refine qca rfl (.tmp 109) (.tmp 113) 161 rfl W3.heap.size 192 _ 72 qeb qtb rfl _ (.slice ao nt cap) ([] : List Tk) ks rfl rfl own (HKS.out _ BV1) HK1.out HKL.out (by decide) BV1.size ?_; intro v5 V2 ho5 hg5)
        have BV2 : Below W3.heap.size W3 V2 := BV1.grown hg5 BV1.size fun k hk => (own.lt k hk).1
        rw [List.nil_append] at ho5
        go_wp2
        refine hK.out _ _ ⟨⟨V2, BV2⟩, rfl⟩ ?_
        clear hK K hg5 own
        refine qfa (fuel := 1) (i := 8) (by kernel_rfl) rfl rfl ?_
        intro K hK
        go_wp2
        obtain ⟨V3, hV3⟩ : ∃ V, V2.alloc (.cells #[.string p1, .string p2, .int .i64 rn, .bool false, .slice la nl.length lc] 192) = V := ⟨_, rfl⟩
        have BV3 : Below W3.heap.size W3 V3 := by rw [← hV3]; exact BV2.alloc BV2.size _
        have hsV3 : Hid (V3.heap.size = V2.heap.size + 1) := by show _ = _; rw [← hV3]; show (V2.alloc _).heap.size = _; simp
        have bt : Reads V3 (.slice (some ⟨V2.heap.size, 0, none⟩) 1 1) [(Tk.mk p1 p2 rn false (.slice la nl.length lc))] := by rw [← hV3]; exact (qoc V2 (Tk.mk p1 p2 rn false (.slice la nl.length lc)))
        replace ho5 : ownsR V3 W3.heap.size 192 v5 ks := by rw [← hV3]; exact ho5.alloc _
        rw [hV3]
        clear hV3
        refine hK.out _ _ ⟨⟨V3, BV3⟩, rfl⟩ ?_
        clear hK K
        refine qfa (fuel := 0) (i := 9) (by kernel_rfl) rfl rfl ?_
        intro K hK
        go_wp2_with (at_builtin; refine qca rfl (.tmp 114) (.tmp 116) 161 rfl W3.heap.size 192 _ 72 qeb qtb rfl _ _ ks [(Tk.mk p1 p2 rn false (.slice la nl.length lc))] rfl rfl ho5 bt HX1.out HKL2.out (by decide) BV3.size ?_; intro v6 V4 ho6 hg6)
        have BV4 : Below W3.heap.size W3 V4 := BV3.grown hg6 BV3.size fun k hk => (ho5.lt k hk).1
        go_wp2
        refine hK.out _ _ ⟨⟨V4, BV4⟩, rfl⟩ ?_
        clear hK K hg6 ho5 bt
        refine qoa (by kernel_rfl) ?_
        simp only [List.drop_succ_cons, List.drop_zero]
        obtain ⟨a6, c6, e6⟩ := ho6.slice
        obtain ⟨n6, hn6⟩ : ∃ n, (ks ++ [Tk.mk p1 p2 rn false (.slice la nl.length lc)]).length = n := ⟨_, rfl⟩
        rw [hn6] at e6
        clear hn6
        subst e6
        have r5 := (HC5.out V4 BV4).1
        have r6 := (HC5.out V4 BV4).2
        go_wp2
        go_ret
        exact ⟨rfl, _, HEND.out V4 _ ho6 BV4⟩
      · intro K hK
        go_wp2
        obtain ⟨V2, hV2⟩ : ∃ V, V1.alloc (.cells #[.string p1, .string p2, .int .i64 rn, .bool false, .slice la nl.length lc] 192) = V := ⟨_, rfl⟩
        have BV2 : Below W3.heap.size W3 V2 := by rw [← hV2]; exact BV1.alloc BV1.size _
        have hsV2 : Hid (V2.heap.size = V1.heap.size + 1) := by show _ = _; rw [← hV2]; show (V1.alloc _).heap.size = _; simp
        have bt : Reads V2 (.slice (some ⟨V1.heap.size, 0, none⟩) 1 1) [(Tk.mk p1 p2 rn false (.slice la nl.length lc))] := by rw [← hV2]; exact (qoc V1 (Tk.mk p1 p2 rn false (.slice la nl.length lc)))
        replace own : ownsR V2 W3.heap.size 192 (.slice (some ⟨W3.heap.size, 0, none⟩) 0 0) ([] : List Tk) := by rw [← hV2]; exact own.alloc _
        rw [hV2]
        clear hV2
        refine hK.out _ _ ⟨⟨V2, BV2⟩, rfl⟩ ?_
        clear hK K
        refine qfa (fuel := 1) (i := 6) (by kernel_rfl) rfl rfl ?_
        intro K hK
        go_wp2_with (at_builtin; refine qca rfl (.tmp 109) (.tmp 113) 161 rfl W3.heap.size 192 _ 72 qeb qtb rfl _ (.slice ao nt cap) ([] : List Tk) ks rfl rfl own (HKS.out _ BV2) HK1.out HKL.out (by decide) BV2.size ?_; intro v5 V3 ho5 hg5)
        have BV3 : Below W3.heap.size W3 V3 := BV2.grown hg5 BV2.size fun k hk => (own.lt k hk).1
        rw [List.nil_append] at ho5
        replace bt := qfc bt hg5 (fun e => by have e' : V1.heap.size = W3.heap.size := Option.some.inj e; have := hsV1.out; omega)
        go_wp2
        refine hK.out _ _ ⟨⟨V3, BV3⟩, rfl⟩ ?_
        clear hK K hg5 own
        refine qfa (fuel := 0) (i := 9) (by kernel_rfl) rfl rfl ?_
        intro K hK
        go_wp2_with (at_builtin; refine qca rfl (.tmp 114) (.tmp 116) 161 rfl W3.heap.size 192 _ 72 qeb qtb rfl _ _ ks [(Tk.mk p1 p2 rn false (.slice la nl.length lc))] rfl rfl ho5 bt HX1.out HKL2.out (by decide) BV3.size ?_; intro v6 V4 ho6 hg6)
        have BV4 : Below W3.heap.size W3 V4 := BV3.grown hg6 BV3.size fun k hk => (ho5.lt k hk).1
        go_wp2
        refine hK.out _ _ ⟨⟨V4, BV4⟩, rfl⟩ ?_
        clear hK K hg6 ho5 bt
        refine qoa (by kernel_rfl) ?_
        simp only [List.drop_succ_cons, List.drop_zero]
        obtain ⟨a6, c6, e6⟩ := ho6.slice
        obtain ⟨n6, hn6⟩ : ∃ n, (ks ++ [Tk.mk p1 p2 rn false (.slice la nl.length lc)]).length = n := ⟨_, rfl⟩
        rw [hn6] at e6
        clear hn6
        subst e6
        have r5 := (HC5.out V4 BV4).1
        have r6 := (HC5.out V4 BV4).2
        go_wp2
        go_ret
        exact ⟨rfl, _, HEND.out V4 _ ho6 BV4⟩
    · intro K hK
      go_wp2
      obtain ⟨V1, hV1⟩ : ∃ V, (W3.alloc (.cells #[.string p1, .string p2, .int .i64 rn, .bool false, .slice la nl.length lc] 192)).drew = V := ⟨_, rfl⟩
      have BV1 : Below W3.heap.size W3 V1 := by rw [← hV1]; exact (ba (Below.refl _ _) _).drew
      have hsV1 : Hid (V1.heap.size = W3.heap.size + 1) := by show _ = _; rw [← hV1]; show (W3.alloc _).heap.size = _; simp
      have bt : Reads V1 (.slice (some ⟨W3.heap.size, 0, none⟩) 1 1) [(Tk.mk p1 p2 rn false (.slice la nl.length lc))] := by rw [← hV1]; exact (qoc W3 (Tk.mk p1 p2 rn false (.slice la nl.length lc))).drew
      rw [hV1]
      clear hV1
      refine hK.out _ _ ⟨⟨V1, BV1⟩, rfl⟩ ?_
      clear hK K
      refine qfa (fuel := 2) (i := 1) (by kernel_rfl) rfl rfl ?_
      intro K hK
      go_wp2
      obtain ⟨V2, hV2⟩ : ∃ V, V1.alloc (.cells #[] 192) = V := ⟨_, rfl⟩
      have BV2 : Below W3.heap.size W3 V2 := by rw [← hV2]; exact BV1.alloc BV1.size _
      have hsV2 : Hid (V2.heap.size = V1.heap.size + 1) := by show _ = _; rw [← hV2]; show (V1.alloc _).heap.size = _; simp
      have own : ownsR V2 W3.heap.size 192 (.slice (some ⟨V1.heap.size, 0, none⟩) 0 0) ([] : List Tk) := by rw [← hV2]; exact (tk_made V1 _ BV1.size)
      replace bt : Reads V2 (.slice (some ⟨W3.heap.size, 0, none⟩) 1 1) [(Tk.mk p1 p2 rn false (.slice la nl.length lc))] := by rw [← hV2]; exact bt.alloc _
      rw [hV2]
      clear hV2
      refine hK.out _ _ ⟨⟨V2, BV2⟩, rfl⟩ ?_
      clear hK K
      refine qfa (fuel := 1) (i := 6) (by kernel_rfl) rfl rfl ?_
      intro K hK
      go_wp2_with (at_builtin; refine qca rfl (.tmp 109) (.tmp 113) 161 rfl W3.heap.size 192 _ 72 qeb qtb rfl _ (.slice ao nt cap) ([] : List Tk) ks rfl rfl own (HKS.out _ BV2) HK1.out HKL.out (by decide) BV2.size ?_; intro v5 V3 ho5 hg5)
      have BV3 : Below W3.heap.size W3 V3 := BV2.grown hg5 BV2.size fun k hk => (own.lt k hk).1
      rw [List.nil_append] at ho5
      replace bt := qfc bt hg5 (fun e => by have e' : W3.heap.size = V1.heap.size := Option.some.inj e; have := hsV1.out; omega)
      go_wp2
      refine hK.out _ _ ⟨⟨V3, BV3⟩, rfl⟩ ?_
      clear hK K hg5 own
      refine qfa (fuel := 0) (i := 9) (by kernel_rfl) rfl rfl ?_
      intro K hK
      go_wp2_with (at_builtin; refine qca rfl (.tmp 114) (.tmp 116) 161 rfl W3.heap.size 192 _ 72 qeb qtb rfl _ _ ks [(Tk.mk p1 p2 rn false (.slice la nl.length lc))] rfl rfl ho5 bt HX1.out HKL2.out (by decide) BV3.size ?_; intro v6 V4 ho6 hg6)
      have BV4 : Below W3.heap.size W3 V4 := BV3.grown hg6 BV3.size fun k hk => (ho5.lt k hk).1
      go_wp2
      refine hK.out _ _ ⟨⟨V4, BV4⟩, rfl⟩ ?_
      clear hK K hg6 ho5 bt
      refine qoa (by kernel_rfl) ?_
      simp only [List.drop_succ_cons, List.drop_zero]
      obtain ⟨a6, c6, e6⟩ := ho6.slice
      obtain ⟨n6, hn6⟩ : ∃ n, (ks ++ [Tk.mk p1 p2 rn false (.slice la nl.length lc)]).length = n := ⟨_, rfl⟩
      rw [hn6] at e6
      clear hn6
      subst e6
      have r5 := (HC5.out V4 BV4).1
      have r6 := (HC5.out V4 BV4).2
      go_wp2
      go_ret
      exact ⟨rfl, _, HEND.out V4 _ ho6 BV4⟩
  · subst e9
    go_enter Tryz.func113, Tryz.ntmps113
    go_wp2
    refine qba (by kernel_rfl) (by kernel_rfl) ?_
    repeat (go_big_quiet_step (first | (go_at_call 102; refine qaa (v := .bool true) ?_; with_reducible exact HNA.out _) | (go_at_call 123; refine qaa (v := .int .i64 A) ?_; with_reducible exact HAT.out _) | (go_at_call 124; refine qaa (v := .int .i64 PN) ?_; with_reducible exact HPO.out _)))
    refine wpQuiet_nil ?_
    rintro _ ⟨x, rfl⟩
    have m3 := Wd.cell c3 x
    go_wp2_with fail
    refine (HRD.out _).mono ?_
    rintro e w2 ⟨rfl, hb2⟩
    have B2 := Below.on x.ok hb2
    have d1 := (B2.cell hlt0).trans c1
    have d2 := (B2.cell hlt0).trans c2
    have d4 := (B2.cell hlt0).trans c4
    have d5 := (B2.cell hlt0).trans c5
    have hlt02 : pb0 < w2.heap.size := Nat.lt_of_lt_of_le hlt0 B2.size
    clear q5 k0 k1 k2 k3 k4 k5 m3 hb2 HNA HAT HPO HRD
    clear x
    go_wp2
    have j1 := Wd.cell d1
    have j2 := Wd.cell d2
    have j4 := Wd.cell d4
    refine qha (fun w' => ∃ x : Wd w2, w' = x.at') [0, 1, 2, 3, 4, 5, 6, 7, 8, 9, 10, 11] 13 1 (by kernel_rfl) (by decide) (by decide) (by kernel_rfl) (fun _ _ d _ _ h => by cases d <;> exact h) ⟨⟨w2.drew, (Below.refl _ _).drew⟩, rfl⟩ ?_
    repeat (refine qea rfl (by first | (intro x h; cases h; done) | (intro x h; cases h; exact ⟨_, rfl⟩)) ?_; go_big_quiet_step (fail); refine wpQuiet_nil ?_)
    refine qda ?_
    refine qfa (fuel := 0) (i := 12) (by kernel_rfl) rfl rfl ?_
    intro K hK
    go_wp2
    refine hK.out _ _ ⟨⟨_, ba ((Below.refl _ w2).drew) _⟩, rfl⟩ ⟨by kernel_rfl, ?_⟩
    simp only [List.drop_succ_cons, List.drop_zero]
    go_wp2_with fail
    refine (HNM.out _).mono ?_
    obtain ⟨U, hU⟩ : ∃ U, (w2.alloc (.cells #[.string p1, .string p2, .int .i64 rn, .bool true, .slice none 0 0] 192)).drew = U := ⟨_, rfl⟩
    rw [hU]
    rintro e w4 ⟨la, lc, rfl, hrl, hb4⟩
    have BU : Below w.heap.size w U := by rw [← hU]; exact (ba B2 _).drew
    have hul : w2.heap.size < U.heap.size := by rw [← hU]; show _ < (w2.alloc _).heap.size; simp
    have u0 : U.cell? ⟨w2.heap.size, 0, none⟩ = some (.string p1) := by rw [← hU]; simp [go_sem]
    have u1 : U.cell? ⟨w2.heap.size, 1, none⟩ = some (.string p2) := by rw [← hU]; simp [go_sem]
    have u2 : U.cell? ⟨w2.heap.size, 2, none⟩ = some (.int .i64 rn) := by rw [← hU]; simp [go_sem]
    have u3 : U.cell? ⟨w2.heap.size, 3, none⟩ = some (.bool true) := by rw [← hU]; simp [go_sem]
    have u4 : U.cell? ⟨w2.heap.size, 4, none⟩ = some (.slice none 0 0) := by rw [← hU]; simp [go_sem]
    have uf : U.frozen? ⟨w2.heap.size, 4, none⟩ = false := by rw [← hU]; simp [go_sem]
    have v0 := (hb4.cell (p := ⟨w2.heap.size, 0, none⟩) hul).trans u0
    have v1 := (hb4.cell (p := ⟨w2.heap.size, 1, none⟩) hul).trans u1
    have v2 := (hb4.cell (p := ⟨w2.heap.size, 2, none⟩) hul).trans u2
    have v3 := (hb4.cell (p := ⟨w2.heap.size, 3, none⟩) hul).trans u3
    have v4 := (hb4.cell (p := ⟨w2.heap.size, 4, none⟩) hul).trans u4
    have vf : w4.frozen? ⟨w2.heap.size, 4, none⟩ = false := (hb4.frozen hul).trans uf
    clear hU u0 u1 u2 u3 u4 uf d1 d2 d4 d5 j1 j2 j4 K hK
    go_wp2
    obtain ⟨W3, hW3⟩ : ∃ W3, w4.setCell ⟨w2.heap.size, 4, none⟩ (.slice la nl.length lc) = W3 := ⟨_, rfl⟩
    have B3 : Below w.heap.size w W3 := by rw [← hW3]; exact (Below.on BU hb4).setCell B2.size _
    have x0 : W3.cell? ⟨w2.heap.size, 0, none⟩ = some (.string p1) := by rw [← hW3]; exact (World.cell?_setCell_other _ _ _ _ (by simp)).trans v0
    have x1 : W3.cell? ⟨w2.heap.size, 1, none⟩ = some (.string p2) := by rw [← hW3]; exact (World.cell?_setCell_other _ _ _ _ (by simp)).trans v1
    have x2 : W3.cell? ⟨w2.heap.size, 2, none⟩ = some (.int .i64 rn) := by rw [← hW3]; exact (World.cell?_setCell_other _ _ _ _ (by simp)).trans v2
    have x3 : W3.cell? ⟨w2.heap.size, 3, none⟩ = some (.bool true) := by rw [← hW3]; exact (World.cell?_setCell_other _ _ _ _ (by simp)).trans v3
    have x4 : W3.cell? ⟨w2.heap.size, 4, none⟩ = some (.slice la nl.length lc) := by rw [← hW3]; exact World.cell?_setCell_same' _ _ _ (by rw [v4]; rfl)
    have HAF : Hid (∀ w6, Below W3.heap.size W3 w6 → Reads w6 (.slice la nl.length lc) nl) := fun w6 hb => by
      have h := reads_store hrl v4 (.slice la nl.length lc)
      rw [hW3] at h
      exact h.below hb
    clear v0 v1 v2 v3 v4 vf BU hb4 hrl HNM
    have y5 := (B3.cell (p := ⟨g, 5, none⟩) hgl).trans c5g
    rw [hW3]
    clear hW3 hul B2
    obtain ⟨ks, hks, hkl, hko⟩ := HTS.out
    have HKS : Hid (∀ W, Below W3.heap.size W3 W → Reads W (.slice ao nt cap) ks) := fun W hb => hks.below (Below.on B3 hb)
    have HK1 : Hid (∀ x ∈ ks, ∀ u ∈ Rec.cells x, u.oneCell' = true) := tasks_one hkl hko
    have HKL : Hid (([] : List Tk).length + ks.length ≤ 1048577) := by show _ ≤ _; rw [hkl, HNT.out]; simp; omega
    have HKL2 : Hid (ks.length + [Tk.mk p1 p2 rn true (.slice la nl.length lc)].length ≤ 1048577) := by show _ ≤ _; rw [hkl, HNT.out]; simp; omega
    have HX1 : Hid (∀ x ∈ [Tk.mk p1 p2 rn true (.slice la nl.length lc)], ∀ u ∈ Rec.cells x, u.oneCell' = true) := by
      intro x hx u hu
      simp only [List.mem_singleton] at hx
      subst hx
      simp only [Rec.cells, List.mem_cons, List.not_mem_nil, or_false] at hu
      rcases hu with rfl | rfl | rfl | rfl | rfl <;> rfl
    have HEND : Hid (∀ w6 v6, ownsR w6 W3.heap.size 192 v6 (ks ++ [Tk.mk p1 p2 rn true (.slice la nl.length lc)]) → Below W3.heap.size W3 w6 → D6 (w6.setCell ⟨g, 5, none⟩ v6) g nm cr fr up cu v6 ∧ Tasks (w6.setCell ⟨g, 5, none⟩ v6) v6 (ts ++ [⟨p1, p2, rn, true, nl⟩]) ∧ Save g w (w6.setCell ⟨g, 5, none⟩ v6)) := fun w6 v6 ho hb => task_more HD.out hkl hko B3 hb ho ⟨rfl, rfl, rfl, rfl, HAF.out _ hb⟩
    have HC5 : Hid (∀ w6, Below W3.heap.size W3 w6 → w6.cell? ⟨g, 5, none⟩ = some (.slice ao nt cap) ∧ w6.frozen? ⟨g, 5, none⟩ = false) := fun w6 hb => by
      have h := HD.out.on (Below.on B3 hb) hgl
      exact ⟨h.c5, h.fz 5⟩
    have hg3 : g < W3.heap.size := Nat.lt_of_lt_of_le hgl B3.size
    clear hks hkl hko HTS HD
    have z0 := Wd.cell x0
    have z1 := Wd.cell x1
    have z2 := Wd.cell x2
    have z3 := Wd.cell x3
    have z4 := Wd.cell x4
    have z5 := Wd.cell y5
    refine qha (fun w' => ∃ x : Wd W3, w' = x.at') [0, 2, 3, 4, 5, 7] 10 4 (by kernel_rfl) (by decide) (by decide) (by kernel_rfl) (fun _ _ d _ _ h => by cases d <;> exact h) ⟨⟨W3.drew, (Below.refl _ _).drew⟩, rfl⟩ ?_
    repeat (refine qea rfl (by first | (intro x h; cases h; done) | (intro x h; cases h; exact ⟨_, rfl⟩)) ?_; go_big_quiet_step (fail); refine wpQuiet_nil ?_)
    refine qda ?_
    clear z0 z1 z2 z3 z4 z5
    have BD : Below W3.heap.size W3 W3.drew := (Below.refl _ _).drew
    refine qod (fuel := 3) (i := 1) (j := 8) (by kernel_rfl) rfl rfl rfl rfl ?_ ?_
    · intro K hK
      go_wp2
      obtain ⟨V1, hV1⟩ : ∃ V, (W3.alloc (.cells #[] 192)).drew = V := ⟨_, rfl⟩
      have BV1 : Below W3.heap.size W3 V1 := by rw [← hV1]; exact (ba (Below.refl _ _) _).drew
      have hsV1 : Hid (V1.heap.size = W3.heap.size + 1) := by show _ = _; rw [← hV1]; show (W3.alloc _).heap.size = _; simp
      have own : ownsR V1 W3.heap.size 192 (.slice (some ⟨W3.heap.size, 0, none⟩) 0 0) ([] : List Tk) := by rw [← hV1]; exact (tk_made W3 _ (Nat.le_refl _)).drew
      rw [hV1]
      clear hV1
      refine hK.out _ _ ⟨⟨V1, BV1⟩, rfl⟩ ?_
      clear hK K
      refine qod (fuel := 2) (i := 6) (j := 8) (by kernel_rfl) rfl rfl rfl rfl ?_ ?_
      · intro K hK
        go_wp2_with (at_builtin; refine qca rfl (.tmp 109) (.tmp 113) 161 rfl W3.heap.size 192 _ 72 qeb qtb rfl _ (.slice ao nt cap) ([] : List Tk) ks rfl rfl own (HKS.out _ BV1) HK1.out HKL.out (by decide) BV1.size ?_; intro v5 V2 ho5 hg5)
        have BV2 : Below W3.heap.size W3 V2 := BV1.grown hg5 BV1.size fun k hk => (own.lt k hk).1
        rw [List.nil_append] at ho5
        go_wp2
        refine hK.out _ _ ⟨⟨V2, BV2⟩, rfl⟩ ?_
        clear hK K hg5 own
        refine qfa (fuel := 1) (i := 8) (by kernel_rfl) rfl rfl ?_
        intro K hK
        go_wp2
        obtain ⟨V3, hV3⟩ : ∃ V, V2.alloc (.cells #[.string p1, .string p2, .int .i64 rn, .bool true, .slice la nl.length lc] 192) = V := ⟨_, rfl⟩
        have BV3 : Below W3.heap.size W3 V3 := by rw [← hV3]; exact BV2.alloc BV2.size _
        have hsV3 : Hid (V3.heap.size = V2.heap.size + 1) := by show _ = _; rw [← hV3]; show (V2.alloc _).heap.size = _; simp
        have bt : Reads V3 (.slice (some ⟨V2.heap.size, 0, none⟩) 1 1) [(Tk.mk p1 p2 rn true (.slice la nl.length lc))] := by rw [← hV3]; exact (qoc V2 (Tk.mk p1 p2 rn true (.slice la nl.length lc)))
        replace ho5 : ownsR V3 W3.heap.size 192 v5 ks := by rw [← hV3]; exact ho5.alloc _
        rw [hV3]
        clear hV3
        refine hK.out _ _ ⟨⟨V3, BV3⟩, rfl⟩ ?_
        clear hK K
        refine qfa (fuel := 0) (i := 9) (by kernel_rfl) rfl rfl ?_
        intro K hK
        go_wp2_with (at_builtin; refine qca rfl (.tmp 114) (.tmp 116) 161 rfl W3.heap.size 192 _ 72 qeb qtb rfl _ _ ks [(Tk.mk p1 p2 rn true (.slice la nl.length lc))] rfl rfl ho5 bt HX1.out HKL2.out (by decide) BV3.size ?_; intro v6 V4 ho6 hg6)
        have BV4 : Below W3.heap.size W3 V4 := BV3.grown hg6 BV3.size fun k hk => (ho5.lt k hk).1
        go_wp2
        refine hK.out _ _ ⟨⟨V4, BV4⟩, rfl⟩ ?_
        clear hK K hg6 ho5 bt
        refine qoa (by kernel_rfl) ?_
        simp only [List.drop_succ_cons, List.drop_zero]
        obtain ⟨a6, c6, e6⟩ := ho6.slice
        obtain ⟨n6, hn6⟩ : ∃ n, (ks ++ [Tk.mk p1 p2 rn true (.slice la nl.length lc)]).length = n := ⟨_, rfl⟩
        rw [hn6] at e6
        clear hn6
        subst e6
        have r5 := (HC5.out V4 BV4).1
        have r6 := (HC5.out V4 BV4).2
        go_wp2
        go_ret
        exact ⟨rfl, _, HEND.out V4 _ ho6 BV4⟩
      · intro K hK
        go_wp2
        obtain ⟨V2, hV2⟩ : ∃ V, V1.alloc (.cells #[.string p1, .string p2, .int .i64 rn, .bool true, .slice la nl.length lc] 192) = V := ⟨_, rfl⟩
        have BV2 : Below W3.heap.size W3 V2 := by rw [← hV2]; exact BV1.alloc BV1.size _
        have hsV2 : Hid (V2.heap.size = V1.heap.size + 1) := by show _ = _; rw [← hV2]; show (V1.alloc _).heap.size = _; simp
        have bt : Reads V2 (.slice (some ⟨V1.heap.size, 0, none⟩) 1 1) [(Tk.mk p1 p2 rn true (.slice la nl.length lc))] := by rw [← hV2]; exact (qoc V1 (Tk.mk p1 p2 rn true (.slice la nl.length lc)))
        replace own : ownsR V2 W3.heap.size 192 (.slice (some ⟨W3.heap.size, 0, none⟩) 0 0) ([] : List Tk) := by rw [← hV2]; exact own.alloc _
        rw [hV2]
        clear hV2
        refine hK.out _ _ ⟨⟨V2, BV2⟩, rfl⟩ ?_
        clear hK K
        refine qfa (fuel := 1) (i := 6) (by kernel_rfl) rfl rfl ?_
        intro K hK
        go_wp2_with (at_builtin; refine qca rfl (.tmp 109) (.tmp 113) 161 rfl W3.heap.size 192 _ 72 qeb qtb rfl _ (.slice ao nt cap) ([] : List Tk) ks rfl rfl own (HKS.out _ BV2) HK1.out HKL.out (by decide) BV2.size ?_; intro v5 V3 ho5 hg5)
        have BV3 : Below W3.heap.size W3 V3 := BV2.grown hg5 BV2.size fun k hk => (own.lt k hk).1
        rw [List.nil_append] at ho5
        replace bt := qfc bt hg5 (fun e => by have e' : V1.heap.size = W3.heap.size := Option.some.inj e; have := hsV1.out; omega)
        go_wp2
        refine hK.out _ _ ⟨⟨V3, BV3⟩, rfl⟩ ?_
        clear hK K hg5 own
        refine qfa (fuel := 0) (i := 9) (by kernel_rfl) rfl rfl ?_
        intro K hK
        go_wp2_with (at_builtin; refine qca rfl (.tmp 114) (.tmp 116) 161 rfl W3.heap.size 192 _ 72 qeb qtb rfl _ _ ks [(Tk.mk p1 p2 rn true (.slice la nl.length lc))] rfl rfl ho5 bt HX1.out HKL2.out (by decide) BV3.size ?_; intro v6 V4 ho6 hg6)
        have BV4 : Below W3.heap.size W3 V4 := BV3.grown hg6 BV3.size fun k hk => (ho5.lt k hk).1
        go_wp2
        refine hK.out _ _ ⟨⟨V4, BV4⟩, rfl⟩ ?_
        clear hK K hg6 ho5 bt
        refine qoa (by kernel_rfl) ?_
        simp only [List.drop_succ_cons, List.drop_zero]
        obtain ⟨a6, c6, e6⟩ := ho6.slice
        obtain ⟨n6, hn6⟩ : ∃ n, (ks ++ [Tk.mk p1 p2 rn true (.slice la nl.length lc)]).length = n := ⟨_, rfl⟩
        rw [hn6] at e6
        clear hn6
        subst e6
        have r5 := (HC5.out V4 BV4).1
        have r6 := (HC5.out V4 BV4).2
        go_wp2
        go_ret
        exact ⟨rfl, _, HEND.out V4 _ ho6 BV4⟩
    · intro K hK
      go_wp2
      obtain ⟨V1, hV1⟩ : ∃ V, (W3.alloc (.cells #[.string p1, .string p2, .int .i64 rn, .bool true, .slice la nl.length lc] 192)).drew = V := ⟨_, rfl⟩
      have BV1 : Below W3.heap.size W3 V1 := by rw [← hV1]; exact (ba (Below.refl _ _) _).drew
      have hsV1 : Hid (V1.heap.size = W3.heap.size + 1) := by show _ = _; rw [← hV1]; show (W3.alloc _).heap.size = _; simp
      have bt : Reads V1 (.slice (some ⟨W3.heap.size, 0, none⟩) 1 1) [(Tk.mk p1 p2 rn true (.slice la nl.length lc))] := by rw [← hV1]; exact (qoc W3 (Tk.mk p1 p2 rn true (.slice la nl.length lc))).drew
      rw [hV1]
      clear hV1
      refine hK.out _ _ ⟨⟨V1, BV1⟩, rfl⟩ ?_
      clear hK K
      refine qfa (fuel := 2) (i := 1) (by kernel_rfl) rfl rfl ?_
      intro K hK
      go_wp2
      obtain ⟨V2, hV2⟩ : ∃ V, V1.alloc (.cells #[] 192) = V := ⟨_, rfl⟩
      have BV2 : Below W3.heap.size W3 V2 := by rw [← hV2]; exact BV1.alloc BV1.size _
      have hsV2 : Hid (V2.heap.size = V1.heap.size + 1) := by show _ = _; rw [← hV2]; show (V1.alloc _).heap.size = _; simp
      have own : ownsR V2 W3.heap.size 192 (.slice (some ⟨V1.heap.size, 0, none⟩) 0 0) ([] : List Tk) := by rw [← hV2]; exact (tk_made V1 _ BV1.size)
      replace bt : Reads V2 (.slice (some ⟨W3.heap.size, 0, none⟩) 1 1) [(Tk.mk p1 p2 rn true (.slice la nl.length lc))] := by rw [← hV2]; exact bt.alloc _
      rw [hV2]
      clear hV2
      refine hK.out _ _ ⟨⟨V2, BV2⟩, rfl⟩ ?_
      clear hK K
      refine qfa (fuel := 1) (i := 6) (by kernel_rfl) rfl rfl ?_
      intro K hK
      go_wp2_with (at_builtin; refine qca rfl (.tmp 109) (.tmp 113) 161 rfl W3.heap.size 192 _ 72 qeb qtb rfl _ (.slice ao nt cap) ([] : List Tk) ks rfl rfl own (HKS.out _ BV2) HK1.out HKL.out (by decide) BV2.size ?_; intro v5 V3 ho5 hg5)
      have BV3 : Below W3.heap.size W3 V3 := BV2.grown hg5 BV2.size fun k hk => (own.lt k hk).1
      rw [List.nil_append] at ho5
      replace bt := qfc bt hg5 (fun e => by have e' : W3.heap.size = V1.heap.size := Option.some.inj e; have := hsV1.out; omega)
      go_wp2
      refine hK.out _ _ ⟨⟨V3, BV3⟩, rfl⟩ ?_
      clear hK K hg5 own
      refine qfa (fuel := 0) (i := 9) (by kernel_rfl) rfl rfl ?_
      intro K hK
      go_wp2_with (at_builtin; refine qca rfl (.tmp 114) (.tmp 116) 161 rfl W3.heap.size 192 _ 72 qeb qtb rfl _ _ ks [(Tk.mk p1 p2 rn true (.slice la nl.length lc))] rfl rfl ho5 bt HX1.out HKL2.out (by decide) BV3.size ?_; intro v6 V4 ho6 hg6)
      have BV4 : Below W3.heap.size W3 V4 := BV3.grown hg6 BV3.size fun k hk => (ho5.lt k hk).1
      go_wp2
      refine hK.out _ _ ⟨⟨V4, BV4⟩, rfl⟩ ?_
      clear hK K hg6 ho5 bt
      refine qoa (by kernel_rfl) ?_
      simp only [List.drop_succ_cons, List.drop_zero]
      obtain ⟨a6, c6, e6⟩ := ho6.slice
      obtain ⟨n6, hn6⟩ : ∃ n, (ks ++ [Tk.mk p1 p2 rn true (.slice la nl.length lc)]).length = n := ⟨_, rfl⟩
      rw [hn6] at e6
      clear hn6
      subst e6
      have r5 := (HC5.out V4 BV4).1
      have r6 := (HC5.out V4 BV4).2
      go_wp2
      go_ret
      exact ⟨rfl, _, HEND.out V4 _ ho6 BV4⟩

end Go.Proofs.YtpjpheicldegkaaGreatDoor
