/- Lix -/
import Derived.Test.YtpjpheicldegkaaGreatDoorLiy
namespace Go.Proofs.YtpjpheicldegkaaGreatDoor
open Go Go.RowKit

set_option maxRecDepth 10000 in
set_option maxHeartbeats 8000000 in
theorem line_nam6 (g : Nat) (pv tv : Value) (nm cr : ByteArray) (fr up : Int) (cu : Bool) (ts : List Ta) (p0 p1 p2 p3 p4 p5 : ByteArray) (w : World) (hp : Reads w pv [p0, p1, p2, p3, p4, p5]) (hd : D6 w g nm cr fr up cu tv) (ht : Tasks w tv ts) (hn : ts.length ≤ 100000) (hs : ∀ s ∈ [p0, p1, p2, p3, p4, p5], s.size ≤ 100000) (hyes : lineT ts p0 p1 p2 p3 p4 = true) (hnl : qre p5 = none) :
    Calls Tryz.prog 113 #[.pointer (some ⟨g, 0, none⟩), pv] w fun e w' => e = .returned (.bool false) ∧ Below w.heap.size w w' := by
  obtain ⟨po, pc, rfl, -⟩ := id hp
  obtain ⟨ao, cap, rfl⟩ := ht.slice
  obtain ⟨pb0, pp0, hq0, hlt0, c0⟩ := qka hp (k := 0) rfl
  subst hq0
  rw [Nat.add_zero] at c0
  obtain ⟨pb1, pp1, hq1, hlt1, c1⟩ := qka hp (k := 1) rfl
  simp only [Option.some.injEq, Addr.mk.injEq, and_true] at hq1
  obtain ⟨e1, e2⟩ := hq1
  subst e1 e2
  obtain ⟨pb2, pp2, hq2, hlt2, c2⟩ := qka hp (k := 2) rfl
  simp only [Option.some.injEq, Addr.mk.injEq, and_true] at hq2
  obtain ⟨e1, e2⟩ := hq2
  subst e1 e2
  obtain ⟨pb3, pp3, hq3, hlt3, c3⟩ := qka hp (k := 3) rfl
  simp only [Option.some.injEq, Addr.mk.injEq, and_true] at hq3
  obtain ⟨e1, e2⟩ := hq3
  subst e1 e2
  obtain ⟨pb4, pp4, hq4, hlt4, c4⟩ := qka hp (k := 4) rfl
  simp only [Option.some.injEq, Addr.mk.injEq, and_true] at hq4
  obtain ⟨e1, e2⟩ := hq4
  subst e1 e2
  obtain ⟨pb5, pp5, hq5, hlt5, c5⟩ := qka hp (k := 5) rfl
  simp only [Option.some.injEq, Addr.mk.injEq, and_true] at hq5
  obtain ⟨e1, e2⟩ := hq5
  subst e1 e2
  have c5g := hd.c5
  have hgl := hd.lt
  have HD : Hid (D6 w g nm cr fr up cu (.slice ao ts.length cap)) := hd
  have HTS : Hid (Tasks w (.slice ao ts.length cap) ts) := ht
  unfold lineT at hyes
  simp only [Bool.and_eq_true, Bool.or_eq_true, decide_eq_true_eq, Bool.not_eq_true', decide_eq_false_iff_not] at hyes
  obtain ⟨h0, h1, h2, h3, h4, h5, h6, h7⟩ := hyes
  have HNA : Hid (∀ W, Calls Tryz.prog 102 #[.string p1] W fun e w' => e = .returned (.bool true) ∧ w' = W) := by intro W; rw [← h3]; exact qib p1 W (by have := hs p1 (by simp); omega)
  have HNM : Hid (∀ W, Calls Tryz.prog 125 #[.string p5] W fun e w' => ∃ v, e = .returned (.tuple #[v, .bool false]) ∧ Below W.heap.size W w') := by
    intro W
    refine (l12Names_any p5 W (by have := hs p5 (by simp); omega)).mono ?_
    rintro e w' ⟨v, rfl, ho, hb⟩
    rw [hnl]
    exact ⟨v, rfl, hb⟩
  clear hnl
  obtain ⟨A, HA⟩ : ∃ A, Hid (atN ts p1 = A) := ⟨_, rfl⟩
  obtain ⟨PN, HPN⟩ : ∃ A, Hid (poolN p2 = A) := ⟨_, rfl⟩
  obtain ⟨rn, HRN⟩ : ∃ A, Hid ((rd p3).1 = A) := ⟨_, rfl⟩
  have HAT : Hid (∀ x : Wd w, Calls Tryz.prog 123 #[.slice ao ts.length cap, .string p1] x.at' fun e w' => e = .returned (.int .i64 A) ∧ w' = x.at') := by intro x; rw [← HA.out]; exact qzd p1 (ht.below x.ok) (by omega)
  have HPO : Hid (∀ W, Calls Tryz.prog 124 #[.string p2] W fun e w' => e = .returned (.int .i64 PN) ∧ w' = W) := by intro W; rw [← HPN.out]; exact qcd p2 W
  have HRD : Hid (∀ W, Calls Tryz.prog 122 #[.string p3] W fun e w' => e = .returned (.tuple #[.int .i64 rn, .bool true]) ∧ Below W.heap.size W w') := by intro W; have := qla p3 W (by have := hs p3 (by simp); omega); rw [h6, HRN.out] at this; exact this
  rw [HA.out] at h4
  rw [HPN.out] at h5
  rw [HRN.out] at h7
  have hr0 : 0 ≤ rn := by rw [← HRN.out]; exact (rd_bd p3).1
  have e0 : (p0.toList == [116, 97, 115, 107]) = true := by rw [← qie]; exact eq_list h0
  have g4 : decide (0 ≤ A) = false := decide_eq_false (by omega)
  have e5 : (PN == 0) = false := beq_eq_false_iff_ne.2 h5
  have hfp : ((p4.toList == [102, 114, 101, 101]) = true ∧ (p4.toList == [112, 97, 115, 116]) = false ∧ decide (p4 = ⟨#[112, 97, 115, 116]⟩) = false) ∨ ((p4.toList == [102, 114, 101, 101]) = false ∧ (p4.toList == [112, 97, 115, 116]) = true ∧ decide (p4 = ⟨#[112, 97, 115, 116]⟩) = true) := by
    rcases h2 with e | e
    · left; subst e; exact ⟨by rw [qtc]; rfl, by rw [qtc]; rfl, by decide⟩
    · right; subst e; exact ⟨by rw [qyb]; rfl, by rw [qyb]; rfl, by decide⟩
  obtain ⟨nt, HNT⟩ : ∃ nt, Hid (ts.length = nt) := ⟨_, rfl⟩
  have e1 : ((nt : Int) == 4) = false := by rw [← HNT.out]; exact beq_eq_false_iff_ne.2 (by omega)
  rw [HNT.out] at HAT hn c5g HD HTS
  obtain ⟨pa, HPA⟩ : ∃ pa, Hid (decide (p4 = ⟨#[112, 97, 115, 116]⟩) = pa) := ⟨_, rfl⟩
  rw [HPA.out] at hfp
  clear HA HPN HRN HPA h0 h1 h2 h3 h5 h6 hs hp ht hd
  have q5 := Wd.cell c5g
  have k0 := Wd.cell c0
  have k1 := Wd.cell c1
  have k2 := Wd.cell c2
  have k3 := Wd.cell c3
  have k4 := Wd.cell c4
  have k5 := Wd.cell c5
  rcases hfp with ⟨e2, e3, e9⟩ | ⟨e2, e3, e9⟩
  · subst e9
    go_enter Tryz.func113, Tryz.ntmps113
    go_wp2
    refine qba (by kernel_rfl) (by kernel_rfl) ?_
    repeat (go_big_quiet_step (first | (go_at_call 102; refine qaa (v := .bool true) ?_; with_reducible exact HNA.out _) | (go_at_call 123; refine qaa (v := .int .i64 A) ?_; with_reducible exact HAT.out _) | (go_at_call 124; refine qaa (v := .int .i64 PN) ?_; with_reducible exact HPO.out _)))
    refine wpQuiet_nil ?_
    rintro _ ⟨x, rfl⟩
    have m3 := Wd.cell c3 x
    go_wp2_with fail
    refine (HRD.out _).mono ?_
    rintro e w2 ⟨rfl, hb2⟩
    have B2 := Below.on x.ok hb2
    have d1 := (B2.cell hlt0).trans c1
    have d2 := (B2.cell hlt0).trans c2
    have d4 := (B2.cell hlt0).trans c4
    have d5 := (B2.cell hlt0).trans c5
    have hlt02 : pb0 < w2.heap.size := Nat.lt_of_lt_of_le hlt0 B2.size
    clear q5 k0 k1 k2 k3 k4 k5 m3 hb2 HNA HAT HPO HRD
    clear x
    go_wp2
    have j1 := Wd.cell d1
    have j2 := Wd.cell d2
    have j4 := Wd.cell d4
    refine qha (fun w' => ∃ x : Wd w2, w' = x.at') [0, 1, 2, 3, 4, 5, 6, 7, 8, 9, 10, 11] 13 1 (by kernel_rfl) (by decide) (by decide) (by kernel_rfl) (fun _ _ d _ _ h => by cases d <;> exact h) ⟨⟨w2.drew, (Below.refl _ _).drew⟩, rfl⟩ ?_
    repeat (refine qea rfl (by first | (intro x h; cases h; done) | (intro x h; cases h; exact ⟨_, rfl⟩)) ?_; go_big_quiet_step (fail); refine wpQuiet_nil ?_)
    refine qda ?_
    refine qfa (fuel := 0) (i := 12) (by kernel_rfl) rfl rfl ?_
    intro K hK
    go_wp2
    refine hK.out _ _ ⟨⟨_, ba ((Below.refl _ w2).drew) _⟩, rfl⟩ ⟨by kernel_rfl, ?_⟩
    simp only [List.drop_succ_cons, List.drop_zero]
    go_wp2_with fail
    refine (HNM.out _).mono ?_
    obtain ⟨U, hU⟩ : ∃ U, (w2.alloc (.cells #[.string p1, .string p2, .int .i64 rn, .bool false, .slice none 0 0] 192)).drew = U := ⟨_, rfl⟩
    rw [hU]
    rintro e w4 ⟨lv, rfl, hb4⟩
    have BU : Below w.heap.size w U := by rw [← hU]; exact (ba B2 _).drew
    clear hU d1 d2 d4 d5 j1 j2 j4 K hK
    go_wp2
    go_ret
    exact ⟨rfl, Below.on BU hb4⟩
  · subst e9
    go_enter Tryz.func113, Tryz.ntmps113
    go_wp2
    refine qba (by kernel_rfl) (by kernel_rfl) ?_
    repeat (go_big_quiet_step (first | (go_at_call 102; refine qaa (v := .bool true) ?_; with_reducible exact HNA.out _) | (go_at_call 123; refine qaa (v := .int .i64 A) ?_; with_reducible exact HAT.out _) | (go_at_call 124; refine qaa (v := .int .i64 PN) ?_; with_reducible exact HPO.out _)))
    refine wpQuiet_nil ?_
    rintro _ ⟨x, rfl⟩
    have m3 := Wd.cell c3 x
    go_wp2_with fail
    refine (HRD.out _).mono ?_
    rintro e w2 ⟨rfl, hb2⟩
    have B2 := Below.on x.ok hb2
    have d1 := (B2.cell hlt0).trans c1
    have d2 := (B2.cell hlt0).trans c2
    have d4 := (B2.cell hlt0).trans c4
    have d5 := (B2.cell hlt0).trans c5
    have hlt02 : pb0 < w2.heap.size := Nat.lt_of_lt_of_le hlt0 B2.size
    clear q5 k0 k1 k2 k3 k4 k5 m3 hb2 HNA HAT HPO HRD
    clear x
    go_wp2
    have j1 := Wd.cell d1
    have j2 := Wd.cell d2
    have j4 := Wd.cell d4
    refine qha (fun w' => ∃ x : Wd w2, w' = x.at') [0, 1, 2, 3, 4, 5, 6, 7, 8, 9, 10, 11] 13 1 (by kernel_rfl) (by decide) (by decide) (by kernel_rfl) (fun _ _ d _ _ h => by cases d <;> exact h) ⟨⟨w2.drew, (Below.refl _ _).drew⟩, rfl⟩ ?_
    repeat (refine qea rfl (by first | (intro x h; cases h; done) | (intro x h; cases h; exact ⟨_, rfl⟩)) ?_; go_big_quiet_step (fail); refine wpQuiet_nil ?_)
    refine qda ?_
    refine qfa (fuel := 0) (i := 12) (by kernel_rfl) rfl rfl ?_
    intro K hK
    go_wp2
    refine hK.out _ _ ⟨⟨_, ba ((Below.refl _ w2).drew) _⟩, rfl⟩ ⟨by kernel_rfl, ?_⟩
    simp only [List.drop_succ_cons, List.drop_zero]
    go_wp2_with fail
    refine (HNM.out _).mono ?_
    obtain ⟨U, hU⟩ : ∃ U, (w2.alloc (.cells #[.string p1, .string p2, .int .i64 rn, .bool true, .slice none 0 0] 192)).drew = U := ⟨_, rfl⟩
    rw [hU]
    rintro e w4 ⟨lv, rfl, hb4⟩
    have BU : Below w.heap.size w U := by rw [← hU]; exact (ba B2 _).drew
    clear hU d1 d2 d4 d5 j1 j2 j4 K hK
    go_wp2
    go_ret
    exact ⟨rfl, Below.on BU hb4⟩

end Go.Proofs.YtpjpheicldegkaaGreatDoor
