/-
  A rule's text, as the program tells it: the walk. Words that are a rule make one that is right: plain facts.
-/
import Derived.Test.YtjmclcjhimcehaaGreatDoorG13
import Derived.Test.YtjmclcjhimcehaaGreatDoorG4
import Derived.Test.YtjmclcjhimcehaaGreatDoorG10
namespace Go.Proofs.YtjmclcjhimcehaaGreatDoor
open Go Go.RowKit
set_option linter.unusedVariables false

/-- A world where a field lies, and the reaches. -/
structure Frw (b : Nat) (p : Nat → Bool) where
  at' : World
  ok : Fb 200 at' b p ∧ RchIs at'
theorem row_not {w : World} {B : Nat} {v : Value} {T : List ByteArray} {t : TypeId} {b : Nat} {p : Nat → Bool} (h : ownsS w B 9 v T) (ht : t ≠ 9) (hf : Fb t w b p) (e : some b = v.ownBlock) : False := by
  rcases h.2 with ⟨rfl, _⟩ | ⟨g', cap', cur', rfl, _, hg', _⟩
  · cases e
  · have : b = g' := Option.some.inj e
    subst this
    unfold Fb at hf
    rw [hf] at hg'
    simp only [Option.some.injEq, Obj.cells.injEq] at hg'
    exact ht hg'.2.1
theorem row_low {w : World} {B : Nat} {v : Value} {T : List ByteArray} (h : ownsS w B 9 v T) (hB : 0 < B) (e : some 0 = v.ownBlock) : False := by
  have := (h.lt 0 e.symm).1
  omega
theorem RchIs.grown {w w' : World} {r : Option Nat} (h : RchIs w) (hg : w.grownBy w' r) (hr : some 0 ≠ r) : RchIs w' := ⟨Nat.lt_of_lt_of_le h.1 hg.size, fun j v hv => (World.cell?_of_block (a := ⟨0, j, none⟩) (hg.block 0 h.1 hr)).trans (h.2 j v hv)⟩
theorem rulA_sub (r : Nat → Nat → Bool) {k : Nat} (hk : k < 5) : (rulA r).extract (k * 60) (k * 60 + 60) = fldA (r k) := by
  apply Array.ext_getElem?
  intro i
  rw [Array.getElem?_extract]
  by_cases h : i < 60
  · rw [if_pos (by rw [rulA_size]; omega), rulA_at (by omega), fldA_at h, show (k * 60 + i) / 60 = k by omega, show (k * 60 + i) % 60 = i by omega]
  · rw [if_neg (by rw [rulA_size]; omega), Array.getElem?_eq_none (by rw [fldA_size]; omega)]
theorem index57 {r : Nat → Nat → Bool} {k : Nat} (hk : k < 5) (w : World) : (Instr.index 202 (.agg (rulA r)) (.int .i64 (k : Int))).run Tryz.prog w = .ok (.agg (fldA (r k))) w := by
  simp [Instr.index, go_sem, run_underlying under57, hk, part, rulA_sub r hk]
theorem text_any {l : List Int} {lo : Nat} {hi : Int} (w : World) (h9 : hi ≤ 59) (hlh : lo ≤ hi) (hB : listB lo hi l = true) (hp : PowIs w) :
    Calls Tryz.prog 165 #[.agg (fldA (memP l)), .agg #[.int .i64 (lo : Int), .int .i64 hi]] w fun x w' => x = .returned (.string (showS l (hi - lo + 1))) ∧ Below w.heap.size w w' := by
  obtain ⟨h1, h2, h3⟩ := listB_up hB
  have hln := list_len hB
  have := text_try (memP l) l lo hi _ w rfl (by omega) h9 h3 (by omega) (fun x hx => by have := h1 x hx; omega) (numsTo_list (by omega) h9 hB) hp
  rw [all_iff h9 hlh hB] at this
  unfold showS
  by_cases he : (l.length : Int) = hi - lo + 1
  · rw [if_pos he]
    rw [decide_eq_true he] at this
    exact this
  · rw [if_neg he]
    rw [decide_eq_false he] at this
    exact this
theorem join5 (x0 x1 x2 x3 x4 : ByteArray) : (⟨(Lib.join ([x0, x1, x2, x3, x4].map (·.data.toList)) [32]).toArray⟩ : ByteArray) = x0 ++ ⟨#[32]⟩ ++ x1 ++ ⟨#[32]⟩ ++ x2 ++ ⟨#[32]⟩ ++ x3 ++ ⟨#[32]⟩ ++ x4 := by
  apply ByteArray.ext
  apply Array.toList_inj.1
  simp [Lib.join_cons, Lib.joinTail]

set_option maxRecDepth 10000 in
set_option maxHeartbeats 4000000 in
theorem implText_any (va vb vc vd ve : Value) (a b c d e : List Int) (w : World) (h1 : Reads w va a) (h2 : Reads w vb b) (h3 : Reads w vc c) (h4 : Reads w vd d) (h5 : Reads w ve e)
    (n1 : a.length ≤ 1048577) (n2 : b.length ≤ 1048577) (n3 : c.length ≤ 1048577) (n4 : d.length ≤ 1048577) (n5 : e.length ≤ 1048577) (hg : RchIs w) (hpow : PowIs w) :
    Calls Tryz.prog 140 #[.agg #[va, vb, vc, vd, ve]] w fun x w' => x = .returned (.tuple #[.string (cronX a b c d e), .bool (cronB a b c d e)]) ∧ Below w.heap.size w w' := by
  have HPW : Hid (∀ W, Below w.heap.size w W → PowIs W) := fun W hb => hpow.below hb
  clear hpow
  obtain ⟨ao, ac, rfl, _⟩ := id h1
  obtain ⟨bo, bc, rfl, _⟩ := id h2
  obtain ⟨co, cc, rfl, _⟩ := id h3
  obtain ⟨d0, dc, rfl, _⟩ := id h4
  obtain ⟨eo, ec, rfl, _⟩ := id h5
  have HR : Hid (∀ W, Below w.heap.size w W → Calls Tryz.prog 164 #[.agg #[.slice ao a.length ac, .slice bo b.length bc, .slice co c.length cc, .slice d0 d.length dc, .slice eo e.length ec]] W fun x w' => x = .returned (.tuple #[.agg (rulA (ruleP a b c d e)), .bool (cronB a b c d e)]) ∧ Below W.heap.size W w') := fun W hb => ruleOf_any _ _ _ _ _ a b c d e W (h1.below hb) (h2.below hb) (h3.below hb) (h4.below hb) (h5.below hb) n1 n2 n3 n4 n5 (hg.up hb)
  have HG : Hid (∀ W, Below w.heap.size w W → RchIs W) := fun W hb => hg.up hb
  clear h1 h2 h3 h4 h5 n1 n2 n3 n4 n5 hg
  obtain ⟨r, HRP⟩ : ∃ r, Hid (ruleP a b c d e = r) := ⟨_, rfl⟩
  rw [HRP.out] at HR
  obtain ⟨q, hq⟩ : ∃ q, cronB a b c d e = q := ⟨_, rfl⟩
  have HQ : Hid (cronB a b c d e = q) := hq
  rw [hq] at HR
  rw [hq]
  cases q with
  | false =>
    have HX : Hid (cronX a b c d e = ⟨#[]⟩) := by show _ = _; unfold cronX; rw [hq]; rfl
    rw [HX.out]
    clear HG HQ hq HX HPW
    generalize a.length = la at *
    generalize b.length = lb at *
    generalize c.length = lc at *
    generalize d.length = ld at *
    generalize e.length = le at *
    go_enter Tryz.func140, Tryz.ntmps140
    go_wp2_with fail
    refine (HR.out _ (ba (Below.refl _ _) _)).mono ?_
    rintro x w1 ⟨rfl, hb1⟩
    have B1 := below_new hb1
    clear hb1 HR
    have hz0 : w.heap.size ≤ w1.heap.size := B1.size
    have HA : Hid (Rb (w1.alloc (.cells (rulA fun _ _ => false) 202)) w1.heap.size (fun _ _ => false)) := Rb.new w1 _ 202 rfl
    obtain ⟨W, HW⟩ : ∃ W, Hid (((w1.alloc (.cells (rulA fun _ _ => false) 202)).setCells w1.heap.size 0 (rulA r).toList) = W) := ⟨_, rfl⟩
    have HZ : Hid (Rb W w1.heap.size r) := by show Rb _ _ _; rw [← HW.out]; exact HA.out.setAll r
    have BW : Below w.heap.size w W := by rw [← HW.out]; exact below_setCells hz0 _ _ _ (ba B1 _)
    clear B1
    go_wp2_with (first | (refine wpr_alloc rfl rfl ?_) | (refine wpr_store HA.out r (.tmp 4) (.tmp 12) rfl rfl rfl rfl ?_; rw [HW.out]))
    go_ret2
    exact ⟨rfl, BW⟩
  | true =>
    have HM : Hid (r = mem5 a b c d e) := HRP.out.symm.trans (ruleP_yes hq)
    have hq2 := hq
    unfold cronB at hq2
    simp only [Bool.and_eq_true] at hq2
    obtain ⟨b0, b1, b2, b3, b4⟩ := hq2
    obtain ⟨t0, t1, t2, t3, t4, HTE⟩ : ∃ t0 t1 t2 t3 t4, Hid (showS a 60 = t0 ∧ showS b 24 = t1 ∧ showS c 31 = t2 ∧ showS d 12 = t3 ∧ showS e 7 = t4) := ⟨_, _, _, _, _, rfl, rfl, rfl, rfl, rfl⟩
    have HT0 : Hid (∀ W, Below w.heap.size w W → Calls Tryz.prog 165 #[.agg (fldA (r 0)), .agg #[.int .i64 0, .int .i64 59]] W fun x w' => x = .returned (.string t0) ∧ Below W.heap.size W w') := fun W hb => by
      rw [← HTE.out.1, HM.out]
      exact text_any (l := a) (lo := 0) (hi := 59) W (by decide) (by decide) b0 (HPW.out W hb)
    have HT1 : Hid (∀ W, Below w.heap.size w W → Calls Tryz.prog 165 #[.agg (fldA (r 1)), .agg #[.int .i64 0, .int .i64 23]] W fun x w' => x = .returned (.string t1) ∧ Below W.heap.size W w') := fun W hb => by
      rw [← HTE.out.2.1, HM.out]
      exact text_any (l := b) (lo := 0) (hi := 23) W (by decide) (by decide) b1 (HPW.out W hb)
    have HT2 : Hid (∀ W, Below w.heap.size w W → Calls Tryz.prog 165 #[.agg (fldA (r 2)), .agg #[.int .i64 1, .int .i64 31]] W fun x w' => x = .returned (.string t2) ∧ Below W.heap.size W w') := fun W hb => by
      rw [← HTE.out.2.2.1, HM.out]
      exact text_any (l := c) (lo := 1) (hi := 31) W (by decide) (by decide) b2 (HPW.out W hb)
    have HT3 : Hid (∀ W, Below w.heap.size w W → Calls Tryz.prog 165 #[.agg (fldA (r 3)), .agg #[.int .i64 1, .int .i64 12]] W fun x w' => x = .returned (.string t3) ∧ Below W.heap.size W w') := fun W hb => by
      rw [← HTE.out.2.2.2.1, HM.out]
      exact text_any (l := d) (lo := 1) (hi := 12) W (by decide) (by decide) b3 (HPW.out W hb)
    have HT4 : Hid (∀ W, Below w.heap.size w W → Calls Tryz.prog 165 #[.agg (fldA (r 4)), .agg #[.int .i64 0, .int .i64 6]] W fun x w' => x = .returned (.string t4) ∧ Below W.heap.size W w') := fun W hb => by
      rw [← HTE.out.2.2.2.2, HM.out]
      exact text_any (l := e) (lo := 0) (hi := 6) W (by decide) (by decide) b4 (HPW.out W hb)
    have HX : Hid (cronX a b c d e = (⟨(Lib.join ([t0, t1, t2, t3, t4].map (·.data.toList)) [32]).toArray⟩ : ByteArray) ∧ (Lib.join ([t0, t1, t2, t3, t4].map (·.data.toList)) [32]).length ≤ 140737488355328) := by
      have e0 : cronX a b c d e = (⟨(Lib.join ([t0, t1, t2, t3, t4].map (·.data.toList)) [32]).toArray⟩ : ByteArray) := by
        unfold cronX
        rw [if_pos hq, join5]
        unfold cronS
        rw [HTE.out.1, HTE.out.2.1, HTE.out.2.2.1, HTE.out.2.2.2.1, HTE.out.2.2.2.2]
      refine ⟨e0, ?_⟩
      have z0 := showS_size 60 (listB_bd (by decide) (by decide) (by decide) b0)
      have z1 := showS_size 24 (listB_bd (by decide) (by decide) (by decide) b1)
      have z2 := showS_size 31 (listB_bd (by decide) (by decide) (by decide) b2)
      have z3 := showS_size 12 (listB_bd (by decide) (by decide) (by decide) b3)
      have z4 := showS_size 7 (listB_bd (by decide) (by decide) (by decide) b4)
      rw [HTE.out.1] at z0
      rw [HTE.out.2.1] at z1
      rw [HTE.out.2.2.1] at z2
      rw [HTE.out.2.2.2.1] at z3
      rw [HTE.out.2.2.2.2] at z4
      have y0 : t0.data.size = t0.size := rfl
      have y1 : t1.data.size = t1.size := rfl
      have y2 : t2.data.size = t2.size := rfl
      have y3 : t3.data.size = t3.size := rfl
      have y4 : t4.data.size = t4.size := rfl
      simp [Lib.join_cons, Lib.joinTail]
      omega
    obtain ⟨S, HS⟩ : ∃ S, Hid ((⟨(Lib.join ([t0, t1, t2, t3, t4].map (·.data.toList)) [32]).toArray⟩ : ByteArray) = S) := ⟨_, rfl⟩
    have HXS : Hid (cronX a b c d e = S) := HX.out.1.trans HS.out
    have HJL : Hid ((Lib.join ([t0, t1, t2, t3, t4].map (·.data.toList)) [32]).length ≤ 140737488355328) := HX.out.2
    rw [HXS.out]
    have HIX : Hid (∀ k : Nat, k < 5 → ∀ wx, (Instr.index 202 (.agg (rulA r)) (.int .i64 (k : Int))).run Tryz.prog wx = .ok (.agg (fldA (r k))) wx) := fun k hk wx => index57 hk wx
    have HBP : Hid (0 < w.heap.size) := (HG.out w (Below.refl _ _)).1
    clear HM HQ hq b0 b1 b2 b3 b4 HTE HX HXS HRP HPW
    generalize a.length = la at *
    generalize b.length = lb at *
    generalize c.length = lc at *
    generalize d.length = ld at *
    generalize e.length = le at *
    go_enter Tryz.func140, Tryz.ntmps140
    go_wp2_with fail
    refine (HR.out _ (ba (Below.refl _ _) _)).mono ?_
    rintro x w1 ⟨rfl, hb1⟩
    have B1 := below_new hb1
    clear hb1 HR
    have hz0 : w.heap.size ≤ w1.heap.size := B1.size
    have HA : Hid (Rb (w1.alloc (.cells (rulA fun _ _ => false) 202)) w1.heap.size (fun _ _ => false)) := Rb.new w1 _ 202 rfl
    obtain ⟨W, HW⟩ : ∃ W, Hid (((w1.alloc (.cells (rulA fun _ _ => false) 202)).setCells w1.heap.size 0 (rulA r).toList) = W) := ⟨_, rfl⟩
    have HZ : Hid (Rb W w1.heap.size r) := by show Rb _ _ _; rw [← HW.out]; exact HA.out.setAll r
    have BW : Below w.heap.size w W := by rw [← HW.out]; exact below_setCells hz0 _ _ _ (ba B1 _)
    clear B1
    obtain ⟨V0, HV0⟩ : ∃ V, Hid (W.alloc (.cells #[] 9) = V) := ⟨_, rfl⟩
    have HZ0 : Hid (Rb V0 w1.heap.size r) := by show Rb _ _ _; rw [← HV0.out]; exact HZ.out.alloc _
    have HB0 : Hid (Below w.heap.size w V0) := by show Below _ _ _; rw [← HV0.out]; exact ba BW _
    have HO0 : Hid (ownsS V0 w.heap.size 9 (.slice (some ⟨W.heap.size, 0, none⟩) 0 0) []) := by
      show ownsS _ _ _ _ _
      rw [← HV0.out]
      exact ownsS_made W w.heap.size 0 9 #[] BW.size (by decide) rfl
    go_wp2_with (first | (refine wpr_alloc rfl rfl ?_) | (refine wpr_store HA.out r (.tmp 4) (.tmp 12) rfl rfl rfl rfl ?_; rw [HW.out]) | (rw [HV0.out]) | (refine wpr_load HZ0.out (.tmp 4) rfl rfl rfl ?_))
    clear HZ HW HA BW HV0 HZ0
    obtain ⟨RA, HRA⟩ : ∃ RA, Hid (rulA r = RA) := ⟨_, rfl⟩
    rw [HRA.out] at HIX
    rw [HRA.out]
    clear HRA
    generalize hB : w.heap.size = B at *
    go_loopw [6, 18] (fun out i wr => ∃ (k : Nat) (T : List ByteArray), k ≤ 5 ∧ i = .int .i64 k ∧ T = [t0, t1, t2, t3, t4].take k ∧ ownsS wr B 9 out T ∧ Below B w wr) (fun _ i _ => 5 - (intOf i).toNat)
    case atStart => exact ⟨0, [], Nat.zero_le _, rfl, rfl, HO0.out, HB0.out⟩
    case round =>
      obtain ⟨k, T, hk, rfl, hT, hown, hbel⟩ := hrel
      clear HO0 HB0
      obtain rfl | rfl | rfl | rfl | rfl | rfl : k = 0 ∨ k = 1 ∨ k = 2 ∨ k = 3 ∨ k = 4 ∨ k = 5 := by omega
      all_goals (simp only [List.take_succ_cons, List.take_zero] at hT; subst hT)
      · have g0 := (HG.out _ hbel).at 0 _ rfl
        have g1 := (HG.out _ hbel).at 1 _ rfl
        have hix : (Instr.index 202 (.agg RA) (.int .i64 0)).run Tryz.prog wr = .ok (.agg (fldA (r 0))) wr := HIX.out 0 (by decide) wr
        have HFB : Hid (Fb 200 (wr.alloc (.cells (fldA (r 0)) 200)) wr.heap.size (r 0)) := Fb.new 200 _ _ rfl
        have HBA : Hid (Below B w (wr.alloc (.cells (fldA (r 0)) 200))) := hbel.alloc (by have := hbel.size; omega) _
        have hownA := hown.alloc (.cells (fldA (r 0)) 200)
        obtain ⟨V, hV⟩ : ∃ V, wr.alloc (.cells (fldA (r 0)) 200) = V := ⟨_, rfl⟩
        have hbv : wr.heap.size < V.heap.size := by rw [← hV]; simp
        go_wp2_with (first | (refine wpl_alloc rfl rfl ?_) | (refine wpl_store_new (r 0) (.tmp 8) (.tmp 21) rfl rfl rfl rfl ?_))
        simp only [Act.put]
        rw [hV] at HFB HBA hownA
        rw [hV]
        clear hV hix hown
        have HC0 : Hid (Fb 200 V.drew wr.heap.size (r 0) ∧ RchIs V.drew) := ⟨HFB.out, HG.out V HBA.out⟩
        have HBD : Hid (Below B w V.drew) := HBA.out.drew
        have hownD := hownA.drew
        clear HFB hownA g0 g1
        have j0 : ∀ x : Frw wr.heap.size (r 0), x.at'.cell? ⟨0, 0, none⟩ = some (.int .i64 0) := fun x => x.ok.2.at 0 _ rfl
        have j1 : ∀ x : Frw wr.heap.size (r 0), x.at'.cell? ⟨0, 1, none⟩ = some (.int .i64 59) := fun x => x.ok.2.at 1 _ rfl
        haveI : Nonempty (Frw wr.heap.size (r 0)) := ⟨⟨_, HC0.out⟩⟩
        refine wp_region_pick (fun w' => ∃ x : Frw wr.heap.size (r 0), w' = x.at') [0, 1, 2, 3, 4] 8 3 (by kernel_rfl) (by decide) (by decide) (by kernel_rfl) (fun _ _ d _ _ h => by cases d <;> exact h) ⟨⟨_, HC0.out⟩, rfl⟩ ?_
        refine wpTakes_l rfl (fun x h => by cases h) ?_
        go_big_quiet_step (fail)
        refine wpQuiet_nil ?_
        refine wpTakes_l rfl (fun x h => by cases h) (wpq_load (fun _ ⟨x, hx⟩ => by rw [hx]; exact x.ok.1) (.tmp 8) rfl rfl rfl ?_)
        refine wpQuiet_nil ?_
        simp only [Act.put, List.setIfInBounds_toArray, List.set_cons_succ, List.set_cons_zero]
        repeat (refine wpTakes_l rfl (fun x h => by cases h) ?_; go_big_quiet_step (fail); refine wpQuiet_nil ?_)
        refine takes_nil ?_
        clear j0 j1
        refine any_one (fuel := 2) (i := 5) (by kernel_rfl) rfl rfl ?_
        intro K hK
        go_wp2_with fail
        refine (HT0.out _ HBD.out).mono ?_
        rintro z w3 ⟨rfl, hb3⟩
        have HC3 : Hid (Fb 200 w3 wr.heap.size (r 0) ∧ RchIs w3) := ⟨HC0.out.1.up hb3, HC0.out.2.up hb3⟩
        have HB3 : Hid (Below B w w3) := HBD.out.trans (hb3.mono (by have := HBD.out.size; omega))
        have hown3 := hownD.all hb3
        go_wp2
        refine hK.out _ _ ⟨⟨_, HC3.out⟩, rfl⟩ ?_
        clear hK K hb3 hownD HBD
        refine any_one (fuel := 1) (i := 6) (by kernel_rfl) rfl rfl ?_
        intro K hK
        go_wp2
        refine hK.out _ _ ⟨⟨_, HC3.out.1.alloc _, HC3.out.2.up (ba (Below.refl _ _) _)⟩, rfl⟩ ?_
        clear hK K
        refine any_one (fuel := 0) (i := 7) (by kernel_rfl) rfl rfl ?_
        intro K hK
        have hown4 := hown3.alloc (.cells #[.string t0] 9)
        have hB3 : B ≤ w3.heap.size := by have := HB3.out.size; omega
        go_wp2_with (at_builtin; refine wpList_append_text_g _ w rfl (.tmp 22) (.tmp 28) 86 rfl B 9 Tryz.underlying86 info9 _ [] rfl hown4 (HB3.out.alloc hB3 _) ⟨w3.heap.size, 0, none⟩ 1 t0 rfl ?c1 ?c2 ?c3 ?_)
        case c1 => simp
        case c2 => simp
        case c3 => simp; omega
        intro v' w5 hown5 hbel5 hg5
        have HC5 : Hid (Fb 200 w5 wr.heap.size (r 0) ∧ RchIs w5) := by
          have h1 : Fb 200 (w3.alloc (.cells #[.string t0] 9)) wr.heap.size (r 0) := HC3.out.1.alloc _
          have h2 : RchIs (w3.alloc (.cells #[.string t0] 9)) := HC3.out.2.up (ba (Below.refl _ _) _)
          exact ⟨h1.grown hg5 (fun e => row_not (t := 200) hown4 (by decide) h1 e), h2.grown hg5 (fun e => row_low hown4 HBP.out e)⟩
        go_wp2
        refine hK.out _ _ ⟨⟨_, HC5.out⟩, rfl⟩ ?_
        clear hK K hown3 hown4 hg5 HC3 HC5 HC0 HB3
        refine any_done (by kernel_rfl) ?_
        simp only [List.drop_succ_cons, List.drop_zero]
        go_wp2
        go_roundw
        case rel => exact ⟨1, [t0], by decide, by go_num, rfl, hown5, hbel5⟩
        case measure => simp [intOf]
      · have g0 := (HG.out _ hbel).at 2 _ rfl
        have g1 := (HG.out _ hbel).at 3 _ rfl
        have hix : (Instr.index 202 (.agg RA) (.int .i64 1)).run Tryz.prog wr = .ok (.agg (fldA (r 1))) wr := HIX.out 1 (by decide) wr
        have HFB : Hid (Fb 200 (wr.alloc (.cells (fldA (r 1)) 200)) wr.heap.size (r 1)) := Fb.new 200 _ _ rfl
        have HBA : Hid (Below B w (wr.alloc (.cells (fldA (r 1)) 200))) := hbel.alloc (by have := hbel.size; omega) _
        have hownA := hown.alloc (.cells (fldA (r 1)) 200)
        obtain ⟨V, hV⟩ : ∃ V, wr.alloc (.cells (fldA (r 1)) 200) = V := ⟨_, rfl⟩
        have hbv : wr.heap.size < V.heap.size := by rw [← hV]; simp
        go_wp2_with (first | (refine wpl_alloc rfl rfl ?_) | (refine wpl_store_new (r 1) (.tmp 8) (.tmp 21) rfl rfl rfl rfl ?_))
        simp only [Act.put]
        rw [hV] at HFB HBA hownA
        rw [hV]
        clear hV hix hown
        have HC0 : Hid (Fb 200 V.drew wr.heap.size (r 1) ∧ RchIs V.drew) := ⟨HFB.out, HG.out V HBA.out⟩
        have HBD : Hid (Below B w V.drew) := HBA.out.drew
        have hownD := hownA.drew
        clear HFB hownA g0 g1
        have j0 : ∀ x : Frw wr.heap.size (r 1), x.at'.cell? ⟨0, 2, none⟩ = some (.int .i64 0) := fun x => x.ok.2.at 2 _ rfl
        have j1 : ∀ x : Frw wr.heap.size (r 1), x.at'.cell? ⟨0, 3, none⟩ = some (.int .i64 23) := fun x => x.ok.2.at 3 _ rfl
        haveI : Nonempty (Frw wr.heap.size (r 1)) := ⟨⟨_, HC0.out⟩⟩
        refine wp_region_pick (fun w' => ∃ x : Frw wr.heap.size (r 1), w' = x.at') [0, 1, 2, 3, 4] 8 3 (by kernel_rfl) (by decide) (by decide) (by kernel_rfl) (fun _ _ d _ _ h => by cases d <;> exact h) ⟨⟨_, HC0.out⟩, rfl⟩ ?_
        refine wpTakes_l rfl (fun x h => by cases h) ?_
        go_big_quiet_step (fail)
        refine wpQuiet_nil ?_
        refine wpTakes_l rfl (fun x h => by cases h) (wpq_load (fun _ ⟨x, hx⟩ => by rw [hx]; exact x.ok.1) (.tmp 8) rfl rfl rfl ?_)
        refine wpQuiet_nil ?_
        simp only [Act.put, List.setIfInBounds_toArray, List.set_cons_succ, List.set_cons_zero]
        repeat (refine wpTakes_l rfl (fun x h => by cases h) ?_; go_big_quiet_step (fail); refine wpQuiet_nil ?_)
        refine takes_nil ?_
        clear j0 j1
        refine any_one (fuel := 2) (i := 5) (by kernel_rfl) rfl rfl ?_
        intro K hK
        go_wp2_with fail
        refine (HT1.out _ HBD.out).mono ?_
        rintro z w3 ⟨rfl, hb3⟩
        have HC3 : Hid (Fb 200 w3 wr.heap.size (r 1) ∧ RchIs w3) := ⟨HC0.out.1.up hb3, HC0.out.2.up hb3⟩
        have HB3 : Hid (Below B w w3) := HBD.out.trans (hb3.mono (by have := HBD.out.size; omega))
        have hown3 := hownD.all hb3
        go_wp2
        refine hK.out _ _ ⟨⟨_, HC3.out⟩, rfl⟩ ?_
        clear hK K hb3 hownD HBD
        refine any_one (fuel := 1) (i := 6) (by kernel_rfl) rfl rfl ?_
        intro K hK
        go_wp2
        refine hK.out _ _ ⟨⟨_, HC3.out.1.alloc _, HC3.out.2.up (ba (Below.refl _ _) _)⟩, rfl⟩ ?_
        clear hK K
        refine any_one (fuel := 0) (i := 7) (by kernel_rfl) rfl rfl ?_
        intro K hK
        have hown4 := hown3.alloc (.cells #[.string t1] 9)
        have hB3 : B ≤ w3.heap.size := by have := HB3.out.size; omega
        go_wp2_with (at_builtin; refine wpList_append_text_g _ w rfl (.tmp 22) (.tmp 28) 86 rfl B 9 Tryz.underlying86 info9 _ [t0] rfl hown4 (HB3.out.alloc hB3 _) ⟨w3.heap.size, 0, none⟩ 1 t1 rfl ?c1 ?c2 ?c3 ?_)
        case c1 => simp
        case c2 => simp
        case c3 => simp; omega
        intro v' w5 hown5 hbel5 hg5
        have HC5 : Hid (Fb 200 w5 wr.heap.size (r 1) ∧ RchIs w5) := by
          have h1 : Fb 200 (w3.alloc (.cells #[.string t1] 9)) wr.heap.size (r 1) := HC3.out.1.alloc _
          have h2 : RchIs (w3.alloc (.cells #[.string t1] 9)) := HC3.out.2.up (ba (Below.refl _ _) _)
          exact ⟨h1.grown hg5 (fun e => row_not (t := 200) hown4 (by decide) h1 e), h2.grown hg5 (fun e => row_low hown4 HBP.out e)⟩
        go_wp2
        refine hK.out _ _ ⟨⟨_, HC5.out⟩, rfl⟩ ?_
        clear hK K hown3 hown4 hg5 HC3 HC5 HC0 HB3
        refine any_done (by kernel_rfl) ?_
        simp only [List.drop_succ_cons, List.drop_zero]
        go_wp2
        go_roundw
        case rel => exact ⟨2, [t0, t1], by decide, by go_num, rfl, hown5, hbel5⟩
        case measure => simp [intOf]
      · have g0 := (HG.out _ hbel).at 4 _ rfl
        have g1 := (HG.out _ hbel).at 5 _ rfl
        have hix : (Instr.index 202 (.agg RA) (.int .i64 2)).run Tryz.prog wr = .ok (.agg (fldA (r 2))) wr := HIX.out 2 (by decide) wr
        have HFB : Hid (Fb 200 (wr.alloc (.cells (fldA (r 2)) 200)) wr.heap.size (r 2)) := Fb.new 200 _ _ rfl
        have HBA : Hid (Below B w (wr.alloc (.cells (fldA (r 2)) 200))) := hbel.alloc (by have := hbel.size; omega) _
        have hownA := hown.alloc (.cells (fldA (r 2)) 200)
        obtain ⟨V, hV⟩ : ∃ V, wr.alloc (.cells (fldA (r 2)) 200) = V := ⟨_, rfl⟩
        have hbv : wr.heap.size < V.heap.size := by rw [← hV]; simp
        go_wp2_with (first | (refine wpl_alloc rfl rfl ?_) | (refine wpl_store_new (r 2) (.tmp 8) (.tmp 21) rfl rfl rfl rfl ?_))
        simp only [Act.put]
        rw [hV] at HFB HBA hownA
        rw [hV]
        clear hV hix hown
        have HC0 : Hid (Fb 200 V.drew wr.heap.size (r 2) ∧ RchIs V.drew) := ⟨HFB.out, HG.out V HBA.out⟩
        have HBD : Hid (Below B w V.drew) := HBA.out.drew
        have hownD := hownA.drew
        clear HFB hownA g0 g1
        have j0 : ∀ x : Frw wr.heap.size (r 2), x.at'.cell? ⟨0, 4, none⟩ = some (.int .i64 1) := fun x => x.ok.2.at 4 _ rfl
        have j1 : ∀ x : Frw wr.heap.size (r 2), x.at'.cell? ⟨0, 5, none⟩ = some (.int .i64 31) := fun x => x.ok.2.at 5 _ rfl
        haveI : Nonempty (Frw wr.heap.size (r 2)) := ⟨⟨_, HC0.out⟩⟩
        refine wp_region_pick (fun w' => ∃ x : Frw wr.heap.size (r 2), w' = x.at') [0, 1, 2, 3, 4] 8 3 (by kernel_rfl) (by decide) (by decide) (by kernel_rfl) (fun _ _ d _ _ h => by cases d <;> exact h) ⟨⟨_, HC0.out⟩, rfl⟩ ?_
        refine wpTakes_l rfl (fun x h => by cases h) ?_
        go_big_quiet_step (fail)
        refine wpQuiet_nil ?_
        refine wpTakes_l rfl (fun x h => by cases h) (wpq_load (fun _ ⟨x, hx⟩ => by rw [hx]; exact x.ok.1) (.tmp 8) rfl rfl rfl ?_)
        refine wpQuiet_nil ?_
        simp only [Act.put, List.setIfInBounds_toArray, List.set_cons_succ, List.set_cons_zero]
        repeat (refine wpTakes_l rfl (fun x h => by cases h) ?_; go_big_quiet_step (fail); refine wpQuiet_nil ?_)
        refine takes_nil ?_
        clear j0 j1
        refine any_one (fuel := 2) (i := 5) (by kernel_rfl) rfl rfl ?_
        intro K hK
        go_wp2_with fail
        refine (HT2.out _ HBD.out).mono ?_
        rintro z w3 ⟨rfl, hb3⟩
        have HC3 : Hid (Fb 200 w3 wr.heap.size (r 2) ∧ RchIs w3) := ⟨HC0.out.1.up hb3, HC0.out.2.up hb3⟩
        have HB3 : Hid (Below B w w3) := HBD.out.trans (hb3.mono (by have := HBD.out.size; omega))
        have hown3 := hownD.all hb3
        go_wp2
        refine hK.out _ _ ⟨⟨_, HC3.out⟩, rfl⟩ ?_
        clear hK K hb3 hownD HBD
        refine any_one (fuel := 1) (i := 6) (by kernel_rfl) rfl rfl ?_
        intro K hK
        go_wp2
        refine hK.out _ _ ⟨⟨_, HC3.out.1.alloc _, HC3.out.2.up (ba (Below.refl _ _) _)⟩, rfl⟩ ?_
        clear hK K
        refine any_one (fuel := 0) (i := 7) (by kernel_rfl) rfl rfl ?_
        intro K hK
        have hown4 := hown3.alloc (.cells #[.string t2] 9)
        have hB3 : B ≤ w3.heap.size := by have := HB3.out.size; omega
        go_wp2_with (at_builtin; refine wpList_append_text_g _ w rfl (.tmp 22) (.tmp 28) 86 rfl B 9 Tryz.underlying86 info9 _ [t0, t1] rfl hown4 (HB3.out.alloc hB3 _) ⟨w3.heap.size, 0, none⟩ 1 t2 rfl ?c1 ?c2 ?c3 ?_)
        case c1 => simp
        case c2 => simp
        case c3 => simp; omega
        intro v' w5 hown5 hbel5 hg5
        have HC5 : Hid (Fb 200 w5 wr.heap.size (r 2) ∧ RchIs w5) := by
          have h1 : Fb 200 (w3.alloc (.cells #[.string t2] 9)) wr.heap.size (r 2) := HC3.out.1.alloc _
          have h2 : RchIs (w3.alloc (.cells #[.string t2] 9)) := HC3.out.2.up (ba (Below.refl _ _) _)
          exact ⟨h1.grown hg5 (fun e => row_not (t := 200) hown4 (by decide) h1 e), h2.grown hg5 (fun e => row_low hown4 HBP.out e)⟩
        go_wp2
        refine hK.out _ _ ⟨⟨_, HC5.out⟩, rfl⟩ ?_
        clear hK K hown3 hown4 hg5 HC3 HC5 HC0 HB3
        refine any_done (by kernel_rfl) ?_
        simp only [List.drop_succ_cons, List.drop_zero]
        go_wp2
        go_roundw
        case rel => exact ⟨3, [t0, t1, t2], by decide, by go_num, rfl, hown5, hbel5⟩
        case measure => simp [intOf]
      · have g0 := (HG.out _ hbel).at 6 _ rfl
        have g1 := (HG.out _ hbel).at 7 _ rfl
        have hix : (Instr.index 202 (.agg RA) (.int .i64 3)).run Tryz.prog wr = .ok (.agg (fldA (r 3))) wr := HIX.out 3 (by decide) wr
        have HFB : Hid (Fb 200 (wr.alloc (.cells (fldA (r 3)) 200)) wr.heap.size (r 3)) := Fb.new 200 _ _ rfl
        have HBA : Hid (Below B w (wr.alloc (.cells (fldA (r 3)) 200))) := hbel.alloc (by have := hbel.size; omega) _
        have hownA := hown.alloc (.cells (fldA (r 3)) 200)
        obtain ⟨V, hV⟩ : ∃ V, wr.alloc (.cells (fldA (r 3)) 200) = V := ⟨_, rfl⟩
        have hbv : wr.heap.size < V.heap.size := by rw [← hV]; simp
        go_wp2_with (first | (refine wpl_alloc rfl rfl ?_) | (refine wpl_store_new (r 3) (.tmp 8) (.tmp 21) rfl rfl rfl rfl ?_))
        simp only [Act.put]
        rw [hV] at HFB HBA hownA
        rw [hV]
        clear hV hix hown
        have HC0 : Hid (Fb 200 V.drew wr.heap.size (r 3) ∧ RchIs V.drew) := ⟨HFB.out, HG.out V HBA.out⟩
        have HBD : Hid (Below B w V.drew) := HBA.out.drew
        have hownD := hownA.drew
        clear HFB hownA g0 g1
        have j0 : ∀ x : Frw wr.heap.size (r 3), x.at'.cell? ⟨0, 6, none⟩ = some (.int .i64 1) := fun x => x.ok.2.at 6 _ rfl
        have j1 : ∀ x : Frw wr.heap.size (r 3), x.at'.cell? ⟨0, 7, none⟩ = some (.int .i64 12) := fun x => x.ok.2.at 7 _ rfl
        haveI : Nonempty (Frw wr.heap.size (r 3)) := ⟨⟨_, HC0.out⟩⟩
        refine wp_region_pick (fun w' => ∃ x : Frw wr.heap.size (r 3), w' = x.at') [0, 1, 2, 3, 4] 8 3 (by kernel_rfl) (by decide) (by decide) (by kernel_rfl) (fun _ _ d _ _ h => by cases d <;> exact h) ⟨⟨_, HC0.out⟩, rfl⟩ ?_
        refine wpTakes_l rfl (fun x h => by cases h) ?_
        go_big_quiet_step (fail)
        refine wpQuiet_nil ?_
        refine wpTakes_l rfl (fun x h => by cases h) (wpq_load (fun _ ⟨x, hx⟩ => by rw [hx]; exact x.ok.1) (.tmp 8) rfl rfl rfl ?_)
        refine wpQuiet_nil ?_
        simp only [Act.put, List.setIfInBounds_toArray, List.set_cons_succ, List.set_cons_zero]
        repeat (refine wpTakes_l rfl (fun x h => by cases h) ?_; go_big_quiet_step (fail); refine wpQuiet_nil ?_)
        refine takes_nil ?_
        clear j0 j1
        refine any_one (fuel := 2) (i := 5) (by kernel_rfl) rfl rfl ?_
        intro K hK
        go_wp2_with fail
        refine (HT3.out _ HBD.out).mono ?_
        rintro z w3 ⟨rfl, hb3⟩
        have HC3 : Hid (Fb 200 w3 wr.heap.size (r 3) ∧ RchIs w3) := ⟨HC0.out.1.up hb3, HC0.out.2.up hb3⟩
        have HB3 : Hid (Below B w w3) := HBD.out.trans (hb3.mono (by have := HBD.out.size; omega))
        have hown3 := hownD.all hb3
        go_wp2
        refine hK.out _ _ ⟨⟨_, HC3.out⟩, rfl⟩ ?_
        clear hK K hb3 hownD HBD
        refine any_one (fuel := 1) (i := 6) (by kernel_rfl) rfl rfl ?_
        intro K hK
        go_wp2
        refine hK.out _ _ ⟨⟨_, HC3.out.1.alloc _, HC3.out.2.up (ba (Below.refl _ _) _)⟩, rfl⟩ ?_
        clear hK K
        refine any_one (fuel := 0) (i := 7) (by kernel_rfl) rfl rfl ?_
        intro K hK
        have hown4 := hown3.alloc (.cells #[.string t3] 9)
        have hB3 : B ≤ w3.heap.size := by have := HB3.out.size; omega
        go_wp2_with (at_builtin; refine wpList_append_text_g _ w rfl (.tmp 22) (.tmp 28) 86 rfl B 9 Tryz.underlying86 info9 _ [t0, t1, t2] rfl hown4 (HB3.out.alloc hB3 _) ⟨w3.heap.size, 0, none⟩ 1 t3 rfl ?c1 ?c2 ?c3 ?_)
        case c1 => simp
        case c2 => simp
        case c3 => simp; omega
        intro v' w5 hown5 hbel5 hg5
        have HC5 : Hid (Fb 200 w5 wr.heap.size (r 3) ∧ RchIs w5) := by
          have h1 : Fb 200 (w3.alloc (.cells #[.string t3] 9)) wr.heap.size (r 3) := HC3.out.1.alloc _
          have h2 : RchIs (w3.alloc (.cells #[.string t3] 9)) := HC3.out.2.up (ba (Below.refl _ _) _)
          exact ⟨h1.grown hg5 (fun e => row_not (t := 200) hown4 (by decide) h1 e), h2.grown hg5 (fun e => row_low hown4 HBP.out e)⟩
        go_wp2
        refine hK.out _ _ ⟨⟨_, HC5.out⟩, rfl⟩ ?_
        clear hK K hown3 hown4 hg5 HC3 HC5 HC0 HB3
        refine any_done (by kernel_rfl) ?_
        simp only [List.drop_succ_cons, List.drop_zero]
        go_wp2
        go_roundw
        case rel => exact ⟨4, [t0, t1, t2, t3], by decide, by go_num, rfl, hown5, hbel5⟩
        case measure => simp [intOf]
      · have g0 := (HG.out _ hbel).at 8 _ rfl
        have g1 := (HG.out _ hbel).at 9 _ rfl
        have hix : (Instr.index 202 (.agg RA) (.int .i64 4)).run Tryz.prog wr = .ok (.agg (fldA (r 4))) wr := HIX.out 4 (by decide) wr
        have HFB : Hid (Fb 200 (wr.alloc (.cells (fldA (r 4)) 200)) wr.heap.size (r 4)) := Fb.new 200 _ _ rfl
        have HBA : Hid (Below B w (wr.alloc (.cells (fldA (r 4)) 200))) := hbel.alloc (by have := hbel.size; omega) _
        have hownA := hown.alloc (.cells (fldA (r 4)) 200)
        obtain ⟨V, hV⟩ : ∃ V, wr.alloc (.cells (fldA (r 4)) 200) = V := ⟨_, rfl⟩
        have hbv : wr.heap.size < V.heap.size := by rw [← hV]; simp
        go_wp2_with (first | (refine wpl_alloc rfl rfl ?_) | (refine wpl_store_new (r 4) (.tmp 8) (.tmp 21) rfl rfl rfl rfl ?_))
        simp only [Act.put]
        rw [hV] at HFB HBA hownA
        rw [hV]
        clear hV hix hown
        have HC0 : Hid (Fb 200 V.drew wr.heap.size (r 4) ∧ RchIs V.drew) := ⟨HFB.out, HG.out V HBA.out⟩
        have HBD : Hid (Below B w V.drew) := HBA.out.drew
        have hownD := hownA.drew
        clear HFB hownA g0 g1
        have j0 : ∀ x : Frw wr.heap.size (r 4), x.at'.cell? ⟨0, 8, none⟩ = some (.int .i64 0) := fun x => x.ok.2.at 8 _ rfl
        have j1 : ∀ x : Frw wr.heap.size (r 4), x.at'.cell? ⟨0, 9, none⟩ = some (.int .i64 6) := fun x => x.ok.2.at 9 _ rfl
        haveI : Nonempty (Frw wr.heap.size (r 4)) := ⟨⟨_, HC0.out⟩⟩
        refine wp_region_pick (fun w' => ∃ x : Frw wr.heap.size (r 4), w' = x.at') [0, 1, 2, 3, 4] 8 3 (by kernel_rfl) (by decide) (by decide) (by kernel_rfl) (fun _ _ d _ _ h => by cases d <;> exact h) ⟨⟨_, HC0.out⟩, rfl⟩ ?_
        refine wpTakes_l rfl (fun x h => by cases h) ?_
        go_big_quiet_step (fail)
        refine wpQuiet_nil ?_
        refine wpTakes_l rfl (fun x h => by cases h) (wpq_load (fun _ ⟨x, hx⟩ => by rw [hx]; exact x.ok.1) (.tmp 8) rfl rfl rfl ?_)
        refine wpQuiet_nil ?_
        simp only [Act.put, List.setIfInBounds_toArray, List.set_cons_succ, List.set_cons_zero]
        repeat (refine wpTakes_l rfl (fun x h => by cases h) ?_; go_big_quiet_step (fail); refine wpQuiet_nil ?_)
        refine takes_nil ?_
        clear j0 j1
        refine any_one (fuel := 2) (i := 5) (by kernel_rfl) rfl rfl ?_
        intro K hK
        go_wp2_with fail
        refine (HT4.out _ HBD.out).mono ?_
        rintro z w3 ⟨rfl, hb3⟩
        have HC3 : Hid (Fb 200 w3 wr.heap.size (r 4) ∧ RchIs w3) := ⟨HC0.out.1.up hb3, HC0.out.2.up hb3⟩
        have HB3 : Hid (Below B w w3) := HBD.out.trans (hb3.mono (by have := HBD.out.size; omega))
        have hown3 := hownD.all hb3
        go_wp2
        refine hK.out _ _ ⟨⟨_, HC3.out⟩, rfl⟩ ?_
        clear hK K hb3 hownD HBD
        refine any_one (fuel := 1) (i := 6) (by kernel_rfl) rfl rfl ?_
        intro K hK
        go_wp2
        refine hK.out _ _ ⟨⟨_, HC3.out.1.alloc _, HC3.out.2.up (ba (Below.refl _ _) _)⟩, rfl⟩ ?_
        clear hK K
        refine any_one (fuel := 0) (i := 7) (by kernel_rfl) rfl rfl ?_
        intro K hK
        have hown4 := hown3.alloc (.cells #[.string t4] 9)
        have hB3 : B ≤ w3.heap.size := by have := HB3.out.size; omega
        go_wp2_with (at_builtin; refine wpList_append_text_g _ w rfl (.tmp 22) (.tmp 28) 86 rfl B 9 Tryz.underlying86 info9 _ [t0, t1, t2, t3] rfl hown4 (HB3.out.alloc hB3 _) ⟨w3.heap.size, 0, none⟩ 1 t4 rfl ?c1 ?c2 ?c3 ?_)
        case c1 => simp
        case c2 => simp
        case c3 => simp; omega
        intro v' w5 hown5 hbel5 hg5
        have HC5 : Hid (Fb 200 w5 wr.heap.size (r 4) ∧ RchIs w5) := by
          have h1 : Fb 200 (w3.alloc (.cells #[.string t4] 9)) wr.heap.size (r 4) := HC3.out.1.alloc _
          have h2 : RchIs (w3.alloc (.cells #[.string t4] 9)) := HC3.out.2.up (ba (Below.refl _ _) _)
          exact ⟨h1.grown hg5 (fun e => row_not (t := 200) hown4 (by decide) h1 e), h2.grown hg5 (fun e => row_low hown4 HBP.out e)⟩
        go_wp2
        refine hK.out _ _ ⟨⟨_, HC5.out⟩, rfl⟩ ?_
        clear hK K hown3 hown4 hg5 HC3 HC5 HC0 HB3
        refine any_done (by kernel_rfl) ?_
        simp only [List.drop_succ_cons, List.drop_zero]
        go_wp2
        go_roundw
        case rel => exact ⟨5, [t0, t1, t2, t3, t4], by decide, by go_num, rfl, hown5, hbel5⟩
        case measure => simp [intOf]
      · obtain ⟨g, cap, rfl, hgB, hgl, hcap, hcells, _⟩ := ownsS_form hown (by simp)
        have HJN : Hid (Calls Tryz.prog 166 #[.slice (some ⟨g, 0, none⟩) 5 cap, .string ⟨#[32]⟩] wr fun e w' => e = .returned (.string S) ∧ Below wr.heap.size wr w') := by
          have := Tryz.strings_Join g 0 cap [t0, t1, t2, t3, t4] ⟨#[32]⟩ wr (fun j x hx => by
            obtain ⟨h1, rfl⟩ := List.getElem?_eq_some_iff.1 hx
            rw [Nat.zero_add]
            exact hcells j h1) hgl (by simp) (by simpa using hcap) HJL.out
          refine this.mono ?_
          rintro e w' ⟨rfl, hb⟩
          exact ⟨by rw [← HS.out], hb⟩
        clear hcells hown HJL HS
        go_wp2_with fail
        refine HJN.out.mono ?_
        rintro z w7 ⟨rfl, hb7⟩
        have B7 : Below B w w7 := hbel.trans (hb7.mono (by have := hbel.size; omega))
        go_wp2
        go_ret2
        subst hB
        exact ⟨rfl, B7⟩
end Go.Proofs.YtjmclcjhimcehaaGreatDoor

namespace Go.Proofs.YtjmclcjhimcehaaGreatDoor
open Go Go.RowKit

theorem set_keep {H : List Bool} {i x : Nat} (h : H.getD x false = true) : (H.set i true).getD x false = true := by
  by_cases hi : i < H.length
  · rw [getD_set _ _ _ hi, h, Bool.or_true]
  · rw [List.set_eq_of_length_le (by omega)]; exact h
theorem stamp_keep {H : List Bool} {a t x : Nat} (h : H.getD x false = true) : ∀ j, (stamp H a t j).getD x false = true
  | 0 => h
  | j + 1 => set_keep (stamp_keep h j)
theorem stamp_first {H : List Bool} {a t : Nat} (ha : a < H.length) : ∀ j, (stamp H a t (j + 1)).getD a false = true
  | 0 => by
    rw [stamp, stamp, Nat.zero_mul, Nat.add_zero, getD_set _ _ _ ha, decide_eq_true rfl]
    rfl
  | j + 1 => set_keep (stamp_first ha j)
theorem fieldGo_keep {lo hi : Int} {x : Nat} : ∀ (l : List ByteArray) (H H' : List Bool), H.getD x false = true → fieldGo lo hi l H = some H' → H'.getD x false = true
  | [], H, H', h, e => by cases e; exact h
  | p :: r, H, H', h, e => by
    rw [fieldGo] at e
    split at e
    · exact fieldGo_keep r _ H' (stamp_keep h _) e
    · cases e
theorem fieldGo_first {lo hi : Int} (h0 : 0 ≤ lo) (hlh : lo ≤ hi) : ∀ (l : List ByteArray) (H H' : List Bool), H.length = (hi + 1).toNat → 0 < l.length → fieldGo lo hi l H = some H' → ∃ x : Int, lo ≤ x ∧ x ≤ hi ∧ H'.getD x.toNat false = true
  | [], _, _, _, hl, _ => by simp at hl
  | p :: r, H, H', hH, _, e => by
    rw [fieldGo] at e
    split at e
    · rename_i hp
      have hb := piece_bd hlh hp
      refine ⟨(piece p lo hi).1, hb.1, by omega, fieldGo_keep r _ H' ?_ e⟩
      exact stamp_first (by rw [hH]; omega) _
    · cases e
theorem field_right {s : ByteArray} {lo hi : Int} {H : List Bool} (h0 : 0 ≤ lo) (hlh : lo ≤ hi) (h : fieldO s lo hi = some H) : listB lo hi (fieldL s lo hi) = true := by
  unfold fieldL
  rw [h]
  show listB lo hi (picks H lo (hi - lo + 1).toNat) = true
  obtain ⟨x, hx0, hx1, hx⟩ := fieldGo_first h0 hlh _ _ H (by rw [List.length_replicate]) (cutsN_some s 44) h
  unfold listB
  rw [rise_of _ none (picks_rise _) (fun y hy => ?_) (fun y hy => by cases hy), Bool.and_true]
  · have hm : x ∈ picks H lo (hi - lo + 1).toNat := (mem_picks _).2 ⟨(x - lo).toNat, by omega, by omega, by rw [show lo + ((x - lo).toNat : Int) = x by omega]; exact hx⟩
    cases hq : picks H lo (hi - lo + 1).toNat with
    | nil => rw [hq] at hm; cases hm
    | cons y r => rfl
  · obtain ⟨i, h1, rfl, _⟩ := (mem_picks _).1 hy
    omega
/-- Words that are a rule make a right one. -/
theorem rule_right {s : ByteArray} {l : List (List Int)} (h : pcO s = some l) : ∃ a b c d e, l = [a, b, c, d, e] ∧ cronB a b c d e = true := by
  unfold pcO at h
  split at h
  · unfold pcT at h
    split at h
    · split at h
      · rename_i hq
        simp only [Bool.and_eq_true, Option.isSome_iff_exists] at hq
        obtain ⟨⟨H1, e1⟩, ⟨H2, e2⟩, ⟨H3, e3⟩, ⟨H4, e4⟩, ⟨H5, e5⟩⟩ := hq
        refine ⟨_, _, _, _, _, (Option.some.inj h).symm, ?_⟩
        unfold cronB
        rw [field_right (by decide) (by decide) e1, field_right (by decide) (by decide) e2, field_right (by decide) (by decide) e3, field_right (by decide) (by decide) e4, field_right (by decide) (by decide) e5]
        rfl
      · cases h
    · cases h
  · cases h
end Go.Proofs.YtjmclcjhimcehaaGreatDoor
