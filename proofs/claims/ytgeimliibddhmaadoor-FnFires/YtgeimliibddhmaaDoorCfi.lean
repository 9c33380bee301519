/-
  Whether a rule is right, and whether it fires at a minute, as the program tells it: the walks.
-/
import Derived.Test.YtgeimliibddhmaaDoorFip
namespace Go.Proofs.YtgeimliibddhmaaDoor
open Go Go.RowKit
set_option linter.unusedVariables false

set_option maxRecDepth 10000 in
set_option maxHeartbeats 1000000 in
theorem implCronOk_any (va vb vc vd ve : Value) (a b c d e : List Int) (w : World) (h1 : Reads w va a) (h2 : Reads w vb b) (h3 : Reads w vc c) (h4 : Reads w vd d) (h5 : Reads w ve e)
    (n1 : a.length ≤ 1048577) (n2 : b.length ≤ 1048577) (n3 : c.length ≤ 1048577) (n4 : d.length ≤ 1048577) (n5 : e.length ≤ 1048577) (hg : RchIs w) :
    Calls Tryd.prog 16 #[.agg #[va, vb, vc, vd, ve]] w fun x w' => x = .returned (.bool (cronB a b c d e)) ∧ Below w.heap.size w w' := by
  obtain ⟨ao, ac, rfl, _⟩ := id h1
  obtain ⟨bo, bc, rfl, _⟩ := id h2
  obtain ⟨co, cc, rfl, _⟩ := id h3
  obtain ⟨d0, dc, rfl, _⟩ := id h4
  obtain ⟨eo, ec, rfl, _⟩ := id h5
  have HR : Hid (∀ W, Below w.heap.size w W → Calls Tryd.prog 37 #[.agg #[.slice ao a.length ac, .slice bo b.length bc, .slice co c.length cc, .slice d0 d.length dc, .slice eo e.length ec]] W fun x w' => x = .returned (.tuple #[.agg (rulA (ruleP a b c d e)), .bool (cronB a b c d e)]) ∧ Below W.heap.size W w') := fun W hb => ruleOf_any _ _ _ _ _ a b c d e W (h1.below hb) (h2.below hb) (h3.below hb) (h4.below hb) (h5.below hb) n1 n2 n3 n4 n5 (hg.up hb)
  have HG : Hid (∀ W, Below w.heap.size w W → RchIs W) := fun W hb => hg.up hb
  clear h1 h2 h3 h4 h5 n1 n2 n3 n4 n5 hg
  obtain ⟨r, HRP⟩ : ∃ r, Hid (ruleP a b c d e = r) := ⟨_, rfl⟩
  rw [HRP.out] at HR
  obtain ⟨q, hq⟩ : ∃ q, cronB a b c d e = q := ⟨_, rfl⟩
  have HQ : Hid (cronB a b c d e = q) := hq
  rw [hq] at HR
  rw [hq]
  clear HG HQ hq
  generalize a.length = la at *
  generalize b.length = lb at *
  generalize c.length = lc at *
  generalize d.length = ld at *
  generalize e.length = le at *
  go_enter Tryd.func16, Tryd.ntmps16
  go_wp2_with fail
  refine (HR.out _ (ba (Below.refl _ _) _)).mono ?_
  rintro x w1 ⟨rfl, hb1⟩
  have B1 := below_new hb1
  clear hb1 HR
  have hz0 : w.heap.size ≤ w1.heap.size := B1.size
  have HA : Hid (Rb (w1.alloc (.cells (rulA fun _ _ => false) 57)) w1.heap.size (fun _ _ => false)) := Rb.new w1 _ 57 rfl
  obtain ⟨W, HW⟩ : ∃ W, Hid (((w1.alloc (.cells (rulA fun _ _ => false) 57)).setCells w1.heap.size 0 (rulA r).toList) = W) := ⟨_, rfl⟩
  have HZ : Hid (Rb W w1.heap.size r) := by show Rb _ _ _; rw [← HW.out]; exact HA.out.setAll r
  have BW : Below w.heap.size w W := by rw [← HW.out]; exact below_setCells hz0 _ _ _ (ba B1 _)
  clear B1
  go_wp2_with (first | (refine wpr_alloc rfl rfl ?_) | (refine wpr_store HA.out r (.tmp 3) (.tmp 8) rfl rfl rfl rfl ?_; rw [HW.out]))
  go_ret
  exact ⟨rfl, BW⟩
set_option maxRecDepth 10000 in
set_option maxHeartbeats 1000000 in
theorem implFires_any (va vb vc vd ve : Value) (a b c d e : List Int) (m : Int) (w : World) (h1 : Reads w va a) (h2 : Reads w vb b) (h3 : Reads w vc c) (h4 : Reads w vd d) (h5 : Reads w ve e)
    (n1 : a.length ≤ 1048577) (n2 : b.length ≤ 1048577) (n3 : c.length ≤ 1048577) (n4 : d.length ≤ 1048577) (n5 : e.length ≤ 1048577) (hg : RchIs w) :
    Calls Tryd.prog 25 #[.agg #[va, vb, vc, vd, ve], .int .i64 m] w fun x w' => x = .returned (.bool (cronB a b c d e && firesB a b c d e m)) ∧ Below w.heap.size w w' := by
  obtain ⟨ao, ac, rfl, _⟩ := id h1
  obtain ⟨bo, bc, rfl, _⟩ := id h2
  obtain ⟨co, cc, rfl, _⟩ := id h3
  obtain ⟨d0, dc, rfl, _⟩ := id h4
  obtain ⟨eo, ec, rfl, _⟩ := id h5
  have HR : Hid (∀ W, Below w.heap.size w W → Calls Tryd.prog 37 #[.agg #[.slice ao a.length ac, .slice bo b.length bc, .slice co c.length cc, .slice d0 d.length dc, .slice eo e.length ec]] W fun x w' => x = .returned (.tuple #[.agg (rulA (ruleP a b c d e)), .bool (cronB a b c d e)]) ∧ Below W.heap.size W w') := fun W hb => ruleOf_any _ _ _ _ _ a b c d e W (h1.below hb) (h2.below hb) (h3.below hb) (h4.below hb) (h5.below hb) n1 n2 n3 n4 n5 (hg.up hb)
  have HG : Hid (∀ W, Below w.heap.size w W → RchIs W) := fun W hb => hg.up hb
  clear h1 h2 h3 h4 h5 n1 n2 n3 n4 n5 hg
  obtain ⟨r, HRP⟩ : ∃ r, Hid (ruleP a b c d e = r) := ⟨_, rfl⟩
  rw [HRP.out] at HR
  obtain ⟨q, hq⟩ : ∃ q, cronB a b c d e = q := ⟨_, rfl⟩
  have HQ : Hid (cronB a b c d e = q) := hq
  rw [hq] at HR
  rw [hq]
  cases q with
  | false =>
    clear HG HQ hq
    obtain ⟨y, HY⟩ : ∃ y, Hid (firesB a b c d e m = y) := ⟨_, rfl⟩
    rw [HY.out]
    generalize a.length = la at *
    generalize b.length = lb at *
    generalize c.length = lc at *
    generalize d.length = ld at *
    generalize e.length = le at *
    go_enter Tryd.func25, Tryd.ntmps25
    go_wp2_with fail
    refine (HR.out _ (ba (Below.refl _ _) _)).mono ?_
    rintro x w1 ⟨rfl, hb1⟩
    have B1 := below_new hb1
    clear hb1 HR
    have hz0 : w.heap.size ≤ w1.heap.size := B1.size
    have HA : Hid (Rb (w1.alloc (.cells (rulA fun _ _ => false) 57)) w1.heap.size (fun _ _ => false)) := Rb.new w1 _ 57 rfl
    obtain ⟨W, HW⟩ : ∃ W, Hid (((w1.alloc (.cells (rulA fun _ _ => false) 57)).setCells w1.heap.size 0 (rulA r).toList) = W) := ⟨_, rfl⟩
    have HZ : Hid (Rb W w1.heap.size r) := by show Rb _ _ _; rw [← HW.out]; exact HA.out.setAll r
    have BW : Below w.heap.size w W := by rw [← HW.out]; exact below_setCells hz0 _ _ _ (ba B1 _)
    clear B1
    go_wp2_with (first | (refine wpr_alloc rfl rfl ?_) | (refine wpr_store HA.out r (.tmp 5) (.tmp 10) rfl rfl rfl rfl ?_; rw [HW.out]))
    go_ret
    exact ⟨rfl, BW⟩
  | true =>
    have HM : Hid (r = mem5 a b c d e) := HRP.out.symm.trans (ruleP_yes hq)
    have HD : Hid (∀ W, Below w.heap.size w W → Calls Tryd.prog 56 #[.agg (rulA r), .int .i64 m] W fun x w' => x = .returned (.bool (dayW c d e m)) ∧ Below W.heap.size W w') := fun W hb => by rw [HM.out]; exact onDay_all W hq (HG.out W hb)
    obtain ⟨t, HT⟩ : ∃ t, Hid (dayW c d e m = t) := ⟨_, rfl⟩
    rw [HT.out] at HD
    have HF0 : Hid (t = false → firesB a b c d e m = false) := fun ht => by
      have h0 := HT.out.trans ht
      by_cases hm : 0 ≤ m ∧ m ≤ 68374079
      · unfold dayW at h0
        rw [decide_eq_true hm, Bool.true_and] at h0
        rw [fires_time hm.1 hm.2, h0, Bool.and_false]
      · exact fires_out hm
    have HF1 : Hid (t = true → (0 ≤ m ∧ m ≤ 68374079) ∧ firesB a b c d e m = timeQ r m) := fun ht => by
      have h0 := HT.out.trans ht
      unfold dayW at h0
      rw [Bool.and_eq_true] at h0
      have hm := of_decide_eq_true h0.1
      exact ⟨hm, by rw [fires_time hm.1 hm.2, h0.2, Bool.and_true, HM.out]⟩
    clear HM HG HQ hq HT
    obtain ⟨y, HY⟩ : ∃ y, Hid (firesB a b c d e m = y) := ⟨_, rfl⟩
    rw [HY.out] at HF0 HF1
    rw [HY.out]
    clear HY
    generalize a.length = la at *
    generalize b.length = lb at *
    generalize c.length = lc at *
    generalize d.length = ld at *
    generalize e.length = le at *
    go_enter Tryd.func25, Tryd.ntmps25
    go_wp2_with fail
    refine (HR.out _ (ba (Below.refl _ _) _)).mono ?_
    rintro x w1 ⟨rfl, hb1⟩
    have B1 := below_new hb1
    clear hb1 HR
    have hz0 : w.heap.size ≤ w1.heap.size := B1.size
    have HA : Hid (Rb (w1.alloc (.cells (rulA fun _ _ => false) 57)) w1.heap.size (fun _ _ => false)) := Rb.new w1 _ 57 rfl
    obtain ⟨W, HW⟩ : ∃ W, Hid (((w1.alloc (.cells (rulA fun _ _ => false) 57)).setCells w1.heap.size 0 (rulA r).toList) = W) := ⟨_, rfl⟩
    have HZ : Hid (Rb W w1.heap.size r) := by show Rb _ _ _; rw [← HW.out]; exact HA.out.setAll r
    have BW : Below w.heap.size w W := by rw [← HW.out]; exact below_setCells hz0 _ _ _ (ba B1 _)
    clear B1
    go_wp2_with (first | (refine wpr_alloc rfl rfl ?_) | (refine wpr_store HA.out r (.tmp 5) (.tmp 10) rfl rfl rfl rfl ?_; rw [HW.out]) | (refine wpr_load_g HZ.out (.tmp 5) rfl rfl rfl ?_))
    refine (HD.out _ BW).mono ?_
    rintro x w2 ⟨rfl, hb2⟩
    have B2 := Below.on BW hb2
    have HZ2 : Hid (Rb w2 w1.heap.size r) := HZ.out.up hb2
    clear hb2
    cases t with
    | false =>
      have HF := HF0.out rfl
      go_wp2
      go_ret
      exact ⟨by rw [HF]; rfl, B2⟩
    | true =>
      have HF := HF1.out rfl
      have HT : Hid (∀ W, Calls Tryd.prog 57 #[.agg (rulA r), .int .i64 m] W fun e w' => e = .returned (.bool (timeQ r m)) ∧ Below W.heap.size W w') := fun W => atTime_any r m W HF.1.1 (by have := HF.1.2; omega)
      have HF2 : Hid (y = timeQ r m) := HF.2
      clear HF
      go_wp2_with (refine wpr_load_g HZ2.out (.tmp 5) rfl rfl rfl ?_)
      refine (HT.out _).mono ?_
      rintro x w3 ⟨rfl, hb3⟩
      have B3 := Below.on B2 hb3
      clear hb3
      go_wp2
      go_ret
      exact ⟨by rw [HF2.out]; rfl, B3⟩
end Go.Proofs.YtgeimliibddhmaaDoor
