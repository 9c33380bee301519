/-
  How many minutes fire, as the program counts them: the walk.
-/
import Derived.Test.YtgeimliibddhmaaDoorFip
namespace Go.Proofs.YtgeimliibddhmaaDoor
open Go Go.RowKit
set_option linter.unusedVariables false

theorem wpq_load57 {ops : Array Oper} {C : World → Prop} {Q : Act → Prop} {rest : List Oper} {o : Oper} {a : Act} {b : Nat} {r : Nat → Nat → Bool} (h : ∀ w, C w → Rb w b r) (x : Operand) (hgd : o.guard = none) (ho : o.op = .load 57 x) (hx : a.eval x = .pointer (some ⟨b, 0, none⟩))
    (k : wpQuiet Tryd.prog ops C Q rest (a.put o.dst (.agg (rulA r)))) : wpQuiet Tryd.prog ops C Q (o :: rest) a := by
  refine wpq_of _ hgd (fun w hw => ?_) k
  have hl := run_loadVar_mid (P := Tryd.prog) w b 0 57 (rulA r).toList _ (h w hw).all under57 rfl (by rw [Array.length_toList, rulA_size]; exact info57)
  rw [listA] at hl
  unfold execOp
  simp only [ho, hx, Instr.loadAt, Instr.sureAddr, Sem.run_bind, Sem.run_pure, Result.andThen_ok, hl]
open Classical in
/-- How many fire. -/
noncomputable def countR (a b c d e : List Int) (fr up : Int) : Int := if cronB a b c d e = true ∧ (0 ≤ fr ∧ fr ≤ 68374079) ∧ (0 ≤ up ∧ up ≤ 68374079) ∧ up - fr ≤ 20000 then (countN (firesB a b c d e) fr (up - fr).toNat : Int) else 0
theorem countR_no {a b c d e : List Int} {fr up : Int} (h : ¬ (cronB a b c d e = true ∧ (0 ≤ fr ∧ fr ≤ 68374079) ∧ (0 ≤ up ∧ up ≤ 68374079) ∧ up - fr ≤ 20000)) : countR a b c d e fr up = 0 := if_neg h
theorem countR_yes {a b c d e : List Int} {fr up : Int} (h : cronB a b c d e = true ∧ (0 ≤ fr ∧ fr ≤ 68374079) ∧ (0 ≤ up ∧ up ≤ 68374079) ∧ up - fr ≤ 20000) : countR a b c d e fr up = (countN (firesB a b c d e) fr (up - fr).toNat : Int) := if_pos h
set_option maxRecDepth 10000 in
set_option maxHeartbeats 4000000 in
theorem implCount_any (va vb vc vd ve : Value) (a b c d e : List Int) (fr up : Int) (w : World) (h1 : Reads w va a) (h2 : Reads w vb b) (h3 : Reads w vc c) (h4 : Reads w vd d) (h5 : Reads w ve e)
    (n1 : a.length ≤ 1048577) (n2 : b.length ≤ 1048577) (n3 : c.length ≤ 1048577) (n4 : d.length ≤ 1048577) (n5 : e.length ≤ 1048577) (hg : RchIs w) :
    Calls Tryd.prog 26 #[.agg #[va, vb, vc, vd, ve], .int .i64 fr, .int .i64 up] w fun x w' => x = .returned (.int .i64 (countR a b c d e fr up)) ∧ Below w.heap.size w w' := by
  obtain ⟨ao, ac, rfl, _⟩ := id h1
  obtain ⟨bo, bc, rfl, _⟩ := id h2
  obtain ⟨co, cc, rfl, _⟩ := id h3
  obtain ⟨d0, dc, rfl, _⟩ := id h4
  obtain ⟨eo, ec, rfl, _⟩ := id h5
  have HR : Hid (∀ W, Below w.heap.size w W → Calls Tryd.prog 37 #[.agg #[.slice ao a.length ac, .slice bo b.length bc, .slice co c.length cc, .slice d0 d.length dc, .slice eo e.length ec]] W fun x w' => x = .returned (.tuple #[.agg (rulA (ruleP a b c d e)), .bool (cronB a b c d e)]) ∧ Below W.heap.size W w') := fun W hb => ruleOf_any _ _ _ _ _ a b c d e W (h1.below hb) (h2.below hb) (h3.below hb) (h4.below hb) (h5.below hb) n1 n2 n3 n4 n5 (hg.up hb)
  have HG : Hid (∀ W, Below w.heap.size w W → RchIs W) := fun W hb => hg.up hb
  clear h1 h2 h3 h4 h5 n1 n2 n3 n4 n5 hg
  obtain ⟨r, HRP⟩ : ∃ r, Hid (ruleP a b c d e = r) := ⟨_, rfl⟩
  rw [HRP.out] at HR
  obtain ⟨q, hq⟩ : ∃ q, cronB a b c d e = q := ⟨_, rfl⟩
  have HQ : Hid (cronB a b c d e = q) := hq
  rw [hq] at HR
  cases q with
  | false =>
    have HN : Hid (countR a b c d e fr up = 0) := countR_no fun h => by rw [hq] at h; cases h.1
    clear HG HQ hq HRP
    obtain ⟨RES, HP⟩ : ∃ x : Int, Hid (countR a b c d e fr up = x) := ⟨_, rfl⟩
    rw [HP.out] at HN
    rw [HP.out]
    clear HP
    generalize a.length = la at *
    generalize b.length = lb at *
    generalize c.length = lc at *
    generalize d.length = ld at *
    generalize e.length = le at *
    go_enter Tryd.func26, Tryd.ntmps26
    go_wp2_with fail
    refine (HR.out _ (ba (Below.refl _ _) _)).mono ?_
    rintro x w1 ⟨rfl, hb1⟩
    have B1 := below_new hb1
    clear hb1 HR
    have hz0 : w.heap.size ≤ w1.heap.size := B1.size
    have HA : Hid (Rb (w1.alloc (.cells (rulA fun _ _ => false) 57)) w1.heap.size (fun _ _ => false)) := Rb.new w1 _ 57 rfl
    obtain ⟨W, HW⟩ : ∃ W, Hid (((w1.alloc (.cells (rulA fun _ _ => false) 57)).setCells w1.heap.size 0 (rulA r).toList) = W) := ⟨_, rfl⟩
    have HZ : Hid (Rb W w1.heap.size r) := by show Rb _ _ _; rw [← HW.out]; exact HA.out.setAll r
    have BW : Below w.heap.size w W := by rw [← HW.out]; exact below_setCells hz0 _ _ _ (ba B1 _)
    clear B1
    go_wp2_with (first | (refine wpr_alloc rfl rfl ?_) | (refine wpr_store HA.out r (.tmp 7) (.tmp 14) rfl rfl rfl rfl ?_; rw [HW.out]))
    go_ret
    exact ⟨by rw [HN.out]; rfl, BW⟩
  | true =>
    have HM : Hid (r = mem5 a b c d e) := HRP.out.symm.trans (ruleP_yes hq)
    by_cases hf : 0 ≤ fr ∧ fr ≤ 68374079
    · have HI : Hid (∀ W, Calls Tryd.prog 51 #[.int .i64 fr] W fun e w' => e = .returned (.bool true) ∧ w' = W) := fun W => isMin_yes hf
      by_cases hu : 0 ≤ up ∧ up ≤ 68374079
      · have HJ : Hid (∀ W, Calls Tryd.prog 51 #[.int .i64 up] W fun e w' => e = .returned (.bool true) ∧ w' = W) := fun W => isMin_yes hu
        obtain ⟨f0, f1⟩ := hf
        obtain ⟨u0, u1⟩ := hu
        by_cases hd : 20000 < up - fr
        · clear HM
          have HN : Hid (countR a b c d e fr up = 0) := countR_no fun h => by omega
          clear HG HQ hq HRP
          obtain ⟨RES, HP⟩ : ∃ x : Int, Hid (countR a b c d e fr up = x) := ⟨_, rfl⟩
          rw [HP.out] at HN
          rw [HP.out]
          clear HP
          generalize a.length = la at *
          generalize b.length = lb at *
          generalize c.length = lc at *
          generalize d.length = ld at *
          generalize e.length = le at *
          go_enter Tryd.func26, Tryd.ntmps26
          go_wp2_with fail
          refine (HR.out _ (ba (Below.refl _ _) _)).mono ?_
          rintro x w1 ⟨rfl, hb1⟩
          have B1 := below_new hb1
          clear hb1 HR
          have hz0 : w.heap.size ≤ w1.heap.size := B1.size
          have HA : Hid (Rb (w1.alloc (.cells (rulA fun _ _ => false) 57)) w1.heap.size (fun _ _ => false)) := Rb.new w1 _ 57 rfl
          obtain ⟨W, HW⟩ : ∃ W, Hid (((w1.alloc (.cells (rulA fun _ _ => false) 57)).setCells w1.heap.size 0 (rulA r).toList) = W) := ⟨_, rfl⟩
          have HZ : Hid (Rb W w1.heap.size r) := by show Rb _ _ _; rw [← HW.out]; exact HA.out.setAll r
          have BW : Below w.heap.size w W := by rw [← HW.out]; exact below_setCells hz0 _ _ _ (ba B1 _)
          clear B1
          go_wp2_with (first | (refine wpr_alloc rfl rfl ?_) | (refine wpr_store HA.out r (.tmp 7) (.tmp 14) rfl rfl rfl rfl ?_; rw [HW.out]) | (go_at_call 51; first | (with_reducible refine Calls.mono (HI.out _) ?_; rintro e w2 ⟨rfl, hw⟩; have hw2 := hw.symm; subst hw2) | (with_reducible refine Calls.mono (HJ.out _) ?_; rintro e w2 ⟨rfl, hw⟩; have hw2 := hw.symm; subst hw2)))
          go_ret
          exact ⟨by rw [HN.out]; rfl, BW⟩
        · have HB : Hid (∀ (m : Int) (W : World), 0 ≤ m → m ≤ 4611686018427387904 → Calls Tryd.prog 52 #[.int .i64 m] W fun e w' => e = .returned (.int .i64 ((m / 1440 + 1) * 1440)) ∧ w' = W) := fun m W g0 g1 => dayBehind_any m W g0 g1
          have HC : Hid (∀ (m en : Int) (W : World), Below w.heap.size w W → 0 ≤ m → m ≤ en → en ≤ (m / 1440 + 1) * 1440 → m ≤ 1152921504606800000 → Calls Tryd.prog 58 #[.agg (rulA r), .int .i64 m, .int .i64 en] W fun x w' => x = .returned (.int .i64 (countN (firesB a b c d e) m (en - m).toNat : Int)) ∧ Below W.heap.size W w') := fun m en W hb g0 g1 g2 g3 => by rw [HM.out]; exact countDay_any W hq (HG.out W hb) g0 g1 g2 g3
          have HN : Hid (countR a b c d e fr up = (countN (firesB a b c d e) fr (up - fr).toNat : Int)) := countR_yes ⟨hq, ⟨f0, f1⟩, ⟨u0, u1⟩, by omega⟩
          clear HG HQ hq HM HRP
          obtain ⟨RES, HPP⟩ : ∃ x : Int, Hid (countR a b c d e fr up = x) := ⟨_, rfl⟩
          obtain ⟨ff, HFF⟩ : ∃ ff : Int → Bool, Hid (firesB a b c d e = ff) := ⟨_, rfl⟩
          rw [HPP.out, HFF.out] at HN
          rw [HFF.out] at HC
          rw [HPP.out]
          clear HPP HFF
          generalize a.length = la at *
          generalize b.length = lb at *
          generalize c.length = lc at *
          generalize d.length = ld at *
          generalize e.length = le at *
          go_enter Tryd.func26, Tryd.ntmps26
          go_wp2_with fail
          refine (HR.out _ (ba (Below.refl _ _) _)).mono ?_
          rintro x w1 ⟨rfl, hb1⟩
          have B1 := below_new hb1
          clear hb1 HR
          have hz0 : w.heap.size ≤ w1.heap.size := B1.size
          have HA : Hid (Rb (w1.alloc (.cells (rulA fun _ _ => false) 57)) w1.heap.size (fun _ _ => false)) := Rb.new w1 _ 57 rfl
          obtain ⟨W, HW⟩ : ∃ W, Hid (((w1.alloc (.cells (rulA fun _ _ => false) 57)).setCells w1.heap.size 0 (rulA r).toList) = W) := ⟨_, rfl⟩
          have HZ : Hid (Rb W w1.heap.size r) := by show Rb _ _ _; rw [← HW.out]; exact HA.out.setAll r
          have BW : Below w.heap.size w W := by rw [← HW.out]; exact below_setCells hz0 _ _ _ (ba B1 _)
          clear B1
          go_wp2_with (first | (refine wpr_alloc rfl rfl ?_) | (refine wpr_store HA.out r (.tmp 7) (.tmp 14) rfl rfl rfl rfl ?_; rw [HW.out]) | (go_at_call 51; first | (with_reducible refine Calls.mono (HI.out _) ?_; rintro e w2 ⟨rfl, hw⟩; have hw2 := hw.symm; subst hw2) | (with_reducible refine Calls.mono (HJ.out _) ?_; rintro e w2 ⟨rfl, hw⟩; have hw2 := hw.symm; subst hw2)))
          go_loopw [9, 10] (fun ct bg wr => ∃ (m : Int) (k : Nat), fr ≤ m ∧ m ≤ 80000000 ∧ bg = .int .i64 m ∧ ct = .int .i64 k ∧ (k : Int) ≤ m - fr ∧ (m = fr ∨ m % 1440 = 0) ∧ Hid (countN ff fr (min m up - fr).toNat = k) ∧ Hid (Rb wr w1.heap.size r ∧ Below w.heap.size w wr)) (fun _ bg _ => (up - intOf bg).toNat)
          case atStart => exact ⟨fr, 0, Int.le_refl _, by omega, rfl, rfl, by omega, .inl rfl, by show _ = _; rw [show (min fr up - fr).toNat = 0 by omega]; rfl, HZ.out, BW⟩
          case round =>
            obtain ⟨m, k, hm0, hm1, rfl, rfl, hk, hmd, HP, HS⟩ := hrel
            clear HZ BW HA HW
            by_cases hlt : m < up
            · have HB2 : Hid (∀ W : World, Calls Tryd.prog 52 #[.int .i64 m] W fun e w' => e = .returned (.int .i64 ((m / 1440 + 1) * 1440)) ∧ w' = W) := fun W => HB.out m W (by omega) (by omega)
              obtain ⟨en, HEN⟩ : ∃ en, Hid ((m / 1440 + 1) * 1440 = en) := ⟨_, rfl⟩
              rw [HEN.out] at HB2
              have he1 : m < en := by have := HEN.out; omega
              have he2 : en ≤ m + 1440 := by have := HEN.out; omega
              have HZX : Hid (∀ x : Wd wr, Rb x.at' w1.heap.size r) := fun x => HS.out.1.up x.ok
              by_cases heu : up < en
              · have HNX : Hid (countN ff fr (min en up - fr).toNat = k + countN ff m (up - m).toNat) := by
                  show _ = _
                  have h1 := HP.out
                  have e1 : (min m up - fr).toNat = (m - fr).toNat := by omega
                  have e2 : (min en up - fr).toNat = (m - fr).toNat + (up - m).toNat := by omega
                  rw [e1] at h1
                  rw [e2, countN_add, h1, show fr + ((m - fr).toNat : Int) = m by omega]
                have hcl := countN_le ff m (up - m).toNat
                have HC2 : Hid (∀ W, Below w.heap.size w W → Calls Tryd.prog 58 #[.agg (rulA r), .int .i64 m, .int .i64 up] W fun x w' => x = .returned (.int .i64 (countN ff m (up - m).toNat : Int)) ∧ Below W.heap.size W w') := fun W hb => HC.out m up W hb (by omega) (by omega) (by have := HEN.out; omega) (by omega)
                obtain ⟨g, HGN⟩ : ∃ g : Nat, Hid (countN ff m (up - m).toNat = g) := ⟨_, rfl⟩
                rw [HGN.out] at HNX HC2 hcl
                have hg2 : (g : Int) ≤ up - m := by omega
                clear hcl HGN
                go_wp2
                refine wp_region_wd (by kernel_rfl) (by kernel_rfl) ?_
                go_big_quiet_step (fail)
                refine wpq_load57 (fun _ ⟨x, hx⟩ => by rw [hx]; exact HZX.out x) (.tmp 7) rfl rfl rfl ?_
                simp only [Act.put, List.setIfInBounds_toArray, List.set_cons_succ, List.set_cons_zero]
                go_big_quiet_step (fail)
                go_big_quiet_step (fail)
                go_big_quiet_step ((go_at_call 52; refine calls_wd_same (v := .int .i64 en) ?_; with_reducible exact HB2.out _))
                go_big_quiet_step (fail)
                go_big_quiet_step (fail)
                go_big_quiet_step ((go_at_call 58; refine calls_wd (v := .int .i64 (g : Int)) ?_; with_reducible exact HC2.out _ (Below.on HS.out.2 (Wd.ok _))))
                go_big_quiet_step (fail)
                go_big_quiet_step (fail)
                refine wpQuiet_nil ?_
                rintro _ ⟨y, rfl⟩
                have HSY : Hid (Rb y.at' w1.heap.size r ∧ Below w.heap.size w y.at') := ⟨HS.out.1.up y.ok, Below.on HS.out.2 y.ok⟩
                go_wp2_with (go_at_call 52; refine (HB2.out _).mono ?_; rintro e w3 ⟨rfl, hw3⟩; have hw4 := hw3.symm; subst hw4)
                go_roundw
                case rel => exact ⟨en, k + g, by omega, by omega, rfl, by go_num, by omega, by have := HEN.out; omega, HNX, HSY⟩
                case measure => simp [intOf]; omega
              · have HNX : Hid (countN ff fr (min en up - fr).toNat = k + countN ff m (en - m).toNat) := by
                  show _ = _
                  have h1 := HP.out
                  have e1 : (min m up - fr).toNat = (m - fr).toNat := by omega
                  have e2 : (min en up - fr).toNat = (m - fr).toNat + (en - m).toNat := by omega
                  rw [e1] at h1
                  rw [e2, countN_add, h1, show fr + ((m - fr).toNat : Int) = m by omega]
                have hcl := countN_le ff m (en - m).toNat
                have HC2 : Hid (∀ W, Below w.heap.size w W → Calls Tryd.prog 58 #[.agg (rulA r), .int .i64 m, .int .i64 en] W fun x w' => x = .returned (.int .i64 (countN ff m (en - m).toNat : Int)) ∧ Below W.heap.size W w') := fun W hb => HC.out m en W hb (by omega) (by omega) (by have := HEN.out; omega) (by omega)
                obtain ⟨g, HGN⟩ : ∃ g : Nat, Hid (countN ff m (en - m).toNat = g) := ⟨_, rfl⟩
                rw [HGN.out] at HNX HC2 hcl
                have hg2 : (g : Int) ≤ en - m := by omega
                clear hcl HGN
                go_wp2
                refine wp_region_wd (by kernel_rfl) (by kernel_rfl) ?_
                go_big_quiet_step (fail)
                refine wpq_load57 (fun _ ⟨x, hx⟩ => by rw [hx]; exact HZX.out x) (.tmp 7) rfl rfl rfl ?_
                simp only [Act.put, List.setIfInBounds_toArray, List.set_cons_succ, List.set_cons_zero]
                go_big_quiet_step (fail)
                go_big_quiet_step (fail)
                go_big_quiet_step ((go_at_call 52; refine calls_wd_same (v := .int .i64 en) ?_; with_reducible exact HB2.out _))
                go_big_quiet_step (fail)
                go_big_quiet_step (fail)
                go_big_quiet_step ((go_at_call 58; refine calls_wd (v := .int .i64 (g : Int)) ?_; with_reducible exact HC2.out _ (Below.on HS.out.2 (Wd.ok _))))
                go_big_quiet_step (fail)
                go_big_quiet_step (fail)
                refine wpQuiet_nil ?_
                rintro _ ⟨y, rfl⟩
                have HSY : Hid (Rb y.at' w1.heap.size r ∧ Below w.heap.size w y.at') := ⟨HS.out.1.up y.ok, Below.on HS.out.2 y.ok⟩
                go_wp2_with (go_at_call 52; refine (HB2.out _).mono ?_; rintro e w3 ⟨rfl, hw3⟩; have hw4 := hw3.symm; subst hw4)
                go_roundw
                case rel => exact ⟨en, k + g, by omega, by omega, rfl, by go_num, by omega, by have := HEN.out; omega, HNX, HSY⟩
                case measure => simp [intOf]; omega
            · have HN2 : Hid (RES = (k : Int)) := by
                show _ = _
                rw [HN.out, ← HP.out, show (min m up - fr).toNat = (up - fr).toNat by omega]
              go_wp2
              go_ret
              exact ⟨by rw [HN2.out]; rfl, HS.out.2⟩
      · have HJ : Hid (∀ W, Calls Tryd.prog 51 #[.int .i64 up] W fun e w' => e = .returned (.bool false) ∧ w' = W) := fun W => isMin_no hu
        clear HM
        have HN : Hid (countR a b c d e fr up = 0) := countR_no fun h => hu h.2.2.1
        clear HG HQ hq HRP
        obtain ⟨RES, HP⟩ : ∃ x : Int, Hid (countR a b c d e fr up = x) := ⟨_, rfl⟩
        rw [HP.out] at HN
        rw [HP.out]
        clear HP
        generalize a.length = la at *
        generalize b.length = lb at *
        generalize c.length = lc at *
        generalize d.length = ld at *
        generalize e.length = le at *
        go_enter Tryd.func26, Tryd.ntmps26
        go_wp2_with fail
        refine (HR.out _ (ba (Below.refl _ _) _)).mono ?_
        rintro x w1 ⟨rfl, hb1⟩
        have B1 := below_new hb1
        clear hb1 HR
        have hz0 : w.heap.size ≤ w1.heap.size := B1.size
        have HA : Hid (Rb (w1.alloc (.cells (rulA fun _ _ => false) 57)) w1.heap.size (fun _ _ => false)) := Rb.new w1 _ 57 rfl
        obtain ⟨W, HW⟩ : ∃ W, Hid (((w1.alloc (.cells (rulA fun _ _ => false) 57)).setCells w1.heap.size 0 (rulA r).toList) = W) := ⟨_, rfl⟩
        have HZ : Hid (Rb W w1.heap.size r) := by show Rb _ _ _; rw [← HW.out]; exact HA.out.setAll r
        have BW : Below w.heap.size w W := by rw [← HW.out]; exact below_setCells hz0 _ _ _ (ba B1 _)
        clear B1
        go_wp2_with (first | (refine wpr_alloc rfl rfl ?_) | (refine wpr_store HA.out r (.tmp 7) (.tmp 14) rfl rfl rfl rfl ?_; rw [HW.out]) | (go_at_call 51; first | (with_reducible refine Calls.mono (HI.out _) ?_; rintro e w2 ⟨rfl, hw⟩; have hw2 := hw.symm; subst hw2) | (with_reducible refine Calls.mono (HJ.out _) ?_; rintro e w2 ⟨rfl, hw⟩; have hw2 := hw.symm; subst hw2)))
        go_ret
        exact ⟨by rw [HN.out]; rfl, BW⟩
    · have HI : Hid (∀ W, Calls Tryd.prog 51 #[.int .i64 fr] W fun e w' => e = .returned (.bool false) ∧ w' = W) := fun W => isMin_no hf
      clear HM
      have HN : Hid (countR a b c d e fr up = 0) := countR_no fun h => hf h.2.1
      clear HG HQ hq HRP
      obtain ⟨RES, HP⟩ : ∃ x : Int, Hid (countR a b c d e fr up = x) := ⟨_, rfl⟩
      rw [HP.out] at HN
      rw [HP.out]
      clear HP
      generalize a.length = la at *
      generalize b.length = lb at *
      generalize c.length = lc at *
      generalize d.length = ld at *
      generalize e.length = le at *
      go_enter Tryd.func26, Tryd.ntmps26
      go_wp2_with fail
      refine (HR.out _ (ba (Below.refl _ _) _)).mono ?_
      rintro x w1 ⟨rfl, hb1⟩
      have B1 := below_new hb1
      clear hb1 HR
      have hz0 : w.heap.size ≤ w1.heap.size := B1.size
      have HA : Hid (Rb (w1.alloc (.cells (rulA fun _ _ => false) 57)) w1.heap.size (fun _ _ => false)) := Rb.new w1 _ 57 rfl
      obtain ⟨W, HW⟩ : ∃ W, Hid (((w1.alloc (.cells (rulA fun _ _ => false) 57)).setCells w1.heap.size 0 (rulA r).toList) = W) := ⟨_, rfl⟩
      have HZ : Hid (Rb W w1.heap.size r) := by show Rb _ _ _; rw [← HW.out]; exact HA.out.setAll r
      have BW : Below w.heap.size w W := by rw [← HW.out]; exact below_setCells hz0 _ _ _ (ba B1 _)
      clear B1
      go_wp2_with (first | (refine wpr_alloc rfl rfl ?_) | (refine wpr_store HA.out r (.tmp 7) (.tmp 14) rfl rfl rfl rfl ?_; rw [HW.out]) | (go_at_call 51; refine (HI.out _).mono ?_; rintro e w2 ⟨rfl, hw⟩; have hw2 := hw.symm; subst hw2))
      go_ret
      exact ⟨by rw [HN.out]; rfl, BW⟩
end Go.Proofs.YtgeimliibddhmaaDoor
