/-
  How many minutes fire, as the program counts them: the walk. Whether a rule fires at a minute, and how often it does, as the specification tells it: the walks. The next minute that fires, as the program tells it: the walk.
-/
import Derived.Test.YtgeimliibddhmaaDoorC8
import Derived.Test.YtgeimliibddhmaaDoorB5s
namespace Go.Proofs.YtgeimliibddhmaaDoor
open Go Go.RowKit
set_option linter.unusedVariables false

theorem wpq_load57 {ops : Array Oper} {C : World → Prop} {Q : Act → Prop} {rest : List Oper} {o : Oper} {a : Act} {b : Nat} {r : Nat → Nat → Bool} (h : ∀ w, C w → Rb w b r) (x : Operand) (hgd : o.guard = none) (ho : o.op = .load 57 x) (hx : a.eval x = .pointer (some ⟨b, 0, none⟩))
    (k : wpQuiet Tryd.prog ops C Q rest (a.put o.dst (.agg (rulA r)))) : wpQuiet Tryd.prog ops C Q (o :: rest) a := by
  refine wpq_of _ hgd (fun w hw => ?_) k
  have hl := run_loadVar_mid (P := Tryd.prog) w b 0 57 (rulA r).toList _ (h w hw).all under57 rfl (by rw [Array.length_toList, rulA_size]; exact info57)
  rw [listA] at hl
  unfold execOp
  simp only [ho, hx, Instr.loadAt, Instr.sureAddr, Sem.run_bind, Sem.run_pure, Result.andThen_ok, hl]
open Classical in
/-- How many fire. -/
noncomputable def countR (a b c d e : List Int) (fr up : Int) : Int := if cronB a b c d e = true ∧ (0 ≤ fr ∧ fr ≤ 68374079) ∧ (0 ≤ up ∧ up ≤ 68374079) ∧ up - fr ≤ 20000 then (countN (firesB a b c d e) fr (up - fr).toNat : Int) else 0
theorem countR_no {a b c d e : List Int} {fr up : Int} (h : ¬ (cronB a b c d e = true ∧ (0 ≤ fr ∧ fr ≤ 68374079) ∧ (0 ≤ up ∧ up ≤ 68374079) ∧ up - fr ≤ 20000)) : countR a b c d e fr up = 0 := if_neg h
theorem countR_yes {a b c d e : List Int} {fr up : Int} (h : cronB a b c d e = true ∧ (0 ≤ fr ∧ fr ≤ 68374079) ∧ (0 ≤ up ∧ up ≤ 68374079) ∧ up - fr ≤ 20000) : countR a b c d e fr up = (countN (firesB a b c d e) fr (up - fr).toNat : Int) := if_pos h
set_option maxRecDepth 10000 in
set_option maxHeartbeats 4000000 in
theorem implCount_any (va vb vc vd ve : Value) (a b c d e : List Int) (fr up : Int) (w : World) (h1 : Reads w va a) (h2 : Reads w vb b) (h3 : Reads w vc c) (h4 : Reads w vd d) (h5 : Reads w ve e)
    (n1 : a.length ≤ 1048577) (n2 : b.length ≤ 1048577) (n3 : c.length ≤ 1048577) (n4 : d.length ≤ 1048577) (n5 : e.length ≤ 1048577) (hg : RchIs w) :
    Calls Tryd.prog 26 #[.agg #[va, vb, vc, vd, ve], .int .i64 fr, .int .i64 up] w fun x w' => x = .returned (.int .i64 (countR a b c d e fr up)) ∧ Below w.heap.size w w' := by
  obtain ⟨ao, ac, rfl, _⟩ := id h1
  obtain ⟨bo, bc, rfl, _⟩ := id h2
  obtain ⟨co, cc, rfl, _⟩ := id h3
  obtain ⟨d0, dc, rfl, _⟩ := id h4
  obtain ⟨eo, ec, rfl, _⟩ := id h5
  have HR : Hid (∀ W, Below w.heap.size w W → Calls Tryd.prog 37 #[.agg #[.slice ao a.length ac, .slice bo b.length bc, .slice co c.length cc, .slice d0 d.length dc, .slice eo e.length ec]] W fun x w' => x = .returned (.tuple #[.agg (rulA (ruleP a b c d e)), .bool (cronB a b c d e)]) ∧ Below W.heap.size W w') := fun W hb => ruleOf_any _ _ _ _ _ a b c d e W (h1.below hb) (h2.below hb) (h3.below hb) (h4.below hb) (h5.below hb) n1 n2 n3 n4 n5 (hg.up hb)
  have HG : Hid (∀ W, Below w.heap.size w W → RchIs W) := fun W hb => hg.up hb
  clear h1 h2 h3 h4 h5 n1 n2 n3 n4 n5 hg
  obtain ⟨r, HRP⟩ : ∃ r, Hid (ruleP a b c d e = r) := ⟨_, rfl⟩
  rw [HRP.out] at HR
  obtain ⟨q, hq⟩ : ∃ q, cronB a b c d e = q := ⟨_, rfl⟩
  have HQ : Hid (cronB a b c d e = q) := hq
  rw [hq] at HR
  cases q with
  | false =>
    have HN : Hid (countR a b c d e fr up = 0) := countR_no fun h => by rw [hq] at h; cases h.1
    clear HG HQ hq HRP
    obtain ⟨RES, HP⟩ : ∃ x : Int, Hid (countR a b c d e fr up = x) := ⟨_, rfl⟩
    rw [HP.out] at HN
    rw [HP.out]
    clear HP
    generalize a.length = la at *
    generalize b.length = lb at *
    generalize c.length = lc at *
    generalize d.length = ld at *
    generalize e.length = le at *
    go_enter Tryd.func26, Tryd.ntmps26
    go_wp2_with fail
    refine (HR.out _ (ba (Below.refl _ _) _)).mono ?_
    rintro x w1 ⟨rfl, hb1⟩
    have B1 := below_new hb1
    clear hb1 HR
    have hz0 : w.heap.size ≤ w1.heap.size := B1.size
    have HA : Hid (Rb (w1.alloc (.cells (rulA fun _ _ => false) 57)) w1.heap.size (fun _ _ => false)) := Rb.new w1 _ 57 rfl
    obtain ⟨W, HW⟩ : ∃ W, Hid (((w1.alloc (.cells (rulA fun _ _ => false) 57)).setCells w1.heap.size 0 (rulA r).toList) = W) := ⟨_, rfl⟩
    have HZ : Hid (Rb W w1.heap.size r) := by show Rb _ _ _; rw [← HW.out]; exact HA.out.setAll r
    have BW : Below w.heap.size w W := by rw [← HW.out]; exact below_setCells hz0 _ _ _ (ba B1 _)
    clear B1
    go_wp2_with (first | (refine wpr_alloc rfl rfl ?_) | (refine wpr_store HA.out r (.tmp 7) (.tmp 14) rfl rfl rfl rfl ?_; rw [HW.out]))
    go_ret
    exact ⟨by rw [HN.out]; rfl, BW⟩
  | true =>
    have HM : Hid (r = mem5 a b c d e) := HRP.out.symm.trans (ruleP_yes hq)
    by_cases hf : 0 ≤ fr ∧ fr ≤ 68374079
    · have HI : Hid (∀ W, Calls Tryd.prog 51 #[.int .i64 fr] W fun e w' => e = .returned (.bool true) ∧ w' = W) := fun W => isMin_yes hf
      by_cases hu : 0 ≤ up ∧ up ≤ 68374079
      · have HJ : Hid (∀ W, Calls Tryd.prog 51 #[.int .i64 up] W fun e w' => e = .returned (.bool true) ∧ w' = W) := fun W => isMin_yes hu
        obtain ⟨f0, f1⟩ := hf
        obtain ⟨u0, u1⟩ := hu
        by_cases hd : 20000 < up - fr
        · clear HM
          have HN : Hid (countR a b c d e fr up = 0) := countR_no fun h => by omega
          clear HG HQ hq HRP
          obtain ⟨RES, HP⟩ : ∃ x : Int, Hid (countR a b c d e fr up = x) := ⟨_, rfl⟩
          rw [HP.out] at HN
          rw [HP.out]
          clear HP
          generalize a.length = la at *
          generalize b.length = lb at *
          generalize c.length = lc at *
          generalize d.length = ld at *
          generalize e.length = le at *
          go_enter Tryd.func26, Tryd.ntmps26
          go_wp2_with fail
          refine (HR.out _ (ba (Below.refl _ _) _)).mono ?_
          rintro x w1 ⟨rfl, hb1⟩
          have B1 := below_new hb1
          clear hb1 HR
          have hz0 : w.heap.size ≤ w1.heap.size := B1.size
          have HA : Hid (Rb (w1.alloc (.cells (rulA fun _ _ => false) 57)) w1.heap.size (fun _ _ => false)) := Rb.new w1 _ 57 rfl
          obtain ⟨W, HW⟩ : ∃ W, Hid (((w1.alloc (.cells (rulA fun _ _ => false) 57)).setCells w1.heap.size 0 (rulA r).toList) = W) := ⟨_, rfl⟩
          have HZ : Hid (Rb W w1.heap.size r) := by show Rb _ _ _; rw [← HW.out]; exact HA.out.setAll r
          have BW : Below w.heap.size w W := by rw [← HW.out]; exact below_setCells hz0 _ _ _ (ba B1 _)
          clear B1
          go_wp2_with (first | (refine wpr_alloc rfl rfl ?_) | (refine wpr_store HA.out r (.tmp 7) (.tmp 14) rfl rfl rfl rfl ?_; rw [HW.out]) | (go_at_call 51; first | (with_reducible refine Calls.mono (HI.out _) ?_; rintro e w2 ⟨rfl, hw⟩; have hw2 := hw.symm; subst hw2) | (with_reducible refine Calls.mono (HJ.out _) ?_; rintro e w2 ⟨rfl, hw⟩; have hw2 := hw.symm; subst hw2)))
          go_ret
          exact ⟨by rw [HN.out]; rfl, BW⟩
        · have HB : Hid (∀ (m : Int) (W : World), 0 ≤ m → m ≤ 4611686018427387904 → Calls Tryd.prog 52 #[.int .i64 m] W fun e w' => e = .returned (.int .i64 ((m / 1440 + 1) * 1440)) ∧ w' = W) := fun m W g0 g1 => dayBehind_any m W g0 g1
          have HC : Hid (∀ (m en : Int) (W : World), Below w.heap.size w W → 0 ≤ m → m ≤ en → en ≤ (m / 1440 + 1) * 1440 → m ≤ 1152921504606800000 → Calls Tryd.prog 58 #[.agg (rulA r), .int .i64 m, .int .i64 en] W fun x w' => x = .returned (.int .i64 (countN (firesB a b c d e) m (en - m).toNat : Int)) ∧ Below W.heap.size W w') := fun m en W hb g0 g1 g2 g3 => by rw [HM.out]; exact countDay_any W hq (HG.out W hb) g0 g1 g2 g3
          have HN : Hid (countR a b c d e fr up = (countN (firesB a b c d e) fr (up - fr).toNat : Int)) := countR_yes ⟨hq, ⟨f0, f1⟩, ⟨u0, u1⟩, by omega⟩
          clear HG HQ hq HM HRP
          obtain ⟨RES, HPP⟩ : ∃ x : Int, Hid (countR a b c d e fr up = x) := ⟨_, rfl⟩
          obtain ⟨ff, HFF⟩ : ∃ ff : Int → Bool, Hid (firesB a b c d e = ff) := ⟨_, rfl⟩
          rw [HPP.out, HFF.out] at HN
          rw [HFF.out] at HC
          rw [HPP.out]
          clear HPP HFF
          generalize a.length = la at *
          generalize b.length = lb at *
          generalize c.length = lc at *
          generalize d.length = ld at *
          generalize e.length = le at *
          go_enter Tryd.func26, Tryd.ntmps26
          go_wp2_with fail
          refine (HR.out _ (ba (Below.refl _ _) _)).mono ?_
          rintro x w1 ⟨rfl, hb1⟩
          have B1 := below_new hb1
          clear hb1 HR
          have hz0 : w.heap.size ≤ w1.heap.size := B1.size
          have HA : Hid (Rb (w1.alloc (.cells (rulA fun _ _ => false) 57)) w1.heap.size (fun _ _ => false)) := Rb.new w1 _ 57 rfl
          obtain ⟨W, HW⟩ : ∃ W, Hid (((w1.alloc (.cells (rulA fun _ _ => false) 57)).setCells w1.heap.size 0 (rulA r).toList) = W) := ⟨_, rfl⟩
          have HZ : Hid (Rb W w1.heap.size r) := by show Rb _ _ _; rw [← HW.out]; exact HA.out.setAll r
          have BW : Below w.heap.size w W := by rw [← HW.out]; exact below_setCells hz0 _ _ _ (ba B1 _)
          clear B1
          go_wp2_with (first | (refine wpr_alloc rfl rfl ?_) | (refine wpr_store HA.out r (.tmp 7) (.tmp 14) rfl rfl rfl rfl ?_; rw [HW.out]) | (go_at_call 51; first | (with_reducible refine Calls.mono (HI.out _) ?_; rintro e w2 ⟨rfl, hw⟩; have hw2 := hw.symm; subst hw2) | (with_reducible refine Calls.mono (HJ.out _) ?_; rintro e w2 ⟨rfl, hw⟩; have hw2 := hw.symm; subst hw2)))
          go_loopw [9, 10] (fun ct bg wr => ∃ (m : Int) (k : Nat), fr ≤ m ∧ m ≤ 80000000 ∧ bg = .int .i64 m ∧ ct = .int .i64 k ∧ (k : Int) ≤ m - fr ∧ (m = fr ∨ m % 1440 = 0) ∧ Hid (countN ff fr (min m up - fr).toNat = k) ∧ Hid (Rb wr w1.heap.size r ∧ Below w.heap.size w wr)) (fun _ bg _ => (up - intOf bg).toNat)
          case atStart => exact ⟨fr, 0, Int.le_refl _, by omega, rfl, rfl, by omega, .inl rfl, by show _ = _; rw [show (min fr up - fr).toNat = 0 by omega]; rfl, HZ.out, BW⟩
          case round =>
            obtain ⟨m, k, hm0, hm1, rfl, rfl, hk, hmd, HP, HS⟩ := hrel
            clear HZ BW HA HW
            by_cases hlt : m < up
            · have HB2 : Hid (∀ W : World, Calls Tryd.prog 52 #[.int .i64 m] W fun e w' => e = .returned (.int .i64 ((m / 1440 + 1) * 1440)) ∧ w' = W) := fun W => HB.out m W (by omega) (by omega)
              obtain ⟨en, HEN⟩ : ∃ en, Hid ((m / 1440 + 1) * 1440 = en) := ⟨_, rfl⟩
              rw [HEN.out] at HB2
              have he1 : m < en := by have := HEN.out; omega
              have he2 : en ≤ m + 1440 := by have := HEN.out; omega
              have HZX : Hid (∀ x : Wd wr, Rb x.at' w1.heap.size r) := fun x => HS.out.1.up x.ok
              by_cases heu : up < en
              · have HNX : Hid (countN ff fr (min en up - fr).toNat = k + countN ff m (up - m).toNat) := by
                  show _ = _
                  have h1 := HP.out
                  have e1 : (min m up - fr).toNat = (m - fr).toNat := by omega
                  have e2 : (min en up - fr).toNat = (m - fr).toNat + (up - m).toNat := by omega
                  rw [e1] at h1
                  rw [e2, countN_add, h1, show fr + ((m - fr).toNat : Int) = m by omega]
                have hcl := countN_le ff m (up - m).toNat
                have HC2 : Hid (∀ W, Below w.heap.size w W → Calls Tryd.prog 58 #[.agg (rulA r), .int .i64 m, .int .i64 up] W fun x w' => x = .returned (.int .i64 (countN ff m (up - m).toNat : Int)) ∧ Below W.heap.size W w') := fun W hb => HC.out m up W hb (by omega) (by omega) (by have := HEN.out; omega) (by omega)
                obtain ⟨g, HGN⟩ : ∃ g : Nat, Hid (countN ff m (up - m).toNat = g) := ⟨_, rfl⟩
                rw [HGN.out] at HNX HC2 hcl
                have hg2 : (g : Int) ≤ up - m := by omega
                clear hcl HGN
                go_wp2
                refine wp_region_wd (by kernel_rfl) (by kernel_rfl) ?_
                go_big_quiet_step (fail)
                refine wpq_load57 (fun _ ⟨x, hx⟩ => by rw [hx]; exact HZX.out x) (.tmp 7) rfl rfl rfl ?_
                simp only [Act.put, List.setIfInBounds_toArray, List.set_cons_succ, List.set_cons_zero]
                go_big_quiet_step (fail)
                go_big_quiet_step (fail)
                go_big_quiet_step ((go_at_call 52; refine calls_wd_same (v := .int .i64 en) ?_; with_reducible exact HB2.out _))
                go_big_quiet_step (fail)
                go_big_quiet_step (fail)
                go_big_quiet_step ((go_at_call 58; refine calls_wd (v := .int .i64 (g : Int)) ?_; with_reducible exact HC2.out _ (Below.on HS.out.2 (Wd.ok _))))
                go_big_quiet_step (fail)
                go_big_quiet_step (fail)
                refine wpQuiet_nil ?_
                rintro _ ⟨y, rfl⟩
                have HSY : Hid (Rb y.at' w1.heap.size r ∧ Below w.heap.size w y.at') := ⟨HS.out.1.up y.ok, Below.on HS.out.2 y.ok⟩
                go_wp2_with (go_at_call 52; refine (HB2.out _).mono ?_; rintro e w3 ⟨rfl, hw3⟩; have hw4 := hw3.symm; subst hw4)
                go_roundw
                case rel => exact ⟨en, k + g, by omega, by omega, rfl, by go_num, by omega, by have := HEN.out; omega, HNX, HSY⟩
                case measure => simp [intOf]; omega
              · have HNX : Hid (countN ff fr (min en up - fr).toNat = k + countN ff m (en - m).toNat) := by
                  show _ = _
                  have h1 := HP.out
                  have e1 : (min m up - fr).toNat = (m - fr).toNat := by omega
                  have e2 : (min en up - fr).toNat = (m - fr).toNat + (en - m).toNat := by omega
                  rw [e1] at h1
                  rw [e2, countN_add, h1, show fr + ((m - fr).toNat : Int) = m by omega]
                have hcl := countN_le ff m (en - m).toNat
                have HC2 : Hid (∀ W, Below w.heap.size w W → Calls Tryd.prog 58 #[.agg (rulA r), .int .i64 m, .int .i64 en] W fun x w' => x = .returned (.int .i64 (countN ff m (en - m).toNat : Int)) ∧ Below W.heap.size W w') := fun W hb => HC.out m en W hb (by omega) (by omega) (by have := HEN.out; omega) (by omega)
                obtain ⟨g, HGN⟩ : ∃ g : Nat, Hid (countN ff m (en - m).toNat = g) := ⟨_, rfl⟩
                rw [HGN.out] at HNX HC2 hcl
                have hg2 : (g : Int) ≤ en - m := by omega
                clear hcl HGN
                go_wp2
                refine wp_region_wd (by kernel_rfl) (by kernel_rfl) ?_
                go_big_quiet_step (fail)
                refine wpq_load57 (fun _ ⟨x, hx⟩ => by rw [hx]; exact HZX.out x) (.tmp 7) rfl rfl rfl ?_
                simp only [Act.put, List.setIfInBounds_toArray, List.set_cons_succ, List.set_cons_zero]
                go_big_quiet_step (fail)
                go_big_quiet_step (fail)
                go_big_quiet_step ((go_at_call 52; refine calls_wd_same (v := .int .i64 en) ?_; with_reducible exact HB2.out _))
                go_big_quiet_step (fail)
                go_big_quiet_step (fail)
                go_big_quiet_step ((go_at_call 58; refine calls_wd (v := .int .i64 (g : Int)) ?_; with_reducible exact HC2.out _ (Below.on HS.out.2 (Wd.ok _))))
                go_big_quiet_step (fail)
                go_big_quiet_step (fail)
                refine wpQuiet_nil ?_
                rintro _ ⟨y, rfl⟩
                have HSY : Hid (Rb y.at' w1.heap.size r ∧ Below w.heap.size w y.at') := ⟨HS.out.1.up y.ok, Below.on HS.out.2 y.ok⟩
                go_wp2_with (go_at_call 52; refine (HB2.out _).mono ?_; rintro e w3 ⟨rfl, hw3⟩; have hw4 := hw3.symm; subst hw4)
                go_roundw
                case rel => exact ⟨en, k + g, by omega, by omega, rfl, by go_num, by omega, by have := HEN.out; omega, HNX, HSY⟩
                case measure => simp [intOf]; omega
            · have HN2 : Hid (RES = (k : Int)) := by
                show _ = _
                rw [HN.out, ← HP.out, show (min m up - fr).toNat = (up - fr).toNat by omega]
              go_wp2
              go_ret
              exact ⟨by rw [HN2.out]; rfl, HS.out.2⟩
      · have HJ : Hid (∀ W, Calls Tryd.prog 51 #[.int .i64 up] W fun e w' => e = .returned (.bool false) ∧ w' = W) := fun W => isMin_no hu
        clear HM
        have HN : Hid (countR a b c d e fr up = 0) := countR_no fun h => hu h.2.2.1
        clear HG HQ hq HRP
        obtain ⟨RES, HP⟩ : ∃ x : Int, Hid (countR a b c d e fr up = x) := ⟨_, rfl⟩
        rw [HP.out] at HN
        rw [HP.out]
        clear HP
        generalize a.length = la at *
        generalize b.length = lb at *
        generalize c.length = lc at *
        generalize d.length = ld at *
        generalize e.length = le at *
        go_enter Tryd.func26, Tryd.ntmps26
        go_wp2_with fail
        refine (HR.out _ (ba (Below.refl _ _) _)).mono ?_
        rintro x w1 ⟨rfl, hb1⟩
        have B1 := below_new hb1
        clear hb1 HR
        have hz0 : w.heap.size ≤ w1.heap.size := B1.size
        have HA : Hid (Rb (w1.alloc (.cells (rulA fun _ _ => false) 57)) w1.heap.size (fun _ _ => false)) := Rb.new w1 _ 57 rfl
        obtain ⟨W, HW⟩ : ∃ W, Hid (((w1.alloc (.cells (rulA fun _ _ => false) 57)).setCells w1.heap.size 0 (rulA r).toList) = W) := ⟨_, rfl⟩
        have HZ : Hid (Rb W w1.heap.size r) := by show Rb _ _ _; rw [← HW.out]; exact HA.out.setAll r
        have BW : Below w.heap.size w W := by rw [← HW.out]; exact below_setCells hz0 _ _ _ (ba B1 _)
        clear B1
        go_wp2_with (first | (refine wpr_alloc rfl rfl ?_) | (refine wpr_store HA.out r (.tmp 7) (.tmp 14) rfl rfl rfl rfl ?_; rw [HW.out]) | (go_at_call 51; first | (with_reducible refine Calls.mono (HI.out _) ?_; rintro e w2 ⟨rfl, hw⟩; have hw2 := hw.symm; subst hw2) | (with_reducible refine Calls.mono (HJ.out _) ?_; rintro e w2 ⟨rfl, hw⟩; have hw2 := hw.symm; subst hw2)))
        go_ret
        exact ⟨by rw [HN.out]; rfl, BW⟩
    · have HI : Hid (∀ W, Calls Tryd.prog 51 #[.int .i64 fr] W fun e w' => e = .returned (.bool false) ∧ w' = W) := fun W => isMin_no hf
      clear HM
      have HN : Hid (countR a b c d e fr up = 0) := countR_no fun h => hf h.2.1
      clear HG HQ hq HRP
      obtain ⟨RES, HP⟩ : ∃ x : Int, Hid (countR a b c d e fr up = x) := ⟨_, rfl⟩
      rw [HP.out] at HN
      rw [HP.out]
      clear HP
      generalize a.length = la at *
      generalize b.length = lb at *
      generalize c.length = lc at *
      generalize d.length = ld at *
      generalize e.length = le at *
      go_enter Tryd.func26, Tryd.ntmps26
      go_wp2_with fail
      refine (HR.out _ (ba (Below.refl _ _) _)).mono ?_
      rintro x w1 ⟨rfl, hb1⟩
      have B1 := below_new hb1
      clear hb1 HR
      have hz0 : w.heap.size ≤ w1.heap.size := B1.size
      have HA : Hid (Rb (w1.alloc (.cells (rulA fun _ _ => false) 57)) w1.heap.size (fun _ _ => false)) := Rb.new w1 _ 57 rfl
      obtain ⟨W, HW⟩ : ∃ W, Hid (((w1.alloc (.cells (rulA fun _ _ => false) 57)).setCells w1.heap.size 0 (rulA r).toList) = W) := ⟨_, rfl⟩
      have HZ : Hid (Rb W w1.heap.size r) := by show Rb _ _ _; rw [← HW.out]; exact HA.out.setAll r
      have BW : Below w.heap.size w W := by rw [← HW.out]; exact below_setCells hz0 _ _ _ (ba B1 _)
      clear B1
      go_wp2_with (first | (refine wpr_alloc rfl rfl ?_) | (refine wpr_store HA.out r (.tmp 7) (.tmp 14) rfl rfl rfl rfl ?_; rw [HW.out]) | (go_at_call 51; refine (HI.out _).mono ?_; rintro e w2 ⟨rfl, hw⟩; have hw2 := hw.symm; subst hw2))
      go_ret
      exact ⟨by rw [HN.out]; rfl, BW⟩
end Go.Proofs.YtgeimliibddhmaaDoor

namespace Go.Proofs.YtgeimliibddhmaaDoor
open Go Go.RowKit
set_option linter.unusedVariables false

set_option maxRecDepth 10000 in
set_option maxHeartbeats 2000000 in
theorem specFires_any (va vb vc vd ve : Value) (a b c d e : List Int) (m : Int) (w : World) (h1 : Reads w va a) (h2 : Reads w vb b) (h3 : Reads w vc c) (h4 : Reads w vd d) (h5 : Reads w ve e)
    (n1 : a.length ≤ 1048577) (n2 : b.length ≤ 1048577) (n3 : c.length ≤ 1048577) (n4 : d.length ≤ 1048577) (n5 : e.length ≤ 1048577) :
    Calls Tryd.prog 33 #[.agg #[va, vb, vc, vd, ve], .int .i64 m] w fun x w' => x = .returned (.bool (cronB a b c d e && firesB a b c d e m)) ∧ Below w.heap.size w w' := by
  obtain ⟨ao, ac, rfl, _⟩ := id h1
  obtain ⟨bo, bc, rfl, _⟩ := id h2
  obtain ⟨co, cc, rfl, _⟩ := id h3
  obtain ⟨d0, dc, rfl, _⟩ := id h4
  obtain ⟨eo, ec, rfl, _⟩ := id h5
  have HOK : Hid (∀ W, Below w.heap.size w W → Calls Tryd.prog 21 #[.agg #[.slice ao a.length ac, .slice bo b.length bc, .slice co c.length cc, .slice d0 d.length dc, .slice eo e.length ec]] W fun x w' => x = .returned (.bool (cronB a b c d e)) ∧ Below W.heap.size W w') := fun W hb => cronOk_any _ _ _ _ _ a b c d e W (h1.below hb) (h2.below hb) (h3.below hb) (h4.below hb) (h5.below hb) n1 n2 n3 n4 n5
  have H1 : Hid (∀ (y : Int) (W : World), Below w.heap.size w W → Calls Tryd.prog 64 #[.slice ao a.length ac, .int .i64 y] W fun x w' => x = .returned (.bool (decide (y ∈ a))) ∧ w' = W) := fun y W hb => l10In_try ao _ ac a y W (h1.below hb) n1
  have H2 : Hid (∀ (y : Int) (W : World), Below w.heap.size w W → Calls Tryd.prog 64 #[.slice bo b.length bc, .int .i64 y] W fun x w' => x = .returned (.bool (decide (y ∈ b))) ∧ w' = W) := fun y W hb => l10In_try bo _ bc b y W (h2.below hb) n2
  have H3 : Hid (0 ≤ m ∧ m ≤ 68374079 → ∀ W, Below w.heap.size w W → Calls Tryd.prog 55 #[.agg #[.slice ao a.length ac, .slice bo b.length bc, .slice co c.length cc, .slice d0 d.length dc, .slice eo e.length ec], .int .i64 m] W fun x w' => x = .returned (.bool (dayF c d e m)) ∧ Below W.heap.size W w') := fun hm W hb => l10Day_any _ _ _ _ _ c d e m W (h3.below hb) (h4.below hb) (h5.below hb) n3 n4 n5 hm.1 hm.2
  clear h1 h2 h3 h4 h5 n1 n2 n3 n4 n5
  obtain ⟨qa, HA⟩ : ∃ q, Hid (decide (m % 60 ∈ a) = q) := ⟨_, rfl⟩
  obtain ⟨qb, HB⟩ : ∃ q, Hid (decide (m % 1440 / 60 ∈ b) = q) := ⟨_, rfl⟩
  obtain ⟨qd, HD⟩ : ∃ q, Hid (dayF c d e m = q) := ⟨_, rfl⟩
  have HF : Hid (0 ≤ m ∧ m ≤ 68374079 → firesB a b c d e m = (qa && (qb && qd))) := fun hm => by unfold firesB; rw [decide_eq_true hm, HA.out, HB.out, HD.out, Bool.true_and]
  have HF0 : Hid (¬ (0 ≤ m ∧ m ≤ 68374079) → firesB a b c d e m = false) := fun hm => fires_out hm
  have K1 : Hid (∀ (W : World), Below w.heap.size w W → Calls Tryd.prog 64 #[.slice ao a.length ac, .int .i64 (m % 60)] W fun x w' => x = .returned (.bool qa) ∧ w' = W) := fun W hb => by rw [← HA.out]; exact H1.out _ W hb
  have K2 : Hid (∀ (W : World), Below w.heap.size w W → Calls Tryd.prog 64 #[.slice bo b.length bc, .int .i64 (m % 1440 / 60)] W fun x w' => x = .returned (.bool qb) ∧ w' = W) := fun W hb => by rw [← HB.out]; exact H2.out _ W hb
  rw [HD.out] at H3
  clear HA HB HD H1 H2
  obtain ⟨q, hq⟩ : ∃ q, cronB a b c d e = q := ⟨_, rfl⟩
  obtain ⟨y, HY⟩ : ∃ y, Hid (firesB a b c d e m = y) := ⟨_, rfl⟩
  rw [hq] at HOK
  rw [HY.out] at HF HF0
  rw [hq, HY.out]
  clear hq HY
  generalize a.length = la at *
  generalize b.length = lb at *
  generalize c.length = lc at *
  generalize d.length = ld at *
  generalize e.length = le at *
  go_enter Tryd.func33, Tryd.ntmps33
  go_wp2_with fail
  refine (HOK.out _ (ba (Below.refl _ _) _)).mono ?_
  rintro x w1 ⟨rfl, hb1⟩
  have Z1 := (B5.new 26 w (.slice ao la ac) (.slice bo lb bc) (.slice co lc cc) (.slice d0 ld dc) (.slice eo le ec)).up hb1
  have B1 := below_new hb1
  clear hb1 HOK
  cases q with
  | false =>
    go_wp2
    go_ret
    exact ⟨rfl, B1⟩
  | true =>
    by_cases hm : 0 ≤ m ∧ m ≤ 68374079
    · have HI : Hid (∀ W, Calls Tryd.prog 54 #[.int .i64 m, .int .i64 0, .int .i64 68374079] W fun e w' => e = .returned (.bool true) ∧ w' = W) := fun W => in_yes hm.1 hm.2
      have HFF := HF.out hm
      have HDD : Hid (∀ W, Below w.heap.size w W → Calls Tryd.prog 55 #[.agg #[.slice ao la ac, .slice bo lb bc, .slice co lc cc, .slice d0 ld dc, .slice eo le ec], .int .i64 m] W fun x w' => x = .returned (.bool qd) ∧ Below W.heap.size W w') := H3.out hm
      obtain ⟨m0, m1⟩ := hm
      have c0 := Z1.c0
      have c1 := Z1.c1
      have c2 := Z1.c2
      have c3 := Z1.c3
      have c4 := Z1.c4
      clear HF HF0 H3
      go_wp2_with (go_at_call 54; refine (HI.out _).mono ?_; rintro e w2 ⟨rfl, hw⟩; have hw2 := hw.symm; subst hw2)
      refine (K1.out _ B1).mono ?_
      rintro x w3 ⟨rfl, hw3⟩
      have hw4 := hw3.symm
      subst hw4
      cases qa with
      | false =>
        go_wp2
        go_ret
        exact ⟨by rw [HFF]; rfl, B1⟩
      | true =>
        go_wp2_with fail
        refine (K2.out _ B1).mono ?_
        rintro x w5 ⟨rfl, hw5⟩
        have hw6 := hw5.symm
        subst hw6
        cases qb with
        | false =>
          go_wp2
          go_ret
          exact ⟨by rw [HFF]; rfl, B1⟩
        | true =>
          go_wp2_with fail
          refine (HDD.out _ B1).mono ?_
          rintro x w7 ⟨rfl, hb7⟩
          have B7 := Below.on B1 hb7
          clear hb7
          go_wp2
          go_ret
          exact ⟨by rw [HFF]; rfl, B7⟩
    · have HI : Hid (∀ W, Calls Tryd.prog 54 #[.int .i64 m, .int .i64 0, .int .i64 68374079] W fun e w' => e = .returned (.bool false) ∧ w' = W) := fun W => in_no hm
      have HFF := HF0.out hm
      clear HF HF0 H3 hm
      go_wp2_with (go_at_call 54; refine (HI.out _).mono ?_; rintro e w2 ⟨rfl, hw⟩; have hw2 := hw.symm; subst hw2)
      go_ret
      exact ⟨by rw [HFF]; rfl, B1⟩

set_option maxRecDepth 10000 in
set_option maxHeartbeats 4000000 in
theorem specCount_any (va vb vc vd ve : Value) (a b c d e : List Int) (fr up : Int) (w : World) (h1 : Reads w va a) (h2 : Reads w vb b) (h3 : Reads w vc c) (h4 : Reads w vd d) (h5 : Reads w ve e)
    (n1 : a.length ≤ 1048577) (n2 : b.length ≤ 1048577) (n3 : c.length ≤ 1048577) (n4 : d.length ≤ 1048577) (n5 : e.length ≤ 1048577) :
    Calls Tryd.prog 27 #[.agg #[va, vb, vc, vd, ve], .int .i64 fr, .int .i64 up] w fun x w' => x = .returned (.int .i64 (countR a b c d e fr up)) ∧ Below w.heap.size w w' := by
  obtain ⟨ao, ac, rfl, _⟩ := id h1
  obtain ⟨bo, bc, rfl, _⟩ := id h2
  obtain ⟨co, cc, rfl, _⟩ := id h3
  obtain ⟨d0, dc, rfl, _⟩ := id h4
  obtain ⟨eo, ec, rfl, _⟩ := id h5
  have HOK : Hid (∀ W, Below w.heap.size w W → Calls Tryd.prog 21 #[.agg #[.slice ao a.length ac, .slice bo b.length bc, .slice co c.length cc, .slice d0 d.length dc, .slice eo e.length ec]] W fun x w' => x = .returned (.bool (cronB a b c d e)) ∧ Below W.heap.size W w') := fun W hb => cronOk_any _ _ _ _ _ a b c d e W (h1.below hb) (h2.below hb) (h3.below hb) (h4.below hb) (h5.below hb) n1 n2 n3 n4 n5
  have HNF : Hid (∀ (m : Int) (W : World), Below w.heap.size w W → Calls Tryd.prog 24 #[.agg #[.slice ao a.length ac, .slice bo b.length bc, .slice co c.length cc, .slice d0 d.length dc, .slice eo e.length ec], .int .i64 m, .int .i64 20] W fun x w' => ∃ o : Option Int, x = .returned (.tuple #[.int .i64 (o.getD 0), .bool o.isSome]) ∧ NfP a b c d e m 20 o ∧ Below W.heap.size W w') := fun m W hb => nextFire_any _ _ _ _ _ a b c d e m 20 W (h1.below hb) (h2.below hb) (h3.below hb) (h4.below hb) (h5.below hb) n1 n2 n3 n4 n5
  clear h1 h2 h3 h4 h5 n1 n2 n3 n4 n5
  by_cases hf : 0 ≤ fr ∧ fr ≤ 68374079
  · have HI : Hid (∀ W, Calls Tryd.prog 54 #[.int .i64 fr, .int .i64 0, .int .i64 68374079] W fun e w' => e = .returned (.bool true) ∧ w' = W) := fun W => in_yes hf.1 hf.2
    by_cases hu : 0 ≤ up ∧ up ≤ 68374079
    · have HJ : Hid (∀ W, Calls Tryd.prog 54 #[.int .i64 up, .int .i64 0, .int .i64 68374079] W fun e w' => e = .returned (.bool true) ∧ w' = W) := fun W => in_yes hu.1 hu.2
      obtain ⟨f0, f1⟩ := hf
      obtain ⟨u0, u1⟩ := hu
      by_cases hd : 20000 < up - fr
      · have HN : Hid (countR a b c d e fr up = 0) := countR_no fun h => by omega
        clear HOK HNF
        obtain ⟨RES, HP⟩ : ∃ x : Int, Hid (countR a b c d e fr up = x) := ⟨_, rfl⟩
        rw [HP.out] at HN
        rw [HP.out]
        clear HP
        generalize a.length = la at *
        generalize b.length = lb at *
        generalize c.length = lc at *
        generalize d.length = ld at *
        generalize e.length = le at *
        go_enter Tryd.func27, Tryd.ntmps27
        go_wp2_with (go_at_call 54; first | (with_reducible refine Calls.mono (HI.out _) ?_; rintro e w2 ⟨rfl, hw⟩; have hw2 := hw.symm; subst hw2) | (with_reducible refine Calls.mono (HJ.out _) ?_; rintro e w2 ⟨rfl, hw⟩; have hw2 := hw.symm; subst hw2))
        go_ret
        exact ⟨by rw [HN.out]; rfl, ba (Below.refl _ _) _⟩
      · cases hq : cronB a b c d e with
        | false =>
          rw [hq] at HOK
          have HN : Hid (countR a b c d e fr up = 0) := countR_no fun h => by rw [hq] at h; cases h.1
          clear HNF hq
          obtain ⟨RES, HP⟩ : ∃ x : Int, Hid (countR a b c d e fr up = x) := ⟨_, rfl⟩
          rw [HP.out] at HN
          rw [HP.out]
          clear HP
          generalize a.length = la at *
          generalize b.length = lb at *
          generalize c.length = lc at *
          generalize d.length = ld at *
          generalize e.length = le at *
          go_enter Tryd.func27, Tryd.ntmps27
          go_wp2_with (go_at_call 54; first | (with_reducible refine Calls.mono (HI.out _) ?_; rintro e w2 ⟨rfl, hw⟩; have hw2 := hw.symm; subst hw2) | (with_reducible refine Calls.mono (HJ.out _) ?_; rintro e w2 ⟨rfl, hw⟩; have hw2 := hw.symm; subst hw2))
          refine (HOK.out _ (ba (Below.refl _ _) _)).mono ?_
          rintro x w1 ⟨rfl, hb1⟩
          have B1 := below_new hb1
          clear hb1 HOK
          go_wp2
          go_ret
          exact ⟨by rw [HN.out]; rfl, B1⟩
        | true =>
          rw [hq] at HOK
          have HN : Hid (countR a b c d e fr up = (countN (firesB a b c d e) fr (up - fr).toNat : Int)) := countR_yes ⟨hq, ⟨f0, f1⟩, ⟨u0, u1⟩, by omega⟩
          have HLE : Hid (∀ m o, 0 ≤ m → fr ≤ m → m < up → NfP a b c d e m 20 o → Least (firesB a b c d e) m (endN m 20) o ∧ up ≤ endN m 20) := fun m o g0 g1 g2 h => by
            unfold NfP at h
            rw [if_pos ⟨hq, ⟨g0, by omega⟩, by decide⟩] at h
            refine ⟨h, ?_⟩
            unfold endN
            rw [if_neg (show ¬ (3000 : Int) < 20 by decide)]
            split <;> omega
          clear hq
          obtain ⟨RES, HPP⟩ : ∃ x : Int, Hid (countR a b c d e fr up = x) := ⟨_, rfl⟩
          rw [HPP.out] at HN
          rw [HPP.out]
          clear HPP
          obtain ⟨ff, HFF⟩ : ∃ ff : Int → Bool, Hid (firesB a b c d e = ff) := ⟨_, rfl⟩
          obtain ⟨NF, HNP⟩ : ∃ NF : Int → Option Int → Prop, Hid ((fun m o => NfP a b c d e m 20 o) = NF) := ⟨_, rfl⟩
          have HNF2 : Hid (∀ (m : Int) (W : World), Below w.heap.size w W → Calls Tryd.prog 24 #[.agg #[.slice ao a.length ac, .slice bo b.length bc, .slice co c.length cc, .slice d0 d.length dc, .slice eo e.length ec], .int .i64 m, .int .i64 20] W fun x w' => ∃ o : Option Int, x = .returned (.tuple #[.int .i64 (o.getD 0), .bool o.isSome]) ∧ NF m o ∧ Below W.heap.size W w') := fun m W hb => by rw [← HNP.out]; exact HNF.out m W hb
          have HLE2 : Hid (∀ m o, 0 ≤ m → fr ≤ m → m < up → NF m o → Least ff m (endN m 20) o ∧ up ≤ endN m 20) := fun m o g0 g1 g2 h => by rw [← HNP.out] at h; rw [← HFF.out]; exact HLE.out m o g0 g1 g2 h
          rw [HFF.out] at HN
          clear HFF HNP HNF HLE
          generalize a.length = la at *
          generalize b.length = lb at *
          generalize c.length = lc at *
          generalize d.length = ld at *
          generalize e.length = le at *
          go_enter Tryd.func27, Tryd.ntmps27
          go_wp2_with (go_at_call 54; first | (with_reducible refine Calls.mono (HI.out _) ?_; rintro e w2 ⟨rfl, hw⟩; have hw2 := hw.symm; subst hw2) | (with_reducible refine Calls.mono (HJ.out _) ?_; rintro e w2 ⟨rfl, hw⟩; have hw2 := hw.symm; subst hw2))
          refine (HOK.out _ (ba (Below.refl _ _) _)).mono ?_
          rintro x w1 ⟨rfl, hb1⟩
          have HZ : Hid (B5 26 w1 w.heap.size (.slice ao la ac) (.slice bo lb bc) (.slice co lc cc) (.slice d0 ld dc) (.slice eo le ec)) := (B5.new 26 w (.slice ao la ac) (.slice bo lb bc) (.slice co lc cc) (.slice d0 ld dc) (.slice eo le ec)).up hb1
          have B1 := below_new hb1
          clear hb1 HOK
          go_wp2
          go_loopw [7, 8] (fun ct at' wr => ∃ (m : Int) (k : Nat), fr ≤ m ∧ (m ≤ up ∨ m = fr) ∧ at' = .int .i64 m ∧ ct = .int .i64 k ∧ (k : Int) ≤ m - fr ∧ Hid (countN ff fr (m - fr).toNat = k) ∧ Hid (B5 26 wr w.heap.size (.slice ao la ac) (.slice bo lb bc) (.slice co lc cc) (.slice d0 ld dc) (.slice eo le ec) ∧ Below w.heap.size w wr)) (fun _ at' _ => (up - intOf at').toNat)
          case atStart => exact ⟨fr, 0, Int.le_refl _, .inr rfl, rfl, rfl, by omega, by show _ = _; rw [show (fr - fr).toNat = 0 by omega]; rfl, HZ.out, B1⟩
          case round =>
            obtain ⟨m, k, hm0, hm1, rfl, rfl, hk, HP, HS⟩ := hrel
            clear HZ B1
            by_cases hlt : m < up
            · have c0 := HS.out.1.c0
              have c1 := HS.out.1.c1
              have c2 := HS.out.1.c2
              have c3 := HS.out.1.c3
              have c4 := HS.out.1.c4
              go_wp2_with fail
              refine (HNF2.out m _ HS.out.2).mono ?_
              rintro x w5 ⟨o, rfl, ho, hb5⟩
              have HS5 : Hid (B5 26 w5 w.heap.size (.slice ao la ac) (.slice bo lb bc) (.slice co lc cc) (.slice d0 ld dc) (.slice eo le ec) ∧ Below w.heap.size w w5) := ⟨HS.out.1.up hb5, Below.on HS.out.2 hb5⟩
              have HO : Hid (Least ff m (endN m 20) o ∧ up ≤ endN m 20) := HLE2.out m o (by omega) hm0 hlt ho
              clear hb5 ho c0 c1 c2 c3 c4
              cases o with
              | none =>
                have HE : Hid (RES = (k : Int)) := by
                  show _ = _
                  rw [HN.out, ← HP.out]
                  have := countN_idle (f := ff) (a := fr) (i := (m - fr).toNat) (up - m).toNat (fun x g0 g1 => HO.out.1 x (by omega) (by have := HO.out.2; omega))
                  rw [← this, show (m - fr).toNat + (up - m).toNat = (up - fr).toNat by omega]
                simp only [Option.getD_none, Option.isSome_none]
                go_wp2
                go_ret
                exact ⟨by rw [HE.out]; rfl, HS5.out.2⟩
              | some x =>
                have hx0 : m ≤ x := HO.out.1.1
                simp only [Option.getD_some, Option.isSome_some]
                by_cases hxu : up ≤ x
                · have HE : Hid (RES = (k : Int)) := by
                    show _ = _
                    rw [HN.out, ← HP.out]
                    have := countN_idle (f := ff) (a := fr) (i := (m - fr).toNat) (up - m).toNat (fun y g0 g1 => HO.out.1.2.2.2 y (by omega) (by omega))
                    rw [← this, show (m - fr).toNat + (up - m).toNat = (up - fr).toNat by omega]
                  go_wp2
                  go_ret
                  exact ⟨by rw [HE.out]; rfl, HS5.out.2⟩
                · have HE : Hid (countN ff fr (x + 1 - fr).toNat = k + 1) := by
                    show _ = _
                    have := countN_one (f := ff) (a := fr) (i := (m - fr).toNat) (k := (x - m).toNat) (fun y g0 g1 => HO.out.1.2.2.2 y (by omega) (by omega)) (by rw [show fr + ((m - fr).toNat : Int) + ((x - m).toNat : Int) = x by omega]; exact HO.out.1.2.2.1)
                    rw [show (x + 1 - fr).toNat = (m - fr).toNat + (x - m).toNat + 1 by omega, this, HP.out]
                  go_wp2
                  go_roundw
                  case rel => exact ⟨x + 1, k + 1, by omega, .inl (by omega), by go_num, by go_num, by omega, HE, HS5⟩
                  case measure => simp [intOf]; omega
            · have HE : Hid (RES = (k : Int)) := by
                show _ = _
                rw [HN.out, ← HP.out]
                rw [show (m - fr).toNat = (up - fr).toNat by omega]
              go_wp2
              go_ret
              exact ⟨by rw [HE.out]; rfl, HS.out.2⟩
    · have HJ : Hid (∀ W, Calls Tryd.prog 54 #[.int .i64 up, .int .i64 0, .int .i64 68374079] W fun e w' => e = .returned (.bool false) ∧ w' = W) := fun W => in_no hu
      have HN : Hid (countR a b c d e fr up = 0) := countR_no fun h => hu h.2.2.1
      clear HOK HNF
      obtain ⟨RES, HP⟩ : ∃ x : Int, Hid (countR a b c d e fr up = x) := ⟨_, rfl⟩
      rw [HP.out] at HN
      rw [HP.out]
      clear HP
      generalize a.length = la at *
      generalize b.length = lb at *
      generalize c.length = lc at *
      generalize d.length = ld at *
      generalize e.length = le at *
      go_enter Tryd.func27, Tryd.ntmps27
      go_wp2_with (go_at_call 54; first | (with_reducible refine Calls.mono (HI.out _) ?_; rintro e w2 ⟨rfl, hw⟩; have hw2 := hw.symm; subst hw2) | (with_reducible refine Calls.mono (HJ.out _) ?_; rintro e w2 ⟨rfl, hw⟩; have hw2 := hw.symm; subst hw2))
      go_ret
      exact ⟨by rw [HN.out]; rfl, ba (Below.refl _ _) _⟩
  · have HI : Hid (∀ W, Calls Tryd.prog 54 #[.int .i64 fr, .int .i64 0, .int .i64 68374079] W fun e w' => e = .returned (.bool false) ∧ w' = W) := fun W => in_no hf
    have HN : Hid (countR a b c d e fr up = 0) := countR_no fun h => hf h.2.1
    clear HOK HNF
    obtain ⟨RES, HP⟩ : ∃ x : Int, Hid (countR a b c d e fr up = x) := ⟨_, rfl⟩
    rw [HP.out] at HN
    rw [HP.out]
    clear HP
    generalize a.length = la at *
    generalize b.length = lb at *
    generalize c.length = lc at *
    generalize d.length = ld at *
    generalize e.length = le at *
    go_enter Tryd.func27, Tryd.ntmps27
    go_wp2_with (go_at_call 54; (with_reducible refine Calls.mono (HI.out _) ?_); rintro e w2 ⟨rfl, hw⟩; have hw2 := hw.symm; subst hw2)
    go_ret
    exact ⟨by rw [HN.out]; rfl, ba (Below.refl _ _) _⟩
end Go.Proofs.YtgeimliibddhmaaDoor

namespace Go.Proofs.YtgeimliibddhmaaDoor
open Go Go.RowKit
set_option linter.unusedVariables false

/-- The days that count. -/
def capN (days : Int) : Int := if 3000 < days then 3000 else days
set_option maxRecDepth 10000 in
set_option maxHeartbeats 2000000 in
theorem implNext_any (va vb vc vd ve : Value) (a b c d e : List Int) (fr days : Int) (w : World) (h1 : Reads w va a) (h2 : Reads w vb b) (h3 : Reads w vc c) (h4 : Reads w vd d) (h5 : Reads w ve e)
    (n1 : a.length ≤ 1048577) (n2 : b.length ≤ 1048577) (n3 : c.length ≤ 1048577) (n4 : d.length ≤ 1048577) (n5 : e.length ≤ 1048577) (hg : RchIs w) :
    Calls Tryd.prog 23 #[.agg #[va, vb, vc, vd, ve], .int .i64 fr, .int .i64 days] w fun x w' => ∃ o : Option Int, x = .returned (.tuple #[.int .i64 (o.getD 0), .bool o.isSome]) ∧ NfP a b c d e fr days o ∧ Below w.heap.size w w' := by
  obtain ⟨ao, ac, rfl, _⟩ := id h1
  obtain ⟨bo, bc, rfl, _⟩ := id h2
  obtain ⟨co, cc, rfl, _⟩ := id h3
  obtain ⟨d0, dc, rfl, _⟩ := id h4
  obtain ⟨eo, ec, rfl, _⟩ := id h5
  have HR : Hid (∀ W, Below w.heap.size w W → Calls Tryd.prog 37 #[.agg #[.slice ao a.length ac, .slice bo b.length bc, .slice co c.length cc, .slice d0 d.length dc, .slice eo e.length ec]] W fun x w' => x = .returned (.tuple #[.agg (rulA (ruleP a b c d e)), .bool (cronB a b c d e)]) ∧ Below W.heap.size W w') := fun W hb => ruleOf_any _ _ _ _ _ a b c d e W (h1.below hb) (h2.below hb) (h3.below hb) (h4.below hb) (h5.below hb) n1 n2 n3 n4 n5 (hg.up hb)
  have HG : Hid (∀ W, Below w.heap.size w W → RchIs W) := fun W hb => hg.up hb
  clear h1 h2 h3 h4 h5 n1 n2 n3 n4 n5 hg
  obtain ⟨r, HRP⟩ : ∃ r, Hid (ruleP a b c d e = r) := ⟨_, rfl⟩
  rw [HRP.out] at HR
  obtain ⟨q, hq⟩ : ∃ q, cronB a b c d e = q := ⟨_, rfl⟩
  have HQ : Hid (cronB a b c d e = q) := hq
  rw [hq] at HR
  cases q with
  | false =>
    have HN : Hid (NfP a b c d e fr days none) := nf_no fun h => by rw [hq] at h; cases h.1
    clear HG HQ hq
    obtain ⟨PP, HP⟩ : ∃ PP : Option Int → Prop, Hid (NfP a b c d e fr days = PP) := ⟨_, rfl⟩
    rw [HP.out] at HN
    rw [HP.out]
    clear HP
    generalize a.length = la at *
    generalize b.length = lb at *
    generalize c.length = lc at *
    generalize d.length = ld at *
    generalize e.length = le at *
    go_enter Tryd.func23, Tryd.ntmps23
    go_wp2_with fail
    refine (HR.out _ (ba (Below.refl _ _) _)).mono ?_
    rintro x w1 ⟨rfl, hb1⟩
    have B1 := below_new hb1
    clear hb1 HR
    have hz0 : w.heap.size ≤ w1.heap.size := B1.size
    have HA : Hid (Rb (w1.alloc (.cells (rulA fun _ _ => false) 57)) w1.heap.size (fun _ _ => false)) := Rb.new w1 _ 57 rfl
    obtain ⟨W, HW⟩ : ∃ W, Hid (((w1.alloc (.cells (rulA fun _ _ => false) 57)).setCells w1.heap.size 0 (rulA r).toList) = W) := ⟨_, rfl⟩
    have HZ : Hid (Rb W w1.heap.size r) := by show Rb _ _ _; rw [← HW.out]; exact HA.out.setAll r
    have BW : Below w.heap.size w W := by rw [← HW.out]; exact below_setCells hz0 _ _ _ (ba B1 _)
    clear B1
    go_wp2_with (first | (refine wpr_alloc rfl rfl ?_) | (refine wpr_store HA.out r (.tmp 8) (.tmp 17) rfl rfl rfl rfl ?_; rw [HW.out]))
    go_ret2
    exact ⟨none, rfl, HN.out, BW⟩
  | true =>
    have HM : Hid (r = mem5 a b c d e) := HRP.out.symm.trans (ruleP_yes hq)
    by_cases hf : 0 ≤ fr ∧ fr ≤ 68374079
    · have HI : Hid (∀ W, Calls Tryd.prog 51 #[.int .i64 fr] W fun e w' => e = .returned (.bool true) ∧ w' = W) := fun W => isMin_yes hf
      obtain ⟨f0, f1⟩ := hf
      by_cases hd : days < 0
      · have HN : Hid (NfP a b c d e fr days none) := nf_no fun h => by omega
        clear HG HQ hq HM
        obtain ⟨PP, HP⟩ : ∃ PP : Option Int → Prop, Hid (NfP a b c d e fr days = PP) := ⟨_, rfl⟩
        rw [HP.out] at HN
        rw [HP.out]
        clear HP
        generalize a.length = la at *
        generalize b.length = lb at *
        generalize c.length = lc at *
        generalize d.length = ld at *
        generalize e.length = le at *
        go_enter Tryd.func23, Tryd.ntmps23
        go_wp2_with fail
        refine (HR.out _ (ba (Below.refl _ _) _)).mono ?_
        rintro x w1 ⟨rfl, hb1⟩
        have B1 := below_new hb1
        clear hb1 HR
        have hz0 : w.heap.size ≤ w1.heap.size := B1.size
        have HA : Hid (Rb (w1.alloc (.cells (rulA fun _ _ => false) 57)) w1.heap.size (fun _ _ => false)) := Rb.new w1 _ 57 rfl
        obtain ⟨W, HW⟩ : ∃ W, Hid (((w1.alloc (.cells (rulA fun _ _ => false) 57)).setCells w1.heap.size 0 (rulA r).toList) = W) := ⟨_, rfl⟩
        have HZ : Hid (Rb W w1.heap.size r) := by show Rb _ _ _; rw [← HW.out]; exact HA.out.setAll r
        have BW : Below w.heap.size w W := by rw [← HW.out]; exact below_setCells hz0 _ _ _ (ba B1 _)
        clear B1
        go_wp2_with (first | (refine wpr_alloc rfl rfl ?_) | (refine wpr_store HA.out r (.tmp 8) (.tmp 17) rfl rfl rfl rfl ?_; rw [HW.out]) | (go_at_call 51; refine (HI.out _).mono ?_; rintro e w2 ⟨rfl, hw⟩; have hw2 := hw.symm; subst hw2))
        go_ret2
        exact ⟨none, rfl, HN.out, BW⟩
      · have HB : Hid (∀ (m : Int) (W : World), 0 ≤ m → m ≤ 4611686018427387904 → Calls Tryd.prog 52 #[.int .i64 m] W fun e w' => e = .returned (.int .i64 ((m / 1440 + 1) * 1440)) ∧ w' = W) := fun m W g0 g1 => dayBehind_any m W g0 g1
        have HF : Hid (∀ (m : Int) (W : World), Below w.heap.size w W → 0 ≤ m → m ≤ 1152921504606800000 → Calls Tryd.prog 53 #[.agg (rulA r), .int .i64 m, .int .i64 ((m / 1440 + 1) * 1440)] W fun x w' => ∃ o : Option Int, x = .returned (.tuple #[.int .i64 (o.getD 0), .bool o.isSome]) ∧ Least (firesB a b c d e) m ((m / 1440 + 1) * 1440) o ∧ Below W.heap.size W w') := fun m W hb g0 g1 => by rw [HM.out]; exact firstDay_any W hq (HG.out W hb) g0 (Int.le_refl _) g1
        have HNN : Hid (∀ D, (∀ m, fr ≤ m → m < D * 1440 → firesB a b c d e m = false) → fr / 1440 + capN days < D → NfP a b c d e fr days none) := fun D hp hD => nf_none hq ⟨f0, f1⟩ (by omega) hp (.inl hD)
        have HNS : Hid (∀ D x, fr ≤ x → (firesB a b c d e x = true ∧ ∀ m, fr ≤ m → m < x → firesB a b c d e m = false) → D ≤ fr / 1440 + capN days → x < (D + 1) * 1440 → NfP a b c d e fr days (some x)) := fun D x hx hfx hD hxD => nf_some hq ⟨f0, f1⟩ (by omega) hx hfx hD hxD
        clear HG HQ hq HM
        obtain ⟨PP, HP⟩ : ∃ PP : Option Int → Prop, Hid (NfP a b c d e fr days = PP) := ⟨_, rfl⟩
        obtain ⟨ff, HFF⟩ : ∃ ff : Int → Bool, Hid (firesB a b c d e = ff) := ⟨_, rfl⟩
        rw [HP.out, HFF.out] at HNN HNS
        rw [HFF.out] at HF
        rw [HP.out]
        clear HP HFF HRP
        rcases Int.lt_or_le 3000 days with hd3 | hd3
        · have HC : Hid (capN days = 3000) := by show _ = _; unfold capN; rw [if_pos hd3]
          rw [HC.out] at HNN HNS
          generalize a.length = la at *
          generalize b.length = lb at *
          generalize c.length = lc at *
          generalize d.length = ld at *
          generalize e.length = le at *
          go_enter Tryd.func23, Tryd.ntmps23
          go_wp2_with fail
          refine (HR.out _ (ba (Below.refl _ _) _)).mono ?_
          rintro x w1 ⟨rfl, hb1⟩
          have B1 := below_new hb1
          clear hb1 HR
          have hz0 : w.heap.size ≤ w1.heap.size := B1.size
          have HA : Hid (Rb (w1.alloc (.cells (rulA fun _ _ => false) 57)) w1.heap.size (fun _ _ => false)) := Rb.new w1 _ 57 rfl
          obtain ⟨W, HW⟩ : ∃ W, Hid (((w1.alloc (.cells (rulA fun _ _ => false) 57)).setCells w1.heap.size 0 (rulA r).toList) = W) := ⟨_, rfl⟩
          have HZ : Hid (Rb W w1.heap.size r) := by show Rb _ _ _; rw [← HW.out]; exact HA.out.setAll r
          have BW : Below w.heap.size w W := by rw [← HW.out]; exact below_setCells hz0 _ _ _ (ba B1 _)
          clear B1
          go_wp2_with (first | (refine wpr_alloc rfl rfl ?_) | (refine wpr_store HA.out r (.tmp 8) (.tmp 17) rfl rfl rfl rfl ?_; rw [HW.out]) | (go_at_call 51; refine (HI.out _).mono ?_; rintro e w2 ⟨rfl, hw⟩; have hw2 := hw.symm; subst hw2))
          go_loopw [10, 34] (fun bg j wr => ∃ (k : Nat) (m : Int), (k : Int) ≤ 3001 ∧ j = .int .i64 k ∧ bg = .int .i64 m ∧ fr ≤ m ∧ m ≤ 80000000 ∧ Hid (m / 1440 = fr / 1440 + k ∧ (0 < k → m = (fr / 1440 + k) * 1440)) ∧ Hid (∀ x, fr ≤ x → x < m → ff x = false) ∧ Hid (Rb wr w1.heap.size r ∧ Below w.heap.size w wr)) (fun _ j _ => (3001 - intOf j).toNat)
          case atStart => exact ⟨0, fr, by omega, rfl, rfl, Int.le_refl _, by omega, ⟨by omega, fun h => by omega⟩, fun x g0 g1 => absurd g1 (by omega), HZ.out, BW⟩
          case round =>
            obtain ⟨k, m, hk, rfl, rfl, hm0, hm1, HE, HP, HS⟩ := hrel
            clear HZ BW HA HW
            by_cases hlt : (k : Int) < 3001
            · have HB2 : Hid (∀ W : World, Calls Tryd.prog 52 #[.int .i64 m] W fun e w' => e = .returned (.int .i64 ((m / 1440 + 1) * 1440)) ∧ w' = W) := fun W => HB.out m W (by omega) (by omega)
              have HF2 : Hid (Calls Tryd.prog 53 #[.agg (rulA r), .int .i64 m, .int .i64 ((m / 1440 + 1) * 1440)] wr fun x w' => ∃ o : Option Int, x = .returned (.tuple #[.int .i64 (o.getD 0), .bool o.isSome]) ∧ Least ff m ((m / 1440 + 1) * 1440) o ∧ Below wr.heap.size wr w') := HF.out m wr HS.out.2 (by omega) (by omega)
              obtain ⟨en, HEN⟩ : ∃ en, Hid ((m / 1440 + 1) * 1440 = en) := ⟨_, rfl⟩
              rw [HEN.out] at HB2 HF2
              have HEB : Hid (m < en ∧ en ≤ m + 1440 ∧ en / 1440 = m / 1440 + 1) := by have := HEN.out; exact ⟨by omega, by omega, by omega⟩
              go_wp2_with (first | (go_at_call 52; refine (HB2.out _).mono ?_; rintro e w3 ⟨rfl, hw3⟩; have hw4 := hw3.symm; subst hw4) | (refine wpr_load HS.out.1 (.tmp 8) rfl rfl rfl ?_))
              refine HF2.out.mono ?_
              rintro x w5 ⟨o, rfl, ho, hb5⟩
              have HS5 : Hid (Rb w5 w1.heap.size r ∧ Below w.heap.size w w5) := ⟨HS.out.1.up hb5, Below.on HS.out.2 hb5⟩
              have HO : Hid (Least ff m en o) := ho
              clear hb5 ho
              cases o with
              | some x =>
                have HN : Hid (PP (some x)) := by
                  have h1 := HO.out
                  have h2 := HEB.out
                  have h3 := HE.out.1
                  have h4 := HEN.out
                  exact HNS.out (fr / 1440 + k) x (by have := h1.1; omega) ⟨h1.2.2.1, fun y g0 g1 => by
                    by_cases hy : y < m
                    · exact HP.out y g0 hy
                    · exact h1.2.2.2 y (by omega) g1⟩ (by omega) (by have := h1.2.1; omega)
                simp only [Option.getD_some, Option.isSome_some]
                go_wp2
                go_ret2
                exact ⟨some x, rfl, HN.out, HS5.out.2⟩
              | none =>
                have HN : Hid (∀ x, fr ≤ x → x < en → ff x = false) := fun y g0 g1 => by
                  by_cases hy : y < m
                  · exact HP.out y g0 hy
                  · exact HO.out y (by omega) g1
                have HE2 : Hid (en / 1440 = fr / 1440 + ((k + 1 : Nat) : Int) ∧ (0 < k + 1 → en = (fr / 1440 + ((k + 1 : Nat) : Int)) * 1440)) := by
                  have h2 := HEB.out
                  have h3 := HE.out.1
                  have h4 := HEN.out
                  exact ⟨by omega, fun _ => by omega⟩
                have he0 := HEB.out.1
                have he2 : en ≤ 80000000 := by have := HE2.out.1; have := HE2.out.2 (by omega); omega
                simp only [Option.getD_none, Option.isSome_none]
                go_wp2
                go_roundw
                case rel => exact ⟨k + 1, en, by omega, by go_num, rfl, by omega, he2, HE2, HN, HS5.out⟩
                case measure => simp [intOf]; omega
            · have HN : Hid (PP none) := HNN.out (fr / 1440 + 3001) (fun x g0 g1 => HP.out x g0 (by
                have h3 := HE.out
                rcases Nat.eq_zero_or_pos k with hk0 | hk0
                · omega
                · have := h3.2 hk0
                  omega)) (by omega)
              go_wp2
              go_ret2
              exact ⟨none, rfl, HN.out, HS.out.2⟩
        · have HC : Hid (capN days = days) := by show _ = _; unfold capN; rw [if_neg (by omega)]
          rw [HC.out] at HNN HNS
          generalize a.length = la at *
          generalize b.length = lb at *
          generalize c.length = lc at *
          generalize d.length = ld at *
          generalize e.length = le at *
          go_enter Tryd.func23, Tryd.ntmps23
          go_wp2_with fail
          refine (HR.out _ (ba (Below.refl _ _) _)).mono ?_
          rintro x w1 ⟨rfl, hb1⟩
          have B1 := below_new hb1
          clear hb1 HR
          have hz0 : w.heap.size ≤ w1.heap.size := B1.size
          have HA : Hid (Rb (w1.alloc (.cells (rulA fun _ _ => false) 57)) w1.heap.size (fun _ _ => false)) := Rb.new w1 _ 57 rfl
          obtain ⟨W, HW⟩ : ∃ W, Hid (((w1.alloc (.cells (rulA fun _ _ => false) 57)).setCells w1.heap.size 0 (rulA r).toList) = W) := ⟨_, rfl⟩
          have HZ : Hid (Rb W w1.heap.size r) := by show Rb _ _ _; rw [← HW.out]; exact HA.out.setAll r
          have BW : Below w.heap.size w W := by rw [← HW.out]; exact below_setCells hz0 _ _ _ (ba B1 _)
          clear B1
          go_wp2_with (first | (refine wpr_alloc rfl rfl ?_) | (refine wpr_store HA.out r (.tmp 8) (.tmp 17) rfl rfl rfl rfl ?_; rw [HW.out]) | (go_at_call 51; refine (HI.out _).mono ?_; rintro e w2 ⟨rfl, hw⟩; have hw2 := hw.symm; subst hw2))
          go_loopw [10, 34] (fun bg j wr => ∃ (k : Nat) (m : Int), (k : Int) ≤ days + 1 ∧ j = .int .i64 k ∧ bg = .int .i64 m ∧ fr ≤ m ∧ m ≤ 80000000 ∧ Hid (m / 1440 = fr / 1440 + k ∧ (0 < k → m = (fr / 1440 + k) * 1440)) ∧ Hid (∀ x, fr ≤ x → x < m → ff x = false) ∧ Hid (Rb wr w1.heap.size r ∧ Below w.heap.size w wr)) (fun _ j _ => (days + 1 - intOf j).toNat)
          case atStart => exact ⟨0, fr, by omega, rfl, rfl, Int.le_refl _, by omega, ⟨by omega, fun h => by omega⟩, fun x g0 g1 => absurd g1 (by omega), HZ.out, BW⟩
          case round =>
            obtain ⟨k, m, hk, rfl, rfl, hm0, hm1, HE, HP, HS⟩ := hrel
            clear HZ BW HA HW
            by_cases hlt : (k : Int) < days + 1
            · have HB2 : Hid (∀ W : World, Calls Tryd.prog 52 #[.int .i64 m] W fun e w' => e = .returned (.int .i64 ((m / 1440 + 1) * 1440)) ∧ w' = W) := fun W => HB.out m W (by omega) (by omega)
              have HF2 : Hid (Calls Tryd.prog 53 #[.agg (rulA r), .int .i64 m, .int .i64 ((m / 1440 + 1) * 1440)] wr fun x w' => ∃ o : Option Int, x = .returned (.tuple #[.int .i64 (o.getD 0), .bool o.isSome]) ∧ Least ff m ((m / 1440 + 1) * 1440) o ∧ Below wr.heap.size wr w') := HF.out m wr HS.out.2 (by omega) (by omega)
              obtain ⟨en, HEN⟩ : ∃ en, Hid ((m / 1440 + 1) * 1440 = en) := ⟨_, rfl⟩
              rw [HEN.out] at HB2 HF2
              have HEB : Hid (m < en ∧ en ≤ m + 1440 ∧ en / 1440 = m / 1440 + 1) := by have := HEN.out; exact ⟨by omega, by omega, by omega⟩
              go_wp2_with (first | (go_at_call 52; refine (HB2.out _).mono ?_; rintro e w3 ⟨rfl, hw3⟩; have hw4 := hw3.symm; subst hw4) | (refine wpr_load HS.out.1 (.tmp 8) rfl rfl rfl ?_))
              refine HF2.out.mono ?_
              rintro x w5 ⟨o, rfl, ho, hb5⟩
              have HS5 : Hid (Rb w5 w1.heap.size r ∧ Below w.heap.size w w5) := ⟨HS.out.1.up hb5, Below.on HS.out.2 hb5⟩
              have HO : Hid (Least ff m en o) := ho
              clear hb5 ho
              cases o with
              | some x =>
                have HN : Hid (PP (some x)) := by
                  have h1 := HO.out
                  have h2 := HEB.out
                  have h3 := HE.out.1
                  have h4 := HEN.out
                  exact HNS.out (fr / 1440 + k) x (by have := h1.1; omega) ⟨h1.2.2.1, fun y g0 g1 => by
                    by_cases hy : y < m
                    · exact HP.out y g0 hy
                    · exact h1.2.2.2 y (by omega) g1⟩ (by omega) (by have := h1.2.1; omega)
                simp only [Option.getD_some, Option.isSome_some]
                go_wp2
                go_ret2
                exact ⟨some x, rfl, HN.out, HS5.out.2⟩
              | none =>
                have HN : Hid (∀ x, fr ≤ x → x < en → ff x = false) := fun y g0 g1 => by
                  by_cases hy : y < m
                  · exact HP.out y g0 hy
                  · exact HO.out y (by omega) g1
                have HE2 : Hid (en / 1440 = fr / 1440 + ((k + 1 : Nat) : Int) ∧ (0 < k + 1 → en = (fr / 1440 + ((k + 1 : Nat) : Int)) * 1440)) := by
                  have h2 := HEB.out
                  have h3 := HE.out.1
                  have h4 := HEN.out
                  exact ⟨by omega, fun _ => by omega⟩
                have he0 := HEB.out.1
                have he2 : en ≤ 80000000 := by have := HE2.out.1; have := HE2.out.2 (by omega); omega
                simp only [Option.getD_none, Option.isSome_none]
                go_wp2
                go_roundw
                case rel => exact ⟨k + 1, en, by omega, by go_num, rfl, by omega, he2, HE2, HN, HS5.out⟩
                case measure => simp [intOf]; omega
            · have HN : Hid (PP none) := HNN.out (fr / 1440 + days + 1) (fun x g0 g1 => HP.out x g0 (by
                have h3 := HE.out
                rcases Nat.eq_zero_or_pos k with hk0 | hk0
                · omega
                · have := h3.2 hk0
                  omega)) (by omega)
              go_wp2
              go_ret2
              exact ⟨none, rfl, HN.out, HS.out.2⟩
    · have HI : Hid (∀ W, Calls Tryd.prog 51 #[.int .i64 fr] W fun e w' => e = .returned (.bool false) ∧ w' = W) := fun W => isMin_no hf
      have HN : Hid (NfP a b c d e fr days none) := nf_no fun h => hf h.2.1
      clear HG HQ hq HM hf
      obtain ⟨PP, HP⟩ : ∃ PP : Option Int → Prop, Hid (NfP a b c d e fr days = PP) := ⟨_, rfl⟩
      rw [HP.out] at HN
      rw [HP.out]
      clear HP
      generalize a.length = la at *
      generalize b.length = lb at *
      generalize c.length = lc at *
      generalize d.length = ld at *
      generalize e.length = le at *
      go_enter Tryd.func23, Tryd.ntmps23
      go_wp2_with fail
      refine (HR.out _ (ba (Below.refl _ _) _)).mono ?_
      rintro x w1 ⟨rfl, hb1⟩
      have B1 := below_new hb1
      clear hb1 HR
      have hz0 : w.heap.size ≤ w1.heap.size := B1.size
      have HA : Hid (Rb (w1.alloc (.cells (rulA fun _ _ => false) 57)) w1.heap.size (fun _ _ => false)) := Rb.new w1 _ 57 rfl
      obtain ⟨W, HW⟩ : ∃ W, Hid (((w1.alloc (.cells (rulA fun _ _ => false) 57)).setCells w1.heap.size 0 (rulA r).toList) = W) := ⟨_, rfl⟩
      have HZ : Hid (Rb W w1.heap.size r) := by show Rb _ _ _; rw [← HW.out]; exact HA.out.setAll r
      have BW : Below w.heap.size w W := by rw [← HW.out]; exact below_setCells hz0 _ _ _ (ba B1 _)
      clear B1
      go_wp2_with (first | (refine wpr_alloc rfl rfl ?_) | (refine wpr_store HA.out r (.tmp 8) (.tmp 17) rfl rfl rfl rfl ?_; rw [HW.out]) | (go_at_call 51; refine (HI.out _).mono ?_; rintro e w2 ⟨rfl, hw⟩; have hw2 := hw.symm; subst hw2))
      go_ret2
      exact ⟨none, rfl, HN.out, BW⟩
end Go.Proofs.YtgeimliibddhmaaDoor
