/-
  The next minute that fires, as the program tells it: the walk.
-/
import Derived.Test.YtbecdaholpiaeaaDoorFip
namespace Go.Proofs.YtbecdaholpiaeaaDoor
open Go Go.RowKit
set_option linter.unusedVariables false

/-- The days that count. -/
def capN (days : Int) : Int := if 3000 < days then 3000 else days
set_option maxRecDepth 10000 in
set_option maxHeartbeats 2000000 in
theorem implNext_any (va vb vc vd ve : Value) (a b c d e : List Int) (fr days : Int) (w : World) (h1 : Reads w va a) (h2 : Reads w vb b) (h3 : Reads w vc c) (h4 : Reads w vd d) (h5 : Reads w ve e)
    (n1 : a.length ≤ 1048577) (n2 : b.length ≤ 1048577) (n3 : c.length ≤ 1048577) (n4 : d.length ≤ 1048577) (n5 : e.length ≤ 1048577) (hg : RchIs w) :
    Calls Tryd.prog 54 #[.agg #[va, vb, vc, vd, ve], .int .i64 fr, .int .i64 days] w fun x w' => ∃ o : Option Int, x = .returned (.tuple #[.int .i64 (o.getD 0), .bool o.isSome]) ∧ NfP a b c d e fr days o ∧ Below w.heap.size w w' := by
  obtain ⟨ao, ac, rfl, _⟩ := id h1
  obtain ⟨bo, bc, rfl, _⟩ := id h2
  obtain ⟨co, cc, rfl, _⟩ := id h3
  obtain ⟨d0, dc, rfl, _⟩ := id h4
  obtain ⟨eo, ec, rfl, _⟩ := id h5
  have HR : Hid (∀ W, Below w.heap.size w W → Calls Tryd.prog 58 #[.agg #[.slice ao a.length ac, .slice bo b.length bc, .slice co c.length cc, .slice d0 d.length dc, .slice eo e.length ec]] W fun x w' => x = .returned (.tuple #[.agg (rulA (ruleP a b c d e)), .bool (cronB a b c d e)]) ∧ Below W.heap.size W w') := fun W hb => ruleOf_any _ _ _ _ _ a b c d e W (h1.below hb) (h2.below hb) (h3.below hb) (h4.below hb) (h5.below hb) n1 n2 n3 n4 n5 (hg.up hb)
  have HG : Hid (∀ W, Below w.heap.size w W → RchIs W) := fun W hb => hg.up hb
  clear h1 h2 h3 h4 h5 n1 n2 n3 n4 n5 hg
  obtain ⟨r, HRP⟩ : ∃ r, Hid (ruleP a b c d e = r) := ⟨_, rfl⟩
  rw [HRP.out] at HR
  obtain ⟨q, hq⟩ : ∃ q, cronB a b c d e = q := ⟨_, rfl⟩
  have HQ : Hid (cronB a b c d e = q) := hq
  rw [hq] at HR
  cases q with
  | false =>
    have HN : Hid (NfP a b c d e fr days none) := nf_no fun h => by rw [hq] at h; cases h.1
    clear HG HQ hq
    obtain ⟨PP, HP⟩ : ∃ PP : Option Int → Prop, Hid (NfP a b c d e fr days = PP) := ⟨_, rfl⟩
    rw [HP.out] at HN
    rw [HP.out]
    clear HP
    generalize a.length = la at *
    generalize b.length = lb at *
    generalize c.length = lc at *
    generalize d.length = ld at *
    generalize e.length = le at *
    go_enter Tryd.func54, Tryd.ntmps54
    go_wp2_with fail
    refine (HR.out _ (ba (Below.refl _ _) _)).mono ?_
    rintro x w1 ⟨rfl, hb1⟩
    have B1 := below_new hb1
    clear hb1 HR
    have hz0 : w.heap.size ≤ w1.heap.size := B1.size
    have HA : Hid (Rb (w1.alloc (.cells (rulA fun _ _ => false) 90)) w1.heap.size (fun _ _ => false)) := Rb.new w1 _ 90 rfl
    obtain ⟨W, HW⟩ : ∃ W, Hid (((w1.alloc (.cells (rulA fun _ _ => false) 90)).setCells w1.heap.size 0 (rulA r).toList) = W) := ⟨_, rfl⟩
    have HZ : Hid (Rb W w1.heap.size r) := by show Rb _ _ _; rw [← HW.out]; exact HA.out.setAll r
    have BW : Below w.heap.size w W := by rw [← HW.out]; exact below_setCells hz0 _ _ _ (ba B1 _)
    clear B1
    go_wp2_with (first | (refine wpr_alloc rfl rfl ?_) | (refine wpr_store HA.out r (.tmp 8) (.tmp 17) rfl rfl rfl rfl ?_; rw [HW.out]))
    go_ret2
    exact ⟨none, rfl, HN.out, BW⟩
  | true =>
    have HM : Hid (r = mem5 a b c d e) := HRP.out.symm.trans (ruleP_yes hq)
    by_cases hf : 0 ≤ fr ∧ fr ≤ 68374079
    · have HI : Hid (∀ W, Calls Tryd.prog 59 #[.int .i64 fr] W fun e w' => e = .returned (.bool true) ∧ w' = W) := fun W => isMin_yes hf
      obtain ⟨f0, f1⟩ := hf
      by_cases hd : days < 0
      · have HN : Hid (NfP a b c d e fr days none) := nf_no fun h => by omega
        clear HG HQ hq HM
        obtain ⟨PP, HP⟩ : ∃ PP : Option Int → Prop, Hid (NfP a b c d e fr days = PP) := ⟨_, rfl⟩
        rw [HP.out] at HN
        rw [HP.out]
        clear HP
        generalize a.length = la at *
        generalize b.length = lb at *
        generalize c.length = lc at *
        generalize d.length = ld at *
        generalize e.length = le at *
        go_enter Tryd.func54, Tryd.ntmps54
        go_wp2_with fail
        refine (HR.out _ (ba (Below.refl _ _) _)).mono ?_
        rintro x w1 ⟨rfl, hb1⟩
        have B1 := below_new hb1
        clear hb1 HR
        have hz0 : w.heap.size ≤ w1.heap.size := B1.size
        have HA : Hid (Rb (w1.alloc (.cells (rulA fun _ _ => false) 90)) w1.heap.size (fun _ _ => false)) := Rb.new w1 _ 90 rfl
        obtain ⟨W, HW⟩ : ∃ W, Hid (((w1.alloc (.cells (rulA fun _ _ => false) 90)).setCells w1.heap.size 0 (rulA r).toList) = W) := ⟨_, rfl⟩
        have HZ : Hid (Rb W w1.heap.size r) := by show Rb _ _ _; rw [← HW.out]; exact HA.out.setAll r
        have BW : Below w.heap.size w W := by rw [← HW.out]; exact below_setCells hz0 _ _ _ (ba B1 _)
        clear B1
        go_wp2_with (first | (refine wpr_alloc rfl rfl ?_) | (refine wpr_store HA.out r (.tmp 8) (.tmp 17) rfl rfl rfl rfl ?_; rw [HW.out]) | (go_at_call 59; refine (HI.out _).mono ?_; rintro e w2 ⟨rfl, hw⟩; have hw2 := hw.symm; subst hw2))
        go_ret2
        exact ⟨none, rfl, HN.out, BW⟩
      · have HB : Hid (∀ (m : Int) (W : World), 0 ≤ m → m ≤ 4611686018427387904 → Calls Tryd.prog 60 #[.int .i64 m] W fun e w' => e = .returned (.int .i64 ((m / 1440 + 1) * 1440)) ∧ w' = W) := fun m W g0 g1 => dayBehind_any m W g0 g1
        have HF : Hid (∀ (m : Int) (W : World), Below w.heap.size w W → 0 ≤ m → m ≤ 1152921504606800000 → Calls Tryd.prog 61 #[.agg (rulA r), .int .i64 m, .int .i64 ((m / 1440 + 1) * 1440)] W fun x w' => ∃ o : Option Int, x = .returned (.tuple #[.int .i64 (o.getD 0), .bool o.isSome]) ∧ Least (firesB a b c d e) m ((m / 1440 + 1) * 1440) o ∧ Below W.heap.size W w') := fun m W hb g0 g1 => by rw [HM.out]; exact firstDay_any W hq (HG.out W hb) g0 (Int.le_refl _) g1
        have HNN : Hid (∀ D, (∀ m, fr ≤ m → m < D * 1440 → firesB a b c d e m = false) → fr / 1440 + capN days < D → NfP a b c d e fr days none) := fun D hp hD => nf_none hq ⟨f0, f1⟩ (by omega) hp (.inl hD)
        have HNS : Hid (∀ D x, fr ≤ x → (firesB a b c d e x = true ∧ ∀ m, fr ≤ m → m < x → firesB a b c d e m = false) → D ≤ fr / 1440 + capN days → x < (D + 1) * 1440 → NfP a b c d e fr days (some x)) := fun D x hx hfx hD hxD => nf_some hq ⟨f0, f1⟩ (by omega) hx hfx hD hxD
        clear HG HQ hq HM
        obtain ⟨PP, HP⟩ : ∃ PP : Option Int → Prop, Hid (NfP a b c d e fr days = PP) := ⟨_, rfl⟩
        obtain ⟨ff, HFF⟩ : ∃ ff : Int → Bool, Hid (firesB a b c d e = ff) := ⟨_, rfl⟩
        rw [HP.out, HFF.out] at HNN HNS
        rw [HFF.out] at HF
        rw [HP.out]
        clear HP HFF HRP
        rcases Int.lt_or_le 3000 days with hd3 | hd3
        · have HC : Hid (capN days = 3000) := by show _ = _; unfold capN; rw [if_pos hd3]
          rw [HC.out] at HNN HNS
          generalize a.length = la at *
          generalize b.length = lb at *
          generalize c.length = lc at *
          generalize d.length = ld at *
          generalize e.length = le at *
          go_enter Tryd.func54, Tryd.ntmps54
          go_wp2_with fail
          refine (HR.out _ (ba (Below.refl _ _) _)).mono ?_
          rintro x w1 ⟨rfl, hb1⟩
          have B1 := below_new hb1
          clear hb1 HR
          have hz0 : w.heap.size ≤ w1.heap.size := B1.size
          have HA : Hid (Rb (w1.alloc (.cells (rulA fun _ _ => false) 90)) w1.heap.size (fun _ _ => false)) := Rb.new w1 _ 90 rfl
          obtain ⟨W, HW⟩ : ∃ W, Hid (((w1.alloc (.cells (rulA fun _ _ => false) 90)).setCells w1.heap.size 0 (rulA r).toList) = W) := ⟨_, rfl⟩
          have HZ : Hid (Rb W w1.heap.size r) := by show Rb _ _ _; rw [← HW.out]; exact HA.out.setAll r
          have BW : Below w.heap.size w W := by rw [← HW.out]; exact below_setCells hz0 _ _ _ (ba B1 _)
          clear B1
          go_wp2_with (first | (refine wpr_alloc rfl rfl ?_) | (refine wpr_store HA.out r (.tmp 8) (.tmp 17) rfl rfl rfl rfl ?_; rw [HW.out]) | (go_at_call 59; refine (HI.out _).mono ?_; rintro e w2 ⟨rfl, hw⟩; have hw2 := hw.symm; subst hw2))
          go_loopw [10, 34] (fun bg j wr => ∃ (k : Nat) (m : Int), (k : Int) ≤ 3001 ∧ j = .int .i64 k ∧ bg = .int .i64 m ∧ fr ≤ m ∧ m ≤ 80000000 ∧ Hid (m / 1440 = fr / 1440 + k ∧ (0 < k → m = (fr / 1440 + k) * 1440)) ∧ Hid (∀ x, fr ≤ x → x < m → ff x = false) ∧ Hid (Rb wr w1.heap.size r ∧ Below w.heap.size w wr)) (fun _ j _ => (3001 - intOf j).toNat)
          case atStart => exact ⟨0, fr, by omega, rfl, rfl, Int.le_refl _, by omega, ⟨by omega, fun h => by omega⟩, fun x g0 g1 => absurd g1 (by omega), HZ.out, BW⟩
          case round =>
            obtain ⟨k, m, hk, rfl, rfl, hm0, hm1, HE, HP, HS⟩ := hrel
            clear HZ BW HA HW
            by_cases hlt : (k : Int) < 3001
            · have HB2 : Hid (∀ W : World, Calls Tryd.prog 60 #[.int .i64 m] W fun e w' => e = .returned (.int .i64 ((m / 1440 + 1) * 1440)) ∧ w' = W) := fun W => HB.out m W (by omega) (by omega)
              have HF2 : Hid (Calls Tryd.prog 61 #[.agg (rulA r), .int .i64 m, .int .i64 ((m / 1440 + 1) * 1440)] wr fun x w' => ∃ o : Option Int, x = .returned (.tuple #[.int .i64 (o.getD 0), .bool o.isSome]) ∧ Least ff m ((m / 1440 + 1) * 1440) o ∧ Below wr.heap.size wr w') := HF.out m wr HS.out.2 (by omega) (by omega)
              obtain ⟨en, HEN⟩ : ∃ en, Hid ((m / 1440 + 1) * 1440 = en) := ⟨_, rfl⟩
              rw [HEN.out] at HB2 HF2
              have HEB : Hid (m < en ∧ en ≤ m + 1440 ∧ en / 1440 = m / 1440 + 1) := by have := HEN.out; exact ⟨by omega, by omega, by omega⟩
              go_wp2_with (first | (go_at_call 60; refine (HB2.out _).mono ?_; rintro e w3 ⟨rfl, hw3⟩; have hw4 := hw3.symm; subst hw4) | (refine wpr_load HS.out.1 (.tmp 8) rfl rfl rfl ?_))
              refine HF2.out.mono ?_
              rintro x w5 ⟨o, rfl, ho, hb5⟩
              have HS5 : Hid (Rb w5 w1.heap.size r ∧ Below w.heap.size w w5) := ⟨HS.out.1.up hb5, Below.on HS.out.2 hb5⟩
              have HO : Hid (Least ff m en o) := ho
              clear hb5 ho
              cases o with
              | some x =>
                have HN : Hid (PP (some x)) := by
                  have h1 := HO.out
                  have h2 := HEB.out
                  have h3 := HE.out.1
                  have h4 := HEN.out
                  exact HNS.out (fr / 1440 + k) x (by have := h1.1; omega) ⟨h1.2.2.1, fun y g0 g1 => by
                    by_cases hy : y < m
                    · exact HP.out y g0 hy
                    · exact h1.2.2.2 y (by omega) g1⟩ (by omega) (by have := h1.2.1; omega)
                simp only [Option.getD_some, Option.isSome_some]
                go_wp2
                go_ret2
                exact ⟨some x, rfl, HN.out, HS5.out.2⟩
              | none =>
                have HN : Hid (∀ x, fr ≤ x → x < en → ff x = false) := fun y g0 g1 => by
                  by_cases hy : y < m
                  · exact HP.out y g0 hy
                  · exact HO.out y (by omega) g1
                have HE2 : Hid (en / 1440 = fr / 1440 + ((k + 1 : Nat) : Int) ∧ (0 < k + 1 → en = (fr / 1440 + ((k + 1 : Nat) : Int)) * 1440)) := by
                  have h2 := HEB.out
                  have h3 := HE.out.1
                  have h4 := HEN.out
                  exact ⟨by omega, fun _ => by omega⟩
                have he0 := HEB.out.1
                have he2 : en ≤ 80000000 := by have := HE2.out.1; have := HE2.out.2 (by omega); omega
                simp only [Option.getD_none, Option.isSome_none]
                go_wp2
                go_roundw
                case rel => exact ⟨k + 1, en, by omega, by go_num, rfl, by omega, he2, HE2, HN, HS5.out⟩
                case measure => simp [intOf]; omega
            · have HN : Hid (PP none) := HNN.out (fr / 1440 + 3001) (fun x g0 g1 => HP.out x g0 (by
                have h3 := HE.out
                rcases Nat.eq_zero_or_pos k with hk0 | hk0
                · omega
                · have := h3.2 hk0
                  omega)) (by omega)
              go_wp2
              go_ret2
              exact ⟨none, rfl, HN.out, HS.out.2⟩
        · have HC : Hid (capN days = days) := by show _ = _; unfold capN; rw [if_neg (by omega)]
          rw [HC.out] at HNN HNS
          generalize a.length = la at *
          generalize b.length = lb at *
          generalize c.length = lc at *
          generalize d.length = ld at *
          generalize e.length = le at *
          go_enter Tryd.func54, Tryd.ntmps54
          go_wp2_with fail
          refine (HR.out _ (ba (Below.refl _ _) _)).mono ?_
          rintro x w1 ⟨rfl, hb1⟩
          have B1 := below_new hb1
          clear hb1 HR
          have hz0 : w.heap.size ≤ w1.heap.size := B1.size
          have HA : Hid (Rb (w1.alloc (.cells (rulA fun _ _ => false) 90)) w1.heap.size (fun _ _ => false)) := Rb.new w1 _ 90 rfl
          obtain ⟨W, HW⟩ : ∃ W, Hid (((w1.alloc (.cells (rulA fun _ _ => false) 90)).setCells w1.heap.size 0 (rulA r).toList) = W) := ⟨_, rfl⟩
          have HZ : Hid (Rb W w1.heap.size r) := by show Rb _ _ _; rw [← HW.out]; exact HA.out.setAll r
          have BW : Below w.heap.size w W := by rw [← HW.out]; exact below_setCells hz0 _ _ _ (ba B1 _)
          clear B1
          go_wp2_with (first | (refine wpr_alloc rfl rfl ?_) | (refine wpr_store HA.out r (.tmp 8) (.tmp 17) rfl rfl rfl rfl ?_; rw [HW.out]) | (go_at_call 59; refine (HI.out _).mono ?_; rintro e w2 ⟨rfl, hw⟩; have hw2 := hw.symm; subst hw2))
          go_loopw [10, 34] (fun bg j wr => ∃ (k : Nat) (m : Int), (k : Int) ≤ days + 1 ∧ j = .int .i64 k ∧ bg = .int .i64 m ∧ fr ≤ m ∧ m ≤ 80000000 ∧ Hid (m / 1440 = fr / 1440 + k ∧ (0 < k → m = (fr / 1440 + k) * 1440)) ∧ Hid (∀ x, fr ≤ x → x < m → ff x = false) ∧ Hid (Rb wr w1.heap.size r ∧ Below w.heap.size w wr)) (fun _ j _ => (days + 1 - intOf j).toNat)
          case atStart => exact ⟨0, fr, by omega, rfl, rfl, Int.le_refl _, by omega, ⟨by omega, fun h => by omega⟩, fun x g0 g1 => absurd g1 (by omega), HZ.out, BW⟩
          case round =>
            obtain ⟨k, m, hk, rfl, rfl, hm0, hm1, HE, HP, HS⟩ := hrel
            clear HZ BW HA HW
            by_cases hlt : (k : Int) < days + 1
            · have HB2 : Hid (∀ W : World, Calls Tryd.prog 60 #[.int .i64 m] W fun e w' => e = .returned (.int .i64 ((m / 1440 + 1) * 1440)) ∧ w' = W) := fun W => HB.out m W (by omega) (by omega)
              have HF2 : Hid (Calls Tryd.prog 61 #[.agg (rulA r), .int .i64 m, .int .i64 ((m / 1440 + 1) * 1440)] wr fun x w' => ∃ o : Option Int, x = .returned (.tuple #[.int .i64 (o.getD 0), .bool o.isSome]) ∧ Least ff m ((m / 1440 + 1) * 1440) o ∧ Below wr.heap.size wr w') := HF.out m wr HS.out.2 (by omega) (by omega)
              obtain ⟨en, HEN⟩ : ∃ en, Hid ((m / 1440 + 1) * 1440 = en) := ⟨_, rfl⟩
              rw [HEN.out] at HB2 HF2
              have HEB : Hid (m < en ∧ en ≤ m + 1440 ∧ en / 1440 = m / 1440 + 1) := by have := HEN.out; exact ⟨by omega, by omega, by omega⟩
              go_wp2_with (first | (go_at_call 60; refine (HB2.out _).mono ?_; rintro e w3 ⟨rfl, hw3⟩; have hw4 := hw3.symm; subst hw4) | (refine wpr_load HS.out.1 (.tmp 8) rfl rfl rfl ?_))
              refine HF2.out.mono ?_
              rintro x w5 ⟨o, rfl, ho, hb5⟩
              have HS5 : Hid (Rb w5 w1.heap.size r ∧ Below w.heap.size w w5) := ⟨HS.out.1.up hb5, Below.on HS.out.2 hb5⟩
              have HO : Hid (Least ff m en o) := ho
              clear hb5 ho
              cases o with
              | some x =>
                have HN : Hid (PP (some x)) := by
                  have h1 := HO.out
                  have h2 := HEB.out
                  have h3 := HE.out.1
                  have h4 := HEN.out
                  exact HNS.out (fr / 1440 + k) x (by have := h1.1; omega) ⟨h1.2.2.1, fun y g0 g1 => by
                    by_cases hy : y < m
                    · exact HP.out y g0 hy
                    · exact h1.2.2.2 y (by omega) g1⟩ (by omega) (by have := h1.2.1; omega)
                simp only [Option.getD_some, Option.isSome_some]
                go_wp2
                go_ret2
                exact ⟨some x, rfl, HN.out, HS5.out.2⟩
              | none =>
                have HN : Hid (∀ x, fr ≤ x → x < en → ff x = false) := fun y g0 g1 => by
                  by_cases hy : y < m
                  · exact HP.out y g0 hy
                  · exact HO.out y (by omega) g1
                have HE2 : Hid (en / 1440 = fr / 1440 + ((k + 1 : Nat) : Int) ∧ (0 < k + 1 → en = (fr / 1440 + ((k + 1 : Nat) : Int)) * 1440)) := by
                  have h2 := HEB.out
                  have h3 := HE.out.1
                  have h4 := HEN.out
                  exact ⟨by omega, fun _ => by omega⟩
                have he0 := HEB.out.1
                have he2 : en ≤ 80000000 := by have := HE2.out.1; have := HE2.out.2 (by omega); omega
                simp only [Option.getD_none, Option.isSome_none]
                go_wp2
                go_roundw
                case rel => exact ⟨k + 1, en, by omega, by go_num, rfl, by omega, he2, HE2, HN, HS5.out⟩
                case measure => simp [intOf]; omega
            · have HN : Hid (PP none) := HNN.out (fr / 1440 + days + 1) (fun x g0 g1 => HP.out x g0 (by
                have h3 := HE.out
                rcases Nat.eq_zero_or_pos k with hk0 | hk0
                · omega
                · have := h3.2 hk0
                  omega)) (by omega)
              go_wp2
              go_ret2
              exact ⟨none, rfl, HN.out, HS.out.2⟩
    · have HI : Hid (∀ W, Calls Tryd.prog 59 #[.int .i64 fr] W fun e w' => e = .returned (.bool false) ∧ w' = W) := fun W => isMin_no hf
      have HN : Hid (NfP a b c d e fr days none) := nf_no fun h => hf h.2.1
      clear HG HQ hq HM hf
      obtain ⟨PP, HP⟩ : ∃ PP : Option Int → Prop, Hid (NfP a b c d e fr days = PP) := ⟨_, rfl⟩
      rw [HP.out] at HN
      rw [HP.out]
      clear HP
      generalize a.length = la at *
      generalize b.length = lb at *
      generalize c.length = lc at *
      generalize d.length = ld at *
      generalize e.length = le at *
      go_enter Tryd.func54, Tryd.ntmps54
      go_wp2_with fail
      refine (HR.out _ (ba (Below.refl _ _) _)).mono ?_
      rintro x w1 ⟨rfl, hb1⟩
      have B1 := below_new hb1
      clear hb1 HR
      have hz0 : w.heap.size ≤ w1.heap.size := B1.size
      have HA : Hid (Rb (w1.alloc (.cells (rulA fun _ _ => false) 90)) w1.heap.size (fun _ _ => false)) := Rb.new w1 _ 90 rfl
      obtain ⟨W, HW⟩ : ∃ W, Hid (((w1.alloc (.cells (rulA fun _ _ => false) 90)).setCells w1.heap.size 0 (rulA r).toList) = W) := ⟨_, rfl⟩
      have HZ : Hid (Rb W w1.heap.size r) := by show Rb _ _ _; rw [← HW.out]; exact HA.out.setAll r
      have BW : Below w.heap.size w W := by rw [← HW.out]; exact below_setCells hz0 _ _ _ (ba B1 _)
      clear B1
      go_wp2_with (first | (refine wpr_alloc rfl rfl ?_) | (refine wpr_store HA.out r (.tmp 8) (.tmp 17) rfl rfl rfl rfl ?_; rw [HW.out]) | (go_at_call 59; refine (HI.out _).mono ?_; rintro e w2 ⟨rfl, hw⟩; have hw2 := hw.symm; subst hw2))
      go_ret2
      exact ⟨none, rfl, HN.out, BW⟩
end Go.Proofs.YtbecdaholpiaeaaDoor
