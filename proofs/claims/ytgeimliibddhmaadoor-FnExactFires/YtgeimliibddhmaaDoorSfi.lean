/-
  Whether a rule fires at a minute, and how often it does, as the specification tells it: the walks.
-/
import Derived.Test.YtgeimliibddhmaaDoorCnf
import Derived.Test.YtgeimliibddhmaaDoorB5s
namespace Go.Proofs.YtgeimliibddhmaaDoor
open Go Go.RowKit
set_option linter.unusedVariables false

set_option maxRecDepth 10000 in
set_option maxHeartbeats 2000000 in
theorem specFires_any (va vb vc vd ve : Value) (a b c d e : List Int) (m : Int) (w : World) (h1 : Reads w va a) (h2 : Reads w vb b) (h3 : Reads w vc c) (h4 : Reads w vd d) (h5 : Reads w ve e)
    (n1 : a.length ≤ 1048577) (n2 : b.length ≤ 1048577) (n3 : c.length ≤ 1048577) (n4 : d.length ≤ 1048577) (n5 : e.length ≤ 1048577) :
    Calls Tryd.prog 33 #[.agg #[va, vb, vc, vd, ve], .int .i64 m] w fun x w' => x = .returned (.bool (cronB a b c d e && firesB a b c d e m)) ∧ Below w.heap.size w w' := by
  obtain ⟨ao, ac, rfl, _⟩ := id h1
  obtain ⟨bo, bc, rfl, _⟩ := id h2
  obtain ⟨co, cc, rfl, _⟩ := id h3
  obtain ⟨d0, dc, rfl, _⟩ := id h4
  obtain ⟨eo, ec, rfl, _⟩ := id h5
  have HOK : Hid (∀ W, Below w.heap.size w W → Calls Tryd.prog 21 #[.agg #[.slice ao a.length ac, .slice bo b.length bc, .slice co c.length cc, .slice d0 d.length dc, .slice eo e.length ec]] W fun x w' => x = .returned (.bool (cronB a b c d e)) ∧ Below W.heap.size W w') := fun W hb => cronOk_any _ _ _ _ _ a b c d e W (h1.below hb) (h2.below hb) (h3.below hb) (h4.below hb) (h5.below hb) n1 n2 n3 n4 n5
  have H1 : Hid (∀ (y : Int) (W : World), Below w.heap.size w W → Calls Tryd.prog 64 #[.slice ao a.length ac, .int .i64 y] W fun x w' => x = .returned (.bool (decide (y ∈ a))) ∧ w' = W) := fun y W hb => l10In_try ao _ ac a y W (h1.below hb) n1
  have H2 : Hid (∀ (y : Int) (W : World), Below w.heap.size w W → Calls Tryd.prog 64 #[.slice bo b.length bc, .int .i64 y] W fun x w' => x = .returned (.bool (decide (y ∈ b))) ∧ w' = W) := fun y W hb => l10In_try bo _ bc b y W (h2.below hb) n2
  have H3 : Hid (0 ≤ m ∧ m ≤ 68374079 → ∀ W, Below w.heap.size w W → Calls Tryd.prog 55 #[.agg #[.slice ao a.length ac, .slice bo b.length bc, .slice co c.length cc, .slice d0 d.length dc, .slice eo e.length ec], .int .i64 m] W fun x w' => x = .returned (.bool (dayF c d e m)) ∧ Below W.heap.size W w') := fun hm W hb => l10Day_any _ _ _ _ _ c d e m W (h3.below hb) (h4.below hb) (h5.below hb) n3 n4 n5 hm.1 hm.2
  clear h1 h2 h3 h4 h5 n1 n2 n3 n4 n5
  obtain ⟨qa, HA⟩ : ∃ q, Hid (decide (m % 60 ∈ a) = q) := ⟨_, rfl⟩
  obtain ⟨qb, HB⟩ : ∃ q, Hid (decide (m % 1440 / 60 ∈ b) = q) := ⟨_, rfl⟩
  obtain ⟨qd, HD⟩ : ∃ q, Hid (dayF c d e m = q) := ⟨_, rfl⟩
  have HF : Hid (0 ≤ m ∧ m ≤ 68374079 → firesB a b c d e m = (qa && (qb && qd))) := fun hm => by unfold firesB; rw [decide_eq_true hm, HA.out, HB.out, HD.out, Bool.true_and]
  have HF0 : Hid (¬ (0 ≤ m ∧ m ≤ 68374079) → firesB a b c d e m = false) := fun hm => fires_out hm
  have K1 : Hid (∀ (W : World), Below w.heap.size w W → Calls Tryd.prog 64 #[.slice ao a.length ac, .int .i64 (m % 60)] W fun x w' => x = .returned (.bool qa) ∧ w' = W) := fun W hb => by rw [← HA.out]; exact H1.out _ W hb
  have K2 : Hid (∀ (W : World), Below w.heap.size w W → Calls Tryd.prog 64 #[.slice bo b.length bc, .int .i64 (m % 1440 / 60)] W fun x w' => x = .returned (.bool qb) ∧ w' = W) := fun W hb => by rw [← HB.out]; exact H2.out _ W hb
  rw [HD.out] at H3
  clear HA HB HD H1 H2
  obtain ⟨q, hq⟩ : ∃ q, cronB a b c d e = q := ⟨_, rfl⟩
  obtain ⟨y, HY⟩ : ∃ y, Hid (firesB a b c d e m = y) := ⟨_, rfl⟩
  rw [hq] at HOK
  rw [HY.out] at HF HF0
  rw [hq, HY.out]
  clear hq HY
  generalize a.length = la at *
  generalize b.length = lb at *
  generalize c.length = lc at *
  generalize d.length = ld at *
  generalize e.length = le at *
  go_enter Tryd.func33, Tryd.ntmps33
  go_wp2_with fail
  refine (HOK.out _ (ba (Below.refl _ _) _)).mono ?_
  rintro x w1 ⟨rfl, hb1⟩
  have Z1 := (B5.new 26 w (.slice ao la ac) (.slice bo lb bc) (.slice co lc cc) (.slice d0 ld dc) (.slice eo le ec)).up hb1
  have B1 := below_new hb1
  clear hb1 HOK
  cases q with
  | false =>
    go_wp2
    go_ret
    exact ⟨rfl, B1⟩
  | true =>
    by_cases hm : 0 ≤ m ∧ m ≤ 68374079
    · have HI : Hid (∀ W, Calls Tryd.prog 54 #[.int .i64 m, .int .i64 0, .int .i64 68374079] W fun e w' => e = .returned (.bool true) ∧ w' = W) := fun W => in_yes hm.1 hm.2
      have HFF := HF.out hm
      have HDD : Hid (∀ W, Below w.heap.size w W → Calls Tryd.prog 55 #[.agg #[.slice ao la ac, .slice bo lb bc, .slice co lc cc, .slice d0 ld dc, .slice eo le ec], .int .i64 m] W fun x w' => x = .returned (.bool qd) ∧ Below W.heap.size W w') := H3.out hm
      obtain ⟨m0, m1⟩ := hm
      have c0 := Z1.c0
      have c1 := Z1.c1
      have c2 := Z1.c2
      have c3 := Z1.c3
      have c4 := Z1.c4
      clear HF HF0 H3
      go_wp2_with (go_at_call 54; refine (HI.out _).mono ?_; rintro e w2 ⟨rfl, hw⟩; have hw2 := hw.symm; subst hw2)
      refine (K1.out _ B1).mono ?_
      rintro x w3 ⟨rfl, hw3⟩
      have hw4 := hw3.symm
      subst hw4
      cases qa with
      | false =>
        go_wp2
        go_ret
        exact ⟨by rw [HFF]; rfl, B1⟩
      | true =>
        go_wp2_with fail
        refine (K2.out _ B1).mono ?_
        rintro x w5 ⟨rfl, hw5⟩
        have hw6 := hw5.symm
        subst hw6
        cases qb with
        | false =>
          go_wp2
          go_ret
          exact ⟨by rw [HFF]; rfl, B1⟩
        | true =>
          go_wp2_with fail
          refine (HDD.out _ B1).mono ?_
          rintro x w7 ⟨rfl, hb7⟩
          have B7 := Below.on B1 hb7
          clear hb7
          go_wp2
          go_ret
          exact ⟨by rw [HFF]; rfl, B7⟩
    · have HI : Hid (∀ W, Calls Tryd.prog 54 #[.int .i64 m, .int .i64 0, .int .i64 68374079] W fun e w' => e = .returned (.bool false) ∧ w' = W) := fun W => in_no hm
      have HFF := HF0.out hm
      clear HF HF0 H3 hm
      go_wp2_with (go_at_call 54; refine (HI.out _).mono ?_; rintro e w2 ⟨rfl, hw⟩; have hw2 := hw.symm; subst hw2)
      go_ret
      exact ⟨by rw [HFF]; rfl, B1⟩

set_option maxRecDepth 10000 in
set_option maxHeartbeats 4000000 in
theorem specCount_any (va vb vc vd ve : Value) (a b c d e : List Int) (fr up : Int) (w : World) (h1 : Reads w va a) (h2 : Reads w vb b) (h3 : Reads w vc c) (h4 : Reads w vd d) (h5 : Reads w ve e)
    (n1 : a.length ≤ 1048577) (n2 : b.length ≤ 1048577) (n3 : c.length ≤ 1048577) (n4 : d.length ≤ 1048577) (n5 : e.length ≤ 1048577) :
    Calls Tryd.prog 27 #[.agg #[va, vb, vc, vd, ve], .int .i64 fr, .int .i64 up] w fun x w' => x = .returned (.int .i64 (countR a b c d e fr up)) ∧ Below w.heap.size w w' := by
  obtain ⟨ao, ac, rfl, _⟩ := id h1
  obtain ⟨bo, bc, rfl, _⟩ := id h2
  obtain ⟨co, cc, rfl, _⟩ := id h3
  obtain ⟨d0, dc, rfl, _⟩ := id h4
  obtain ⟨eo, ec, rfl, _⟩ := id h5
  have HOK : Hid (∀ W, Below w.heap.size w W → Calls Tryd.prog 21 #[.agg #[.slice ao a.length ac, .slice bo b.length bc, .slice co c.length cc, .slice d0 d.length dc, .slice eo e.length ec]] W fun x w' => x = .returned (.bool (cronB a b c d e)) ∧ Below W.heap.size W w') := fun W hb => cronOk_any _ _ _ _ _ a b c d e W (h1.below hb) (h2.below hb) (h3.below hb) (h4.below hb) (h5.below hb) n1 n2 n3 n4 n5
  have HNF : Hid (∀ (m : Int) (W : World), Below w.heap.size w W → Calls Tryd.prog 24 #[.agg #[.slice ao a.length ac, .slice bo b.length bc, .slice co c.length cc, .slice d0 d.length dc, .slice eo e.length ec], .int .i64 m, .int .i64 20] W fun x w' => ∃ o : Option Int, x = .returned (.tuple #[.int .i64 (o.getD 0), .bool o.isSome]) ∧ NfP a b c d e m 20 o ∧ Below W.heap.size W w') := fun m W hb => nextFire_any _ _ _ _ _ a b c d e m 20 W (h1.below hb) (h2.below hb) (h3.below hb) (h4.below hb) (h5.below hb) n1 n2 n3 n4 n5
  clear h1 h2 h3 h4 h5 n1 n2 n3 n4 n5
  by_cases hf : 0 ≤ fr ∧ fr ≤ 68374079
  · have HI : Hid (∀ W, Calls Tryd.prog 54 #[.int .i64 fr, .int .i64 0, .int .i64 68374079] W fun e w' => e = .returned (.bool true) ∧ w' = W) := fun W => in_yes hf.1 hf.2
    by_cases hu : 0 ≤ up ∧ up ≤ 68374079
    · have HJ : Hid (∀ W, Calls Tryd.prog 54 #[.int .i64 up, .int .i64 0, .int .i64 68374079] W fun e w' => e = .returned (.bool true) ∧ w' = W) := fun W => in_yes hu.1 hu.2
      obtain ⟨f0, f1⟩ := hf
      obtain ⟨u0, u1⟩ := hu
      by_cases hd : 20000 < up - fr
      · have HN : Hid (countR a b c d e fr up = 0) := countR_no fun h => by omega
        clear HOK HNF
        obtain ⟨RES, HP⟩ : ∃ x : Int, Hid (countR a b c d e fr up = x) := ⟨_, rfl⟩
        rw [HP.out] at HN
        rw [HP.out]
        clear HP
        generalize a.length = la at *
        generalize b.length = lb at *
        generalize c.length = lc at *
        generalize d.length = ld at *
        generalize e.length = le at *
        go_enter Tryd.func27, Tryd.ntmps27
        go_wp2_with (go_at_call 54; first | (with_reducible refine Calls.mono (HI.out _) ?_; rintro e w2 ⟨rfl, hw⟩; have hw2 := hw.symm; subst hw2) | (with_reducible refine Calls.mono (HJ.out _) ?_; rintro e w2 ⟨rfl, hw⟩; have hw2 := hw.symm; subst hw2))
        go_ret
        exact ⟨by rw [HN.out]; rfl, ba (Below.refl _ _) _⟩
      · cases hq : cronB a b c d e with
        | false =>
          rw [hq] at HOK
          have HN : Hid (countR a b c d e fr up = 0) := countR_no fun h => by rw [hq] at h; cases h.1
          clear HNF hq
          obtain ⟨RES, HP⟩ : ∃ x : Int, Hid (countR a b c d e fr up = x) := ⟨_, rfl⟩
          rw [HP.out] at HN
          rw [HP.out]
          clear HP
          generalize a.length = la at *
          generalize b.length = lb at *
          generalize c.length = lc at *
          generalize d.length = ld at *
          generalize e.length = le at *
          go_enter Tryd.func27, Tryd.ntmps27
          go_wp2_with (go_at_call 54; first | (with_reducible refine Calls.mono (HI.out _) ?_; rintro e w2 ⟨rfl, hw⟩; have hw2 := hw.symm; subst hw2) | (with_reducible refine Calls.mono (HJ.out _) ?_; rintro e w2 ⟨rfl, hw⟩; have hw2 := hw.symm; subst hw2))
          refine (HOK.out _ (ba (Below.refl _ _) _)).mono ?_
          rintro x w1 ⟨rfl, hb1⟩
          have B1 := below_new hb1
          clear hb1 HOK
          go_wp2
          go_ret
          exact ⟨by rw [HN.out]; rfl, B1⟩
        | true =>
          rw [hq] at HOK
          have HN : Hid (countR a b c d e fr up = (countN (firesB a b c d e) fr (up - fr).toNat : Int)) := countR_yes ⟨hq, ⟨f0, f1⟩, ⟨u0, u1⟩, by omega⟩
          have HLE : Hid (∀ m o, 0 ≤ m → fr ≤ m → m < up → NfP a b c d e m 20 o → Least (firesB a b c d e) m (endN m 20) o ∧ up ≤ endN m 20) := fun m o g0 g1 g2 h => by
            unfold NfP at h
            rw [if_pos ⟨hq, ⟨g0, by omega⟩, by decide⟩] at h
            refine ⟨h, ?_⟩
            unfold endN
            rw [if_neg (show ¬ (3000 : Int) < 20 by decide)]
            split <;> omega
          clear hq
          obtain ⟨RES, HPP⟩ : ∃ x : Int, Hid (countR a b c d e fr up = x) := ⟨_, rfl⟩
          rw [HPP.out] at HN
          rw [HPP.out]
          clear HPP
          obtain ⟨ff, HFF⟩ : ∃ ff : Int → Bool, Hid (firesB a b c d e = ff) := ⟨_, rfl⟩
          obtain ⟨NF, HNP⟩ : ∃ NF : Int → Option Int → Prop, Hid ((fun m o => NfP a b c d e m 20 o) = NF) := ⟨_, rfl⟩
          have HNF2 : Hid (∀ (m : Int) (W : World), Below w.heap.size w W → Calls Tryd.prog 24 #[.agg #[.slice ao a.length ac, .slice bo b.length bc, .slice co c.length cc, .slice d0 d.length dc, .slice eo e.length ec], .int .i64 m, .int .i64 20] W fun x w' => ∃ o : Option Int, x = .returned (.tuple #[.int .i64 (o.getD 0), .bool o.isSome]) ∧ NF m o ∧ Below W.heap.size W w') := fun m W hb => by rw [← HNP.out]; exact HNF.out m W hb
          have HLE2 : Hid (∀ m o, 0 ≤ m → fr ≤ m → m < up → NF m o → Least ff m (endN m 20) o ∧ up ≤ endN m 20) := fun m o g0 g1 g2 h => by rw [← HNP.out] at h; rw [← HFF.out]; exact HLE.out m o g0 g1 g2 h
          rw [HFF.out] at HN
          clear HFF HNP HNF HLE
          generalize a.length = la at *
          generalize b.length = lb at *
          generalize c.length = lc at *
          generalize d.length = ld at *
          generalize e.length = le at *
          go_enter Tryd.func27, Tryd.ntmps27
          go_wp2_with (go_at_call 54; first | (with_reducible refine Calls.mono (HI.out _) ?_; rintro e w2 ⟨rfl, hw⟩; have hw2 := hw.symm; subst hw2) | (with_reducible refine Calls.mono (HJ.out _) ?_; rintro e w2 ⟨rfl, hw⟩; have hw2 := hw.symm; subst hw2))
          refine (HOK.out _ (ba (Below.refl _ _) _)).mono ?_
          rintro x w1 ⟨rfl, hb1⟩
          have HZ : Hid (B5 26 w1 w.heap.size (.slice ao la ac) (.slice bo lb bc) (.slice co lc cc) (.slice d0 ld dc) (.slice eo le ec)) := (B5.new 26 w (.slice ao la ac) (.slice bo lb bc) (.slice co lc cc) (.slice d0 ld dc) (.slice eo le ec)).up hb1
          have B1 := below_new hb1
          clear hb1 HOK
          go_wp2
          go_loopw [7, 8] (fun ct at' wr => ∃ (m : Int) (k : Nat), fr ≤ m ∧ (m ≤ up ∨ m = fr) ∧ at' = .int .i64 m ∧ ct = .int .i64 k ∧ (k : Int) ≤ m - fr ∧ Hid (countN ff fr (m - fr).toNat = k) ∧ Hid (B5 26 wr w.heap.size (.slice ao la ac) (.slice bo lb bc) (.slice co lc cc) (.slice d0 ld dc) (.slice eo le ec) ∧ Below w.heap.size w wr)) (fun _ at' _ => (up - intOf at').toNat)
          case atStart => exact ⟨fr, 0, Int.le_refl _, .inr rfl, rfl, rfl, by omega, by show _ = _; rw [show (fr - fr).toNat = 0 by omega]; rfl, HZ.out, B1⟩
          case round =>
            obtain ⟨m, k, hm0, hm1, rfl, rfl, hk, HP, HS⟩ := hrel
            clear HZ B1
            by_cases hlt : m < up
            · have c0 := HS.out.1.c0
              have c1 := HS.out.1.c1
              have c2 := HS.out.1.c2
              have c3 := HS.out.1.c3
              have c4 := HS.out.1.c4
              go_wp2_with fail
              refine (HNF2.out m _ HS.out.2).mono ?_
              rintro x w5 ⟨o, rfl, ho, hb5⟩
              have HS5 : Hid (B5 26 w5 w.heap.size (.slice ao la ac) (.slice bo lb bc) (.slice co lc cc) (.slice d0 ld dc) (.slice eo le ec) ∧ Below w.heap.size w w5) := ⟨HS.out.1.up hb5, Below.on HS.out.2 hb5⟩
              have HO : Hid (Least ff m (endN m 20) o ∧ up ≤ endN m 20) := HLE2.out m o (by omega) hm0 hlt ho
              clear hb5 ho c0 c1 c2 c3 c4
              cases o with
              | none =>
                have HE : Hid (RES = (k : Int)) := by
                  show _ = _
                  rw [HN.out, ← HP.out]
                  have := countN_idle (f := ff) (a := fr) (i := (m - fr).toNat) (up - m).toNat (fun x g0 g1 => HO.out.1 x (by omega) (by have := HO.out.2; omega))
                  rw [← this, show (m - fr).toNat + (up - m).toNat = (up - fr).toNat by omega]
                simp only [Option.getD_none, Option.isSome_none]
                go_wp2
                go_ret
                exact ⟨by rw [HE.out]; rfl, HS5.out.2⟩
              | some x =>
                have hx0 : m ≤ x := HO.out.1.1
                simp only [Option.getD_some, Option.isSome_some]
                by_cases hxu : up ≤ x
                · have HE : Hid (RES = (k : Int)) := by
                    show _ = _
                    rw [HN.out, ← HP.out]
                    have := countN_idle (f := ff) (a := fr) (i := (m - fr).toNat) (up - m).toNat (fun y g0 g1 => HO.out.1.2.2.2 y (by omega) (by omega))
                    rw [← this, show (m - fr).toNat + (up - m).toNat = (up - fr).toNat by omega]
                  go_wp2
                  go_ret
                  exact ⟨by rw [HE.out]; rfl, HS5.out.2⟩
                · have HE : Hid (countN ff fr (x + 1 - fr).toNat = k + 1) := by
                    show _ = _
                    have := countN_one (f := ff) (a := fr) (i := (m - fr).toNat) (k := (x - m).toNat) (fun y g0 g1 => HO.out.1.2.2.2 y (by omega) (by omega)) (by rw [show fr + ((m - fr).toNat : Int) + ((x - m).toNat : Int) = x by omega]; exact HO.out.1.2.2.1)
                    rw [show (x + 1 - fr).toNat = (m - fr).toNat + (x - m).toNat + 1 by omega, this, HP.out]
                  go_wp2
                  go_roundw
                  case rel => exact ⟨x + 1, k + 1, by omega, .inl (by omega), by go_num, by go_num, by omega, HE, HS5⟩
                  case measure => simp [intOf]; omega
            · have HE : Hid (RES = (k : Int)) := by
                show _ = _
                rw [HN.out, ← HP.out]
                rw [show (m - fr).toNat = (up - fr).toNat by omega]
              go_wp2
              go_ret
              exact ⟨by rw [HE.out]; rfl, HS.out.2⟩
    · have HJ : Hid (∀ W, Calls Tryd.prog 54 #[.int .i64 up, .int .i64 0, .int .i64 68374079] W fun e w' => e = .returned (.bool false) ∧ w' = W) := fun W => in_no hu
      have HN : Hid (countR a b c d e fr up = 0) := countR_no fun h => hu h.2.2.1
      clear HOK HNF
      obtain ⟨RES, HP⟩ : ∃ x : Int, Hid (countR a b c d e fr up = x) := ⟨_, rfl⟩
      rw [HP.out] at HN
      rw [HP.out]
      clear HP
      generalize a.length = la at *
      generalize b.length = lb at *
      generalize c.length = lc at *
      generalize d.length = ld at *
      generalize e.length = le at *
      go_enter Tryd.func27, Tryd.ntmps27
      go_wp2_with (go_at_call 54; first | (with_reducible refine Calls.mono (HI.out _) ?_; rintro e w2 ⟨rfl, hw⟩; have hw2 := hw.symm; subst hw2) | (with_reducible refine Calls.mono (HJ.out _) ?_; rintro e w2 ⟨rfl, hw⟩; have hw2 := hw.symm; subst hw2))
      go_ret
      exact ⟨by rw [HN.out]; rfl, ba (Below.refl _ _) _⟩
  · have HI : Hid (∀ W, Calls Tryd.prog 54 #[.int .i64 fr, .int .i64 0, .int .i64 68374079] W fun e w' => e = .returned (.bool false) ∧ w' = W) := fun W => in_no hf
    have HN : Hid (countR a b c d e fr up = 0) := countR_no fun h => hf h.2.1
    clear HOK HNF
    obtain ⟨RES, HP⟩ : ∃ x : Int, Hid (countR a b c d e fr up = x) := ⟨_, rfl⟩
    rw [HP.out] at HN
    rw [HP.out]
    clear HP
    generalize a.length = la at *
    generalize b.length = lb at *
    generalize c.length = lc at *
    generalize d.length = ld at *
    generalize e.length = le at *
    go_enter Tryd.func27, Tryd.ntmps27
    go_wp2_with (go_at_call 54; (with_reducible refine Calls.mono (HI.out _) ?_); rintro e w2 ⟨rfl, hw⟩; have hw2 := hw.symm; subst hw2)
    go_ret
    exact ⟨by rw [HN.out]; rfl, ba (Below.refl _ _) _⟩
end Go.Proofs.YtgeimliibddhmaaDoor
