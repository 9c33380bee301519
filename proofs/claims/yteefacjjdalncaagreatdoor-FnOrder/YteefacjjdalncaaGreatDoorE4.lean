/-
  The law on a drawn plan's order: the walk.
-/
import Derived.Test.YteefacjjdalncaaGreatDoorE1
import Derived.Test.YteefacjjdalncaaGreatDoorE3
namespace Go.Proofs.YteefacjjdalncaaGreatDoor
open Go Go.RowKit
set_option linter.unusedVariables false

set_option maxRecDepth 10000 in
set_option maxHeartbeats 4000000 in
theorem law_FnOrder (v : Value) (n : Nat) (w : World) (hn : n ≤ 9223372036854775807) (hc : CodeAt w w.heap.size v n) (hg : Gl w) :
    Calls Tryz.prog 5 #[v] w fun e w' => e = .returned (.bool true) ∧ Below w.heap.size w w' := by
  have HC : Hid (CodeAt w w.heap.size v n) := hc
  have HG : Hid (∀ W, Below w.heap.size w W → Gl W) := fun W hb => hg.up hb
  obtain ⟨va, cap, rfl, -⟩ := hc
  clear hg
  by_cases hbig : 1048576 < n
  · have HB : Hid (∀ w, Calls Tryz.prog 11 #[.slice va n cap] w fun e w' => e = .returned (.bool true) ∧ w' = w) := by
      intro w; have := big_any va n cap w hn; rwa [decide_eq_true hbig] at this
    go_enter Tryz.func5, Tryz.ntmps5
    go_wp2_with (go_at_call 11; refine (HB.out _).mono ?_; rintro e w1 ⟨rfl, hw⟩; have hw2 := hw.symm; subst hw2)
    go_ret
    exact ⟨rfl, Below.refl _ _⟩
  · have HB : Hid (∀ w, Calls Tryz.prog 11 #[.slice va n cap] w fun e w' => e = .returned (.bool false) ∧ w' = w) := by
      intro w; have := big_any va n cap w hn; rwa [decide_eq_false hbig] at this
    have HN : Hid (n ≤ 1048576) := by show n ≤ 1048576; omega
    go_enter Tryz.func5, Tryz.ntmps5
    go_wp2_with fail
    refine (HB.out _).mono ?_
    rintro e w1 ⟨rfl, hw⟩
    have hw2 := hw.symm
    subst hw2
    go_wp2_with fail
    refine (drawDag_any _ n _ HN.out HC.out).mono ?_
    rintro x w2 ⟨nm, cr, fr, up, cu, tv, ts, rfl, ht, hok, hsm, h1, h4, hnm, hcr, hf0, hu0, hu1, hroom, hnm1, B2⟩
    obtain ⟨ta, tc, etv⟩ := ht.slice
    subst etv
    obtain ⟨tn, HTN⟩ : ∃ tn, Hid (ts.length = tn) := ⟨_, rfl⟩
    have hrm := hroom _ _ _ rfl
    rw [HTN.out] at ht h1 h4 hrm
    rw [HTN.out]
    have HDI : Hid (∀ W, Below w2.heap.size w2 W → DagI W ta tn tc ⟨nm, cr, fr, up, cu, ts⟩) := fun W hb => ⟨ht.below hb, hrm, by omega, fun t ht => ⟨by have := (hsm t ht).1; omega, by have := (hsm t ht).2.1; omega, fun s hs => by have := (hsm t ht).2.2.2.2 s hs; omega⟩, by show cr.size ≤ _; omega, by show nm.size ≤ _; omega⟩
    have HDA : Hid (∀ W, Below w2.heap.size w2 W → DagAt W (.slice ta tn tc) ⟨nm, cr, fr, up, cu, ts⟩) := fun W hb => ⟨ht.below hb, by show ts.length ≤ _; rw [HTN.out]; omega, fun t ht => ⟨by have := (hsm t ht).1; omega, by have := (hsm t ht).2.1; omega⟩, by show cr.size ≤ _; omega, by show nm.size ≤ _; omega⟩
    have HG2 : Hid (∀ W, Below w2.heap.size w2 W → Gl W) := fun W hb => HG.out W (Below.on B2 hb)
    have HOK : Hid (dagB ⟨nm, cr, fr, up, cu, ts⟩ = true) := hok
    obtain ⟨O, HOO⟩ : ∃ O, Hid (ordC ⟨nm, cr, fr, up, cu, ts⟩ = O) := ⟨_, rfl⟩
    have HOL : Hid (O.length = tn) := by show O.length = tn; rw [← HOO.out, fo_len hok]; exact HTN.out
    have HO1 : Hid (∀ W, Below w2.heap.size w2 W → Calls Tryz.prog 27 #[.agg #[.string nm, .string cr, .int .i64 fr, .int .i64 up, .bool cu, .slice ta tn tc]] W fun e w' => ∃ v, e = .returned v ∧ ownsR w' W.heap.size 3 v O ∧ Below W.heap.size W w') := fun W hb => by
      rw [← HOO.out]; exact implOrder_any ta tn tc nm cr fr up cu ts W (HDI.out W hb) (HG2.out W hb)
    have HO2 : Hid (∀ W, Below w2.heap.size w2 W → Calls Tryz.prog 29 #[.agg #[.string nm, .string cr, .int .i64 fr, .int .i64 up, .bool cu, .slice ta tn tc]] W fun e w' => ∃ v, e = .returned v ∧ ownsR w' W.heap.size 3 v O ∧ Below W.heap.size W w') := fun W hb => by
      rw [← HOO.out]; exact specOrder_any ta tn tc nm cr fr up cu ts W (HDA.out W hb)
    have HUP : Hid (∀ (i : Int) W, Below w2.heap.size w2 W → Calls Tryz.prog 30 #[.agg #[.string nm, .string cr, .int .i64 fr, .int .i64 up, .bool cu, .slice ta tn tc], .int .i64 i] W fun e w' => ∃ v, e = .returned v ∧ ownsR w' W.heap.size 3 v (upsD ⟨nm, cr, fr, up, cu, ts⟩ i) ∧ Below W.heap.size W w') := fun i W hb => implUps_any ta tn tc nm cr fr up cu ts i W (HDI.out W hb) (HG2.out W hb)
    have HDN : Hid (∀ (i : Int) W, Below w2.heap.size w2 W → Calls Tryz.prog 32 #[.agg #[.string nm, .string cr, .int .i64 fr, .int .i64 up, .bool cu, .slice ta tn tc], .int .i64 i] W fun e w' => ∃ v, e = .returned v ∧ ownsR w' W.heap.size 3 v (dnD ⟨nm, cr, fr, up, cu, ts⟩ i) ∧ Below W.heap.size W w') := fun i W hb => implDown_any ta tn tc nm cr fr up cu ts i W (HDI.out W hb) (HG2.out W hb)
    have HTA : Hid (∀ (k : Nat) (t : Ta) W, ts[k]? = some t → Below w2.heap.size w2 W → Calls Tryz.prog 33 #[.agg #[.string nm, .string cr, .int .i64 fr, .int .i64 up, .bool cu, .slice ta tn tc], .string t.name] W fun e w' => e = .returned (.int .i64 (k : Int)) ∧ Below W.heap.size W w') := fun k t W hk hb => by
      have := implTaskAt_any ta tn tc nm cr fr up cu ts t.name W (HDI.out W hb).tasks (by omega)
      rw [(rg_of hok).own k t hk] at this
      exact this
    have HTX : Hid (∀ W, Below w2.heap.size w2 W → Calls Tryz.prog 33 #[.agg #[.string nm, .string cr, .int .i64 fr, .int .i64 up, .bool cu, .slice ta tn tc], .string ⟨#[110, 111, 110, 101]⟩] W fun e w' => e = .returned (.int .i64 (-1)) ∧ Below W.heap.size W w') := fun W hb => by
      have := implTaskAt_any ta tn tc nm cr fr up cu ts ⟨#[110, 111, 110, 101]⟩ W (HDI.out W hb).tasks (by omega)
      rw [fo_noname hnm1 (by decide)] at this
      exact this
    have HUX : Hid (∀ W, Below w2.heap.size w2 W → Calls Tryz.prog 30 #[.agg #[.string nm, .string cr, .int .i64 fr, .int .i64 up, .bool cu, .slice ta tn tc], .int .i64 9] W fun e w' => ∃ a c, e = .returned (.slice a 0 c) ∧ Below W.heap.size W w') := fun W hb => by
      refine (HUP.out 9 W hb).mono ?_
      rintro x w' ⟨v, rfl, ho, hb⟩
      rw [fo_none hok] at ho
      obtain ⟨a, c, rfl⟩ := ho.slice
      exact ⟨a, c, rfl, hb⟩
    obtain ⟨H, HHE⟩ : ∃ H, Hid (hpL ts O = H) := ⟨_, rfl⟩
    have hfh := fo_height hok
    rw [HOO.out] at hfh
    have hH1 : 1 ≤ H := by have := hfh.1; rw [← HHE.out]; exact this
    have hH2 : H ≤ (tn : Int) := by have := hfh.2.1; rw [← HHE.out, ← HTN.out]; exact this
    have HHI : Hid (∀ W, Below w2.heap.size w2 W → Calls Tryz.prog 34 #[.agg #[.string nm, .string cr, .int .i64 fr, .int .i64 up, .bool cu, .slice ta tn tc]] W fun e w' => e = .returned (.int .i64 H) ∧ Below W.heap.size W w') := fun W hb => by
      have := implHeight_any ta tn tc nm cr fr up cu ts W (HDI.out W hb) (HG2.out W hb)
      rw [HOO.out, HHE.out] at this
      exact this
    have HHS : Hid (∀ W, Below w2.heap.size w2 W → Calls Tryz.prog 35 #[.agg #[.string nm, .string cr, .int .i64 fr, .int .i64 up, .bool cu, .slice ta tn tc]] W fun e w' => e = .returned (.int .i64 H) ∧ Below W.heap.size W w') := fun W hb => by
      have := specHeight_any ta tn tc nm cr fr up cu ts W (HDA.out W hb)
      rw [HOO.out, ← hfh.2.2] at this
      rw [← HHE.out]
      exact this
    have HPT : Hid (∀ (k : Nat) (a : Int), O[k]? = some a → (∀ u ∈ upsD ⟨nm, cr, fr, up, cu, ts⟩ a, u ∈ O.take k ∧ a ∈ dnD ⟨nm, cr, fr, up, cu, ts⟩ u) ∧ ∀ x ∈ dnD ⟨nm, cr, fr, up, cu, ts⟩ a, x ∉ O.take (k + 1)) := fun k a hk => by
      rw [← HOO.out] at hk ⊢; exact fo_at hok hk
    have HUF : Hid (∀ i, (upsD ⟨nm, cr, fr, up, cu, ts⟩ i).length ≤ 4) := fun i => ups_few hok i
    have HTS : Hid (∀ W, Below w2.heap.size w2 W → Tasks W (.slice ta tn tc) ts) := fun W hb => (HDI.out W hb).tasks
    have HW2 : Hid (Below w.heap.size w w2) := B2
    generalize hd : (Dg.mk nm cr fr up cu ts) = dd at *
    clear ht hok hsm hnm hcr hf0 hu0 hu1 hroom hrm hnm1 B2 HDI HDA HG2 HG HC HB HN hfh HHE HOO HOK hd
    go_wp2_with fail
    refine (HO1.out _ (ba (Below.refl _ _) _)).mono ?_
    rintro x w3 ⟨ov, rfl, ho3, hb3⟩
    have Z3 := (P6.new w2 nm cr fr up cu (.slice ta tn tc)).on hb3
    have B3 := below_new hb3
    obtain ⟨oa, oc, eo, hoc⟩ := ho3.cap
    subst eo
    rw [HOL.out] at ho3 hoc
    rw [HOL.out]
    have HO3 : Hid (Reads w3 (.slice oa tn oc) O) := ho3.reads
    clear ho3 hb3 HO1
    have c0 := Z3.c0
    have c1 := Z3.c1
    have c2 := Z3.c2
    have c3 := Z3.c3
    have c4 := Z3.c4
    have c5 := Z3.c5
    go_wp2_with fail
    refine (HO2.out _ B3).mono ?_
    rintro x w4 ⟨ov2, rfl, ho4, hb4⟩
    obtain ⟨pa, pc, ep, -⟩ := ho4.cap
    subst ep
    rw [HOL.out] at ho4
    rw [HOL.out]
    have HO4 : Hid (Reads w4 (.slice oa tn oc) O ∧ Reads w4 (.slice pa tn pc) O) := ⟨HO3.out.below hb4, ho4.reads⟩
    have Z4 := Z3.on hb4
    have B4 := Below.on B3 hb4
    clear ho4 hb4 HO2 Z3 B3 HO3 c0 c1 c2 c3 c4 c5
    go_wp2_with fail
    refine (sameInts_any _ _ _ _ _ O _ HO4.out.1 HO4.out.2 (by omega)).mono ?_
    rintro x w5 ⟨rfl, hb5⟩
    have HS5 : Hid (FoP w2 w2.heap.size nm cr fr up cu (.slice ta tn tc) (.slice oa tn oc) O w5) := ⟨Below.on B4 hb5, Z4.on hb5, HO4.out.1.below hb5⟩
    clear Z4 B4 hb5 HO4
    go_wp2
    go_loopw [5] (fun kv wr => ∃ k : Nat, k ≤ tn ∧ kv = .int .i64 k ∧ Hid (FoP w2 w2.heap.size nm cr fr up cu (.slice ta tn tc) (.slice oa tn oc) O wr)) (fun kv _ => tn - (intOf kv).toNat)
    case atStart => exact ⟨0, Nat.zero_le _, rfl, HS5⟩
    case round =>
      clear HS5
      obtain ⟨k, hk, rfl, HS⟩ := hrel
      by_cases hlt : k < tn
      · obtain ⟨a, ha⟩ : ∃ a, O[k]? = some a := ⟨_, List.getElem?_eq_getElem (by rw [HOL.out]; exact hlt)⟩
        obtain ⟨ob, oo, eoa, hob, ca⟩ := int_at HS.out.ord ha
        subst eoa
        have HPK : Hid ((∀ u ∈ upsD dd a, u ∈ O.take k ∧ a ∈ dnD dd u) ∧ ∀ x ∈ dnD dd a, x ∉ O.take (k + 1)) := HPT.out k a ha
        have HAK : Hid (O[k]? = some a) := ha
        obtain ⟨U, HUU⟩ : ∃ U, Hid (upsD dd a = U) := ⟨_, rfl⟩
        have HUL : Hid (U.length ≤ 4) := by show U.length ≤ 4; rw [← HUU.out]; exact HUF.out a
        have BR := HS.out.bel
        have K0 := Below.cellOf (B := wr.heap.size) (W := wr) (p := ⟨w2.heap.size, 0, none⟩) HS.out.dag.lt HS.out.dag.c0
        have K1 := Below.cellOf (B := wr.heap.size) (W := wr) (p := ⟨w2.heap.size, 1, none⟩) HS.out.dag.lt HS.out.dag.c1
        have K2 := Below.cellOf (B := wr.heap.size) (W := wr) (p := ⟨w2.heap.size, 2, none⟩) HS.out.dag.lt HS.out.dag.c2
        have K3 := Below.cellOf (B := wr.heap.size) (W := wr) (p := ⟨w2.heap.size, 3, none⟩) HS.out.dag.lt HS.out.dag.c3
        have K4 := Below.cellOf (B := wr.heap.size) (W := wr) (p := ⟨w2.heap.size, 4, none⟩) HS.out.dag.lt HS.out.dag.c4
        have K5 := Below.cellOf (B := wr.heap.size) (W := wr) (p := ⟨w2.heap.size, 5, none⟩) HS.out.dag.lt HS.out.dag.c5
        have KA := Below.cellOf (B := wr.heap.size) (W := wr) (p := ⟨ob, oo + k, none⟩) hob ca
        clear ha ca
        go_wp2_with fail
        go_region_held3 (fun w' => Below wr.heap.size wr w') ((first | exact (Below.refl _ _).drew | exact hS6)) ((go_at_call 30; refine (HUP.out a _ (Below.on BR (by assumption))).mono ?_; rintro x w6 ⟨uv, rfl, hu6, hb6⟩; have hS6 := keep_on (B := wr.heap.size) (W := wr) hb6 (by assumption) (Nat.le_refl _)))
        have HS6 : Hid (FoP w2 w2.heap.size nm cr fr up cu (.slice ta tn tc) (.slice (some ⟨ob, oo, none⟩) tn oc) O w6) := HS.out.on hS6
        rw [HUU.out] at hu6
        obtain ⟨ua, uc, eu⟩ := hu6.slice
        subst eu
        obtain ⟨ul, HULE⟩ : ∃ ul, Hid (U.length = ul) := ⟨_, rfl⟩
        have hul : ul ≤ 4 := by rw [← HULE.out]; exact HUL.out
        rw [HULE.out] at hu6
        rw [HULE.out]
        have HU6 : Hid (Reads w6 (.slice ua ul uc) U) := hu6.reads
        clear hu6 hb6 hS6 K0 K1 K2 K3 K4 K5 KA HS BR hob
        go_wp2
        go_loopw [7] (fun jv wz => ∃ j : Nat, j ≤ ul ∧ jv = .int .i64 j ∧ Hid (FoP w2 w2.heap.size nm cr fr up cu (.slice ta tn tc) (.slice (some ⟨ob, oo, none⟩) tn oc) O wz) ∧ Hid (Reads wz (.slice ua ul uc) U)) (fun jv _ => ul - (intOf jv).toNat)
        case atStart => exact ⟨0, Nat.zero_le _, rfl, HS6, HU6⟩
        case round =>
          clear HS6 HU6
          obtain ⟨j, hj, rfl, HS, HU⟩ := hrel
          by_cases hjl : j < ul
          · obtain ⟨u, hu⟩ : ∃ u, U[j]? = some u := ⟨_, List.getElem?_eq_getElem (by rw [HULE.out]; exact hjl)⟩
            obtain ⟨ub, uo, eua, hub, cu1⟩ := int_at HU.out hu
            subst eua
            have HM : Hid (u ∈ O.take k ∧ a ∈ dnD dd u) := HPK.out.1 u (by rw [HUU.out]; exact List.mem_of_getElem? hu)
            have HI1 : Hid (∀ W, Below wr.heap.size wr W → Calls Tryz.prog 31 #[.slice (some ⟨ob, oo, none⟩) k oc, .int .i64 u] W fun e w' => e = .returned (.bool true) ∧ Below W.heap.size W w') := fun W hb => by
              have := lawIn_try (some ⟨ob, oo, none⟩) k oc (O.take k) u W ((HS.out.ord.below hb).take k hk oc) (by omega)
              rw [decide_eq_true HM.out.1] at this
              exact this.mono fun e w' h => ⟨h.1, by rw [h.2]; exact Below.refl _ _⟩
            have HDU : Hid (∀ W, Below w2.heap.size w2 W → Calls Tryz.prog 32 #[.agg #[.string nm, .string cr, .int .i64 fr, .int .i64 up, .bool cu, .slice ta tn tc], .int .i64 u] W fun e w' => ∃ da dl dc, e = .returned (.slice da dl dc) ∧ dl ≤ 4 ∧ Reads w' (.slice da dl dc) (dnD dd u) ∧ Below W.heap.size W w') := fun W hb => by
              refine (HDN.out u W hb).mono ?_
              rintro x w' ⟨v, rfl, ho, hb⟩
              obtain ⟨da, dc, rfl⟩ := ho.slice
              exact ⟨da, _, dc, rfl, dnD_len dd u, ho.reads, hb⟩
            have HI2 : Hid (∀ (da : Option Addr) (dl dc : Nat) W, dl ≤ 4 → Reads W (.slice da dl dc) (dnD dd u) → Calls Tryz.prog 31 #[.slice da dl dc, .int .i64 a] W fun e w' => e = .returned (.bool true) ∧ Below W.heap.size W w') := fun da dl dc W hl hr => by
              have := lawIn_try da dl dc (dnD dd u) a W hr (by omega)
              rw [decide_eq_true HM.out.2] at this
              exact this.mono fun e w' h => ⟨h.1, by rw [h.2]; exact Below.refl _ _⟩
            obtain ⟨ob', oo', eo', hob, ca⟩ := int_at HS.out.ord HAK.out
            injection eo' with eo'
            injection eo' with e1 e2 _
            subst e1 e2
            have BR := HS.out.bel
            have K0 := Below.cellOf (B := wr.heap.size) (W := wr) (p := ⟨w2.heap.size, 0, none⟩) HS.out.dag.lt HS.out.dag.c0
            have K1 := Below.cellOf (B := wr.heap.size) (W := wr) (p := ⟨w2.heap.size, 1, none⟩) HS.out.dag.lt HS.out.dag.c1
            have K2 := Below.cellOf (B := wr.heap.size) (W := wr) (p := ⟨w2.heap.size, 2, none⟩) HS.out.dag.lt HS.out.dag.c2
            have K3 := Below.cellOf (B := wr.heap.size) (W := wr) (p := ⟨w2.heap.size, 3, none⟩) HS.out.dag.lt HS.out.dag.c3
            have K4 := Below.cellOf (B := wr.heap.size) (W := wr) (p := ⟨w2.heap.size, 4, none⟩) HS.out.dag.lt HS.out.dag.c4
            have K5 := Below.cellOf (B := wr.heap.size) (W := wr) (p := ⟨w2.heap.size, 5, none⟩) HS.out.dag.lt HS.out.dag.c5
            have KA := Below.cellOf (B := wr.heap.size) (W := wr) (p := ⟨ob, oo + k, none⟩) hob ca
            have KU := Below.cellOf (B := wr.heap.size) (W := wr) (p := ⟨ub, uo + j, none⟩) hub cu1
            have hkc : (k : Int) ≤ (oc : Int) := by omega
            have hk0 : (0 : Int) ≤ (k : Int) := by omega
            have hkn : (k : Int).toNat = k := by omega
            clear ca cu1 hu
            go_wp2_with fail
            go_region_held3 (fun w' => Below wr.heap.size wr w') ((first | exact (Below.refl _ _).drew | exact hS7 | exact hS8 | exact hS9)) ((first | (go_at_call 31; refine (HI2.out _ _ _ _ hdl hd8).mono ?_; rintro x w9 ⟨rfl, hb9⟩; have hS9 := keep_on (B := wr.heap.size) (W := wr) hb9 (by assumption) (Nat.le_refl _)) | (go_at_call 32; refine (HDU.out _ (Below.on BR (by assumption))).mono ?_; rintro x w8 ⟨da, dl, dc, rfl, hdl, hd8, hb8⟩; have hS8 := keep_on (B := wr.heap.size) (W := wr) hb8 (by assumption) (Nat.le_refl _)) | (go_at_call 31; refine (HI1.out _ (by assumption)).mono ?_; rintro x w7 ⟨rfl, hb7⟩; have hS7 := keep_on (B := wr.heap.size) (W := wr) hb7 (by assumption) (Nat.le_refl _))))
            have HS9 : Hid (FoP w2 w2.heap.size nm cr fr up cu (.slice ta tn tc) (.slice (some ⟨ob, oo, none⟩) tn oc) O w9) := HS.out.on hS9
            have HU9 : Hid (Reads w9 (.slice (some ⟨ub, uo, none⟩) ul uc) U) := HU.out.below hS9
            clear hb7 hS7 hb8 hS8 hd8 hb9 hS9 HS HU K0 K1 K2 K3 K4 K5 KA KU BR HI1 HI2 HDU HM
            go_wp2
            go_roundw
            case rel => exact ⟨j + 1, by omega, by go_num, HS9, HU9⟩
            case measure => simp [intOf]; omega
          · clear HU
            obtain ⟨ob', oo', eo', hob, ca⟩ := int_at HS.out.ord HAK.out
            injection eo' with eo'
            injection eo' with e1 e2 _
            subst e1 e2
            obtain ⟨Q, HQQ⟩ : ∃ Q, Hid (dnD dd a = Q) := ⟨_, rfl⟩
            have HQL : Hid (Q.length ≤ 4) := by show Q.length ≤ 4; rw [← HQQ.out]; exact dnD_len dd a
            have BR := HS.out.bel
            have K0 := Below.cellOf (B := wr.heap.size) (W := wr) (p := ⟨w2.heap.size, 0, none⟩) HS.out.dag.lt HS.out.dag.c0
            have K1 := Below.cellOf (B := wr.heap.size) (W := wr) (p := ⟨w2.heap.size, 1, none⟩) HS.out.dag.lt HS.out.dag.c1
            have K2 := Below.cellOf (B := wr.heap.size) (W := wr) (p := ⟨w2.heap.size, 2, none⟩) HS.out.dag.lt HS.out.dag.c2
            have K3 := Below.cellOf (B := wr.heap.size) (W := wr) (p := ⟨w2.heap.size, 3, none⟩) HS.out.dag.lt HS.out.dag.c3
            have K4 := Below.cellOf (B := wr.heap.size) (W := wr) (p := ⟨w2.heap.size, 4, none⟩) HS.out.dag.lt HS.out.dag.c4
            have K5 := Below.cellOf (B := wr.heap.size) (W := wr) (p := ⟨w2.heap.size, 5, none⟩) HS.out.dag.lt HS.out.dag.c5
            have KA := Below.cellOf (B := wr.heap.size) (W := wr) (p := ⟨ob, oo + k, none⟩) hob ca
            clear ca
            go_wp2_with fail
            go_region_held3 (fun w' => Below wr.heap.size wr w') ((first | exact (Below.refl _ _).drew | exact hS7)) ((go_at_call 32; refine (HDN.out a _ (Below.on BR (by assumption))).mono ?_; rintro x w7 ⟨qv, rfl, hq7, hb7⟩; have hS7 := keep_on (B := wr.heap.size) (W := wr) hb7 (by assumption) (Nat.le_refl _)))
            have HS7 : Hid (FoP w2 w2.heap.size nm cr fr up cu (.slice ta tn tc) (.slice (some ⟨ob, oo, none⟩) tn oc) O w7) := HS.out.on hS7
            rw [HQQ.out] at hq7
            obtain ⟨qa, qc, eq⟩ := hq7.slice
            subst eq
            obtain ⟨ql, HQLE⟩ : ∃ ql, Hid (Q.length = ql) := ⟨_, rfl⟩
            have hql : ql ≤ 4 := by rw [← HQLE.out]; exact HQL.out
            rw [HQLE.out] at hq7
            rw [HQLE.out]
            have HQ7 : Hid (Reads w7 (.slice qa ql qc) Q) := hq7.reads
            clear hq7 hb7 hS7 K0 K1 K2 K3 K4 K5 KA HS BR hob
            go_wp2
            go_loopw [9] (fun jv wz => ∃ j : Nat, j ≤ ql ∧ jv = .int .i64 j ∧ Hid (FoP w2 w2.heap.size nm cr fr up cu (.slice ta tn tc) (.slice (some ⟨ob, oo, none⟩) tn oc) O wz) ∧ Hid (Reads wz (.slice qa ql qc) Q)) (fun jv _ => ql - (intOf jv).toNat)
            case atStart => exact ⟨0, Nat.zero_le _, rfl, HS7, HQ7⟩
            case round =>
              clear HS7 HQ7
              obtain ⟨i, hi, rfl, HS, HQ⟩ := hrel
              by_cases hil : i < ql
              · obtain ⟨x, hx⟩ : ∃ x, Q[i]? = some x := ⟨_, List.getElem?_eq_getElem (by rw [HQLE.out]; exact hil)⟩
                obtain ⟨qb, qo, eqa, hqb, cq⟩ := int_at HQ.out hx
                subst eqa
                have HM : Hid (x ∉ O.take (k + 1)) := HPK.out.2 x (by rw [HQQ.out]; exact List.mem_of_getElem? hx)
                have HI1 : Hid (∀ W, Below wr.heap.size wr W → Calls Tryz.prog 31 #[.slice (some ⟨ob, oo, none⟩) (k + 1) oc, .int .i64 x] W fun e w' => e = .returned (.bool false) ∧ Below W.heap.size W w') := fun W hb => by
                  have := lawIn_try (some ⟨ob, oo, none⟩) (k + 1) oc (O.take (k + 1)) x W ((HS.out.ord.below hb).take (k + 1) hlt oc) (by omega)
                  rw [decide_eq_false HM.out] at this
                  exact this.mono fun e w' h => ⟨h.1, by rw [h.2]; exact Below.refl _ _⟩
                have KQ := Below.cellOf (B := wr.heap.size) (W := wr) (p := ⟨qb, qo + i, none⟩) hqb cq
                have hkc : (k : Int) + 1 ≤ (oc : Int) := by omega
                have hk0 : (0 : Int) ≤ (k : Int) + 1 := by omega
                have hkw : IntKind.i64.wrap ((k : Int) + 1) = (k : Int) + 1 := by rw [IntKind.wrap_i64]; omega
                have hkn : ((k : Int) + 1).toNat = k + 1 := by omega
                clear cq hx
                go_wp2_with fail
                go_region_held3 (fun w' => Below wr.heap.size wr w') ((first | exact (Below.refl _ _).drew | exact hS8)) ((go_at_call 31; refine (HI1.out _ (by assumption)).mono ?_; rintro x w8 ⟨rfl, hb8⟩; have hS8 := keep_on (B := wr.heap.size) (W := wr) hb8 (by assumption) (Nat.le_refl _)))
                have HS8 : Hid (FoP w2 w2.heap.size nm cr fr up cu (.slice ta tn tc) (.slice (some ⟨ob, oo, none⟩) tn oc) O w8) := HS.out.on hS8
                have HQ8 : Hid (Reads w8 (.slice (some ⟨qb, qo, none⟩) ql qc) Q) := HQ.out.below hS8
                clear hb8 hS8 HS HQ KQ HI1 HM
                go_wp2
                go_roundw
                case rel => exact ⟨i + 1, by omega, by go_num, HS8, HQ8⟩
                case measure => simp [intOf]; omega
              · clear HQ
                obtain ⟨t, hkt⟩ : ∃ t, ts[k]? = some t := ⟨_, List.getElem?_eq_getElem (by rw [HTN.out]; exact hlt)⟩
                have BR := HS.out.bel
                obtain ⟨tb, tq, av, eta, htb, ct, -, -, -, -, -⟩ := (HTS.out _ BR).at hkt
                subst eta
                have HT1 : Hid (∀ W, Below w2.heap.size w2 W → Calls Tryz.prog 33 #[.agg #[.string nm, .string cr, .int .i64 fr, .int .i64 up, .bool cu, .slice (some ⟨tb, tq, none⟩) tn tc], .string t.name] W fun e w' => e = .returned (.int .i64 (k : Int)) ∧ Below W.heap.size W w') := fun W hb => HTA.out k t W hkt hb
                have K0 := Below.cellOf (B := wr.heap.size) (W := wr) (p := ⟨w2.heap.size, 0, none⟩) HS.out.dag.lt HS.out.dag.c0
                have K1 := Below.cellOf (B := wr.heap.size) (W := wr) (p := ⟨w2.heap.size, 1, none⟩) HS.out.dag.lt HS.out.dag.c1
                have K2 := Below.cellOf (B := wr.heap.size) (W := wr) (p := ⟨w2.heap.size, 2, none⟩) HS.out.dag.lt HS.out.dag.c2
                have K3 := Below.cellOf (B := wr.heap.size) (W := wr) (p := ⟨w2.heap.size, 3, none⟩) HS.out.dag.lt HS.out.dag.c3
                have K4 := Below.cellOf (B := wr.heap.size) (W := wr) (p := ⟨w2.heap.size, 4, none⟩) HS.out.dag.lt HS.out.dag.c4
                have K5 := Below.cellOf (B := wr.heap.size) (W := wr) (p := ⟨w2.heap.size, 5, none⟩) HS.out.dag.lt HS.out.dag.c5
                have KT := Below.cellOf (B := wr.heap.size) (W := wr) (p := ⟨tb, tq + k * 5, none⟩) htb ct
                generalize t.name = tnm at *
                clear ct hkt
                go_wp2_with fail
                go_region_held3 (fun w' => Below wr.heap.size wr w') ((first | exact (Below.refl _ _).drew | exact hS8)) ((go_at_call 33; refine (HT1.out _ (Below.on BR (by assumption))).mono ?_; rintro x w8 ⟨rfl, hb8⟩; have hS8 := keep_on (B := wr.heap.size) (W := wr) hb8 (by assumption) (Nat.le_refl _)))
                have HS8 : Hid (FoP w2 w2.heap.size nm cr fr up cu (.slice (some ⟨tb, tq, none⟩) tn tc) (.slice (some ⟨ob, oo, none⟩) tn oc) O w8) := HS.out.on hS8
                clear hb8 hS8 HS K0 K1 K2 K3 K4 K5 KT BR HT1
                go_wp2
                go_roundw
                case rel => exact ⟨k + 1, by omega, by go_num, HS8⟩
                case measure => simp [intOf]; omega
      · clear HUP HDN HTA HPT HUF HTS
        have BR := HS.out.bel
        have c0 := HS.out.dag.c0
        have c1 := HS.out.dag.c1
        have c2 := HS.out.dag.c2
        have c3 := HS.out.dag.c3
        have c4 := HS.out.dag.c4
        have c5 := HS.out.dag.c5
        go_wp2_with fail
        refine (HHI.out _ BR).mono ?_
        rintro x w6 ⟨rfl, hb6⟩
        have HS6 := HS.out.on hb6
        clear hb6 c0 c1 c2 c3 c4 c5 HS BR HHI
        have B6 := HS6.bel
        have c0 := HS6.dag.c0
        have c1 := HS6.dag.c1
        have c2 := HS6.dag.c2
        have c3 := HS6.dag.c3
        have c4 := HS6.dag.c4
        have c5 := HS6.dag.c5
        go_wp2_with fail
        refine (HHS.out _ B6).mono ?_
        rintro x w7 ⟨rfl, hb7⟩
        have HS7 := HS6.on hb7
        clear hb7 c0 c1 c2 c3 c4 c5 HS6 B6 HHS
        have B7 := HS7.bel
        have c0 := HS7.dag.c0
        have c1 := HS7.dag.c1
        have c2 := HS7.dag.c2
        have c3 := HS7.dag.c3
        have c4 := HS7.dag.c4
        have c5 := HS7.dag.c5
        go_wp2_with fail
        refine (HTX.out _ B7).mono ?_
        rintro x w8 ⟨rfl, hb8⟩
        have HS8 := HS7.on hb8
        clear hb8 c0 c1 c2 c3 c4 c5 HS7 B7 HTX
        have B8 := HS8.bel
        have c0 := HS8.dag.c0
        have c1 := HS8.dag.c1
        have c2 := HS8.dag.c2
        have c3 := HS8.dag.c3
        have c4 := HS8.dag.c4
        have c5 := HS8.dag.c5
        go_wp2_with fail
        refine (HUX.out _ B8).mono ?_
        rintro x w9 ⟨a9, d9, rfl, hb9⟩
        have B9 := Below.on HW2.out (Below.on B8 hb9)
        clear hb9 c0 c1 c2 c3 c4 c5 HS8 B8 HUX
        go_wp2
        go_ret
        exact ⟨rfl, B9⟩
end Go.Proofs.YteefacjjdalncaaGreatDoor
