/-
  The order of a plan's tasks, as the program makes it: the walk.
-/
import Derived.Test.YtjmclcjhimcehaaGreatDoorG23
namespace Go.Proofs.YtjmclcjhimcehaaGreatDoor
open Go Go.RowKit
set_option linter.unusedVariables false

/-- The order of a plan. -/
def ordC (d : Dg) : List Int := if dagB d = true then orderL d.tasks else []
def lenOf : Value → Nat
  | .slice _ n _ => n
  | _ => 0
set_option maxRecDepth 10000 in
set_option maxHeartbeats 2000000 in
theorem implOrder_no (ao : Option Addr) (n cap : Nat) (nm cr : ByteArray) (fr up : Int) (cu : Bool) (ts : List Ta) (w : World) (hd : DagI w ao n cap ⟨nm, cr, fr, up, cu, ts⟩) (hg : Gl w) (hq : dagB ⟨nm, cr, fr, up, cu, ts⟩ = false) :
    Calls Tryz.prog 111 #[.agg #[.string nm, .string cr, .int .i64 fr, .int .i64 up, .bool cu, .slice ao n cap]] w fun e w' => ∃ v, e = .returned v ∧ ownsR w' w.heap.size 3 v ([] : List Int) ∧ Below w.heap.size w w' := by
  have HD : Hid (∀ W, Below w.heap.size w W → Calls Tryz.prog 38 #[.agg #[.string nm, .string cr, .int .i64 fr, .int .i64 up, .bool cu, .slice ao n cap]] W fun e w' => e = .returned (.bool false) ∧ Below W.heap.size W w') := fun W hb => by
    have := implDagOk_any ao n cap nm cr fr up cu ts W (hd.below hb) (hg.up hb)
    rw [hq] at this
    exact this
  clear hd hg hq
  go_enter Tryz.func111, Tryz.ntmps111
  go_wp2_with fail
  refine (HD.out _ (ba (ba (Below.refl _ _) _) _)).mono ?_
  rintro e w1 ⟨rfl, hb1⟩
  have B1 : Below w.heap.size w w1 := Below.on (ba (ba (Below.refl _ _) _) _) hb1
  have o1 : ownsR w1 w.heap.size 3 (.slice (some ⟨w.heap.size + 1, 0, none⟩) 0 0) ([] : List Int) := by
    refine ownsR.all ?_ hb1
    have := ints_made (w.alloc (.cells #[.string nm, .string cr, .int .i64 fr, .int .i64 up, .bool cu, .slice ao n cap] 36)) w.heap.size (by simp)
    simpa using this
  clear hb1
  go_wp2
  go_ret
  exact ⟨_, rfl, o1, B1⟩
set_option maxRecDepth 10000 in
set_option maxHeartbeats 4000000 in
theorem implOrder_yes (ao : Option Addr) (n cap : Nat) (nm cr : ByteArray) (fr up : Int) (cu : Bool) (ts : List Ta) (w : World) (hd : DagI w ao n cap ⟨nm, cr, fr, up, cu, ts⟩) (hg : Gl w) (hq : dagB ⟨nm, cr, fr, up, cu, ts⟩ = true) :
    Calls Tryz.prog 111 #[.agg #[.string nm, .string cr, .int .i64 fr, .int .i64 up, .bool cu, .slice ao n cap]] w fun e w' => ∃ v, e = .returned v ∧ ownsR w' w.heap.size 3 v (orderL ts) ∧ Below w.heap.size w w' := by
  have HD : Hid (∀ W, Below w.heap.size w W → Calls Tryz.prog 38 #[.agg #[.string nm, .string cr, .int .i64 fr, .int .i64 up, .bool cu, .slice ao n cap]] W fun e w' => e = .returned (.bool true) ∧ Below W.heap.size W w') := fun W hb => by
    have := implDagOk_any ao n cap nm cr fr up cu ts W (hd.below hb) (hg.up hb)
    rw [hq] at this
    exact this
  have HRG : Hid (Rg4 ts) := rg_of hq
  have HT : Hid (∀ W, Below w.heap.size w W → Tasks W (.slice ao n cap) ts) := fun W hb => hd.tasks.below hb
  have HSM : Hid (∀ t ∈ ts, t.after.length ≤ 1048577) := fun t ht => Nat.le_succ_of_le (hd.small t ht).few
  have HN : Hid (ts.length = n) := by
    obtain ⟨ao', cap', e⟩ := hd.tasks.slice
    injection e with _ e2 _
    exact e2.symm
  have hn4 : n ≤ 4 := by have := HRG.out.few; have := HN.out; omega
  clear hd hg hq
  go_enter Tryz.func111, Tryz.ntmps111
  go_wp2_with fail
  refine (HD.out _ (ba (ba (Below.refl _ _) _) _)).mono ?_
  rintro e w1 ⟨rfl, hb1⟩
  have B1 : Below w.heap.size w w1 := Below.on (ba (ba (Below.refl _ _) _) _) hb1
  have o1 : ownsR w1 w.heap.size 3 (.slice (some ⟨w.heap.size + 1, 0, none⟩) 0 0) ([] : List Int) := by
    refine ownsR.all ?_ hb1
    have := ints_made (w.alloc (.cells #[.string nm, .string cr, .int .i64 fr, .int .i64 up, .bool cu, .slice ao n cap] 36)) w.heap.size (by simp)
    simpa using this
  have z1 : P6 w1 w.heap.size nm cr fr up cu (.slice ao n cap) := ((P6.new w nm cr fr up cu (.slice ao n cap)).on (ba (Below.refl _ _) _)).on hb1
  have hs0 : w.heap.size < w1.heap.size := z1.lt
  clear hb1 HD
  obtain ⟨W2, hW2⟩ : ∃ W2, ((w1.alloc (.cells #[] 3)).alloc (.cells #[.slice (some ⟨w1.heap.size, 0, none⟩) 0 0] 183)).alloc (.cells #[.int .i64 0, .int .i64 0, .int .i64 0, .int .i64 0] 184) = W2 := ⟨_, rfl⟩
  have HO2 : Hid (OrS w nm cr fr up cu (.slice ao n cap) (w1.heap.size + 1) (w1.heap.size + 1 + 1) W2 (.slice (some ⟨w.heap.size + 1, 0, none⟩) 0 0) [] (.slice (some ⟨w1.heap.size, 0, none⟩) 0 0) [] [0, 0, 0, 0]) := by
    have hs1 : w.heap.size + 1 < w1.heap.size := (own_low o1 (k := w.heap.size + 1) rfl).2
    have hbb : Below w1.heap.size w1 W2 := by rw [← hW2]; exact ba (ba (ba (Below.refl _ _) _) _) _
    refine ⟨Below.on B1 hbb, o1.all hbb, ?_, ?_, ?_, z1.on hbb, ?_, by omega, by omega⟩
    · rw [← hW2]
      have := (Hbx.new (w1.alloc (.cells #[] 3)) (.slice (some ⟨w1.heap.size, 0, none⟩) 0 0)).up (ba (Below.refl _ _) (.cells #[.int .i64 0, .int .i64 0, .int .i64 0, .int .i64 0] 184))
      simpa using this
    · rw [← hW2]
      exact ((ints_made w1 w.heap.size (by omega)).alloc _).alloc _
    · rw [← hW2]
      show (World.alloc _ _).heap[_]? = _
      have e : w1.heap.size + 1 + 1 = ((w1.alloc (.cells #[] 3)).alloc (.cells #[.slice (some ⟨w1.heap.size, 0, none⟩) 0 0] 183)).heap.size := by simp
      rw [e]
      show (Array.push _ _)[_]? = _
      rw [Array.getElem?_push_size]
      rfl
    · intro k hk hf
      simp only [Value.ownBlock, Option.some.injEq] at hk hf
      omega
  have c5 : W2.cell? ⟨w.heap.size, 5, none⟩ = some (.slice ao n cap) := HO2.out.dag.c5
  clear o1 z1 B1
  go_wp2
  clear hW2
  generalize w1.heap.size + 1 + 1 = bl at *
  generalize w1.heap.size + 1 = bf at *
  generalize Value.slice (some ⟨w1.heap.size, 0, none⟩) 0 0 = fv0 at *
  have HB2 : Hid (w.heap.size ≤ bf) := HO2.out.lof
  generalize hov0 : Value.slice (some ⟨w.heap.size + 1, 0, none⟩) 0 0 = ov0 at *
  clear hs0
  go_loopw [20] (fun i wr => ∃ (k : Nat) (fv : Value) (F La : List Int), k ≤ n ∧ i = .int .i64 k ∧ Hid (In0 ts k F La) ∧ Hid (OrS w nm cr fr up cu (.slice ao n cap) bf bl wr ov0 [] fv F La)) (fun i _ => n - (intOf i).toNat)
  case atStart => exact ⟨0, fv0, [], [0, 0, 0, 0], Nat.zero_le _, rfl, In0.start ts, HO2⟩
  case round =>
    clear HO2 c5
    obtain ⟨k, fv, F, La, hk, rfl, HI, HO⟩ := hrel
    by_cases hlt : k < n
    · obtain ⟨t, ht⟩ : ∃ t, ts[k]? = some t := ⟨_, List.getElem?_eq_getElem (by rw [HN.out]; exact hlt)⟩
      have HTK : Hid (ts[k]? = some t) := ht
      obtain ⟨b1, o1, av, e1, hb, c0, c1, c2, c3, c4, hav⟩ := (HT.out wr HO.out.bel).at ht
      subst e1
      obtain ⟨fo, fc, e2, -⟩ := id hav
      subst e2
      obtain ⟨m, HM⟩ : ∃ m, Hid (t.after.length = m) := ⟨_, rfl⟩
      rw [HM.out] at c4
      clear ht hav
      obtain ⟨y, hy⟩ : ∃ y, La[k]? = some y := ⟨_, List.getElem?_eq_getElem (by rw [HI.out.len]; omega)⟩
      obtain ⟨WX, hWX⟩ : ∃ WX, wr.alloc (.cells #[.string t.name, .string t.pool, .int .i64 t.ret, .bool t.past, .slice fo m fc] 88) = WX := ⟨_, rfl⟩
      have HOX : Hid (OrS w nm cr fr up cu (.slice (some ⟨b1, o1, none⟩) n cap) bf bl WX ov0 [] fv F La) := by rw [← hWX]; exact HO.out.onW (ba (Below.refl _ _) _)
      have x4 : WX.cell? ⟨wr.heap.size, 4, none⟩ = some (.slice fo m fc) := by rw [← hWX]; simp [go_sem]
      have l1 := HOX.out.lac.cell hy
      have f1 := HOX.out.lac.fz k
      obtain ⟨WY, hWY⟩ : ∃ WY, WX.setCell ⟨bl, k, none⟩ (.int .i64 (m : Int)) = WY := ⟨_, rfl⟩
      have HOY : Hid (OrS w nm cr fr up cu (.slice (some ⟨b1, o1, none⟩) n cap) bf bl WY ov0 [] fv F (La.set k (m : Int))) := by rw [← hWY]; exact HOX.out.put k m
      have l2 : WY.cell? ⟨bl, k, none⟩ = some (.int .i64 (m : Int)) := HOY.out.lac.cell (by rw [set_get (by rw [HI.out.len]; omega), if_pos rfl])
      clear hy HO HOX
      by_cases hm0 : m = 0
      · have HI2 : Hid (In0 ts (k + 1) (pushL F k) (La.set k (m : Int))) := by rw [← HM.out]; exact HI.out.free0 (by omega) HTK.out (by rw [HM.out]; exact hm0)
        have hm2 : ((m : Int) == 0) = true := by subst hm0; rfl
        have HPU : Hid (Calls Tryz.prog 147 #[.iface 186 (.pointer (some ⟨bf, 0, none⟩)), .iface 3 (.int .i64 (k : Int))] WY fun e w' => e = .returned (.tuple #[]) ∧ ∃ v', Hp bf w.heap.size fv.ownBlock WY w' (pushL F k) v') := hpush_any HOY.out.take k (HI.out.heap.less (x := (k : Int)) (by omega) (by omega) HI.out.fresh)
        clear hm0
        go_wp2_with fail
        refine HPU.out.mono ?_
        rintro e w5 ⟨rfl, v5, h5⟩
        have HO5 : Hid (OrS w nm cr fr up cu (.slice (some ⟨b1, o1, none⟩) n cap) bf bl w5 ov0 [] v5 (pushL F k) (La.set k (m : Int))) := HOY.out.heap h5
        clear h5 HPU hWX hWY l1 l2 f1 x4 c0 c1 c2 c3 c4
        go_wp2
        go_roundw
        case rel => exact ⟨k + 1, v5, _, _, by omega, by go_num, HI2, HO5⟩
        case measure => simp [intOf]; omega
      · have HI2 : Hid (In0 ts (k + 1) F (La.set k (m : Int))) := by rw [← HM.out]; exact HI.out.more (by omega) HTK.out (by rw [HM.out]; exact hm0)
        have hm2 : ((m : Int) == 0) = false := by rw [beq_eq_false_iff_ne]; omega
        clear hm0
        go_wp2
        go_roundw
        case rel => exact ⟨k + 1, fv, _, _, by omega, by go_num, HI2, HOY⟩
        case measure => simp [intOf]; omega
    · have HIO : Hid (InO ts (ordL ts 0) (ordL ts 0) 0 F La) := HI.out.go (by rw [HN.out]; omega)
      have HO0 : Hid (OrS w nm cr fr up cu (.slice ao n cap) bf bl wr ov0 (ordL ts 0) fv F La) := HO
      clear HI HO
      go_wp2
      have hl0 : lenOf ov0 = 0 := by rw [← hov0]; rfl
      clear hov0
      go_loopw [3] (fun ov wx => ∃ (j : Nat) (fv : Value) (F La : List Int), j ≤ n ∧ lenOf ov = j ∧ Hid (InO ts (ordL ts j) (ordL ts j) 0 F La) ∧ Hid (OrS w nm cr fr up cu (.slice ao n cap) bf bl wx ov (ordL ts j) fv F La)) (fun ov _ => n - lenOf ov)
      case atStart => exact ⟨0, fv, F, La, Nat.zero_le _, hl0, HIO, HO0⟩
      case round =>
        clear HIO HO0 hl0 hlt hk
        rename_i wold kold
        obtain ⟨j, fv, F, La, hj, hlen, HI, HO⟩ := hrel
        obtain ⟨oa, oc, eo⟩ := HO.out.own.slice
        subst eo
        have hoj : (ordL ts j).length = j := by have : lenOf (.slice oa (ordL ts j).length oc) = (ordL ts j).length := rfl; omega
        obtain ⟨fa, fc, ef⟩ := HO.out.row.slice
        subst ef
        have cb := HO.out.box.cell
        obtain ⟨f, HFL⟩ : ∃ f, Hid (F.length = f) := ⟨_, rfl⟩
        obtain ⟨O, HOO⟩ : ∃ O, Hid (ordL ts j = O) := ⟨_, rfl⟩
        have hlen2 : O.length = j := by rw [← HOO.out]; exact hoj
        by_cases hF : F = []
        · have HE : Hid (O = orderL ts) := by
            have h1 := HI.out
            rw [hF] at h1
            show O = _
            rw [← HOO.out]
            exact h1.all HRG.out (by rw [HN.out]; exact hj)
          have hf0 : f = 0 := by rw [← HFL.out, hF]; rfl
          have HF : Hid (ownsR wr w.heap.size 3 (.slice oa (ordL ts j).length oc) (orderL ts) ∧ Below w.heap.size w wr) := by
            refine ⟨?_, HO.out.bel⟩
            have h1 := HO.out.own
            rw [HOO.out, HE.out] at h1
            rw [HOO.out, HE.out]
            exact h1
          rw [HFL.out] at cb
          rw [hf0] at cb
          rw [hoj] at HF ⊢
          clear hF HI HO hoj
          go_wp2_with fail
          refine (flen_any _ _ _ _).mono ?_
          rintro e w2 ⟨rfl, hw⟩
          have hw2 := hw.symm
          subst hw2
          go_wp2
          go_ret
          exact ⟨_, rfl, HF.out⟩
        · have hf0 : 0 < f := by rw [← HFL.out]; exact List.length_pos_iff.2 hF
          have hf1 : decide (0 < f) = true := decide_eq_true hf0
          obtain ⟨m, u, em, hu, hm, hsc, hi1⟩ := HI.out.pop hF
          have HTL : Hid (Calls Tryz.prog 149 #[.pointer (some ⟨bf, 0, none⟩)] wr fun e w' => e = .returned (.int .i64 (m : Int)) ∧ ∃ v', Hp bf w.heap.size (Value.slice fa F.length fc).ownBlock wr w' (restL F) v') := by
            have := takeLeast_any HO.out.take hF HI.out.heap.len
            rw [em] at this
            exact this
          have hmn : m < n := by rw [← HN.out]; exact (List.getElem?_eq_some_iff.1 hu).1
          have hjn : j < n := by rw [← HN.out]; exact order_next HRG.out (by rw [HN.out]; exact hj) hu hm
          have HNX : Hid (ordL ts (j + 1) = ordL ts j ++ [(m : Int)]) := hsc
          have HUM : Hid (ts[m]? = some u) := hu
          have HMO : Hid ((m : Int) ∉ ordL ts j) := hm
          have HI1 : Hid (InO ts (ordL ts j) (ordL ts j ++ [(m : Int)]) 0 (restL F) La) := hi1
          have HOL : Hid (Ol ts (ordL ts j)) := ordL_ol HRG.out.own HRG.out.lies j
          have HOH : Hid (∀ w' v', Hp bf w.heap.size (Value.slice fa F.length fc).ownBlock wr w' (restL F) v' → OrS w nm cr fr up cu (.slice ao n cap) bf bl w' (.slice oa (ordL ts j).length oc) (ordL ts j) v' (restL F) La) := fun w' v' h => HO.out.heap h
          rw [HFL.out] at cb
          rw [HFL.out] at HTL HOH
          generalize restL F = F1 at *
          clear hu hm hsc hi1 em hF HI HO HFL
          rw [HOO.out] at HNX HMO HI1 HOH HOL
          rw [hlen2] at HOH
          rw [hoj]
          clear hoj HOO
          go_wp2_with fail
          refine (flen_any _ _ _ _).mono ?_
          rintro e w2 ⟨rfl, hw⟩
          have hw2 := hw.symm
          subst hw2
          go_wp2_with fail
          refine HTL.out.mono ?_
          rintro e w3 ⟨rfl, v3, h3⟩
          have HO3 : Hid (OrS w nm cr fr up cu (.slice ao n cap) bf bl w3 (.slice oa j oc) O v3 F1 La) := HOH.out _ _ h3
          clear h3 HTL HOH cb
          have HO4 : Hid (∀ o, OrS w nm cr fr up cu (.slice ao n cap) bf bl (w3.alloc o) (.slice oa j oc) O v3 F1 La) := fun o => HO3.out.onW (ba (Below.refl _ _) _)
          have hs3 : w.heap.size ≤ w3.heap.size := HO3.out.bel.size
          go_wp2_with (at_builtin; refine append_recW _ w rfl (.tmp 43) (.tmp 45) 90 rfl w.heap.size 3 _ 8 underI info3 rfl _ O rfl (HO4.out _).own (HO4.out _).bel w3.heap.size 1 (m : Int) rfl (cell_int (by simp [go_sem])) (by omega) (by decide) (by simp; omega) ?_; intro v4 w4 ho4 hb4 hg4 hl4; have c5 := ((HO4.out _).more ho4 hg4 hl4).dag.c5)
          obtain ⟨oa4, oc4, eo4⟩ := ho4.slice
          subst eo4
          have HO5 : Hid (OrS w nm cr fr up cu (.slice ao n cap) bf bl w4 (.slice oa4 (O ++ [(m : Int)]).length oc4) (O ++ [(m : Int)]) v3 F1 La) := (HO4.out _).more ho4 hg4 hl4
          have hl5 : (O ++ [(m : Int)]).length = j + 1 := by rw [List.length_append, hlen2]; rfl
          obtain ⟨P, HPP⟩ : ∃ P, Hid (O ++ [(m : Int)] = P) := ⟨_, rfl⟩
          rw [hl5] at HO5 ⊢
          rw [HPP.out] at HO5 HNX HI1
          clear ho4 hb4 hg4 hl4 HO3 HO4 hl5
          clear c5
          go_loopw [50] (fun i wz => ∃ (k : Nat) (fv : Value) (F La : List Int), k ≤ n ∧ i = .int .i64 k ∧ Hid (InO ts O P k F La) ∧ Hid (OrS w nm cr fr up cu (.slice ao n cap) bf bl wz (.slice oa4 (j + 1) oc4) P fv F La)) (fun i _ => n - (intOf i).toNat)
          case atStart => exact ⟨0, v3, F1, La, Nat.zero_le _, rfl, HI1, HO5⟩
          case round =>
            clear HI1 HO5
            obtain ⟨k, fv, F, La, hk, rfl, HI, HO⟩ := hrel
            by_cases hlt : k < n
            · obtain ⟨t, ht⟩ : ∃ t, ts[k]? = some t := ⟨_, List.getElem?_eq_getElem (by rw [HN.out]; exact hlt)⟩
              have HTK : Hid (ts[k]? = some t) := ht
              obtain ⟨b1, o1, av, e1, hb, c0, c1, c2, c3, c4, hav⟩ := (HT.out wr HO.out.bel).at ht
              subst e1
              obtain ⟨b2, o2, av2, e2, -, n0, -, -, -, -, -⟩ := (HT.out wr HO.out.bel).at HUM.out
              injection e2 with e2
              injection e2 with e2 e3 _
              subst e2 e3
              obtain ⟨fo, fc2, e2, -⟩ := id hav
              subst e2
              obtain ⟨d, HM⟩ : ∃ d, Hid (t.after.length = d) := ⟨_, rfl⟩
              have hd : d ≤ 1048577 := by rw [← HM.out]; exact HSM.out t (List.mem_of_getElem? ht)
              rw [HM.out] at c4 hav
              obtain ⟨WX, hWX⟩ : ∃ WX, wr.alloc (.cells #[.string t.name, .string t.pool, .int .i64 t.ret, .bool t.past, .slice fo d fc2] 88) = WX := ⟨_, rfl⟩
              have BX : Below wr.heap.size wr WX := by rw [← hWX]; exact ba (Below.refl _ _) _
              have HOX : Hid (OrS w nm cr fr up cu (.slice (some ⟨b1, o1, none⟩) n cap) bf bl WX (.slice oa4 (j + 1) oc4) P fv F La) := HO.out.onW BX
              have x4 : WX.cell? ⟨wr.heap.size, 4, none⟩ = some (.slice fo d fc2) := by rw [← hWX]; simp [go_sem]
              obtain ⟨q, HQ⟩ : ∃ q, Hid (memB t.after u.name = q) := ⟨_, rfl⟩
              have HC : Hid (∀ x : Wd WX, Calls Tryz.prog 150 #[.slice fo d fc2, .string u.name] x.at' fun e w' => e = .returned (.bool q) ∧ Below x.at'.heap.size x.at' w') := fun x => by
                rw [← HQ.out]
                refine (containsText_any u.name ((hav.below BX).below x.ok) (by rw [HM.out]; exact hd)).mono ?_
                rintro e w' ⟨rfl, rfl⟩
                exact ⟨rfl, Below.refl _ _⟩
              have n1 := Wd.cell ((BX.cell (World.block_lt_of_cell? _ _ n0)).trans n0)
              have n2 := Wd.cell x4
              have n3 := Wd.cell HOX.out.dag.c5
              clear ht hav HO n0
              go_wp2
              clear hWX
              refine wp_region_wd (by kernel_rfl) (by kernel_rfl) ?_
              repeat (go_big_quiet_step ((go_at_call 150; refine calls_wd (v := .bool q) ?_; with_reducible exact HC.out _)))
              refine wpQuiet_nil ?_
              rintro _ ⟨x, rfl⟩
              have HOZ : Hid (OrS w nm cr fr up cu (.slice (some ⟨b1, o1, none⟩) n cap) bf bl x.at' (.slice oa4 (j + 1) oc4) P fv F La) := HOX.out.onW x.ok
              obtain ⟨WZ, hWZ⟩ : ∃ WZ, x.at' = WZ := ⟨_, rfl⟩
              rw [hWZ] at HOZ ⊢
              clear hWZ n1 n2 n3 HC HOX x4 c0 c1 c2 c3 c4
              cases q with
              | false =>
                have HI2 : Hid (InO ts O P (k + 1) F La) := by
                  have h1 := HI.out
                  rw [← HPP.out] at h1
                  have := h1.pass HRG.out HUM.out HTK.out HQ.out
                  rw [HPP.out] at this
                  exact this
                go_wp2
                go_roundw
                case rel => exact ⟨k + 1, fv, F, La, by omega, by go_num, HI2, HOZ⟩
                case measure => simp [intOf]; omega
              | true =>
                obtain ⟨c, HCC⟩ : ∃ c, Hid (cntA ts P t.after = c) := ⟨_, rfl⟩
                have HX : Hid (La[k]? = some ((c : Int) + 1) ∧ ((k : Nat) : Int) ∉ F ∧ (c ≠ 0 → InO ts O P (k + 1) F (La.set k (c : Int))) ∧ (c = 0 → InO ts O P (k + 1) (pushL F k) (La.set k (c : Int)))) := by
                  have h1 := HI.out
                  rw [← HPP.out] at h1
                  have := h1.one HRG.out HOL.out HMO.out HUM.out HTK.out HQ.out
                  rw [HPP.out, HCC.out] at this
                  exact this
                have hc1 : c ≤ 1048577 := by
                  rw [← HCC.out]
                  have h1 := List.length_filter_le (fun s => !decide (atN ts s ∈ P)) t.after
                  have h2 := HM.out
                  unfold cntA
                  omega
                have l1 : WZ.cell? ⟨bl, k, none⟩ = some (.int .i64 ((c : Int) + 1)) := HOZ.out.lac.cell HX.out.1
                have f1 := HOZ.out.lac.fz k
                obtain ⟨WY, hWY⟩ : ∃ WY, WZ.setCell ⟨bl, k, none⟩ (.int .i64 (c : Int)) = WY := ⟨_, rfl⟩
                have HOY : Hid (OrS w nm cr fr up cu (.slice (some ⟨b1, o1, none⟩) n cap) bf bl WY (.slice oa4 (j + 1) oc4) P fv F (La.set k (c : Int))) := by rw [← hWY]; exact HOZ.out.put k c
                have l2 : WY.cell? ⟨bl, k, none⟩ = some (.int .i64 (c : Int)) := HOY.out.lac.cell (by rw [set_get (by rw [HI.out.len]; omega), if_pos rfl])
                have hsub : (c : Int) + 1 - 1 = (c : Int) := by omega
                clear HOZ HQ
                by_cases hc0 : c = 0
                · have HI2 : Hid (InO ts O P (k + 1) (pushL F k) (La.set k (c : Int))) := HX.out.2.2.2 hc0
                  have hm2 : ((c : Int) == 0) = true := by subst hc0; rfl
                  have HPU : Hid (Calls Tryz.prog 147 #[.iface 186 (.pointer (some ⟨bf, 0, none⟩)), .iface 3 (.int .i64 (k : Int))] WY fun e w' => e = .returned (.tuple #[]) ∧ ∃ v', Hp bf w.heap.size fv.ownBlock WY w' (pushL F k) v') := hpush_any HOY.out.take k (HI.out.heap.less (x := (k : Int)) (by omega) (by omega) HX.out.2.1)
                  clear hc0
                  go_wp2_with fail
                  refine HPU.out.mono ?_
                  rintro e w5 ⟨rfl, v5, h5⟩
                  have HO6 : Hid (OrS w nm cr fr up cu (.slice (some ⟨b1, o1, none⟩) n cap) bf bl w5 (.slice oa4 (j + 1) oc4) P v5 (pushL F k) (La.set k (c : Int))) := HOY.out.heap h5
                  clear h5 HPU hWY l1 l2 f1
                  go_wp2
                  go_roundw
                  case rel => exact ⟨k + 1, v5, _, _, by omega, by go_num, HI2, HO6⟩
                  case measure => simp [intOf]; omega
                · have HI2 : Hid (InO ts O P (k + 1) F (La.set k (c : Int))) := HX.out.2.2.1 hc0
                  have hm2 : ((c : Int) == 0) = false := by rw [beq_eq_false_iff_ne]; omega
                  clear hc0
                  go_wp2
                  go_roundw
                  case rel => exact ⟨k + 1, fv, _, _, by omega, by go_num, HI2, HOY⟩
                  case measure => simp [intOf]; omega
            · have HI2 : Hid (InO ts (ordL ts (j + 1)) (ordL ts (j + 1)) 0 F La) := by
                show InO _ _ _ _ _ _
                rw [HNX.out]
                exact HI.out.fin (by rw [HN.out]; omega)
              have HO6 : Hid (OrS w nm cr fr up cu (.slice ao n cap) bf bl wr (.slice oa4 (j + 1) oc4) (ordL ts (j + 1)) fv F La) := by
                show OrS _ _ _ _ _ _ _ _ _ _ _ _ _ _ _
                rw [HNX.out]
                exact HO.out
              clear HI HO
              go_wp2
              go_roundw
              case rel => exact ⟨j + 1, fv, F, La, by omega, rfl, HI2, HO6⟩
              case measure => simp [lenOf]; omega
theorem implOrder_any (ao : Option Addr) (n cap : Nat) (nm cr : ByteArray) (fr up : Int) (cu : Bool) (ts : List Ta) (w : World) (hd : DagI w ao n cap ⟨nm, cr, fr, up, cu, ts⟩) (hg : Gl w) :
    Calls Tryz.prog 111 #[.agg #[.string nm, .string cr, .int .i64 fr, .int .i64 up, .bool cu, .slice ao n cap]] w fun e w' => ∃ v, e = .returned v ∧ ownsR w' w.heap.size 3 v (ordC ⟨nm, cr, fr, up, cu, ts⟩) ∧ Below w.heap.size w w' := by
  unfold ordC
  cases hq : dagB ⟨nm, cr, fr, up, cu, ts⟩ with
  | false => exact implOrder_no ao n cap nm cr fr up cu ts w hd hg hq
  | true => exact implOrder_yes ao n cap nm cr fr up cu ts w hd hg hq
end Go.Proofs.YtjmclcjhimcehaaGreatDoor
