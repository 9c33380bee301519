/-
  How much of a pool runs, as the specification counts it: the walk.
-/
import Derived.Test.YtjmclcjhimcehaaAcs15
namespace Go.Proofs.Ytjmclcjhimcehaa
open Go Go.RowKit
set_option linter.unusedVariables false

theorem cnt_row {rs : List Rr} {q : Nat × Nat → Bool} {k : Nat} (h : ∀ i, q (k, i) = false) : ∀ j, cnt q (rpTo rs k j) = cnt q (rpTo rs k 0)
  | 0 => rfl
  | j + 1 => by
    cases hi : isN (stAt rs k) (j : Int) 1 with
    | true => rw [rpTo_on hi, cnt_snoc, h j, cnt_row h j]; rfl
    | false => rw [rpTo_off hi, cnt_row h j]
set_option maxRecDepth 10000 in
set_option maxHeartbeats 8000000 in
theorem specUsed_any (so po ro : Option Addr) (sn sc pn pc rn rc : Nat) (ck tk : Int) (ps : List Po) (rs : List Rr) (s : ByteArray) (w : World) (hp : DRow OnePl w (.slice po pn pc) ps) (hpn : pn ≤ 1048577) (hr : DRow OneRk w (.slice ro rn rc) rs) (hn : rn ≤ 1048577) (hz : ∀ r ∈ rs, r.st.length ≤ 1048576) (hzp : ∀ p ∈ ps, p.tasks.length ≤ 1048576) :
    Calls Try.prog 19 #[bdV (.slice so sn sc) (.slice po pn pc) (.slice ro rn rc) ck tk, .string s] w fun e w' => e = .returned (.int .i64 (useN ps rs s)) ∧ Below w.heap.size w w' := by
  have HN : Hid (rs.length = rn) := hr.len
  have HPN : Hid (ps.length = pn) := hp.len
  have HR : Hid (∀ W, Below w.heap.size w W → DRow OneRk W (.slice ro rn rc) rs) := fun W hb => hr.below oneRk_below hb
  have HP : Hid (∀ W, Below w.heap.size w W → DRow OnePl W (.slice po pn pc) ps) := fun W hb => hp.below onePl_below hb
  have HLE : Hid (∀ k j, (rpTo rs k j).length ≤ k * 1048576 + j) := fun k j => rpTo_len (stAt_le hz) k j
  have HZ : Hid (∀ r ∈ rs, r.st.length ≤ 1048576) := hz
  have HZP : Hid (∀ p ∈ ps, p.tasks.length ≤ 1048576) := hzp
  have HPA : Hid (∀ (nm : ByteArray) W, Below w.heap.size w W → Calls Try.prog 14 #[bdV (.slice so sn sc) (.slice po pn pc) (.slice ro rn rc) ck tk, .string nm] W fun e w' => e = .returned (.int .i64 (planIx ps nm)) ∧ Below W.heap.size W w') := fun nm W hb => specPlanAt_any so po ro sn sc pn pc rn rc ck tk ps nm W (hp.below onePl_below hb) hpn
  clear hr hz hp hzp
  go_enter Try.func19, Try.ntmps19
  go_wp2
  go_loopw [5, 6] (fun nv kv wr => ∃ (k c : Nat), k ≤ rn ∧ kv = .int .i64 k ∧ nv = .int .i64 c ∧ Hid (c = cnt (useQ ps rs s) (rpTo rs k 0)) ∧ B5 26 wr w.heap.size (.slice so sn sc) (.slice po pn pc) (.slice ro rn rc) (.int .i64 ck) (.int .i64 tk) ∧ Below w.heap.size w wr) (fun _ kv _ => rn - (intOf kv).toNat)
  case atStart => exact ⟨0, 0, Nat.zero_le _, rfl, rfl, (by rw [rpTo_zero]; rfl), B5.new _ _ _ _ _ _ _, ba (Below.refl _ _) _⟩
  case round =>
    obtain ⟨k, c, hk, rfl, rfl, HC, K, hbel⟩ := hrel
    have kb := K.c2
    by_cases hlt : k < rn
    · obtain ⟨x, ht⟩ : ∃ x, rs[k]? = some x := ⟨_, List.getElem?_eq_getElem (by rw [HN.out]; exact hlt)⟩
      have HT : Hid (rs[k]? = some x) := ht
      have HXL : Hid (x.st.length ≤ 1048576) := HZ.out x (List.mem_of_getElem? ht)
      obtain ⟨m, HM⟩ : ∃ m, Hid (x.st.length = m) := ⟨_, rfl⟩
      have hm : m ≤ 1048576 := by rw [← HM.out]; exact HXL.out
      obtain ⟨b', o, av, e', hb, c0, c1, c2, c3, c4, hav⟩ := rk_at (C := 0) (HR.out wr hbel) ht
      subst e'
      clear ht HXL
      obtain ⟨pi, HPI⟩ : ∃ pi, Hid (planIx ps x.nm = pi) := ⟨_, rfl⟩
      have HPX : Hid (∀ y : Wd wr, Calls Try.prog 14 #[bdV (.slice so sn sc) (.slice po pn pc) (.slice (some ⟨b', o, none⟩) rn rc) ck tk, .string x.nm] y.at' fun e w' => e = .returned (.int .i64 pi) ∧ Below y.at'.heap.size y.at' w') := fun y => by
        have := HPA.out x.nm y.at' (Below.on hbel y.ok)
        rw [HPI.out] at this
        exact this
      have q0 := Wd.cell K.c0
      have q1 := Wd.cell K.c1
      have q2 := Wd.cell K.c2
      have q3 := Wd.cell K.c3
      have q4 := Wd.cell K.c4
      have r0 := Wd.cell c0
      clear c0 c1 c2 c3 c4 hav
      go_wp2_with fail
      refine wp_region_wd (by kernel_rfl) (by kernel_rfl) ?_
      repeat (go_big_quiet_step ((go_at_call 14; refine calls_wd (v := .int .i64 pi) ?_; with_reducible exact HPX.out _)))
      refine wpQuiet_nil ?_
      rintro _ ⟨y, rfl⟩
      have K2 := K.up y.ok
      have B2 := Below.on hbel y.ok
      obtain ⟨W2, hW2⟩ : ∃ W, y.at' = W := ⟨_, rfl⟩
      rw [hW2] at K2 B2
      rw [hW2]
      clear q0 q1 q2 q3 q4 r0 HPX K hbel kb hW2
      rcases plan_find ps x.nm with ⟨hf, hp1⟩ | ⟨p0, pl, hp0, hf, hp1⟩
      · have hpi : pi = -1 := HPI.out.symm.trans hp1
        have HQF : Hid (∀ i, useQ ps rs s (k, i) = false) := fun i => by
          unfold useQ poolOf
          rw [nmAt_at HT.out, hf]
          exact decide_eq_false (by simp)
        have HD2 : Hid (c = cnt (useQ ps rs s) (rpTo rs (k + 1) 0)) := by
          show _ = _
          rw [rpTo_row (j := m) (by rw [stAt_at HT.out, HM.out]), cnt_row HQF.out, HC.out]
        clear HC hf hp1 HPI
        subst hpi
        have kb := K2.c2
        obtain ⟨b'', o'', av, e', hb, c0, c1, c2, c3, c4, hav⟩ := rk_at (C := 0) (HR.out W2 B2) HT.out
        injection e' with e'
        injection e' with e1 e2 _
        subst e1 e2
        obtain ⟨fo, fc, ev⟩ := reads_slice hav
        subst ev
        rw [HM.out] at c4
        clear hav
        go_wp2
        refine wp_loop_rounds 1 ?_
        rw [rounds_succ]
        by_cases hm0 : (0 : Int) < m
        · go_wp2
          go_roundw
          case rel => exact ⟨k + 1, c, by omega, by go_num, rfl, HD2, K2, B2⟩
          case measure => simp [intOf]; omega
        · go_wp2
          go_roundw
          case rel => exact ⟨k + 1, c, by omega, by go_num, rfl, HD2, K2, B2⟩
          case measure => simp [intOf]; omega
      · have hpi : pi = (p0 : Int) := HPI.out.symm.trans hp1
        have HPO : Hid (∀ i, useQ ps rs s (k, i) = decide ((pl.tasks[i]?).map (·.pool) = some s)) := fun i => by
          unfold useQ poolOf
          rw [nmAt_at HT.out, hf]
          rfl
        have HPP : Hid (ps[p0]? = some pl) := hp0
        have hp0l : p0 < pn := by rw [← HPN.out]; exact (List.getElem?_eq_some_iff.1 hp0).1
        obtain ⟨m2, HM2⟩ : ∃ m2, Hid (pl.tasks.length = m2) := ⟨_, rfl⟩
        have hm2 : m2 ≤ 1048576 := by rw [← HM2.out]; exact HZP.out pl (List.mem_of_getElem? hp0)
        clear hf hp1 HPI hp0
        subst hpi
        go_wp2
        go_loopw [5, 8] (fun nv jv wx => ∃ (j d : Nat), j ≤ m ∧ jv = .int .i64 j ∧ nv = .int .i64 d ∧ Hid (d = cnt (useQ ps rs s) (rpTo rs k j)) ∧ B5 26 wx w.heap.size (.slice so sn sc) (.slice po pn pc) (.slice (some ⟨b', o, none⟩) rn rc) (.int .i64 ck) (.int .i64 tk) ∧ Below w.heap.size w wx) (fun _ jv _ => m - (intOf jv).toNat)
        case atStart => exact ⟨0, c, Nat.zero_le _, rfl, rfl, HC, K2, B2⟩
        case round =>
          clear K2 B2 HC
          obtain ⟨j, d, hj, rfl, rfl, HD, K, hbel⟩ := hrel
          have kb := K.c2
          have kb1 := K.c1
          have hd : d ≤ 1048577 * 1048576 + 1048576 := by
            have h1 := HD.out
            have h2 := cnt_le (useQ ps rs s) (rpTo rs k j)
            have h3 := HLE.out k j
            have h4 : k * 1048576 ≤ 1048577 * 1048576 := Nat.mul_le_mul_right _ (by omega)
            omega
          obtain ⟨b'', o'', av, e', hb, c0, c1, c2, c3, c4, hav⟩ := rk_at (C := 0) (HR.out wr hbel) HT.out
          injection e' with e'
          injection e' with e1 e2 _
          subst e1 e2
          obtain ⟨fo, fc, ev⟩ := reads_slice hav
          subst ev
          rw [HM.out] at hav c4
          obtain ⟨bp, op, tv, e', hbp, -, -, -, -, -, p5, -, -, -, htv⟩ := pl_at (C := 0) (HP.out wr hbel) HPP.out
          subst e'
          obtain ⟨to, tc, ev⟩ := htv.slice
          subst ev
          rw [HM2.out] at htv p5
          by_cases hlj : j < m
          · obtain ⟨y, hy⟩ : ∃ y, x.st[j]? = some y := ⟨_, List.getElem?_eq_getElem (by rw [HM.out]; exact hlj)⟩
            obtain ⟨bs, os, es, hbs, s0, -, -, -⟩ := sa_at hav hy
            subst es
            have HIS : Hid (isN (stAt rs k) (j : Int) 1 = decide (y.is = 1)) := by show isN _ _ _ = _; rw [stAt_at HT.out]; exact isN_in hy 1
            clear hy hav
            by_cases hi : y.is = 1
            case neg =>
              have hi2 : (y.is == 1) = false := beq_eq_false_iff_ne.2 hi
              have HD2 : Hid (d = cnt (useQ ps rs s) (rpTo rs k (j + 1))) := by
                show _ = _
                rw [rpTo_off (HIS.out.trans (decide_eq_false hi)), HD.out]
              clear HD hi htv
              go_wp2
              go_roundw
              case rel => exact ⟨j + 1, d, by omega, by go_num, rfl, HD2, K, hbel⟩
              case measure => simp [intOf]; omega
            have hi2 : (y.is == 1) = true := beq_iff_eq.2 hi
            by_cases hjt : j < m2
            case neg =>
              have HD2 : Hid (d = cnt (useQ ps rs s) (rpTo rs k (j + 1))) := by
                show _ = _
                rw [rpTo_on (HIS.out.trans (decide_eq_true hi)), cnt_snoc, HPO.out, List.getElem?_eq_none (by rw [HM2.out]; omega), HD.out]
                rfl
              clear HD hi htv
              go_wp2
              go_roundw
              case rel => exact ⟨j + 1, d, by omega, by go_num, rfl, HD2, K, hbel⟩
              case measure => simp [intOf]; omega
            obtain ⟨t, ht⟩ : ∃ t, pl.tasks[j]? = some t := ⟨_, List.getElem?_eq_getElem (by rw [HM2.out]; exact hjt)⟩
            obtain ⟨bt, ot, at9, et, hbt, -, t1, -, -, -, -⟩ := htv.at ht
            subst et
            have HU : Hid (useQ ps rs s (k, j) = decide (t.pool = s)) := by
              show useQ ps rs s (k, j) = _
              rw [HPO.out, ht]
              exact decide_eq_decide.2 ⟨fun h => by simpa using h, fun h => by simpa using h⟩
            clear ht htv
            by_cases hq : t.pool = s
            · have hq2 := eq_list hq
              have HD2 : Hid (d + 1 = cnt (useQ ps rs s) (rpTo rs k (j + 1))) := by
                show _ = _
                rw [rpTo_on (HIS.out.trans (decide_eq_true hi)), cnt_snoc, HU.out, decide_eq_true hq, if_pos rfl, HD.out]
              clear HD hi hq
              go_wp2
              go_roundw
              case rel => exact ⟨j + 1, d + 1, by omega, by go_num, by go_num, HD2, K, hbel⟩
              case measure => simp [intOf]; omega
            · have hq2 := ne_list hq
              have HD2 : Hid (d = cnt (useQ ps rs s) (rpTo rs k (j + 1))) := by
                show _ = _
                rw [rpTo_on (HIS.out.trans (decide_eq_true hi)), cnt_snoc, HU.out, decide_eq_false hq, if_neg (by decide), HD.out]
                rfl
              clear HD hi hq
              go_wp2
              go_roundw
              case rel => exact ⟨j + 1, d, by omega, by go_num, rfl, HD2, K, hbel⟩
              case measure => simp [intOf]; omega
          · have ej : j = m := by omega
            have HD2 : Hid (d = cnt (useQ ps rs s) (rpTo rs (k + 1) 0)) := by
              show _ = _
              rw [rpTo_row (j := j) (by rw [stAt_at HT.out, HM.out, ej]), HD.out]
            clear HD htv hav
            go_wp2
            go_roundw
            case rel => exact ⟨k + 1, d, by omega, by go_num, rfl, HD2, K, hbel⟩
            case measure => simp [intOf]; omega
    · have ek : k = rn := by omega
      have HF : Hid (useN ps rs s = (c : Int)) := by
        show useN ps rs s = _
        unfold useN rp
        rw [HC.out, rpTo_zero, ek, HN.out]
      go_wp2
      go_ret
      exact ⟨by rw [HF.out]; rfl, hbel⟩
end Go.Proofs.Ytjmclcjhimcehaa
