/-
  How much runs, as the specification counts it: the walks.
-/
import Derived.Test.YtjmclcjhimcehaaAcp
import Derived.Test.YtjmclcjhimcehaaRis
namespace Go.Proofs.Ytjmclcjhimcehaa
open Go Go.RowKit
set_option linter.unusedVariables false

set_option maxRecDepth 10000 in
set_option maxHeartbeats 4000000 in
theorem specActive_any (so po ro : Option Addr) (sn sc pn pc rn rc : Nat) (ck tk : Int) (rs : List Rr) (s : ByteArray) (w : World) (hr : DRow OneRk w (.slice ro rn rc) rs) (hn : rn ≤ 1048577) (hz : ∀ r ∈ rs, r.st.length ≤ 1048576) :
    Calls Try.prog 21 #[bdV (.slice so sn sc) (.slice po pn pc) (.slice ro rn rc) ck tk, .string s] w fun e w' => e = .returned (.int .i64 (actN rs s)) ∧ Below w.heap.size w w' := by
  have HN : Hid (rs.length = rn) := hr.len
  have HR : Hid (∀ W, Below w.heap.size w W → DRow OneRk W (.slice ro rn rc) rs) := fun W hb => hr.below oneRk_below hb
  have HLE : Hid (∀ k j, (rpTo rs k j).length ≤ k * 1048576 + j) := fun k j => rpTo_len (stAt_le hz) k j
  have HZ : Hid (∀ r ∈ rs, r.st.length ≤ 1048576) := hz
  clear hr hz
  go_enter Try.func21, Try.ntmps21
  go_wp2
  go_loopw [5, 6] (fun nv kv wr => ∃ (k c : Nat), k ≤ rn ∧ kv = .int .i64 k ∧ nv = .int .i64 c ∧ Hid (c = cnt (actQ rs s) (rpTo rs k 0)) ∧ B5 26 wr w.heap.size (.slice so sn sc) (.slice po pn pc) (.slice ro rn rc) (.int .i64 ck) (.int .i64 tk) ∧ Below w.heap.size w wr) (fun _ kv _ => rn - (intOf kv).toNat)
  case atStart => exact ⟨0, 0, Nat.zero_le _, rfl, rfl, (by rw [rpTo_zero]; rfl), B5.new _ _ _ _ _ _ _, ba (Below.refl _ _) _⟩
  case round =>
    obtain ⟨k, c, hk, rfl, rfl, HC, K, hbel⟩ := hrel
    have kb := K.c2
    by_cases hlt : k < rn
    · obtain ⟨x, ht⟩ : ∃ x, rs[k]? = some x := ⟨_, List.getElem?_eq_getElem (by rw [HN.out]; exact hlt)⟩
      have HT : Hid (rs[k]? = some x) := ht
      have HXL : Hid (x.st.length ≤ 1048576) := HZ.out x (List.mem_of_getElem? ht)
      obtain ⟨m, HM⟩ : ∃ m, Hid (x.st.length = m) := ⟨_, rfl⟩
      have hm : m ≤ 1048576 := by rw [← HM.out]; exact HXL.out
      clear ht HXL
      go_wp2
      go_loopw [5, 7] (fun nv jv wx => ∃ (j d : Nat), j ≤ m ∧ jv = .int .i64 j ∧ nv = .int .i64 d ∧ Hid (d = cnt (actQ rs s) (rpTo rs k j)) ∧ B5 26 wx w.heap.size (.slice so sn sc) (.slice po pn pc) (.slice ro rn rc) (.int .i64 ck) (.int .i64 tk) ∧ Below w.heap.size w wx) (fun _ jv _ => m - (intOf jv).toNat)
      case atStart => exact ⟨0, c, Nat.zero_le _, rfl, rfl, HC, K, hbel⟩
      case round =>
        clear K hbel kb HC
        obtain ⟨j, d, hj, rfl, rfl, HD, K, hbel⟩ := hrel
        have kb := K.c2
        have hd : d ≤ 1048577 * 1048576 + 1048576 := by
          have h1 := HD.out
          have h2 := cnt_le (actQ rs s) (rpTo rs k j)
          have h3 := HLE.out k j
          have h4 : k * 1048576 ≤ 1048577 * 1048576 := Nat.mul_le_mul_right _ (by omega)
          omega
        obtain ⟨b', o, av, e', hb, c0, c1, c2, c3, c4, hav⟩ := rk_at (C := 0) (HR.out wr hbel) HT.out
        subst e'
        obtain ⟨fo, fc, ev⟩ := reads_slice hav
        subst ev
        rw [HM.out] at hav c4
        by_cases hlj : j < m
        · obtain ⟨y, hy⟩ : ∃ y, x.st[j]? = some y := ⟨_, List.getElem?_eq_getElem (by rw [HM.out]; exact hlj)⟩
          obtain ⟨bs, os, es, hbs, s0, -, -, -⟩ := sa_at hav hy
          subst es
          have HIS : Hid (isN (stAt rs k) (j : Int) 1 = decide (y.is = 1)) := by show isN _ _ _ = _; rw [stAt_at HT.out]; exact isN_in hy 1
          have HNM : Hid (actQ rs s (k, j) = decide (x.nm = s)) := by show actQ rs s (k, j) = _; unfold actQ; rw [nmAt_at HT.out]
          clear hy hav
          by_cases hq : x.nm = s
          · have hq2 := eq_list hq
            by_cases hi : y.is = 1
            · have hi2 : (y.is == 1) = true := beq_iff_eq.2 hi
              have HD2 : Hid (d + 1 = cnt (actQ rs s) (rpTo rs k (j + 1))) := by
                show _ = _
                rw [rpTo_on (HIS.out.trans (decide_eq_true hi)), cnt_snoc, HNM.out, decide_eq_true hq, if_pos rfl, HD.out]
              clear HD hq hi
              go_wp2
              go_roundw
              case rel => exact ⟨j + 1, d + 1, by omega, by go_num, by go_num, HD2, K, hbel⟩
              case measure => simp [intOf]; omega
            · have hi2 : (y.is == 1) = false := beq_eq_false_iff_ne.2 hi
              have HD2 : Hid (d = cnt (actQ rs s) (rpTo rs k (j + 1))) := by
                show _ = _
                rw [rpTo_off (HIS.out.trans (decide_eq_false hi)), HD.out]
              clear HD hq hi
              go_wp2
              go_roundw
              case rel => exact ⟨j + 1, d, by omega, by go_num, rfl, HD2, K, hbel⟩
              case measure => simp [intOf]; omega
          · have hq2 := ne_list hq
            have HD2 : Hid (d = cnt (actQ rs s) (rpTo rs k (j + 1))) := by
              show _ = _
              by_cases hi : y.is = 1
              · rw [rpTo_on (HIS.out.trans (decide_eq_true hi)), cnt_snoc, HNM.out, decide_eq_false hq, if_neg (by decide), HD.out]
                rfl
              · rw [rpTo_off (HIS.out.trans (decide_eq_false hi)), HD.out]
            clear HD hq
            go_wp2
            go_roundw
            case rel => exact ⟨j + 1, d, by omega, by go_num, rfl, HD2, K, hbel⟩
            case measure => simp [intOf]; omega
        · have ej : j = m := by omega
          have HD2 : Hid (d = cnt (actQ rs s) (rpTo rs (k + 1) 0)) := by
            show _ = _
            rw [rpTo_row (j := j) (by rw [stAt_at HT.out, HM.out, ej]), HD.out]
          clear HD
          go_wp2
          go_roundw
          case rel => exact ⟨k + 1, d, by omega, by go_num, rfl, HD2, K, hbel⟩
          case measure => simp [intOf]; omega
    · have ek : k = rn := by omega
      have HF : Hid (actN rs s = (c : Int)) := by
        show actN rs s = _
        unfold actN rp
        rw [HC.out, rpTo_zero, ek, HN.out]
      go_wp2
      go_ret
      exact ⟨by rw [HF.out]; rfl, hbel⟩
end Go.Proofs.Ytjmclcjhimcehaa
