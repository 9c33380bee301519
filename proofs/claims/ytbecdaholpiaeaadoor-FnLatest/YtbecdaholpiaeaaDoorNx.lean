/-
  The next time that a rule fires, as the specification tells it: the walk.
-/
import Derived.Test.YtbecdaholpiaeaaDoorDy
namespace Go.Proofs.YtbecdaholpiaeaaDoor
open Go Go.RowKit

/-- Up to where the next time is looked for. -/
def endN (from' days : Int) : Int := if (from' / 1440 + (if 3000 < days then 3000 else days) + 1) * 1440 ≤ 68374080 then (from' / 1440 + (if 3000 < days then 3000 else days) + 1) * 1440 else 68374080
/-- What the next time is. -/
def NfP (a b c d e : List Int) (from' days : Int) (o : Option Int) : Prop :=
  if cronB a b c d e = true ∧ (0 ≤ from' ∧ from' ≤ 68374079) ∧ 0 ≤ days then Least (firesB a b c d e) from' (endN from' days) o else o = none
theorem NfP.one {a b c d e : List Int} {from' days : Int} {o p : Option Int} (h : NfP a b c d e from' days o) (k : NfP a b c d e from' days p) : o = p := by
  unfold NfP at h k
  split at h
  · rename_i hc
    rw [if_pos hc] at k
    exact Least.one h k
  · rename_i hc
    rw [if_neg hc] at k
    rw [h, k]
theorem nf_no {a b c d e : List Int} {from' days : Int} (h : ¬ (cronB a b c d e = true ∧ (0 ≤ from' ∧ from' ≤ 68374079) ∧ 0 ≤ days)) : NfP a b c d e from' days none := by unfold NfP; rw [if_neg h]
theorem nf_none {a b c d e : List Int} {from' days D : Int} (hc : cronB a b c d e = true) (h0 : 0 ≤ from' ∧ from' ≤ 68374079) (h1 : 0 ≤ days) (hp : ∀ m, from' ≤ m → m < D * 1440 → firesB a b c d e m = false) (hD : from' / 1440 + (if 3000 < days then 3000 else days) < D ∨ 47481 < D) : NfP a b c d e from' days none := by
  unfold NfP
  rw [if_pos ⟨hc, h0, h1⟩]
  intro m hm0 hm1
  refine hp m hm0 ?_
  unfold endN at hm1
  split at hm1 <;> omega
theorem nf_some {a b c d e : List Int} {from' days D r : Int} (hc : cronB a b c d e = true) (h0 : 0 ≤ from' ∧ from' ≤ 68374079) (h1 : 0 ≤ days) (hr : from' ≤ r) (hf : firesB a b c d e r = true ∧ ∀ m, from' ≤ m → m < r → firesB a b c d e m = false) (hD : D ≤ from' / 1440 + (if 3000 < days then 3000 else days)) (hrD : r < (D + 1) * 1440) : NfP a b c d e from' days (some r) := by
  unfold NfP
  rw [if_pos ⟨hc, h0, h1⟩]
  have hr2 := (fires_iff.1 hf.1).1.2
  refine ⟨hr, ?_, hf.1, hf.2⟩
  unfold endN
  split <;> omega

set_option maxRecDepth 10000 in
set_option maxHeartbeats 4000000 in
theorem nextFire_any (va vb vc vd ve : Value) (a b c d e : List Int) (from' days : Int) (w : World) (h1 : Reads w va a) (h2 : Reads w vb b) (h3 : Reads w vc c) (h4 : Reads w vd d) (h5 : Reads w ve e)
    (n1 : a.length ≤ 1048577) (n2 : b.length ≤ 1048577) (n3 : c.length ≤ 1048577) (n4 : d.length ≤ 1048577) (n5 : e.length ≤ 1048577) :
    Calls Tryd.prog 13 #[.agg #[va, vb, vc, vd, ve], .int .i64 from', .int .i64 days] w fun x w' => ∃ o : Option Int, x = .returned (.tuple #[.int .i64 (o.getD 0), .bool o.isSome]) ∧ NfP a b c d e from' days o ∧ Below w.heap.size w w' := by
  obtain ⟨ao, ac, rfl, -⟩ := id h1
  obtain ⟨bo, bc, rfl, -⟩ := id h2
  obtain ⟨co, cc, rfl, -⟩ := id h3
  obtain ⟨d0, dc, rfl, -⟩ := id h4
  obtain ⟨eo, ec, rfl, -⟩ := id h5
  have HC : Hid (∀ W, Below w.heap.size w W → Calls Tryd.prog 34 #[.agg #[.slice ao a.length ac, .slice bo b.length bc, .slice co c.length cc, .slice d0 d.length dc, .slice eo e.length ec]] W fun x w' => x = .returned (.bool (cronB a b c d e)) ∧ Below W.heap.size W w') := fun W hb => cronOk_any _ _ _ _ _ a b c d e W (h1.below hb) (h2.below hb) (h3.below hb) (h4.below hb) (h5.below hb) n1 n2 n3 n4 n5
  have HD : Hid (∀ W m, Below w.heap.size w W → 0 ≤ m → m ≤ 68374079 → Calls Tryd.prog 36 #[.agg #[.slice ao a.length ac, .slice bo b.length bc, .slice co c.length cc, .slice d0 d.length dc, .slice eo e.length ec], .int .i64 m] W fun x w' => x = .returned (.bool (dayF c d e m)) ∧ Below W.heap.size W w') := fun W m hb hm0 hm1 => l10Day_any _ _ _ _ _ c d e m W (h3.below hb) (h4.below hb) (h5.below hb) n3 n4 n5 hm0 hm1
  have HRA : Hid (Reads w (.slice ao a.length ac) a) := h1
  have HRB : Hid (Reads w (.slice bo b.length bc) b) := h2
  clear h1 h2 h3 h4 h5
  have HL1 : Hid (a.length = a.length) := rfl
  obtain ⟨la, HA⟩ : ∃ n, Hid (a.length = n) := ⟨_, rfl⟩
  obtain ⟨lb, HB⟩ : ∃ n, Hid (b.length = n) := ⟨_, rfl⟩
  rw [HA.out, HB.out] at HC HD
  rw [HA.out] at HRA n1 ⊢
  rw [HB.out] at HRB n2 ⊢
  clear HL1
  generalize c.length = lc at *
  generalize d.length = ld at *
  generalize e.length = le at *
  cases hq : cronB a b c d e with
  | false =>
    have HN : Hid (NfP a b c d e from' days none) := nf_no fun h => by rw [hq] at h; cases h.1
    rw [hq] at HC
    clear hq HD HRA HRB HA HB
    go_enter Tryd.func13, Tryd.ntmps13
    go_wp2_with (go_at_call 34; refine (HC.out _ (ba (Below.refl _ _) _)).mono ?_; rintro x w1 ⟨rfl, hb1⟩)
    go_ret2
    exact ⟨none, rfl, HN.out, below_new hb1⟩
  | true =>
    have HQ : Hid (cronB a b c d e = true) := hq
    rw [hq] at HC
    clear hq
    by_cases hf : 0 ≤ from' ∧ from' ≤ 68374079
    case neg =>
      have HN : Hid (NfP a b c d e from' days none) := nf_no fun h => hf h.2.1
      have HI : Hid (∀ w, Calls Tryd.prog 35 #[.int .i64 from', .int .i64 0, .int .i64 68374079] w fun e w' => e = .returned (.bool false) ∧ w' = w) := by intro w; exact in_no hf
      clear HD HRA HRB HA HB hf HQ
      go_enter Tryd.func13, Tryd.ntmps13
      go_wp2_with (first | (go_at_call 34; refine (HC.out _ (ba (Below.refl _ _) _)).mono ?_; rintro x w1 ⟨rfl, hb1⟩) | (go_at_call 35; refine (HI.out _).mono ?_; rintro x w2 ⟨rfl, hw⟩; have hw2 := hw.symm; subst hw2))
      go_ret2
      exact ⟨none, rfl, HN.out, below_new hb1⟩
    have f0 : 0 ≤ from' := hf.1
    have f1 : from' ≤ 68374079 := hf.2
    have HI : Hid (∀ w, Calls Tryd.prog 35 #[.int .i64 from', .int .i64 0, .int .i64 68374079] w fun e w' => e = .returned (.bool true) ∧ w' = w) := by intro w; exact in_yes f0 f1
    by_cases hd : 0 ≤ days
    case neg =>
      have HN : Hid (NfP a b c d e from' days none) := nf_no fun h => hd h.2.2
      clear HD HRA HRB HA HB hf HQ
      go_enter Tryd.func13, Tryd.ntmps13
      go_wp2_with (first | (go_at_call 34; refine (HC.out _ (ba (Below.refl _ _) _)).mono ?_; rintro x w1 ⟨rfl, hb1⟩) | (go_at_call 35; refine (HI.out _).mono ?_; rintro x w2 ⟨rfl, hw⟩; have hw2 := hw.symm; subst hw2))
      go_ret2
      exact ⟨none, rfl, HN.out, below_new hb1⟩
    clear hf
    have HLS : Hid (listB 0 59 a = true ∧ listB 0 23 b = true) := by
      have h := HQ.out
      unfold cronB at h
      simp only [Bool.and_eq_true] at h
      exact ⟨h.1, h.2.1⟩
    have HLA : Hid (listB 0 59 a = true) := HLS.out.1
    have HLB : Hid (listB 0 23 b = true) := HLS.out.2
    have HUA : Hid ((∀ x ∈ a, 0 ≤ x ∧ x ≤ 59) ∧ a.Pairwise (· < ·) ∧ 0 < a.length) := listB_up HLA.out
    have HUB : Hid ((∀ x ∈ b, 0 ≤ x ∧ x ≤ 23) ∧ b.Pairwise (· < ·) ∧ 0 < b.length) := listB_up HLB.out
    clear HLS
    by_cases h3 : 3000 < days
    · have HE : Hid ((if 3000 < days then 3000 else days) = 3000) := if_pos h3
      go_enter Tryd.func13, Tryd.ntmps13
      go_wp2_with (first | (go_at_call 34; refine (HC.out _ (ba (Below.refl _ _) _)).mono ?_; rintro x w1 ⟨rfl, hb1⟩) | (go_at_call 35; refine (HI.out _).mono ?_; rintro x w2 ⟨rfl, hw⟩; have hw2 := hw.symm; subst hw2))
      have B1 := below_new hb1
      have c0 : w1.cell? ⟨w.heap.size, 0, none⟩ = some (.slice ao la ac) := (hb1.cell (by simp)).trans (by simp [go_sem])
      have c1 : w1.cell? ⟨w.heap.size, 1, none⟩ = some (.slice bo lb bc) := (hb1.cell (by simp)).trans (by simp [go_sem])
      have c2 : w1.cell? ⟨w.heap.size, 2, none⟩ = some (.slice co lc cc) := (hb1.cell (by simp)).trans (by simp [go_sem])
      have c3 : w1.cell? ⟨w.heap.size, 3, none⟩ = some (.slice d0 ld dc) := (hb1.cell (by simp)).trans (by simp [go_sem])
      have c4 : w1.cell? ⟨w.heap.size, 4, none⟩ = some (.slice eo le ec) := (hb1.cell (by simp)).trans (by simp [go_sem])
      have hg : w.heap.size < w1.heap.size := World.block_lt_of_cell? _ _ c0
      clear hb1 HC HI
      go_loopw [9] (fun dv wr => ∃ D : Int, from' / 1440 ≤ D ∧ D ≤ from' / 1440 + 3000 + 1 ∧ dv = .int .i64 D ∧ Hid (∀ m, from' ≤ m → m < D * 1440 → firesB a b c d e m = false) ∧ Below w1.heap.size w1 wr) (fun dv _ => (from' / 1440 + 3000 + 1 - intOf dv).toNat)
      case atStart => exact ⟨from' / 1440, Int.le_refl _, by omega, rfl, fun m hm0 hm1 => by omega, Below.refl _ _⟩
      case round =>
        obtain ⟨D, hD0, hD1, rfl, HP, hbel⟩ := hrel
        have k0 := (hbel.cell hg).trans c0
        have k1 := (hbel.cell hg).trans c1
        have k2 := (hbel.cell hg).trans c2
        have k3 := (hbel.cell hg).trans c3
        have k4 := (hbel.cell hg).trans c4
        by_cases hle : D ≤ from' / 1440 + 3000
        · by_cases hmx : D * 1440 ≤ 68374079
          · have H183 := HD.out wr (D * 1440) (Below.on B1 hbel) (by omega) hmx
            cases hday : dayF c d e (D * 1440) with
            | false =>
              rw [hday] at H183
              have HP2 : Hid (∀ m, from' ≤ m → m < (D + 1) * 1440 → firesB a b c d e m = false) := day_idle hday HP.out
              clear hday
              go_wp2_with fail
              refine H183.mono ?_
              rintro x w2 ⟨rfl, hb2⟩
              go_wp2
              go_roundw
              case rel => exact ⟨D + 1, by omega, by omega, by go_num, HP2, Below.on hbel hb2⟩
              case measure => simp [intOf]; omega
            | true =>
              have HDY : Hid (dayF c d e (D * 1440) = true) := hday
              rw [hday] at H183
              clear hday
              go_wp2_with fail
              refine H183.mono ?_
              rintro x w2 ⟨rfl, hb2⟩
              go_wp2
              have B2 := Below.on hbel hb2
              clear k0 k1 k2 k3 k4 H183 hbel hb2
              go_loopw [10] (fun iv wx => ∃ i : Nat, i ≤ lb ∧ iv = .int .i64 i ∧ Hid (Past a b D from' i 0) ∧ Below w1.heap.size w1 wx) (fun iv _ => lb - (intOf iv).toNat)
              case atStart => exact ⟨0, Nat.zero_le _, rfl, past_start _ _ _ _, B2⟩
              case round =>
                clear B2
                obtain ⟨i, hi, rfl, HPI, B3⟩ := hrel
                have k1 := (B3.cell hg).trans c1
                by_cases hil : i < lb
                · obtain ⟨x, hx⟩ : ∃ x, b[i]? = some x := ⟨_, List.getElem?_eq_getElem (by rw [HB.out]; exact hil)⟩
                  have HX : Hid (b[i]? = some x) := hx
                  have hx0 := HUB.out.1 x (List.mem_of_getElem? hx)
                  obtain ⟨gb, ob, rfl, hgb, cb⟩ := int_at (HRB.out.below B1) hx
                  clear hx
                  go_wp2
                  go_loopw [11] (fun kv wz => ∃ k : Nat, k ≤ la ∧ kv = .int .i64 k ∧ Hid (Past a b D from' i k) ∧ Below w1.heap.size w1 wz) (fun kv _ => la - (intOf kv).toNat)
                  case atStart => exact ⟨0, Nat.zero_le _, rfl, HPI, B3⟩
                  case round =>
                    clear B3 k1
                    obtain ⟨k, hk, rfl, HPK, B4⟩ := hrel
                    have k0 := (B4.cell hg).trans c0
                    have k1 := (B4.cell hg).trans c1
                    have cb2 := (B4.cell hgb).trans cb
                    by_cases hkl : k < la
                    · obtain ⟨y, hy⟩ : ∃ y, a[k]? = some y := ⟨_, List.getElem?_eq_getElem (by rw [HA.out]; exact hkl)⟩
                      have HY : Hid (a[k]? = some y) := hy
                      have hy0 := HUA.out.1 y (List.mem_of_getElem? hy)
                      obtain ⟨ga, oa, rfl, hga, ca⟩ := int_at (HRA.out.below B1) hy
                      have ca2 := (B4.cell hga).trans ca
                      clear hy
                      by_cases hge : from' ≤ D * 1440 + x * 60 + y
                      · have HN : Hid (NfP a b c d e from' days (some (D * 1440 + x * 60 + y))) := nf_some (D := D) HQ.out ⟨f0, f1⟩ hd hge (HPK.out.least HLA.out HLB.out (by omega) (by omega) HDY.out HP.out HX.out HY.out) (by rw [HE.out]; exact hle) (by omega)
                        go_wp2
                        go_quiet (fail)
                        go_wp2
                        go_ret2
                        exact ⟨_, rfl, HN.out, Below.on B1 (bdrewN B4 _)⟩
                      · have HN : Hid (Past a b D from' i (k + 1)) := HPK.out.next HX.out HY.out (by omega)
                        go_wp2
                        go_quiet (fail)
                        go_wp2
                        go_roundw
                        case rel => exact ⟨k + 1, by omega, by go_num, HN, bdrewN B4 _⟩
                        case measure => simp [intOf]; omega
                    · have HN : Hid (Past a b D from' (i + 1) 0) := Past.row (by rw [HA.out, show la = k by omega]; exact HPK.out)
                      go_wp2
                      go_roundw
                      case rel => exact ⟨i + 1, by omega, by go_num, HN, B4⟩
                      case measure => simp [intOf]; omega
                · have HN : Hid (∀ m, from' ≤ m → m < (D + 1) * 1440 → firesB a b c d e m = false) := Past.day (by rw [HB.out, show lb = i by omega]; exact HPI.out) HP.out
                  go_wp2
                  go_roundw
                  case rel => exact ⟨D + 1, by omega, by omega, by go_num, HN, B3⟩
                  case measure => simp [intOf]; omega
          · have HN : Hid (NfP a b c d e from' days none) := nf_none (D := D) HQ.out ⟨f0, f1⟩ hd HP.out (.inr (by omega))
            go_wp2
            go_ret2
            exact ⟨none, rfl, HN.out, Below.on B1 hbel⟩
        · have HN : Hid (NfP a b c d e from' days none) := nf_none (D := D) HQ.out ⟨f0, f1⟩ hd HP.out (.inl (by rw [HE.out]; omega))
          go_wp2
          go_ret2
          exact ⟨none, rfl, HN.out, Below.on B1 hbel⟩
    · have HE : Hid ((if 3000 < days then 3000 else days) = days) := if_neg h3
      go_enter Tryd.func13, Tryd.ntmps13
      go_wp2_with (first | (go_at_call 34; refine (HC.out _ (ba (Below.refl _ _) _)).mono ?_; rintro x w1 ⟨rfl, hb1⟩) | (go_at_call 35; refine (HI.out _).mono ?_; rintro x w2 ⟨rfl, hw⟩; have hw2 := hw.symm; subst hw2))
      have B1 := below_new hb1
      have c0 : w1.cell? ⟨w.heap.size, 0, none⟩ = some (.slice ao la ac) := (hb1.cell (by simp)).trans (by simp [go_sem])
      have c1 : w1.cell? ⟨w.heap.size, 1, none⟩ = some (.slice bo lb bc) := (hb1.cell (by simp)).trans (by simp [go_sem])
      have c2 : w1.cell? ⟨w.heap.size, 2, none⟩ = some (.slice co lc cc) := (hb1.cell (by simp)).trans (by simp [go_sem])
      have c3 : w1.cell? ⟨w.heap.size, 3, none⟩ = some (.slice d0 ld dc) := (hb1.cell (by simp)).trans (by simp [go_sem])
      have c4 : w1.cell? ⟨w.heap.size, 4, none⟩ = some (.slice eo le ec) := (hb1.cell (by simp)).trans (by simp [go_sem])
      have hg : w.heap.size < w1.heap.size := World.block_lt_of_cell? _ _ c0
      clear hb1 HC HI
      go_loopw [9] (fun dv wr => ∃ D : Int, from' / 1440 ≤ D ∧ D ≤ from' / 1440 + days + 1 ∧ dv = .int .i64 D ∧ Hid (∀ m, from' ≤ m → m < D * 1440 → firesB a b c d e m = false) ∧ Below w1.heap.size w1 wr) (fun dv _ => (from' / 1440 + days + 1 - intOf dv).toNat)
      case atStart => exact ⟨from' / 1440, Int.le_refl _, by omega, rfl, fun m hm0 hm1 => by omega, Below.refl _ _⟩
      case round =>
        obtain ⟨D, hD0, hD1, rfl, HP, hbel⟩ := hrel
        have k0 := (hbel.cell hg).trans c0
        have k1 := (hbel.cell hg).trans c1
        have k2 := (hbel.cell hg).trans c2
        have k3 := (hbel.cell hg).trans c3
        have k4 := (hbel.cell hg).trans c4
        by_cases hle : D ≤ from' / 1440 + days
        · by_cases hmx : D * 1440 ≤ 68374079
          · have H183 := HD.out wr (D * 1440) (Below.on B1 hbel) (by omega) hmx
            cases hday : dayF c d e (D * 1440) with
            | false =>
              rw [hday] at H183
              have HP2 : Hid (∀ m, from' ≤ m → m < (D + 1) * 1440 → firesB a b c d e m = false) := day_idle hday HP.out
              clear hday
              go_wp2_with fail
              refine H183.mono ?_
              rintro x w2 ⟨rfl, hb2⟩
              go_wp2
              go_roundw
              case rel => exact ⟨D + 1, by omega, by omega, by go_num, HP2, Below.on hbel hb2⟩
              case measure => simp [intOf]; omega
            | true =>
              have HDY : Hid (dayF c d e (D * 1440) = true) := hday
              rw [hday] at H183
              clear hday
              go_wp2_with fail
              refine H183.mono ?_
              rintro x w2 ⟨rfl, hb2⟩
              go_wp2
              have B2 := Below.on hbel hb2
              clear k0 k1 k2 k3 k4 H183 hbel hb2
              go_loopw [10] (fun iv wx => ∃ i : Nat, i ≤ lb ∧ iv = .int .i64 i ∧ Hid (Past a b D from' i 0) ∧ Below w1.heap.size w1 wx) (fun iv _ => lb - (intOf iv).toNat)
              case atStart => exact ⟨0, Nat.zero_le _, rfl, past_start _ _ _ _, B2⟩
              case round =>
                clear B2
                obtain ⟨i, hi, rfl, HPI, B3⟩ := hrel
                have k1 := (B3.cell hg).trans c1
                by_cases hil : i < lb
                · obtain ⟨x, hx⟩ : ∃ x, b[i]? = some x := ⟨_, List.getElem?_eq_getElem (by rw [HB.out]; exact hil)⟩
                  have HX : Hid (b[i]? = some x) := hx
                  have hx0 := HUB.out.1 x (List.mem_of_getElem? hx)
                  obtain ⟨gb, ob, rfl, hgb, cb⟩ := int_at (HRB.out.below B1) hx
                  clear hx
                  go_wp2
                  go_loopw [11] (fun kv wz => ∃ k : Nat, k ≤ la ∧ kv = .int .i64 k ∧ Hid (Past a b D from' i k) ∧ Below w1.heap.size w1 wz) (fun kv _ => la - (intOf kv).toNat)
                  case atStart => exact ⟨0, Nat.zero_le _, rfl, HPI, B3⟩
                  case round =>
                    clear B3 k1
                    obtain ⟨k, hk, rfl, HPK, B4⟩ := hrel
                    have k0 := (B4.cell hg).trans c0
                    have k1 := (B4.cell hg).trans c1
                    have cb2 := (B4.cell hgb).trans cb
                    by_cases hkl : k < la
                    · obtain ⟨y, hy⟩ : ∃ y, a[k]? = some y := ⟨_, List.getElem?_eq_getElem (by rw [HA.out]; exact hkl)⟩
                      have HY : Hid (a[k]? = some y) := hy
                      have hy0 := HUA.out.1 y (List.mem_of_getElem? hy)
                      obtain ⟨ga, oa, rfl, hga, ca⟩ := int_at (HRA.out.below B1) hy
                      have ca2 := (B4.cell hga).trans ca
                      clear hy
                      by_cases hge : from' ≤ D * 1440 + x * 60 + y
                      · have HN : Hid (NfP a b c d e from' days (some (D * 1440 + x * 60 + y))) := nf_some (D := D) HQ.out ⟨f0, f1⟩ hd hge (HPK.out.least HLA.out HLB.out (by omega) (by omega) HDY.out HP.out HX.out HY.out) (by rw [HE.out]; exact hle) (by omega)
                        go_wp2
                        go_quiet (fail)
                        go_wp2
                        go_ret2
                        exact ⟨_, rfl, HN.out, Below.on B1 (bdrewN B4 _)⟩
                      · have HN : Hid (Past a b D from' i (k + 1)) := HPK.out.next HX.out HY.out (by omega)
                        go_wp2
                        go_quiet (fail)
                        go_wp2
                        go_roundw
                        case rel => exact ⟨k + 1, by omega, by go_num, HN, bdrewN B4 _⟩
                        case measure => simp [intOf]; omega
                    · have HN : Hid (Past a b D from' (i + 1) 0) := Past.row (by rw [HA.out, show la = k by omega]; exact HPK.out)
                      go_wp2
                      go_roundw
                      case rel => exact ⟨i + 1, by omega, by go_num, HN, B4⟩
                      case measure => simp [intOf]; omega
                · have HN : Hid (∀ m, from' ≤ m → m < (D + 1) * 1440 → firesB a b c d e m = false) := Past.day (by rw [HB.out, show lb = i by omega]; exact HPI.out) HP.out
                  go_wp2
                  go_roundw
                  case rel => exact ⟨D + 1, by omega, by omega, by go_num, HN, B3⟩
                  case measure => simp [intOf]; omega
          · have HN : Hid (NfP a b c d e from' days none) := nf_none (D := D) HQ.out ⟨f0, f1⟩ hd HP.out (.inr (by omega))
            go_wp2
            go_ret2
            exact ⟨none, rfl, HN.out, Below.on B1 hbel⟩
        · have HN : Hid (NfP a b c d e from' days none) := nf_none (D := D) HQ.out ⟨f0, f1⟩ hd HP.out (.inl (by rw [HE.out]; omega))
          go_wp2
          go_ret2
          exact ⟨none, rfl, HN.out, Below.on B1 hbel⟩
end Go.Proofs.YtbecdaholpiaeaaDoor
